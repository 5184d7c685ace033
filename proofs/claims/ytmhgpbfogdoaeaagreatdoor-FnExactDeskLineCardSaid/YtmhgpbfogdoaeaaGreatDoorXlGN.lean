/-
  GN: MathN N3 N4 N5 N6 MathG MathR MathS R5m THold R9m R4 R5 R6 R7 R8 R9 Same.
-/
import Derived.Test.YtmhgpbfogdoaeaaGreatDoorXlGA
import Derived.Test.YtmhgpbfogdoaeaaGreatDoorXlGB
import Derived.Lib.QuietBelow
import Derived.Test.YtmhgpbfogdoaeaaGreatDoorXlRcut
import Derived.Deep.RegionHeld3
namespace Go.Proofs.YtmhgpbfogdoaeaaGreatDoor
section
def topTo (bs:List Int) (n:Int):Nat→Nat
 | 0=>0
 | k+1=>if 1≤k∧bs.getD k 0≤n then k else topTo bs n k
def topOf (bs:List Int) (n:Int):Nat:=topTo bs n bs.length
theorem topTo_at (bs:List Int) (n:Int):∀ k,topTo bs n k=0∨(1≤topTo bs n k∧topTo bs n k < k∧bs.getD (topTo bs n k) 0≤n):=by
 intro k
 induction k with
 | zero=>exact .inl rfl
 | succ k ih =>
  rw [topTo]
  by_cases h:1≤k∧bs.getD k 0≤n
  · rw [if_pos h];exact .inr ⟨h.1,by omega,h.2⟩
  · rw [if_neg h];rcases ih with e | ⟨h1,h2,h3⟩
    · exact .inl e
    · exact .inr ⟨h1,by omega,h3⟩
theorem topTo_above (bs:List Int) (n:Int):∀ k i,topTo bs n k < i→i < k→n < bs.getD i 0:=by
 intro k
 induction k with
 | zero=>intro i _ h;omega
 | succ k ih =>
  intro i h1 h2;rw [topTo] at h1
  by_cases h:1≤k∧bs.getD k 0≤n
  · rw [if_pos h] at h1;omega
  · rw [if_neg h] at h1
    by_cases e:i=k
    · subst e;have:¬ bs.getD i 0≤n:=fun hn=>h ⟨by omega,hn⟩
      omega
    · exact ih i h1 (by omega)
theorem topOf_eq {bs:List Int} {n:Int} {k:Nat} (h1:1≤k) (hk:k < bs.length) (hn:bs.getD k 0≤n) (ha:∀ i,k < i→i < bs.length→n < bs.getD i 0):topOf bs n=k:=by
 rcases Nat.lt_trichotomy (topOf bs n) k with h | h | h
 · have:=topTo_above bs n bs.length k h hk;omega
 · exact h
 · rcases topTo_at bs n bs.length with e | ⟨_,h2,h3⟩
   · have:topOf bs n=0:=e;omega
   · have h2':topOf bs n < bs.length:=h2;have h3':bs.getD (topOf bs n) 0≤n:=h3;have:=ha _ h h2';omega
theorem topOf_zero {bs:List Int} {n:Int} (ha:∀ i,1≤i→i < bs.length→n < bs.getD i 0):topOf bs n=0:=by
 rcases topTo_at bs n bs.length with e | ⟨h1,h2,h3⟩
 · exact e
 · have:=ha _ h1 h2;omega
def baseN (bs:List Int) (n:Nat):Nat:=(bs.getD (topOf bs n) 0).toNat
theorem bases_mono {bs:List Int} (hb:basesOk bs=true):∀ i j,i < j→j < bs.length→bs.getD i 0 < bs.getD j 0:=by
 intro i j hij
 induction j with
 | zero=>omega
 | succ j ih =>
  intro hj;have hs:=bases_lt hb hj
  by_cases e:i=j
  · subst e;exact hs
  · have:=ih (by omega) (by omega);omega
theorem base_facts {bs:List Int} (hb:basesOk bs=true) {n:Nat} (ht:topOf bs n≠0):2≤baseN bs n∧baseN bs n≤n∧(baseN bs n:Int)=bs.getD (topOf bs n) 0∧topOf bs n < bs.length∧1≤topOf bs n:=by
 rcases topTo_at bs n bs.length with e | ⟨h1,h2,h3⟩
 · exact absurd e ht
 · have h1':1≤topOf bs n:=h1;have h2':topOf bs n < bs.length:=h2;have h3':bs.getD (topOf bs n) 0≤n:=h3;have hm:=bases_mono hb 0 (topOf bs n) (by omega) h2';rw [bases_one hb] at hm;unfold baseN;omega
theorem div_pos' {n b:Nat} (h1:2≤b) (h2:b≤n):1≤n / b∧n / b < n∧n % b < n∧n / b+n % b+1≤n:=by
 have h:=Nat.div_add_mod n b;have h3:1≤n / b:=(Nat.one_le_div_iff (by omega)).2 h2;have h4:n % b < b:=Nat.mod_lt _ (by omega);have h5:2 * (n / b)≤b * (n / b):=Nat.mul_le_mul_right _ h1;refine ⟨h3,by omega,by omega,by omega⟩
def nameN (us:List ByteArray) (bs:List Int) (ns:List ByteArray) (n:Nat):List ByteArray :=
 if topOf bs n=0 then (if us.length < n then [] else [us.getD (n - 1) ByteArray.empty])
 else if _h:2≤baseN bs n∧baseN bs n≤n then
  if baseN bs n≤n / baseN bs n then [] else
  if 1 < n / baseN bs n∧nameN us bs ns (n / baseN bs n)=[] then [] else
  if n % baseN bs n≠0∧nameN us bs ns (n % baseN bs n)=[] then [] else
  (if 1 < n / baseN bs n then nameN us bs ns (n / baseN bs n) else [])++[ns.getD (topOf bs n - 1) ByteArray.empty]++(if n % baseN bs n=0 then [] else nameN us bs ns (n % baseN bs n))
 else []
termination_by n
decreasing_by
 all_goals have hd:=div_pos' _h.1 _h.2
 all_goals omega
section
variable {us : List ByteArray} {bs : List Int} {ns : List ByteArray} {n : Nat}
theorem name_unit (ht:topOf bs n=0):nameN us bs ns n=if us.length < n then [] else [us.getD (n - 1) ByteArray.empty]:=by
 rw [nameN,if_pos ht]
theorem name_top (hb:basesOk bs=true) (ht:topOf bs n≠0):nameN us bs ns n =
 if baseN bs n≤n / baseN bs n then [] else
 if 1 < n / baseN bs n∧nameN us bs ns (n / baseN bs n)=[] then [] else
 if n % baseN bs n≠0∧nameN us bs ns (n % baseN bs n)=[] then [] else
 (if 1 < n / baseN bs n then nameN us bs ns (n / baseN bs n) else [])++[ns.getD (topOf bs n - 1) ByteArray.empty]++(if n % baseN bs n=0 then [] else nameN us bs ns (n % baseN bs n)):=by
 have h:=base_facts hb ht;rw [nameN,if_neg ht,dif_pos ⟨h.1,h.2.1⟩]
theorem name_over (hb:basesOk bs=true) (ht:topOf bs n≠0) (h:baseN bs n≤n / baseN bs n):nameN us bs ns n=[]:=by
 rw [name_top hb ht,if_pos h]
theorem name_nohead (hb:basesOk bs=true) (ht:topOf bs n≠0) (h1:1 < n / baseN bs n) (h:nameN us bs ns (n / baseN bs n)=[]):nameN us bs ns n=[]:=by
 rw [name_top hb ht]
 split
 · rfl
 · rw [if_pos ⟨h1,h⟩]
theorem name_norest (hb:basesOk bs=true) (ht:topOf bs n≠0) (h1:n % baseN bs n≠0) (h:nameN us bs ns (n % baseN bs n)=[]):nameN us bs ns n=[]:=by
 rw [name_top hb ht]
 split
 · rfl
 · split
   · rfl
   · rw [if_pos ⟨h1,h⟩]
theorem name_parts (hb:basesOk bs=true) (ht:topOf bs n≠0) (h0:n / baseN bs n < baseN bs n) (h1:1 < n / baseN bs n→nameN us bs ns (n / baseN bs n)≠[]) (h2:n % baseN bs n≠0→nameN us bs ns (n % baseN bs n)≠[]) :
 nameN us bs ns n=(if 1 < n / baseN bs n then nameN us bs ns (n / baseN bs n) else [])++[ns.getD (topOf bs n - 1) ByteArray.empty]++(if n % baseN bs n=0 then [] else nameN us bs ns (n % baseN bs n)):=by
 rw [name_top hb ht,if_neg (by omega),if_neg (fun h=>h1 h.1 h.2),if_neg (fun h=>h2 h.1 h.2)]
theorem name_some (hb:basesOk bs=true) (ht:topOf bs n≠0) (h:nameN us bs ns n≠[]):n / baseN bs n < baseN bs n∧(1 < n / baseN bs n→nameN us bs ns (n / baseN bs n)≠[])∧(n % baseN bs n≠0→nameN us bs ns (n % baseN bs n)≠[]):=by
 refine ⟨?_,fun h1 h2=>h (name_nohead hb ht h1 h2),fun h1 h2=>h (name_norest hb ht h1 h2)⟩
 by_cases h0:baseN bs n≤n / baseN bs n
 · exact absurd (name_over hb ht h0) h
 · omega
theorem name_len (us:List ByteArray) (bs:List Int) (ns:List ByteArray) (hb:basesOk bs=true):∀ n,1≤n→(nameN us bs ns n).length≤n:=by
 intro n
 induction n using Nat.strongRecOn with
 | _ n ih =>
  intro hn
  by_cases ht:topOf bs n=0
  · rw [name_unit ht];split <;> simp <;> omega
  · have hf:=base_facts hb ht;have hd:=div_pos' hf.1 hf.2.1;have i1:=ih _ hd.2.1 hd.1;rw [name_top hb ht]
    split
    · simp
    · split
      · simp
      · split
        · simp
        · by_cases h0:n % baseN bs n=0
          · rw [if_pos h0]
            split <;> simp <;> omega
          · have i2:=ih _ hd.2.2.1 (by omega);rw [if_neg h0]
            split <;> simp <;> omega
theorem name_mem (us:List ByteArray) (bs:List Int) (ns:List ByteArray) (hb:basesOk bs=true) (hns:ns.length+1=bs.length):∀ n,1≤n→∀ x ∈ nameN us bs ns n,x ∈ us++ns:=by
 intro n
 induction n using Nat.strongRecOn with
 | _ n ih =>
  intro hn x hx
  by_cases ht:topOf bs n=0
  · rw [name_unit ht] at hx
    split at hx
    · cases hx
    · have hlt:n - 1 < us.length:=by omega
      have:x=us[n - 1]:=by simpa [List.getD_eq_getElem?_getD,hlt] using hx
      rw [this];exact List.mem_append.2 (.inl (List.getElem_mem hlt))
  · have hf:=base_facts hb ht;have hd:=div_pos' hf.1 hf.2.1;rw [name_top hb ht] at hx
    split at hx
    · cases hx
    · split at hx
      · cases hx
      · split at hx
        · cases hx
        · rcases List.mem_append.1 hx with h | h
          · rcases List.mem_append.1 h with h | h
            · split at h
              · exact ih _ hd.2.1 hd.1 x h
              · cases h
            · have hlt:topOf bs n - 1 < ns.length:=by omega
              have:x=ns[topOf bs n - 1]:=by simpa [List.getD_eq_getElem?_getD,hlt] using h
              rw [this];exact List.mem_append.2 (.inr (List.getElem_mem hlt))
          · split at h
            · cases h
            · rename_i h0;exact ih _ hd.2.2.1 (by omega) x h
end
def grGo (bs:List Int) (k:Nat):Nat→Nat
 | 0=>k
 | f+1=>if k+1 < bs.length∧bs.getD (k+1) 0≤bs.getD k 0 * bs.getD k 0 then grGo bs (k+1) f else k
def grAt (bs:List Int):Nat:=grGo bs 1 bs.length
def GrTo (bs:List Int) (k:Nat):Prop:=1≤k∧k < bs.length∧∀ i,1≤i→i < k→bs.getD (i+1) 0≤bs.getD i 0 * bs.getD i 0
theorem grGo_spec (bs:List Int):∀ f k,GrTo bs k→bs.length≤k+f→GrTo bs (grGo bs k f)∧(grGo bs k f+1 < bs.length→bs.getD (grGo bs k f) 0 * bs.getD (grGo bs k f) 0 < bs.getD (grGo bs k f+1) 0):=by
 intro f
 induction f with
 | zero=>intro k h hl;exact ⟨h,fun h2=>by unfold grGo at h2;omega⟩
 | succ f ih =>
  intro k h hl;rw [grGo]
  by_cases hc:k+1 < bs.length∧bs.getD (k+1) 0≤bs.getD k 0 * bs.getD k 0
  · rw [if_pos hc];refine ih (k+1) ⟨by omega,hc.1,fun i h1 h2=>?_⟩ (by omega)
    by_cases e:i=k
    · subst e;exact hc.2
    · exact h.2.2 i h1 (by omega)
  · rw [if_neg hc]
    exact ⟨h,fun h2=>by
     have:¬ bs.getD (k+1) 0≤bs.getD k 0 * bs.getD k 0:=fun h3=>hc ⟨h2,h3⟩
     omega⟩
theorem gr_at {bs:List Int} (hl:2≤bs.length):GrTo bs (grAt bs)∧(grAt bs+1 < bs.length→bs.getD (grAt bs) 0 * bs.getD (grAt bs) 0 < bs.getD (grAt bs+1) 0) :=
 grGo_spec bs bs.length 1 ⟨Nat.le_refl _,by omega,fun i _ _=>by omega⟩ (by omega)
section
variable {us : List ByteArray} {bs : List Int} {ns : List ByteArray}
theorem mul_nat {x:Int} {b:Nat} (h:(b:Int)=x):x * x=((b * b:Nat):Int):=by rw [← h];push_cast;rfl
theorem named_below (hb:basesOk bs=true) (h2:2≤bs.length) (hu:bs.getD 1 0=us.length+1):∀ n:Nat,1≤n→(n:Int) < bs.getD (grAt bs) 0 * bs.getD (grAt bs) 0→nameN us bs ns n≠[]:=by
 obtain ⟨hg,hge⟩:=gr_at h2;intro n
 induction n using Nat.strongRecOn with
 | _ n ih =>
  intro hn hlt
  by_cases ht:topOf bs n=0
  · rw [name_unit ht];have:=topTo_above bs n bs.length 1 (by have:topTo bs n bs.length=0:=ht;omega) (by omega);rw [if_neg (by omega)]
    simp
  · have hf:=base_facts hb ht;have hd:=div_pos' hf.1 hf.2.1
    have hsq:n / baseN bs n < baseN bs n:=by
     rw [Nat.div_lt_iff_lt_mul (by omega)];have hmn:=mul_nat hf.2.2.1;rcases Nat.lt_trichotomy (topOf bs n) (grAt bs) with h | h | h
     · have h3:=hg.2.2 _ (by omega) h;have h4:=topTo_above bs n bs.length (topOf bs n+1) (by show topOf bs n < _;omega) (by have:=hg.2.1;omega);omega
     · rw [← h] at hlt;omega
     · have h5:=hge (by omega)
       have h6:bs.getD (grAt bs+1) 0≤bs.getD (topOf bs n) 0:=by
        by_cases e:grAt bs+1=topOf bs n
        · rw [e];exact Int.le_refl _
        · exact Int.le_of_lt (bases_mono hb _ _ (by omega) hf.2.2.2.1)
       omega
    rw [name_parts hb ht hsq (fun _=>ih _ hd.2.1 hd.1 (by omega)) (fun h0=>ih _ hd.2.2.1 (by omega) (by omega))]
    simp
end
end
section
open Go.RowKit
theorem topTo_one (bs:List Int) (n:Int):topTo bs n 1=0:=by simp [topTo]
set_option maxHeartbeats 1000000 in
theorem specTop_any (v:Value) (t:Tg) (n:Int) (w:World) (h:Tng w v t) (hl:1≤t.bs.length) (hl5:t.bs.length≤1048576) :
 Calls Tryz.prog 131 #[v,.int .i64 n] w fun e w'=>e=.returned (.int .i64 (topOf t.bs n))∧Below w.heap.size w w':=by
 obtain ⟨A1,c1,A2,c2,A3,c3,rfl,-,h2,-⟩:=h.ex;have hBel:=(Below.refl w.heap.size w).alloc (Nat.le_refl _) (.cells #[.slice A1 t.us.length c1,.slice A2 t.bs.length c2,.slice A3 t.ns.length c3] 31);have HI:=h2.below hBel (Nat.le_refl _);have HX:=Blk.new w 31 #[.slice A1 t.us.length c1,.slice A2 t.bs.length c2,.slice A3 t.ns.length c3];replace hBel:=Lib.hid hBel;replace HX:=Lib.hid HX;replace HI:=Lib.hid HI;clear h h2;go_enter Tryz.func131,Tryz.ntmps131;go_upto_region 1 with (fail)
 generalize w.alloc (.cells #[.slice A1 t.us.length c1,.slice A2 t.bs.length c2,.slice A3 t.ns.length c3] 31)=W at *;obtain ⟨b,o,rfl,-,hc⟩:=HI.out.at_ (by omega);obtain ⟨x0,x1,x2,-,-,-⟩:=blk3 HX.out;replace hc:=Lib.hid hc;clear HX HI;go_wp2
 go_loop [5,6] (fun s5 s6=>∃ k:Nat,1≤k∧k≤t.bs.length∧s6=.int .i64 k∧s5=.int .i64 (topTo t.bs n k)) (fun _ i=>t.bs.length - (intOf i).toNat)
 case atStart=>exact ⟨1,Nat.le_refl _,hl,rfl,by rw [topTo_one];rfl⟩
 case round =>
  obtain ⟨k,h1,hk,rfl,rfl⟩:=hrel
  by_cases hlt:k < t.bs.length
  · have ck:=hc.out k hlt;have HT:topTo t.bs n (k+1)=if 1≤k∧t.bs.getD k 0≤n then k else topTo t.bs n k:=rfl
    generalize t.bs.getD k 0=x at *
    by_cases hx:x≤n
    · rw [if_pos ⟨h1,hx⟩] at HT;replace HT:=Lib.hid HT;go_wp2
      go_round
      case rel=>exact ⟨k+1,by omega,by omega,by go_num,by rw [HT.out]⟩
      case measure=>simp [intOf];omega
    · rw [if_neg (fun h=>hx h.2)] at HT;replace HT:=Lib.hid HT;go_wp2
      go_round
      case rel=>exact ⟨k+1,by omega,by omega,by go_num,by rw [HT.out]⟩
      case measure=>simp [intOf];omega
  · obtain rfl:k=t.bs.length:=by omega
    go_wp2;go_ret;exact ⟨rfl,hBel.out⟩
theorem ret_none {w w1:World} (hb:Below w.heap.size w w1):RetStrs w [] (.returned (.slice (some ⟨w1.heap.size,0,none⟩) 0 0)) (w1.alloc (.cells #[] 9)) :=
 ⟨_,rfl,owns_empty (Blk.new _ _ _) hb.size,hb.alloc hb.size _⟩
theorem ret_one {w w1:World} (hb:Below w.heap.size w w1) (x:ByteArray):RetStrs w [x] (.returned (.slice (some ⟨w1.heap.size,0,none⟩) 1 1)) (w1.alloc (.cells #[.string x] 9)) :=
 ⟨_,rfl,owns_blk (xs:=[.string x]) (Blk.new _ _ _) rfl hb.size (by unfold maxLen;omega),hb.alloc hb.size _⟩
abbrev nameT (t:Tg) (n:Nat):List ByteArray:=nameN t.us t.bs t.ns n
set_option maxRecDepth 100000 in
set_option maxHeartbeats 4000000 in
theorem specName_any {t:Tg} (hok:t.ok=true):∀ n:Nat,1≤n→n≤99999→∀ (v:Value) (w:World),Tng w v t →
 Calls Tryz.prog 102 #[v,.int .i64 n] w (RetStrs w (nameT t n)):=by
 obtain ⟨i0,hi,hz0,hz1,hz2⟩:=info_parts str_info;intro n
 induction n using Nat.strongRecOn with
 | _ n ih =>
  intro hn1 hn2 v w h;have hsh:=ok_shape hok;have hul:=hsh.us;have hbs:=hsh.bs;have hbl:=bases_len hbs;have hns:=hsh.ns;have IH:=Lib.hid (fun m (h1:m < n) (h2:1≤m)=>ih m h1 h2 (by omega));have HL:=Lib.hid (name_len t.us t.bs t.ns hbs);obtain ⟨A1,c1,A2,c2,A3,c3,rfl,-⟩:=h.ex;have hB:=(Below.refl w.heap.size w).alloc (Nat.le_refl _) (.cells #[.slice A1 t.us.length c1,.slice A2 t.bs.length c2,.slice A3 t.ns.length c3] 31);have HX:=Blk.new w 31 #[.slice A1 t.us.length c1,.slice A2 t.bs.length c2,.slice A3 t.ns.length c3];have HT:=h.below hB (Nat.le_refl _);have K1:=Lib.hid (specTop_any _ t n _ HT (by omega) (by omega));replace hB:=Lib.hid hB;replace HX:=Lib.hid HX;replace HT:=Lib.hid HT;replace hbs:=Lib.hid hbs;clear ih h hsh;go_enter Tryz.func102,Tryz.ntmps102;go_upto_region 1 with (fail)
  generalize w.alloc (.cells #[.slice A1 t.us.length c1,.slice A2 t.bs.length c2,.slice A3 t.ns.length c3] 31)=W at *;obtain ⟨x0,x1,x2,-,-,-⟩:=blk3 HX.out;go_wp2_with (fail);refine K1.out.mono ?_;rintro e w1 ⟨rfl,b1⟩;replace hB:=Lib.hid (hB.out.trans (b1.mono hB.out.size));replace HX:=Lib.hid (HX.out.below b1 HX.out.lt);replace HT:=Lib.hid (HT.out.below b1 (Nat.le_refl _));clear b1 x0 x1 x2 K1;obtain ⟨x0,x1,x2,-,-,-⟩:=blk3 HX.out;obtain ⟨_,_,_,_,_,_,ev,S1,I2,S3⟩:=HT.out.ex;cases ev
  by_cases ht:topOf t.bs n=0
  · have hN:=name_unit (us:=t.us) (ns:=t.ns) ht;rw [ht];replace ht:=Lib.hid ht
    by_cases hgt:t.us.length < n
    · rw [if_pos hgt] at hN;have hgt':(t.us.length:Int) < n:=by omega
      replace hN:=Lib.hid hN;clear S1 I2 S3;go_wp2;go_ret;rw [nameT,hN.out];exact ret_none hB.out
    · rw [if_neg hgt] at hN;have hgt':¬ (t.us.length:Int) < n:=by omega
      obtain ⟨b,o,rfl,-,hc⟩:=S1.at_ (by omega);have ck:=hc (n - 1) (by omega);generalize t.us.getD (n - 1) ByteArray.empty=x at *;replace hN:=Lib.hid hN;clear S1 I2 S3 hc;go_wp2;go_ret;rw [nameT,hN.out];exact ret_one hB.out x
  · obtain ⟨f1,f2,f3,f4,f5⟩:=base_facts hbs.out ht;have hd':=div_pos' f1 f2;have N1:=fun h=>name_over (us:=t.us) (ns:=t.ns) hbs.out ht h
    have N2:=fun h=>name_nohead (us:=t.us) (ns:=t.ns) hbs.out ht h
    have N3:=fun h=>name_norest (us:=t.us) (ns:=t.ns) hbs.out ht h
    have N4:=fun h=>name_parts (us:=t.us) (ns:=t.ns) hbs.out ht h
    have e1:(n:Int) / (baseN t.bs n:Int)=((n / baseN t.bs n:Nat):Int):=rfl;have e2:(n:Int) % (baseN t.bs n:Int)=((n % baseN t.bs n:Nat):Int):=rfl;obtain ⟨b2,o2,rfl,hb2,hc2⟩:=I2.at_ (by omega);have ck2:=hc2 _ f4;rw [← f3] at ck2;obtain ⟨b3,o3,rfl,hb3,hc3⟩:=S3.at_ (by omega);have ck3:=hc3 (topOf t.bs n - 1) (by omega);have hk0:((topOf t.bs n:Int)==0)=false:=by rw [beq_eq_false_iff_ne];omega
    obtain ⟨d1,d2,d3,d4⟩:=hd';have L1:=HL.out _ d1;have L2:n % baseN t.bs n≠0→(nameN t.us t.bs t.ns (n % baseN t.bs n)).length≤n:=fun h0=>by have:=HL.out _ (Nat.one_le_iff_ne_zero.2 h0);omega
    have hbn:baseN t.bs n≤99999:=by omega
    generalize hq:n / baseN t.bs n=q at *;generalize hr:n % baseN t.bs n=r at *;generalize baseN t.bs n=b at *;generalize topOf t.bs n=k at *;generalize t.ns.getD (k - 1) ByteArray.empty=nm at *;replace N1:=Lib.hid N1;replace N2:=Lib.hid N2;replace N3:=Lib.hid N3;replace N4:=Lib.hid N4;replace L1:=Lib.hid L1;replace L2:=Lib.hid L2;replace e1:=Lib.hid e1;replace e2:=Lib.hid e2;replace ht:=Lib.hid ht;replace hq:=Lib.hid hq;replace hr:=Lib.hid hr;replace f3:=Lib.hid f3;clear hc2 hc3 S1 I2 S3 HL;have IHq:∀ (v:Value) (w:World),Tng w v t→Calls Tryz.prog 102 #[v,.int .i64 q] w (RetStrs w (nameN t.us t.bs t.ns q)):=fun v w h=>IH.out q d2 d1 v w h
    have IHr:r≠0→∀ (v:Value) (w:World),Tng w v t→Calls Tryz.prog 102 #[v,.int .i64 r] w (RetStrs w (nameN t.us t.bs t.ns r)):=fun h0 v w h=>IH.out r d3 (Nat.one_le_iff_ne_zero.2 h0) v w h
    replace IHq:=Lib.hid IHq;replace IHr:=Lib.hid IHr;generalize nameN t.us t.bs t.ns q=qs at *;generalize nameN t.us t.bs t.ns r=rs at *;clear IH;go_upto_region 7 with (fail)
    have hA:=(Below.refl w1.heap.size w1).alloc (Nat.le_refl _) (.cells #[] 9);have own6:=owns_empty (Blk.new w1 9 #[]) hB.out.size;have hs17:w1.heap.size < (w1.alloc (.cells #[] 9)).heap.size:=by simp
    replace hB:=Lib.hid (hB.out.trans (hA.mono hB.out.size));replace HX:=Lib.hid (HX.out.below hA HX.out.lt);replace HT:=Lib.hid (HT.out.below hA (Nat.le_refl _));replace ck2:=(hA.cell (p:=⟨b2,o2+k,none⟩) hb2).trans ck2;replace ck3:=(hA.cell (p:=⟨b3,o3+(k - 1),none⟩) hb3).trans ck3;replace hb2:b2 < (w1.alloc (.cells #[] 9)).heap.size:=Nat.lt_of_lt_of_le hb2 hA.size;replace hb3:b3 < (w1.alloc (.cells #[] 9)).heap.size:=Nat.lt_of_lt_of_le hb3 hA.size;replace own6:=Lib.hid own6;clear hA x0 x1 x2;generalize w1.alloc (.cells #[] 9)=W7 at *;obtain ⟨x0,x1,x2,-,-,-⟩:=blk3 HX.out;have q0:(0:Int)≤(n:Int) / (b:Int):=by rw [e1.out];omega
    have q1:(n:Int) / (b:Int)≤99999:=by rw [e1.out];omega
    go_upto_region 8 with (fail)
    rw [e1.out];clear q0 q1
    by_cases hov:b≤q
    · have hov':(b:Int)≤(q:Int):=by omega
      have hno:=Lib.hid (N1.out hov);go_wp2;go_ret;rw [nameT,hno.out];exact ret_none hB.out
    · have hov':¬ (b:Int)≤(q:Int):=by omega
      by_cases h1:1 < q
      · have h1':(1:Int) < (q:Int):=by omega
        have K6:=Lib.hid (IHq.out _ W7 HT.out);go_wp2_with (fail);refine K6.out.mono ?_;rintro e W2 ⟨v6,rfl,o6,b6⟩;obtain ⟨A6,c6,rfl,-⟩:=o6.strs
        by_cases hqs:qs=[]
        · have hl0:qs.length=0:=by rw [hqs];rfl
          have o6':OwnStrs W2 w.heap.size (.slice A6 0 c6) []:=by
           have:=o6.mono hB.out.size;rw [hqs] at this;exact this
          have hno:=Lib.hid (N2.out h1 hqs);have hB6:=Lib.hid (hB.out.trans (b6.mono hB.out.size));rw [hl0];replace o6':=Lib.hid o6';replace hqs:=Lib.hid hqs;clear o6 b6 hl0;go_wp2;go_ret;rw [nameT,hno.out];exact ⟨_,rfl,o6'.out,hB6.out⟩
        · have hl0:qs.length≠0:=fun h=>hqs (List.eq_nil_of_length_eq_zero h)
          have hl0':((qs.length:Int)==0)=false:=by rw [beq_eq_false_iff_ne];omega
          obtain ⟨hd,hhd⟩:∃ hd,hd=qs:=⟨_,rfl⟩
          have hNN:(r≠0→rs≠[])→nameN t.us t.bs t.ns n=hd++[nm]++(if r=0 then [] else rs):=fun h=>by
           have:=N4.out (by omega) (fun _=>hqs) h;rw [if_pos h1] at this;rw [this,hhd]
          have hdl:hd.length≤99999:=by rw [hhd];have:=L1.out;omega
          have own6:=Lib.hid (o6.mono hB.out.size);have hB2:=Lib.hid (hB.out.trans (b6.mono hB.out.size));have HX2:=Lib.hid (HX.out.below b6 HX.out.lt);have HT2:=Lib.hid (HT.out.below b6 (Nat.le_refl _));replace ck2:=(b6.cell (p:=⟨b2,o2+k,none⟩) hb2).trans ck2;replace ck3:=(b6.cell (p:=⟨b3,o3+(k - 1),none⟩) hb3).trans ck3;replace hb2:b2 < W2.heap.size:=Nat.lt_of_lt_of_le hb2 b6.size;replace hb3:b3 < W2.heap.size:=Nat.lt_of_lt_of_le hb3 b6.size;have hw2:=Lib.hid hB2.out.size;rw [← hhd] at own6 hl0' ⊢;replace hNN:=Lib.hid hNN;replace hqs:=Lib.hid hqs;replace hhd:=Lib.hid hhd;clear o6 b6 hl0 x0 x1 x2 hB HX HT;obtain ⟨_,_,ev6,s6⟩:=own6.out.strs;cases ev6;have HX2c:=blk3 HX2.out;obtain ⟨x0,x1,x2,-,-,-⟩:=HX2c;have hXlt:=HX2.out.lt;have HSrc:=Lib.hid (fun W' (hb:Below W2.heap.size W2 W')=>(s6.below hb (Nat.le_refl _)).src);have hXk:=Lib.hid (fun W' (hb:Below W2.heap.size W2 W')=>blk3 (HX2.out.below hb HX2.out.lt));have hnk:=Lib.hid (fun W' (hb:Below W2.heap.size W2 W')=>(hb.cell (p:=⟨b3,o3+(k - 1),none⟩) hb3).trans ck3);have k1:=Lib.hid (show 0+hd.length≤maxLen by unfold maxLen;omega);have k2:=Lib.hid (show (0+hd.length) * 16≤140737488355328 by omega);have k3:=Lib.hid (show 0+hd.length+1≤maxLen by unfold maxLen;omega);have k4:=Lib.hid (show (0+hd.length+1) * 16≤140737488355328 by omega);have ck3':=ck3;clear s6 ck3;have kk1:(0:Int)≤(k:Int) - 1:=by omega
          have kk2:(k:Int) - 1 < (t.ns.length:Int):=by omega
          have kk3:((k:Int) - 1).toNat=k - 1:=by omega
          have kk4:IntKind.i64.wrap ((k:Int) - 1)=(k:Int) - 1:=IntWalk.i64_in _ (by omega);have kk5:(1:Int)≤(k:Int):=by omega
          have bA:=Lib.hid (((Below.refl W2.heap.size W2).alloc (Nat.le_refl _) (.cells #[] 9)).drew);have bB:=Lib.hid ((((Below.refl W2.heap.size W2).alloc (Nat.le_refl _) (.cells #[] 9)).alloc (by simp) (.cells #[.string nm] 9)).drew);have bC:=Lib.hid ((((Below.refl W2.heap.size W2).alloc (Nat.le_refl _) (.cells #[.string nm] 9)).alloc (by simp) (.cells #[] 9)).drew);have bk0:Blk (W2.alloc (.cells #[] 9)) W2.heap.size 9 #[]:=Blk.new _ _ _;have bk1:Blk (W2.alloc (.cells #[.string nm] 9)) W2.heap.size 9 #[.string nm]:=Blk.new _ _ _;have bkB:=Lib.hid ((blk_new_at (w:=W2.alloc (.cells #[] 9)) (t:=9) (cs:=#[.string nm]) (W2.heap.size+1) (by simp)).drew);have bkC:=Lib.hid ((bk1.alloc (.cells #[] 9)).drew);have oA:=Lib.hid (owns_empty (B:=W2.heap.size) bk0.drew (Nat.le_refl _));have oB:=Lib.hid (owns_empty (B:=W2.heap.size) (bk0.alloc (.cells #[.string nm] 9)).drew (Nat.le_refl _));have oC:=Lib.hid (owns_empty (B:=W2.heap.size) ((blk_new_at (w:=W2.alloc (.cells #[.string nm] 9)) (t:=9) (cs:=#[]) (W2.heap.size+1) (by simp)).drew) (by omega));clear bk0 bk1;go_upto_region 14 with (fail)
          go_region_held3 (fun w'=>(w'.cell? ⟨w.heap.size,0,none⟩=some (.slice A1 t.us.length c1)∧w'.cell? ⟨w.heap.size,1,none⟩=some (.slice (some ⟨b2,o2,none⟩) t.bs.length c2)∧w'.cell? ⟨w.heap.size,2,none⟩=some (.slice (some ⟨b3,o3,none⟩) t.ns.length c3))∧w'.cell? ⟨b3,o3+(k - 1),none⟩=some (.string nm))
           (first | go_keep | exact hS5 | exact hS6)
           (first
            | (refine step_app _ (by rfl) (.tmp 53) (.tmp 54) _ (by rfl) W2.heap.size 9 i0 _ 16 Tryz.underlying28 hi hz0 hz1 hz2 rfl (.slice (some ⟨W2.heap.size,0,none⟩) 0 0) 0 [] (by rfl) oA.out A6 _ c6 _ (by rfl) (HSrc.out _ bA.out) k1.out k2.out bA.out.size ?_;intro v5 w5 ho5 hg5 _;have hB5:=below_own (w:=W2) (S:=W2.heap.size) bA.out oA.out hg5 bA.out.size (Nat.le_refl _);have hk5:True:=trivial;obtain ⟨x0',x1',x2',-,-,-⟩:=hXk.out _ hB5;have hS5:=And.intro (And.intro x0' (And.intro x1' x2')) (hnk.out _ hB5);replace ho5:=Lib.hid ho5;replace hB5:=Lib.hid hB5;replace hk5:=Lib.hid hk5;clear hg5)
            | (refine step_app _ (by rfl) (.tmp 53) (.tmp 54) _ (by rfl) W2.heap.size 9 i0 _ 16 Tryz.underlying28 hi hz0 hz1 hz2 rfl (.slice (some ⟨W2.heap.size,0,none⟩) 0 0) 0 [] (by rfl) oB.out A6 _ c6 _ (by rfl) (HSrc.out _ bB.out) k1.out k2.out bB.out.size ?_;intro v5 w5 ho5 hg5 _;have hB5:=below_own (w:=W2) (S:=W2.heap.size) bB.out oB.out hg5 bB.out.size (Nat.le_refl _);have hk5:Blk w5 (W2.heap.size+1) 9 #[.string nm]:=bkB.out.grown hg5 (by simp [Value.ownBlock]);obtain ⟨x0',x1',x2',-,-,-⟩:=hXk.out _ hB5;have hS5:=And.intro (And.intro x0' (And.intro x1' x2')) (hnk.out _ hB5);replace ho5:=Lib.hid ho5;replace hB5:=Lib.hid hB5;replace hk5:=Lib.hid hk5;clear hg5)
            | (refine step_app _ (by rfl) (.tmp 53) (.tmp 54) _ (by rfl) W2.heap.size 9 i0 _ 16 Tryz.underlying28 hi hz0 hz1 hz2 rfl (.slice (some ⟨W2.heap.size+1,0,none⟩) 0 0) 0 [] (by rfl) oC.out A6 _ c6 _ (by rfl) (HSrc.out _ bC.out) k1.out k2.out bC.out.size ?_;intro v5 w5 ho5 hg5 _;have hB5:=below_own (w:=W2) (S:=W2.heap.size) bC.out oC.out hg5 bC.out.size (Nat.le_refl _);have hk5:Blk w5 W2.heap.size 9 #[.string nm]:=bkC.out.grown hg5 (by simp [Value.ownBlock]);obtain ⟨x0',x1',x2',-,-,-⟩:=hXk.out _ hB5;have hS5:=And.intro (And.intro x0' (And.intro x1' x2')) (hnk.out _ hB5);replace ho5:=Lib.hid ho5;replace hB5:=Lib.hid hB5;replace hk5:=Lib.hid hk5;clear hg5)
            | (refine step_app _ (by rfl) (.tmp 55) (.tmp 62) _ (by rfl) W2.heap.size 9 i0 _ 16 Tryz.underlying28 hi hz0 hz1 hz2 rfl v5 _ _ (by rfl) (World.ownsRow.alloc ho5.out _) (some ⟨w5.heap.size,0,none⟩) 1 1 [.string nm] (by rfl) (Src.one (Blk.new _ _ _) rfl) k3.out k4.out (by have:=hB5.out.size;simp;omega) ?_;intro v6 w6 ho6 hg6 _;have hB6:=below_own (w:=W2) (S:=W2.heap.size) (hB5.out.alloc hB5.out.size _) (World.ownsRow.alloc ho5.out _) hg6 (by have:=hB5.out.size;simp;omega) (Nat.le_refl _);obtain ⟨x0',x1',x2',-,-,-⟩:=hXk.out _ hB6;have hS6:=And.intro (And.intro x0' (And.intro x1' x2')) (hnk.out _ hB6);replace ho6:=Lib.hid ho6;replace hB6:=Lib.hid hB6;clear hg6)
            | (refine step_app _ (by rfl) (.tmp 55) (.tmp 62) _ (by rfl) W2.heap.size 9 i0 _ 16 Tryz.underlying28 hi hz0 hz1 hz2 rfl v5 _ _ (by rfl) ho5.out _ 1 1 [.string nm] (by rfl) (Src.one hk5.out rfl) k3.out k4.out hB5.out.size ?_;intro v6 w6 ho6 hg6 _;have hB6:=below_own (w:=W2) (S:=W2.heap.size) hB5.out ho5.out hg6 hB5.out.size (Nat.le_refl _);obtain ⟨x0',x1',x2',-,-,-⟩:=hXk.out _ hB6;have hS6:=And.intro (And.intro x0' (And.intro x1' x2')) (hnk.out _ hB6);replace ho6:=Lib.hid ho6;replace hB6:=Lib.hid hB6;clear hg6))
          all_goals
           have ho7:OwnStrs w6 W2.heap.size v6 (hd++[nm]):=by
            have:=ho6.out;unfold OwnStrs
            simpa using this
           have hl7:(hd++[nm]).length=hd.length+1:=by simp
           have hNN7:=hNN.out;generalize hd++[nm]=hm at *;obtain ⟨A7,c7,rfl,-⟩:=ho7.strs;have hB7:=Lib.hid (hB2.out.trans (hB6.out.mono hB2.out.size));have HX7:=HX2.out.below hB6.out HX2.out.lt;have HT7:=Lib.hid (HT2.out.below hB6.out (Nat.le_refl _));have ck7:=(hB6.out.cell (p:=⟨b2,o2+k,none⟩) hb2).trans ck2;have hs26:=Lib.hid hB6.out.size;obtain ⟨x0,x1,x2,-,-,-⟩:=blk3 HX7;clear kk1 kk2 kk3 kk4 kk5;replace hl7:=Lib.hid hl7;replace hNN7:=Lib.hid hNN7;clear hNN;replace ho7:=Lib.hid ho7;clear bA bB bC bkB bkC oA oB oC hS5 hS6 ho5 ho6 hB5 hk5 hB6 HX7 HX2 HT2 hB2 HSrc hXk hnk k1 k2 k3 k4 ck3' x0' x1' x2';have q0:(0:Int)≤(n:Int) % (b:Int):=by rw [e2.out];omega
           have q1:(n:Int) % (b:Int)≤99999:=by rw [e2.out];omega
           go_upto_region 16 with (fail)
           rw [e2.out];clear q0 q1
           by_cases hr0:r=0
           · have hr0':((r:Int)==0)=true:=by rw [beq_iff_eq];omega
             have hNN':=hNN7.out (fun h=>absurd hr0 h);rw [if_pos hr0,List.append_nil] at hNN';replace hNN':=Lib.hid hNN';go_wp2;go_ret;rw [nameT,hNN'.out];exact ⟨_,rfl,ho7.out.mono hw2.out,hB7.out⟩
           · have hr0':((r:Int)==0)=false:=by rw [beq_eq_false_iff_ne];omega
             have K9:=Lib.hid (IHr.out hr0 _ w6 HT7.out);have L2':=L2.out hr0;go_wp2_with (fail);refine K9.out.mono ?_;rintro e w9 ⟨v9,rfl,o9,b9⟩;obtain ⟨A9,c9,rfl,s9⟩:=o9.strs;have ho9:=Lib.hid (ho7.out.below b9 (Nat.le_refl _));have hB9:=Lib.hid (hB7.out.trans (b9.mono hB7.out.size));have hs69:=b9.size
             by_cases hrs:rs=[]
             · have hl0:rs.length=0:=by rw [hrs];rfl
               have o9':OwnStrs w9 w.heap.size (.slice A9 0 c9) []:=by
                have:=o9.mono hB7.out.size;rw [hrs] at this;exact this
               have hno:=Lib.hid (N3.out hr0 hrs);rw [hl0];replace o9':=Lib.hid o9';replace hrs:=Lib.hid hrs;clear o9 s9 ho9 ho7 hl0 b9;go_wp2;go_ret;rw [nameT,hno.out];exact ⟨_,rfl,o9'.out,hB9.out⟩
             · have hl0:rs.length≠0:=fun h=>hrs (List.eq_nil_of_length_eq_zero h)
               have hl0':((rs.length:Int)==0)=false:=by rw [beq_eq_false_iff_ne];omega
               have hNN':=hNN7.out (fun _=>hrs);rw [if_neg hr0] at hNN';replace hNN':=Lib.hid hNN';have hs9:=Lib.hid s9.src;have m1:=Lib.hid (show hm.length+rs.length≤maxLen by rw [hl7.out];unfold maxLen;omega);have m2:=Lib.hid (show (hm.length+rs.length) * 16≤140737488355328 by rw [hl7.out];omega);have m3:=Lib.hid (show W2.heap.size≤w9.heap.size by have:=hs26.out;omega);replace hrs:=Lib.hid hrs;clear o9 s9 ho7 b9;go_wp2_with (at_builtin;refine wpList_app _ rfl (.tmp 81) (.tmp 82) _ rfl W2.heap.size 9 i0 _ 16 Tryz.underlying28 hi hz0 hz1 hz2 rfl (.slice A7 hm.length c7) _ _ rfl ho9.out A9 rs.length c9 _ rfl hs9.out m1.out m2.out m3.out ?_;intro v10 w10 ho10 hg10 _);have hB10:=Lib.hid (below_own hB9.out ho9.out hg10 hB9.out.size hw2.out)
               have ho11:OwnStrs w10 W2.heap.size v10 (hm++rs):=by
                unfold OwnStrs
                simpa using ho10
               obtain ⟨A10,c10,rfl,-⟩:=ho11.strs;replace ho11:=Lib.hid ho11;clear hg10 ho10;go_wp2;go_ret;rw [nameT,hNN'.out];exact ⟨_,rfl,ho11.out.mono hw2.out,hB10.out⟩
      · have h1':¬ (1:Int) < (q:Int):=by omega
        obtain ⟨hd,hhd⟩:∃ hd:List ByteArray,hd=[]:=⟨_,rfl⟩;have hd0:hd.length=0:=by rw [hhd];rfl
        have hdl:hd.length≤99999:=by omega
        have e6:Value.slice (some ⟨w1.heap.size,0,none⟩) 0 0=Value.slice (some ⟨w1.heap.size,0,none⟩) hd.length 0:=by rw [hd0]
        replace own6:Hid (OwnStrs W7 w.heap.size (.slice (some ⟨w1.heap.size,0,none⟩) hd.length 0) hd):=Lib.hid (by rw [hhd];exact own6.out)
        have hNN:(r≠0→rs≠[])→nameN t.us t.bs t.ns n=hd++[nm]++(if r=0 then [] else rs):=fun h=>by
         have:=N4.out (by omega) (fun h=>absurd h h1) h;rw [if_neg h1] at this;rw [this,hhd]
        rw [e6];have hB2:=hB;have HX2:=HX;have HT2:=HT;have hw2:=Lib.hid hB2.out.size;replace hNN:=Lib.hid hNN;replace hhd:=Lib.hid hhd;clear e6 hd0 x0 x1 x2 hB HX HT;obtain ⟨_,_,ev6,s6⟩:=own6.out.strs;cases ev6;have HX2c:=blk3 HX2.out;obtain ⟨x0,x1,x2,-,-,-⟩:=HX2c;have hXlt:=HX2.out.lt;have HSrc:=Lib.hid (fun W' (hb:Below W7.heap.size W7 W')=>(s6.below hb (Nat.le_refl _)).src);have hXk:=Lib.hid (fun W' (hb:Below W7.heap.size W7 W')=>blk3 (HX2.out.below hb HX2.out.lt));have hnk:=Lib.hid (fun W' (hb:Below W7.heap.size W7 W')=>(hb.cell (p:=⟨b3,o3+(k - 1),none⟩) hb3).trans ck3);have k1:=Lib.hid (show 0+hd.length≤maxLen by unfold maxLen;omega);have k2:=Lib.hid (show (0+hd.length) * 16≤140737488355328 by omega);have k3:=Lib.hid (show 0+hd.length+1≤maxLen by unfold maxLen;omega);have k4:=Lib.hid (show (0+hd.length+1) * 16≤140737488355328 by omega);have ck3':=ck3;clear s6 ck3;have kk1:(0:Int)≤(k:Int) - 1:=by omega
        have kk2:(k:Int) - 1 < (t.ns.length:Int):=by omega
        have kk3:((k:Int) - 1).toNat=k - 1:=by omega
        have kk4:IntKind.i64.wrap ((k:Int) - 1)=(k:Int) - 1:=IntWalk.i64_in _ (by omega);have kk5:(1:Int)≤(k:Int):=by omega
        have bA:=Lib.hid (((Below.refl W7.heap.size W7).alloc (Nat.le_refl _) (.cells #[] 9)).drew);have bB:=Lib.hid ((((Below.refl W7.heap.size W7).alloc (Nat.le_refl _) (.cells #[] 9)).alloc (by simp) (.cells #[.string nm] 9)).drew);have bC:=Lib.hid ((((Below.refl W7.heap.size W7).alloc (Nat.le_refl _) (.cells #[.string nm] 9)).alloc (by simp) (.cells #[] 9)).drew);have bk0:Blk (W7.alloc (.cells #[] 9)) W7.heap.size 9 #[]:=Blk.new _ _ _;have bk1:Blk (W7.alloc (.cells #[.string nm] 9)) W7.heap.size 9 #[.string nm]:=Blk.new _ _ _;have bkB:=Lib.hid ((blk_new_at (w:=W7.alloc (.cells #[] 9)) (t:=9) (cs:=#[.string nm]) (W7.heap.size+1) (by simp)).drew);have bkC:=Lib.hid ((bk1.alloc (.cells #[] 9)).drew);have oA:=Lib.hid (owns_empty (B:=W7.heap.size) bk0.drew (Nat.le_refl _));have oB:=Lib.hid (owns_empty (B:=W7.heap.size) (bk0.alloc (.cells #[.string nm] 9)).drew (Nat.le_refl _));have oC:=Lib.hid (owns_empty (B:=W7.heap.size) ((blk_new_at (w:=W7.alloc (.cells #[.string nm] 9)) (t:=9) (cs:=#[]) (W7.heap.size+1) (by simp)).drew) (by omega));clear bk0 bk1;go_upto_region 14 with (fail)
        go_region_held3 (fun w'=>(w'.cell? ⟨w.heap.size,0,none⟩=some (.slice A1 t.us.length c1)∧w'.cell? ⟨w.heap.size,1,none⟩=some (.slice (some ⟨b2,o2,none⟩) t.bs.length c2)∧w'.cell? ⟨w.heap.size,2,none⟩=some (.slice (some ⟨b3,o3,none⟩) t.ns.length c3))∧w'.cell? ⟨b3,o3+(k - 1),none⟩=some (.string nm))
         (first | go_keep | exact hS5 | exact hS6)
         (first
          | (refine step_app _ (by rfl) (.tmp 53) (.tmp 54) _ (by rfl) W7.heap.size 9 i0 _ 16 Tryz.underlying28 hi hz0 hz1 hz2 rfl (.slice (some ⟨W7.heap.size,0,none⟩) 0 0) 0 [] (by rfl) oA.out (some ⟨w1.heap.size,0,none⟩) _ 0 _ (by rfl) (HSrc.out _ bA.out) k1.out k2.out bA.out.size ?_;intro v5 w5 ho5 hg5 _;have hB5:=below_own (w:=W7) (S:=W7.heap.size) bA.out oA.out hg5 bA.out.size (Nat.le_refl _);have hk5:True:=trivial;obtain ⟨x0',x1',x2',-,-,-⟩:=hXk.out _ hB5;have hS5:=And.intro (And.intro x0' (And.intro x1' x2')) (hnk.out _ hB5);replace ho5:=Lib.hid ho5;replace hB5:=Lib.hid hB5;replace hk5:=Lib.hid hk5;clear hg5)
          | (refine step_app _ (by rfl) (.tmp 53) (.tmp 54) _ (by rfl) W7.heap.size 9 i0 _ 16 Tryz.underlying28 hi hz0 hz1 hz2 rfl (.slice (some ⟨W7.heap.size,0,none⟩) 0 0) 0 [] (by rfl) oB.out (some ⟨w1.heap.size,0,none⟩) _ 0 _ (by rfl) (HSrc.out _ bB.out) k1.out k2.out bB.out.size ?_;intro v5 w5 ho5 hg5 _;have hB5:=below_own (w:=W7) (S:=W7.heap.size) bB.out oB.out hg5 bB.out.size (Nat.le_refl _);have hk5:Blk w5 (W7.heap.size+1) 9 #[.string nm]:=bkB.out.grown hg5 (by simp [Value.ownBlock]);obtain ⟨x0',x1',x2',-,-,-⟩:=hXk.out _ hB5;have hS5:=And.intro (And.intro x0' (And.intro x1' x2')) (hnk.out _ hB5);replace ho5:=Lib.hid ho5;replace hB5:=Lib.hid hB5;replace hk5:=Lib.hid hk5;clear hg5)
          | (refine step_app _ (by rfl) (.tmp 53) (.tmp 54) _ (by rfl) W7.heap.size 9 i0 _ 16 Tryz.underlying28 hi hz0 hz1 hz2 rfl (.slice (some ⟨W7.heap.size+1,0,none⟩) 0 0) 0 [] (by rfl) oC.out (some ⟨w1.heap.size,0,none⟩) _ 0 _ (by rfl) (HSrc.out _ bC.out) k1.out k2.out bC.out.size ?_;intro v5 w5 ho5 hg5 _;have hB5:=below_own (w:=W7) (S:=W7.heap.size) bC.out oC.out hg5 bC.out.size (Nat.le_refl _);have hk5:Blk w5 W7.heap.size 9 #[.string nm]:=bkC.out.grown hg5 (by simp [Value.ownBlock]);obtain ⟨x0',x1',x2',-,-,-⟩:=hXk.out _ hB5;have hS5:=And.intro (And.intro x0' (And.intro x1' x2')) (hnk.out _ hB5);replace ho5:=Lib.hid ho5;replace hB5:=Lib.hid hB5;replace hk5:=Lib.hid hk5;clear hg5)
          | (refine step_app _ (by rfl) (.tmp 55) (.tmp 62) _ (by rfl) W7.heap.size 9 i0 _ 16 Tryz.underlying28 hi hz0 hz1 hz2 rfl v5 _ _ (by rfl) (World.ownsRow.alloc ho5.out _) (some ⟨w5.heap.size,0,none⟩) 1 1 [.string nm] (by rfl) (Src.one (Blk.new _ _ _) rfl) k3.out k4.out (by have:=hB5.out.size;simp;omega) ?_;intro v6 w6 ho6 hg6 _;have hB6:=below_own (w:=W7) (S:=W7.heap.size) (hB5.out.alloc hB5.out.size _) (World.ownsRow.alloc ho5.out _) hg6 (by have:=hB5.out.size;simp;omega) (Nat.le_refl _);obtain ⟨x0',x1',x2',-,-,-⟩:=hXk.out _ hB6;have hS6:=And.intro (And.intro x0' (And.intro x1' x2')) (hnk.out _ hB6);replace ho6:=Lib.hid ho6;replace hB6:=Lib.hid hB6;clear hg6)
          | (refine step_app _ (by rfl) (.tmp 55) (.tmp 62) _ (by rfl) W7.heap.size 9 i0 _ 16 Tryz.underlying28 hi hz0 hz1 hz2 rfl v5 _ _ (by rfl) ho5.out _ 1 1 [.string nm] (by rfl) (Src.one hk5.out rfl) k3.out k4.out hB5.out.size ?_;intro v6 w6 ho6 hg6 _;have hB6:=below_own (w:=W7) (S:=W7.heap.size) hB5.out ho5.out hg6 hB5.out.size (Nat.le_refl _);obtain ⟨x0',x1',x2',-,-,-⟩:=hXk.out _ hB6;have hS6:=And.intro (And.intro x0' (And.intro x1' x2')) (hnk.out _ hB6);replace ho6:=Lib.hid ho6;replace hB6:=Lib.hid hB6;clear hg6))
        all_goals
         have ho7:OwnStrs w6 W7.heap.size v6 (hd++[nm]):=by
          have:=ho6.out;unfold OwnStrs
          simpa using this
         have hl7:(hd++[nm]).length=hd.length+1:=by simp
         have hNN7:=hNN.out;generalize hd++[nm]=hm at *;obtain ⟨A7,c7,rfl,-⟩:=ho7.strs;have hB7:=Lib.hid (hB2.out.trans (hB6.out.mono hB2.out.size));have HX7:=HX2.out.below hB6.out HX2.out.lt;have HT7:=Lib.hid (HT2.out.below hB6.out (Nat.le_refl _));have ck7:=(hB6.out.cell (p:=⟨b2,o2+k,none⟩) hb2).trans ck2;have hs26:=Lib.hid hB6.out.size;obtain ⟨x0,x1,x2,-,-,-⟩:=blk3 HX7;clear kk1 kk2 kk3 kk4 kk5;replace hl7:=Lib.hid hl7;replace hNN7:=Lib.hid hNN7;clear hNN;replace ho7:=Lib.hid ho7;clear bA bB bC bkB bkC oA oB oC hS5 hS6 ho5 ho6 hB5 hk5 hB6 HX7 HX2 HT2 hB2 HSrc hXk hnk k1 k2 k3 k4 ck3' x0' x1' x2';have q0:(0:Int)≤(n:Int) % (b:Int):=by rw [e2.out];omega
         have q1:(n:Int) % (b:Int)≤99999:=by rw [e2.out];omega
         go_upto_region 16 with (fail)
         rw [e2.out];clear q0 q1
         by_cases hr0:r=0
         · have hr0':((r:Int)==0)=true:=by rw [beq_iff_eq];omega
           have hNN':=hNN7.out (fun h=>absurd hr0 h);rw [if_pos hr0,List.append_nil] at hNN';replace hNN':=Lib.hid hNN';go_wp2;go_ret;rw [nameT,hNN'.out];exact ⟨_,rfl,ho7.out.mono hw2.out,hB7.out⟩
         · have hr0':((r:Int)==0)=false:=by rw [beq_eq_false_iff_ne];omega
           have K9:=Lib.hid (IHr.out hr0 _ w6 HT7.out);have L2':=L2.out hr0;go_wp2_with (fail);refine K9.out.mono ?_;rintro e w9 ⟨v9,rfl,o9,b9⟩;obtain ⟨A9,c9,rfl,s9⟩:=o9.strs;have ho9:=Lib.hid (ho7.out.below b9 (Nat.le_refl _));have hB9:=Lib.hid (hB7.out.trans (b9.mono hB7.out.size));have hs69:=b9.size
           by_cases hrs:rs=[]
           · have hl0:rs.length=0:=by rw [hrs];rfl
             have o9':OwnStrs w9 w.heap.size (.slice A9 0 c9) []:=by
              have:=o9.mono hB7.out.size;rw [hrs] at this;exact this
             have hno:=Lib.hid (N3.out hr0 hrs);rw [hl0];replace o9':=Lib.hid o9';replace hrs:=Lib.hid hrs;clear o9 s9 ho9 ho7 hl0 b9;go_wp2;go_ret;rw [nameT,hno.out];exact ⟨_,rfl,o9'.out,hB9.out⟩
           · have hl0:rs.length≠0:=fun h=>hrs (List.eq_nil_of_length_eq_zero h)
             have hl0':((rs.length:Int)==0)=false:=by rw [beq_eq_false_iff_ne];omega
             have hNN':=hNN7.out (fun _=>hrs);rw [if_neg hr0] at hNN';replace hNN':=Lib.hid hNN';have hs9:=Lib.hid s9.src;have m1:=Lib.hid (show hm.length+rs.length≤maxLen by rw [hl7.out];unfold maxLen;omega);have m2:=Lib.hid (show (hm.length+rs.length) * 16≤140737488355328 by rw [hl7.out];omega);have m3:=Lib.hid (show W7.heap.size≤w9.heap.size by have:=hs26.out;omega);replace hrs:=Lib.hid hrs;clear o9 s9 ho7 b9;go_wp2_with (at_builtin;refine wpList_app _ rfl (.tmp 81) (.tmp 82) _ rfl W7.heap.size 9 i0 _ 16 Tryz.underlying28 hi hz0 hz1 hz2 rfl (.slice A7 hm.length c7) _ _ rfl ho9.out A9 rs.length c9 _ rfl hs9.out m1.out m2.out m3.out ?_;intro v10 w10 ho10 hg10 _);have hB10:=Lib.hid (below_own hB9.out ho9.out hg10 hB9.out.size hw2.out)
             have ho11:OwnStrs w10 W7.heap.size v10 (hm++rs):=by
              unfold OwnStrs
              simpa using ho10
             obtain ⟨A10,c10,rfl,-⟩:=ho11.strs;replace ho11:=Lib.hid ho11;clear hg10 ho10;go_wp2;go_ret;rw [nameT,hNN'.out];exact ⟨_,rfl,ho11.out.mono hw2.out,hB10.out⟩
end
section
open Go.RowKit
def okN (t:Tg) (n:Int):Bool:=t.ok&&decide (1≤n∧n≤99999)
def nameOf (t:Tg) (n:Int):List ByteArray:=if okN t n then nameT t n.toNat else []
def namedB (t:Tg) (n:Int):Bool:=decide (0 < (nameOf t n).length)
theorem nameOf_no {t:Tg} {n:Int} (h:okN t n=false):nameOf t n=[]∧namedB t n=false:=by
 have e:nameOf t n=[]:=by unfold nameOf;rw [h];rfl
 exact ⟨e,by unfold namedB;rw [e];rfl⟩
theorem nameOf_yes {t:Tg} {m:Nat} (h:okN t m=true):nameOf t m=nameT t m:=by
 unfold nameOf;rw [h,if_pos rfl];rfl
def RetStrs2 (w:World) (xs:List ByteArray) (b:Bool) (e:Ending) (w':World):Prop:=∃ v,e=.returned (.tuple #[v,.bool b])∧OwnStrs w' w.heap.size v xs∧Below w.heap.size w w'
theorem ret_none2 {w w1:World} {t:Tg} {n:Int} (hb:Below w.heap.size w w1) (h:okN t n=false):RetStrs2 w (nameOf t n) (namedB t n) (.returned (.tuple #[.slice (some ⟨w1.heap.size,0,none⟩) 0 0,.bool false])) (w1.alloc (.cells #[] 9)) :=
 ⟨_,by rw [(nameOf_no h).2],by rw [(nameOf_no h).1];exact owns_empty (Blk.new _ _ _) hb.size,hb.alloc hb.size _⟩
set_option maxRecDepth 100000 in
set_option maxHeartbeats 2000000 in
theorem specNameOf_any (v:Value) (t:Tg) (n:Int) (w:World) (h:Tng w v t) (hf:t.Fine) (_hn:-9223372036854775808≤n∧n≤9223372036854775807) :
 Calls Tryz.prog 50 #[v,.int .i64 n] w (RetStrs2 w (nameOf t n) (namedB t n)):=by
 obtain ⟨A1,c1,A2,c2,A3,c3,rfl,-⟩:=h.ex;have hB:=(Below.refl w.heap.size w).alloc (Nat.le_refl _) (.cells #[.slice A1 t.us.length c1,.slice A2 t.bs.length c2,.slice A3 t.ns.length c3] 31);have HX:=Blk.new w 31 #[.slice A1 t.us.length c1,.slice A2 t.bs.length c2,.slice A3 t.ns.length c3];have HT:=h.below hB (Nat.le_refl _);have K1:=Lib.hid (specTongueOk_any _ t _ HT hf);replace hB:=Lib.hid hB;replace HX:=Lib.hid HX;replace HT:=Lib.hid HT;clear h hf;go_enter Tryz.func50,Tryz.ntmps50;go_upto_region 1 with (fail)
 generalize w.alloc (.cells #[.slice A1 t.us.length c1,.slice A2 t.bs.length c2,.slice A3 t.ns.length c3] 31)=W at *;obtain ⟨x0,x1,x2,-,-,-⟩:=blk3 HX.out;go_wp2_with (fail);refine K1.out.mono ?_;rintro e w1 ⟨rfl,b1⟩;replace hB:=Lib.hid (hB.out.trans (b1.mono hB.out.size));replace HX:=Lib.hid (HX.out.below b1 HX.out.lt);replace HT:=Lib.hid (HT.out.below b1 (Nat.le_refl _));clear b1 x0 x1 x2 K1;obtain ⟨x0,x1,x2,-,-,-⟩:=blk3 HX.out;cases hok:t.ok
 · have hno:=Lib.hid (show okN t n=false by unfold okN;rw [hok];rfl);replace hok:=Lib.hid hok;go_wp2
   go_ret2
   exact ret_none2 hB.out hno.out
 · by_cases hd:1≤n∧n≤99999
   · obtain ⟨m,rfl⟩:∃ m:Nat,n=m:=⟨n.toNat,by omega⟩;have hyes:=Lib.hid (show okN t m=true by unfold okN;rw [hok,decide_eq_true hd];rfl);have K2:=Lib.hid (specName_any hok m (by omega) (by omega) _ w1 HT.out);have hdb:=decide_eq_true hd;replace hok:=Lib.hid hok;replace hd:=Lib.hid hd;go_wp2_with (fail);refine (in_any _ _ _ _).mono ?_;rintro e _ ⟨rfl,rfl⟩;rw [hdb];clear hdb;go_wp2_with (fail);refine K2.out.mono ?_;rintro e w3 ⟨v3,rfl,o3,b3⟩;obtain ⟨A,c,rfl,-⟩:=o3.strs
     have HR:RetStrs2 w (nameOf t m) (namedB t m) (.returned (.tuple #[.slice A (nameT t m).length c,.bool (decide (0 < (nameT t m).length))])) w3 :=
      ⟨_,by unfold namedB;rw [nameOf_yes hyes.out],by rw [nameOf_yes hyes.out];exact o3.mono hB.out.size,hB.out.trans (b3.mono hB.out.size)⟩
     replace HR:=Lib.hid HR;clear o3 b3 x0 x1 x2;generalize nameT t m=xs at *;generalize xs.length=L at *;go_wp2
     go_ret2
     exact HR.out
   · have hno:=Lib.hid (show okN t n=false by unfold okN;rw [hok,decide_eq_false hd];rfl);have hdb:=decide_eq_false hd;replace hok:=Lib.hid hok;replace hd:=Lib.hid hd;go_wp2_with (fail);refine (in_any _ _ _ _).mono ?_;rintro e _ ⟨rfl,rfl⟩;rw [hdb];clear hdb;go_wp2
     go_ret2
     exact ret_none2 hB.out hno.out
end
section
open Go.RowKit
set_option maxRecDepth 100000 in
set_option maxHeartbeats 4000000 in
theorem specLong_any {t:Tg} (hok:t.ok=true):∀ n:Nat,1≤n→n≤99999→nameT t n≠[]→∀ (v:Value) (w:World),Tng w v t →
 Calls Tryz.prog 115 #[v,.int .i64 n] w fun e w'=>e=.returned (.int .i64 (nameT t n).length)∧Below w.heap.size w w':=by
 intro n
 induction n using Nat.strongRecOn with
 | _ n ih =>
  intro hn1 hn2 hne v w h;have hsh:=ok_shape hok;have hul:=hsh.us;have hbs:=hsh.bs;have hbl:=bases_len hbs;have IH:=Lib.hid (fun m (h1:m < n) (h2:1≤m)=>ih m h1 h2 (by omega));have HL:=Lib.hid (name_len t.us t.bs t.ns hbs);obtain ⟨A1,c1,A2,c2,A3,c3,rfl,-⟩:=h.ex;have hB:=(Below.refl w.heap.size w).alloc (Nat.le_refl _) (.cells #[.slice A1 t.us.length c1,.slice A2 t.bs.length c2,.slice A3 t.ns.length c3] 31);have HX:=Blk.new w 31 #[.slice A1 t.us.length c1,.slice A2 t.bs.length c2,.slice A3 t.ns.length c3];have HT:=h.below hB (Nat.le_refl _);have K1:=Lib.hid (specTop_any _ t n _ HT (by omega) (by omega));replace hB:=Lib.hid hB;replace HX:=Lib.hid HX;replace HT:=Lib.hid HT;replace hbs:=Lib.hid hbs;clear ih h hsh;go_enter Tryz.func115,Tryz.ntmps115;go_upto_region 1 with (fail)
  generalize w.alloc (.cells #[.slice A1 t.us.length c1,.slice A2 t.bs.length c2,.slice A3 t.ns.length c3] 31)=W at *;obtain ⟨x0,x1,x2,-,-,-⟩:=blk3 HX.out;go_wp2_with (fail);refine K1.out.mono ?_;rintro e w1 ⟨rfl,b1⟩;replace hB:=Lib.hid (hB.out.trans (b1.mono hB.out.size));replace HX:=Lib.hid (HX.out.below b1 HX.out.lt);replace HT:=Lib.hid (HT.out.below b1 (Nat.le_refl _));clear b1 x0 x1 x2 K1;obtain ⟨x0,x1,x2,-,-,-⟩:=blk3 HX.out
  by_cases ht:topOf t.bs n=0
  · have hN:=name_unit (us:=t.us) (ns:=t.ns) ht
    have hl1:(nameT t n).length=1:=by
     unfold nameT at hne ⊢;rw [hN] at hne ⊢
     split
     · rename_i h;rw [if_pos h] at hne;exact absurd rfl hne
     · rfl
    rw [ht];replace ht:=Lib.hid ht;replace hne:=Lib.hid hne;replace hl1:=Lib.hid hl1;clear hN;go_wp2;go_ret;exact ⟨ret_int (by rw [hl1.out];rfl),hB.out⟩
  · obtain ⟨f1,f2,f3,f4,f5⟩:=base_facts hbs.out ht;obtain ⟨g1,g2,g3⟩:=name_some (us:=t.us) (ns:=t.ns) hbs.out ht hne;have N4:=name_parts (us:=t.us) (ns:=t.ns) hbs.out ht g1 g2 g3;obtain ⟨d1,d2,d3,d4⟩:=div_pos' f1 f2;have L1:=HL.out _ d1;have L2:n % baseN t.bs n≠0→(nameN t.us t.bs t.ns (n % baseN t.bs n)).length≤n:=fun h0=>by have:=HL.out _ (Nat.one_le_iff_ne_zero.2 h0);omega
    have e1:(n:Int) / (baseN t.bs n:Int)=((n / baseN t.bs n:Nat):Int):=rfl;have e2:(n:Int) % (baseN t.bs n:Int)=((n % baseN t.bs n:Nat):Int):=rfl;obtain ⟨_,_,_,_,_,_,ev,-,I2,-⟩:=HT.out.ex;cases ev;obtain ⟨b2,o2,rfl,hb2,hc2⟩:=I2.at_ (by omega);have ck2:=hc2 _ f4;rw [← f3] at ck2;have hk0:((topOf t.bs n:Int)==0)=false:=by rw [beq_eq_false_iff_ne];omega
    have IHq:1 < n / baseN t.bs n→∀ (v:Value) (w:World),Tng w v t→Calls Tryz.prog 115 #[v,.int .i64 ((n / baseN t.bs n:Nat):Int)] w fun e w'=>e=.returned (.int .i64 (nameN t.us t.bs t.ns (n / baseN t.bs n)).length)∧Below w.heap.size w w':=fun h0 v w h=>IH.out _ d2 d1 (g2 h0) v w h
    have IHr:n % baseN t.bs n≠0→∀ (v:Value) (w:World),Tng w v t→Calls Tryz.prog 115 #[v,.int .i64 ((n % baseN t.bs n:Nat):Int)] w fun e w'=>e=.returned (.int .i64 (nameN t.us t.bs t.ns (n % baseN t.bs n)).length)∧Below w.heap.size w w':=fun h0 v w h=>IH.out _ d3 (Nat.one_le_iff_ne_zero.2 h0) (g3 h0) v w h
    have NL:(nameT t n).length=(if 1 < n / baseN t.bs n then (nameN t.us t.bs t.ns (n / baseN t.bs n)).length else 0)+1+(if n % baseN t.bs n=0 then 0 else (nameN t.us t.bs t.ns (n % baseN t.bs n)).length):=by
     unfold nameT;rw [N4,List.length_append,List.length_append]
     congr 1
     · congr 1
       split <;> rfl
     · split <;> rfl
    have hbn:baseN t.bs n≤99999:=by omega
    replace f3:=Lib.hid f3;clear hc2 I2 g1 g2 g3 N4 HL IH;generalize hq:n / baseN t.bs n=q at *;generalize hr:n % baseN t.bs n=r at *;generalize baseN t.bs n=b at *;generalize topOf t.bs n=k at *;generalize (nameN t.us t.bs t.ns q).length=lq at *;generalize (nameN t.us t.bs t.ns r).length=lr at *;have q0:(0:Int)≤(n:Int) / (b:Int):=by rw [e1];omega
    have q1:(n:Int) / (b:Int)≤99999:=by rw [e1];omega
    have r0:(0:Int)≤(n:Int) % (b:Int):=by rw [e2];omega
    have r1:(n:Int) % (b:Int)≤99999:=by rw [e2];omega
    replace IHq:=Lib.hid IHq;replace IHr:=Lib.hid IHr;replace NL:=Lib.hid NL;replace L2:=Lib.hid L2;replace e1:=Lib.hid e1;replace e2:=Lib.hid e2;replace ht:=Lib.hid ht;replace hne:=Lib.hid hne;replace hq:=Lib.hid hq;replace hr:=Lib.hid hr;go_upto_region 6 with (fail)
    rw [e1.out];clear q0 q1
    go_upto_if 21 with (fail)
    go_cut [7] (fun s7 wx=>s7=.int .i64 ((if 1 < q then (lq:Int) else 0)+1)∧Below w1.heap.size w1 wx)
    case first =>
     by_cases h1:1 < q
     · have h1':(1:Int) < (q:Int):=by omega
       have K6:=Lib.hid (IHq.out h1 _ w1 HT.out);go_wp2_with (fail);refine K6.out.mono ?_;rintro e w2 ⟨rfl,b2'⟩;replace b2':=Lib.hid b2';go_wp2
       go_meet
       exact ⟨by rw [if_pos h1];go_num,b2'.out⟩
     · have h1':¬ (1:Int) < (q:Int):=by omega
       go_wp2
       go_meet
       exact ⟨by rw [if_neg h1];go_num,Below.refl _ _⟩
    case rest =>
     obtain ⟨rfl,bx⟩:=hcut;have hBc:=hB.out.trans (bx.mono hB.out.size);have HXc:=HX.out.below bx HX.out.lt;have HTc:=HT.out.below bx (Nat.le_refl _);have ckc:=(bx.cell (p:=⟨b2,o2+k,none⟩) hb2).trans ck2;have hb2c:b2 < wc.heap.size:=Nat.lt_of_lt_of_le hb2 bx.size;have hm:(0:Int)≤(if 1 < q then (lq:Int) else 0)+1∧(if 1 < q then (lq:Int) else 0)+1≤100000:=by split <;> omega
     obtain ⟨m0,m1⟩:=hm
     have NL':((nameT t n).length:Int)=(if 1 < q then (lq:Int) else 0)+1+(if r=0 then 0 else (lr:Int)):=by
      rw [NL.out]
      split <;> split <;> omega
     generalize (if 1 < q then (lq:Int) else 0)+1=mm at *;replace NL':=Lib.hid NL';replace hBc:=Lib.hid hBc;replace HTc:=Lib.hid HTc;clear bx x0 x1 x2 ck2;obtain ⟨x0,x1,x2,-,-,-⟩:=blk3 HXc;replace HXc:=Lib.hid HXc;go_upto_region 8 with (fail)
     by_cases hr0:r=0
     · have hr0':¬ (0:Int) < (n:Int) % (b:Int):=by rw [e2.out];omega
       go_wp2;go_ret;exact ⟨ret_int (by rw [NL'.out,if_pos hr0];omega),hBc.out⟩
     · have hr0':(0:Int) < (n:Int) % (b:Int):=by rw [e2.out];omega
       have L2':=L2.out hr0;have K9:=fun W' (h:Below wc.heap.size wc W')=>IHr.out hr0 _ W' (HTc.out.below h (Nat.le_refl _))
       rw [← e2.out] at K9;replace K9:=Lib.hid K9;have hw1:IntKind.i64.wrap (mm+(lr:Int))=mm+(lr:Int):=IntWalk.i64_in _ (by omega);have hw2:IntKind.i64.wrap ((n:Int) % (b:Int))=(n:Int) % (b:Int):=IntWalk.i64_in _ (by omega);have hw3:(n:Int).tmod (b:Int)=(n:Int) % (b:Int):=IntWalk.rem_in _ _ (by omega);have hw4:¬ (b:Int)=0:=by omega
       have hw5:¬ b=0:=by omega
       have hsc:=Lib.hid (fun W' (h:Below wc.heap.size wc W')=>blk3 (HXc.out.below h HXc.out.lt));go_upto_region 9 with (fail)
       go_region_held3 (fun w'=>(w'.cell? ⟨w.heap.size,0,none⟩=some (.slice A1 t.us.length c1)∧w'.cell? ⟨w.heap.size,1,none⟩=some (.slice (some ⟨b2,o2,none⟩) t.bs.length c2)∧w'.cell? ⟨w.heap.size,2,none⟩=some (.slice A3 t.ns.length c3))∧w'.cell? ⟨b2,o2+k,none⟩=some (.int .i64 b))
        (first | go_keep | exact hSd)
        (first
         | (go_at_call 115;refine (K9.out _ (by first | exact (Below.refl _ _).drew | exact Below.refl _ _)).mono ?_;rintro e wd ⟨rfl,bd'⟩;have bd:Below wc.heap.size wc wd:=⟨bd'.os,bd'.tape,bd'.output,bd'.size,bd'.block⟩;obtain ⟨x0',x1',x2',-,-,-⟩:=hsc.out _ bd;have hSd:=And.intro (And.intro x0' (And.intro x1' x2')) ((bd.cell (p:=⟨b2,o2+k,none⟩) hb2c).trans ckc);have hBd:=Lib.hid (hBc.out.trans (bd.mono hBc.out.size));clear bd bd'))
       all_goals
        clear hSd;go_wp2;go_ret;exact ⟨ret_int (by rw [NL'.out,if_neg hr0]),hBd.out⟩
def longOf (t:Tg) (n:Int):Int:=if namedB t n then (nameOf t n).length else -1
theorem named_ne {t:Tg} {n:Int} (h:namedB t n=true):okN t n=true∧nameT t n.toNat≠[]:=by
 unfold namedB nameOf at h;cases ho:okN t n
 · rw [ho] at h;simp at h
 · rw [ho,if_pos rfl,decide_eq_true_eq] at h;exact ⟨rfl,fun e=>by rw [e] at h;simp at h⟩
set_option maxRecDepth 100000 in
set_option maxHeartbeats 2000000 in
theorem specLongOf_any (v:Value) (t:Tg) (n:Int) (w:World) (h:Tng w v t) (hf:t.Fine) (hn:-9223372036854775808≤n∧n≤9223372036854775807) :
 Calls Tryz.prog 66 #[v,.int .i64 n] w fun e w'=>e=.returned (.int .i64 (longOf t n))∧Below w.heap.size w w':=by
 obtain ⟨A1,c1,A2,c2,A3,c3,rfl,-⟩:=h.ex;have hB:=(Below.refl w.heap.size w).alloc (Nat.le_refl _) (.cells #[.slice A1 t.us.length c1,.slice A2 t.bs.length c2,.slice A3 t.ns.length c3] 31);have HX:=Blk.new w 31 #[.slice A1 t.us.length c1,.slice A2 t.bs.length c2,.slice A3 t.ns.length c3];have HT:=h.below hB (Nat.le_refl _);have K1:=Lib.hid (specNameOf_any _ t n _ HT hf hn);replace hB:=Lib.hid hB;replace HX:=Lib.hid HX;replace HT:=Lib.hid HT;clear h hf;go_enter Tryz.func66,Tryz.ntmps66;go_upto_region 1 with (fail)
 generalize w.alloc (.cells #[.slice A1 t.us.length c1,.slice A2 t.bs.length c2,.slice A3 t.ns.length c3] 31)=W at *;obtain ⟨x0,x1,x2,-,-,-⟩:=blk3 HX.out;go_wp2_with (fail);refine K1.out.mono ?_;rintro e w1 ⟨v1,rfl,o1,b1⟩;obtain ⟨A,c,rfl,-⟩:=o1.strs;replace hB:=Lib.hid (hB.out.trans (b1.mono hB.out.size));replace HX:=Lib.hid (HX.out.below b1 HX.out.lt);replace HT:=Lib.hid (HT.out.below b1 (Nat.le_refl _));clear b1 x0 x1 x2 K1 o1;obtain ⟨x0,x1,x2,-,-,-⟩:=blk3 HX.out;cases hnb:namedB t n
 · have hg:longOf t n=-1:=by unfold longOf;rw [hnb];rfl
   replace hg:=Lib.hid hg;replace hnb:=Lib.hid hnb;go_wp2;go_ret;exact ⟨ret_int hg.out.symm,hB.out⟩
 · obtain ⟨ho,hne⟩:=named_ne hnb;have ho':=ho;unfold okN at ho';rw [Bool.and_eq_true,decide_eq_true_eq] at ho';obtain ⟨hok,hd⟩:=ho';obtain ⟨m,rfl⟩:∃ m:Nat,n=m:=⟨n.toNat,by omega⟩;have hg:longOf t m=(nameT t m).length:=by unfold longOf;rw [hnb,if_pos rfl,nameOf_yes ho]
   have K2:=Lib.hid (specLong_any hok m (by omega) (by omega) hne _ w1 HT.out);replace hg:=Lib.hid hg;replace hnb:=Lib.hid hnb;replace hne:=Lib.hid hne;replace ho:=Lib.hid ho;replace hok:=Lib.hid hok;replace hd:=Lib.hid hd;go_wp2_with (fail);refine K2.out.mono ?_;rintro e w3 ⟨rfl,b3⟩;have hB3:=Lib.hid (hB.out.trans (b3.mono hB.out.size));clear b3;go_wp2;go_ret;exact ⟨ret_int hg.out.symm,hB3.out⟩
end
section
open Go.RowKit
def joinW (l:List ByteArray):Nat→ByteArray
 | 0=>⟨#[]⟩
 | k+1=>(if 0 < k then joinW l k++⟨#[32]⟩ else joinW l k)++l.getD k ByteArray.empty
def textOf (t:Tg) (n:Int):ByteArray:=joinW (nameOf t n) (nameOf t n).length
theorem nameOf_size (t:Tg) (n:Int):∀ x ∈ nameOf t n,1≤x.size∧x.size≤8:=by
 intro x hx;unfold nameOf at hx
 by_cases ho:okN t n=true
 · rw [if_pos ho] at hx;unfold okN at ho;rw [Bool.and_eq_true,decide_eq_true_eq] at ho;obtain ⟨_,hb,hns,_,hw,_⟩:=(ok_iff t).1 ho.1;exact wordOk_len (hw x (name_mem t.us t.bs t.ns hb hns n.toNat (by omega) x hx))
 · rw [if_neg ho] at hx;cases hx
theorem nameOf_at (t:Tg) (n:Int) (k:Nat):((nameOf t n).getD k ByteArray.empty).size≤8:=by
 by_cases hk:k < (nameOf t n).length
 · rw [List.getD_eq_getElem?_getD,List.getElem?_eq_getElem hk];exact (nameOf_size t n _ (List.getElem_mem hk)).2
 · rw [List.getD_eq_getElem?_getD,List.getElem?_eq_none (by omega)];exact Nat.zero_le _
theorem joinW_size {l:List ByteArray} (h:∀ k,(l.getD k ByteArray.empty).size≤8):∀ k,(joinW l k).size≤9 * k:=by
 intro k
 induction k with
 | zero=>exact Nat.le_refl _
 | succ k ih =>
  rw [joinW,ByteArray.size_append];have h8:=h k;have h1:(⟨#[32]⟩:ByteArray).size=1:=rfl
  split
  · rw [ByteArray.size_append,h1];omega
  · omega
theorem nameOf_len (t:Tg) (n:Int):(nameOf t n).length≤99999:=by
 unfold nameOf
 split
 · rename_i h
   unfold okN at h;rw [Bool.and_eq_true,decide_eq_true_eq] at h;have:=name_len t.us t.bs t.ns (ok_shape h.1).bs n.toNat (by omega);unfold nameT;omega
 · simp
set_option maxRecDepth 100000 in
set_option maxHeartbeats 2000000 in
theorem specTextOf_any (v:Value) (t:Tg) (n:Int) (w:World) (h:Tng w v t) (hf:t.Fine) (hn:-9223372036854775808≤n∧n≤9223372036854775807) :
 Calls Tryz.prog 65 #[v,.int .i64 n] w fun e w'=>e=.returned (.string (textOf t n))∧Below w.heap.size w w':=by
 obtain ⟨A1,c1,A2,c2,A3,c3,rfl,-⟩:=h.ex;have hB:=(Below.refl w.heap.size w).alloc (Nat.le_refl _) (.cells #[.slice A1 t.us.length c1,.slice A2 t.bs.length c2,.slice A3 t.ns.length c3] 31);have HX:=Blk.new w 31 #[.slice A1 t.us.length c1,.slice A2 t.bs.length c2,.slice A3 t.ns.length c3];have HT:=h.below hB (Nat.le_refl _);have K1:=Lib.hid (specNameOf_any _ t n _ HT hf hn);replace hB:=Lib.hid hB;replace HX:=Lib.hid HX;clear h hf HT;have hat:=Lib.hid (nameOf_at t n);have hjs:=Lib.hid (joinW_size (nameOf_at t n));have hln:=nameOf_len t n;have htx:joinW (nameOf t n) (nameOf t n).length=textOf t n:=rfl;generalize textOf t n=tx at *;go_enter Tryz.func65,Tryz.ntmps65;go_upto_region 2 with (fail)
 generalize w.alloc (.cells #[.slice A1 t.us.length c1,.slice A2 t.bs.length c2,.slice A3 t.ns.length c3] 31)=W at *;obtain ⟨x0,x1,x2,-,-,-⟩:=blk3 HX.out;go_wp2_with (fail);refine K1.out.mono ?_;rintro e w1 ⟨v1,rfl,o1,b1⟩;obtain ⟨A,c,rfl,hs⟩:=o1.strs;replace hB:=Lib.hid (hB.out.trans (b1.mono hB.out.size));clear b1 x0 x1 x2 K1 o1 HX;generalize nameOf t n=xs at *;generalize hL:xs.length=L at *;replace hL:=Lib.hid hL;replace htx:=Lib.hid htx;go_wp2
 go_loop [5,8] (fun s5 s8=>∃ k:Nat,k≤L∧s8=.int .i64 k∧s5=.string (joinW xs k)) (fun _ i=>L - (intOf i).toNat)
 case atStart=>exact ⟨0,Nat.zero_le _,rfl,rfl⟩
 case round =>
  obtain ⟨k,hk,rfl,rfl⟩:=hrel
  by_cases hlt:k < L
  · obtain ⟨b,o,rfl,-,hc⟩:=hs.at_ (by omega);have ck:=hc k hlt;have HJ:joinW xs (k+1)=(if 0 < k then joinW xs k++⟨#[32]⟩ else joinW xs k)++xs.getD k ByteArray.empty:=rfl;have z1:=hjs.out k;have z2:=hat.out k;generalize xs.getD k ByteArray.empty=x at *;generalize joinW xs k=out at *;have y1:(⟨#[32]⟩:ByteArray).size=1:=rfl;have y2:(out++⟨#[32]⟩).size=out.size+1:=by rw [ByteArray.size_append,y1]
    have y3:¬ (9223372036854775807 < out.size+1):=by omega
    have y4:¬ (9223372036854775807 < out.size+1+x.size):=by omega
    have y5:¬ (9223372036854775807 < out.size+x.size):=by omega
    clear hc
    by_cases h0:0 < k
    · have h0':(0:Int) < (k:Int):=by omega
      rw [if_pos h0] at HJ;replace HJ:=Lib.hid HJ;go_wp2
      go_round
      case rel=>exact ⟨k+1,by omega,by go_num,by rw [HJ.out]⟩
      case measure=>simp [intOf];omega
    · have h0':¬ (0:Int) < (k:Int):=by omega
      rw [if_neg h0] at HJ;replace HJ:=Lib.hid HJ;go_wp2
      go_round
      case rel=>exact ⟨k+1,by omega,by go_num,by rw [HJ.out]⟩
      case measure=>simp [intOf];omega
  · obtain rfl:k=L:=by omega
    rw [htx.out];go_wp2;go_ret;exact ⟨rfl,hB.out⟩
end
section
open Go.RowKit
theorem okN_of {t:Tg} (hok:t.ok=true) {m:Nat} (h1:1≤m) (h2:m≤99999):okN t m=true:=by
 unfold okN;rw [hok,decide_eq_true (by omega)];rfl
theorem named_of {t:Tg} (hok:t.ok=true) {m:Nat} (h1:1≤m) (h2:m≤99999) (h:nameT t m≠[]):namedB t m=true:=by
 unfold namedB;rw [nameOf_yes (okN_of hok h1 h2)];exact decide_eq_true (by have:(nameT t m).length≠0:=fun e=>h (List.eq_nil_of_length_eq_zero e);omega)
theorem longOf_yes {t:Tg} {n:Int} (h:namedB t n=true):longOf t n=(nameOf t n).length:=by unfold longOf;rw [h,if_pos rfl]
theorem named_ok {t:Tg} {n:Int} (h:namedB t n=true):t.ok=true∧1≤n∧n≤99999:=by
 have:=(named_ne h).1;unfold okN at this;rw [Bool.and_eq_true,decide_eq_true_eq] at this;exact this
def lettersTo' (l:List ByteArray):Nat→Nat
 | 0=>0
 | k+1=>lettersTo' l k+(l.getD k ByteArray.empty).size
theorem lettersTo_le {l:List ByteArray} (h:∀ k,(l.getD k ByteArray.empty).size≤8):∀ k,lettersTo' l k≤8 * k:=by
 intro k
 induction k with
 | zero=>exact Nat.le_refl _
 | succ k ih=>rw [lettersTo'];have:=h k;omega
end
section
open Go.RowKit
def bv (t:Tg) (x:ByteArray):Nat:=if baseB t x then (baseV t x).toNat else 0
def scanTo (t:Tg) (l:List ByteArray):Nat→Nat × Nat
 | 0=>(0,0)
 | k+1=>if (scanTo t l k).1 < bv t (l.getD k ByteArray.empty) then (bv t (l.getD k ByteArray.empty),k) else scanTo t l k
theorem scanTo_at (t:Tg) (l:List ByteArray):∀ k,(scanTo t l k).1≠0→(scanTo t l k).2 < k:=by
 intro k
 induction k with
 | zero=>intro h;exact absurd rfl h
 | succ k ih =>
  intro h;rw [scanTo] at h ⊢
  split
  · exact Nat.lt_succ_self k
  · rename_i hc
    rw [if_neg hc] at h;have:=ih h;omega
def valV (t:Tg) (l:List ByteArray):Int :=
 if l=[] then 0
 else if _h:(scanTo t l l.length).1=0 then (if unitB t (l.getD 0 ByteArray.empty)=true∧l.length=1 then unitV t (l.getD 0 ByteArray.empty) else -1)
 else
  if (if 0 < (scanTo t l l.length).2 then valV t (l.take (scanTo t l l.length).2) else 1) < 0∨valV t (l.drop ((scanTo t l l.length).2+1)) < 0∨99999 < (if 0 < (scanTo t l l.length).2 then valV t (l.take (scanTo t l l.length).2) else 1) then -1
  else min ((if 0 < (scanTo t l l.length).2 then valV t (l.take (scanTo t l l.length).2) else 1) * t.bs.getD (scanTo t l l.length).1 0+valV t (l.drop ((scanTo t l l.length).2+1))) 1000000
termination_by l.length
decreasing_by
 all_goals have hs:=scanTo_at t l l.length _h
 all_goals simp
 all_goals omega
theorem valV_nil (t:Tg):valV t []=0:=by rw [valV,if_pos rfl]
theorem valV_unit {t:Tg} {l:List ByteArray} (hl:l≠[]) (h:(scanTo t l l.length).1=0):valV t l=if unitB t (l.getD 0 ByteArray.empty)=true∧l.length=1 then unitV t (l.getD 0 ByteArray.empty) else -1:=by
 rw [valV,if_neg hl,dif_pos h]
theorem valV_top {t:Tg} {l:List ByteArray} {top p:Nat} (hl:l≠[]) (h:scanTo t l l.length=(top,p)) (h0:top≠0) {many rest:Int} (hm:many=if 0 < p then valV t (l.take p) else 1) (hr:rest=valV t (l.drop (p+1))) :
 valV t l=if many < 0∨rest < 0∨99999 < many then -1 else min (many * t.bs.getD top 0+rest) 1000000:=by
 rw [valV,if_neg hl,dif_neg (by rw [h];exact h0),h,hm,hr]
theorem scan_split {t:Tg} {hd tl:List ByteArray} {x:ByteArray} {k:Nat} (hx:bv t x=k) (h1:∀ y ∈ hd,bv t y < k) (h2:∀ y ∈ tl,bv t y≤k) (hk:0 < k) :
 scanTo t (hd++[x]++tl) (hd++[x]++tl).length=(k,hd.length):=by
 have a1:∀ j,j≤hd.length→(scanTo t (hd++[x]++tl) j).1 < k:=by
  intro j
  induction j with
  | zero=>intro _;exact hk
  | succ j ih =>
   intro hj;rw [scanTo]
   have hg:(hd++[x]++tl).getD j ByteArray.empty=hd[j]:=by
    rw [List.getD_eq_getElem?_getD,List.append_assoc,List.getElem?_append_left (by omega),List.getElem?_eq_getElem (by omega)];rfl
   split
   · rw [hg];exact h1 _ (List.getElem_mem _)
   · exact ih (by omega)
 have hgx:(hd++[x]++tl).getD hd.length ByteArray.empty=x:=by
  rw [List.getD_eq_getElem?_getD,List.append_assoc,List.getElem?_append_right (Nat.le_refl _)];simp
 have a2:scanTo t (hd++[x]++tl) (hd.length+1)=(k,hd.length):=by
  rw [scanTo,hgx,hx,if_pos (a1 _ (Nat.le_refl _))]
 have a3:∀ j,j≤tl.length→scanTo t (hd++[x]++tl) (hd.length+1+j)=(k,hd.length):=by
  intro j
  induction j with
  | zero=>intro _;exact a2
  | succ j ih =>
   intro hj
   have hg:(hd++[x]++tl).getD (hd.length+1+j) ByteArray.empty=tl[j]:=by
    rw [List.getD_eq_getElem?_getD,List.getElem?_append_right (by simp),List.getElem?_eq_getElem (by simp;omega)]
    simp
   show scanTo t (hd++[x]++tl) ((hd.length+1+j)+1)=_
   rw [scanTo,ih (by omega),hg,if_neg (by have:=h2 _ (List.getElem_mem (show j < tl.length by omega));simp;omega)]
 have:=a3 tl.length (Nat.le_refl _)
 rwa [show hd.length+1+tl.length=(hd++[x]++tl).length by simp;omega] at this
theorem bv_name {t:Tg} (hok:t.ok=true) {j:Nat} (hj:j < t.ns.length):bv t (t.ns.getD j ByteArray.empty)=j+1:=by
 have hd:t.ns.Nodup:=(List.nodup_append.1 ((ok_iff t).1 hok).2.2.2.2.2).2.1
 obtain ⟨h1,h2⟩:=base_at (t:=t) (x:=t.ns.getD j ByteArray.empty) (k:=j) hok hj (fun i hi e=>by
  have hi':i < t.ns.length:=by omega
  rw [List.getD_eq_getElem?_getD,List.getD_eq_getElem?_getD,List.getElem?_eq_getElem hi',List.getElem?_eq_getElem hj] at e;exact (List.pairwise_iff_getElem.1 hd) i j hi' hj hi (by simpa using e)) rfl
 unfold bv;rw [h1,if_pos rfl,h2];omega
theorem bv_unit {t:Tg} (hok:t.ok=true) {x:ByteArray} (hx:x ∈ t.us):bv t x=0:=by
 have hd:=List.nodup_append.1 ((ok_iff t).1 hok).2.2.2.2.2
 have hn:=(base_no (t:=t) (x:=x) (.inr fun i hi e=>by
  have hm:t.ns.getD i ByteArray.empty ∈ t.ns:=by rw [List.getD_eq_getElem?_getD,List.getElem?_eq_getElem hi];exact List.getElem_mem hi
  rw [e] at hm;exact hd.2.2 x hx x hm rfl)).1
 unfold bv;rw [hn];rfl
theorem topOf_lt {bs:List Int} (hb:basesOk bs=true) {n:Nat} {k:Nat} (_hk:k < bs.length) (h1:1≤k) (h:(n:Int) < bs.getD k 0):topOf bs n < k:=by
 rcases topTo_at bs n bs.length with e | ⟨a1,a2,a3⟩
 · have e':topOf bs n=0:=e;omega
 · rcases Nat.lt_or_ge (topOf bs n) k with h2 | h2
   · exact h2
   · have a2':topOf bs n < bs.length:=a2;have a3':bs.getD (topOf bs n) 0≤n:=a3
     by_cases e:k=topOf bs n
     · rw [← e] at a3';omega
     · have:=bases_mono hb k (topOf bs n) (by omega) a2';omega
theorem name_bv {t:Tg} (hok:t.ok=true):∀ n:Nat,1≤n→∀ x ∈ nameT t n,bv t x≤topOf t.bs n:=by
 have hs:=ok_shape hok;have hb:=hs.bs;have hns:=hs.ns;intro n
 induction n using Nat.strongRecOn with
 | _ n ih =>
  intro hn x hx
  by_cases ht:topOf t.bs n=0
  · rw [nameT,name_unit ht] at hx
    split at hx
    · cases hx
    · have hlt:n - 1 < t.us.length:=by omega
      have:x=t.us[n - 1]:=by simpa [List.getD_eq_getElem?_getD,hlt] using hx
      rw [this,bv_unit hok (List.getElem_mem hlt)];exact Nat.zero_le _
  · have hf:=base_facts hb ht;have hd:=div_pos' hf.1 hf.2.1;rw [nameT,name_top hb ht] at hx
    split at hx
    · cases hx
    · rename_i h0
      split at hx
      · cases hx
      · split at hx
        · cases hx
        · have hq:topOf t.bs (n / baseN t.bs n:Nat) < topOf t.bs n:=topOf_lt hb hf.2.2.2.1 hf.2.2.2.2 (by rw [← hf.2.2.1];omega);have hr:topOf t.bs (n % baseN t.bs n:Nat) < topOf t.bs n:=topOf_lt hb hf.2.2.2.1 hf.2.2.2.2 (by rw [← hf.2.2.1];have:=Nat.mod_lt n (show 0 < baseN t.bs n by omega);omega);rcases List.mem_append.1 hx with h | h
          · rcases List.mem_append.1 h with h | h
            · split at h
              · have:=ih _ hd.2.1 hd.1 x h;omega
              · cases h
            · have:x=t.ns.getD (topOf t.bs n - 1) ByteArray.empty:=by simpa using h
              rw [this,bv_name hok (by omega)];omega
          · split at h
            · cases h
            · have:=ih _ hd.2.2.1 (by omega) x h;omega
theorem val_name {t:Tg} (hok:t.ok=true):∀ n:Nat,1≤n→n≤99999→nameT t n≠[]→valV t (nameT t n)=n:=by
 have hs:=ok_shape hok;have hb:=hs.bs;have hns:=hs.ns;intro n
 induction n using Nat.strongRecOn with
 | _ n ih =>
  intro hn hn2 hne
  by_cases ht:topOf t.bs n=0
  · have hu:=name_unit (us:=t.us) (ns:=t.ns) ht;have hlt:¬ t.us.length < n:=fun h=>by rw [nameT,hu,if_pos h] at hne;exact hne rfl
    have hn1:n - 1 < t.us.length:=by omega
    have e:nameT t n=[t.us.getD (n - 1) ByteArray.empty]:=by rw [nameT,hu,if_neg hlt]
    have hm:t.us.getD (n - 1) ByteArray.empty ∈ t.us:=by rw [List.getD_eq_getElem?_getD,List.getElem?_eq_getElem hn1];exact List.getElem_mem hn1
    have hz:=bv_unit hok hm;have hdd:t.us.Nodup:=(List.nodup_append.1 ((ok_iff t).1 hok).2.2.2.2.2).1
    obtain ⟨u1,u2⟩:=unit_at (t:=t) (x:=t.us.getD (n - 1) ByteArray.empty) (k:=n - 1) hok hn1 (fun i hi e=>by
     have hi':i < t.us.length:=by omega
     rw [List.getD_eq_getElem?_getD,List.getD_eq_getElem?_getD,List.getElem?_eq_getElem hi',List.getElem?_eq_getElem hn1] at e;exact (List.pairwise_iff_getElem.1 hdd) i (n - 1) hi' hn1 hi (by simpa using e)) rfl
    have hsc:(scanTo t (nameT t n) (nameT t n).length).1=0:=by
     rw [e]
     show (scanTo t [_] 1).1=0
     rw [scanTo]
     show (if 0 < bv t (t.us.getD (n - 1) ByteArray.empty) then (_,0) else ((0:Nat),(0:Nat))).1=0
     rw [hz,if_neg (by omega)]
    have hl1:(nameT t n).length=1:=by rw [e];rfl
    have hg1:(nameT t n).getD 0 ByteArray.empty=t.us.getD (n - 1) ByteArray.empty:=by rw [e];rfl
    rw [valV_unit hne hsc,hg1,if_pos ⟨u1,hl1⟩,u2];omega
  · obtain ⟨g1,g2,g3⟩:=name_some hb ht hne;have hf:=base_facts hb ht;have hd:=div_pos' hf.1 hf.2.1;have hp:=name_parts hb ht g1 g2 g3;have hq:topOf t.bs (n / baseN t.bs n:Nat) < topOf t.bs n:=topOf_lt hb hf.2.2.2.1 hf.2.2.2.2 (by rw [← hf.2.2.1];omega);have hr:topOf t.bs (n % baseN t.bs n:Nat) < topOf t.bs n:=topOf_lt hb hf.2.2.2.1 hf.2.2.2.2 (by rw [← hf.2.2.1];have:=Nat.mod_lt n (show 0 < baseN t.bs n by omega);omega)
    have hsc:=scan_split (t:=t) (k:=topOf t.bs n) (hd:=if 1 < n / baseN t.bs n then nameN t.us t.bs t.ns (n / baseN t.bs n) else []) (tl:=if n % baseN t.bs n=0 then [] else nameN t.us t.bs t.ns (n % baseN t.bs n)) (x:=t.ns.getD (topOf t.bs n - 1) ByteArray.empty)
     (by rw [bv_name hok (by omega)];omega)
     (fun y hy=>by
      split at hy
      · have:=name_bv hok _ hd.1 y hy;omega
      · cases hy)
     (fun y hy=>by
      split at hy
      · cases hy
      · have:=name_bv hok _ (by omega) y hy;omega)
     (by omega)
    have hp':nameT t n=_:=hp;have hne':=hne;rw [hp'] at hne' ⊢
    have hmul:(baseN t.bs n:Int) * ((n / baseN t.bs n:Nat):Int)+((n % baseN t.bs n:Nat):Int)=n:=by
     have:=Nat.div_add_mod n (baseN t.bs n)
     exact_mod_cast this
    rw [valV_top hne' hsc ht (many:=((n / baseN t.bs n:Nat):Int)) (rest:=((n % baseN t.bs n:Nat):Int)) ?hm ?hr,if_neg (by omega),← hf.2.2.1,Int.mul_comm,hmul]
    · omega
    case hm =>
     by_cases h1:1 < n / baseN t.bs n
     · have hv:=ih _ hd.2.1 hd.1 (by omega) (g2 h1)
       have hpos:0 < (nameN t.us t.bs t.ns (n / baseN t.bs n)).length:=by
        have:(nameN t.us t.bs t.ns (n / baseN t.bs n)).length≠0:=fun e=>g2 h1 (List.eq_nil_of_length_eq_zero e)
        omega
       rw [if_pos h1,if_pos hpos,List.append_assoc,List.take_left];exact hv.symm
     · rw [if_neg h1,if_neg (by simp)];omega
    case hr =>
     have hl:((if 1 < n / baseN t.bs n then nameN t.us t.bs t.ns (n / baseN t.bs n) else [])++[t.ns.getD (topOf t.bs n - 1) ByteArray.empty]).length=(if 1 < n / baseN t.bs n then nameN t.us t.bs t.ns (n / baseN t.bs n) else []).length+1:=by simp
     rw [← hl,List.drop_left]
     by_cases h0:n % baseN t.bs n=0
     · rw [if_pos h0,valV_nil,h0];rfl
     · rw [if_neg h0];exact (ih _ hd.2.2.1 (by omega) (by omega) (g3 h0)).symm
end
section
open Go.RowKit
theorem two_le {a b:Nat} (h:a < b):2 ^ (a+1)≤2 ^ b:=Nat.pow_le_pow_right (by omega) h
theorem name_short (us:List ByteArray) (bs:List Int) (ns:List ByteArray) (hb:basesOk bs=true):∀ n:Nat,1≤n→(nameN us bs ns n).length+1≤2 ^ (topOf bs n+1):=by
 intro n
 induction n using Nat.strongRecOn with
 | _ n ih =>
  intro hn
  by_cases ht:topOf bs n=0
  · rw [name_unit ht,ht];split <;> simp
  · have hf:=base_facts hb ht;have hd:=div_pos' hf.1 hf.2.1;have hp:1≤2 ^ (topOf bs n):=Nat.one_le_two_pow;have he:2 ^ (topOf bs n+1)=2 * 2 ^ (topOf bs n):=by rw [Nat.pow_succ];omega
    have h4:2≤2 ^ (topOf bs n):=by have:=two_le (a:=0) (b:=topOf bs n) (by omega);simpa using this
    rw [name_top hb ht,he]
    split
    · simp;omega
    · rename_i h0
      have hq:topOf bs (n / baseN bs n:Nat) < topOf bs n:=topOf_lt hb hf.2.2.2.1 hf.2.2.2.2 (by rw [← hf.2.2.1];omega);have hr:topOf bs (n % baseN bs n:Nat) < topOf bs n:=topOf_lt hb hf.2.2.2.1 hf.2.2.2.2 (by rw [← hf.2.2.1];have:=Nat.mod_lt n (show 0 < baseN bs n by omega);omega);have i1:=ih _ hd.2.1 hd.1;have p1:=two_le hq;have p2:=two_le hr
      split
      · simp;omega
      · split
        · simp;omega
        · by_cases h0:n % baseN bs n=0
          · rw [if_pos h0]
            split <;> simp <;> omega
          · have i2:=ih _ hd.2.2.1 (by omega);rw [if_neg h0]
            split <;> simp <;> omega
theorem nameOf_short (t:Tg) (n:Int):(nameOf t n).length≤40:=by
 by_cases ho:okN t n=true
 · have hh:=ho;unfold okN at hh;rw [Bool.and_eq_true,decide_eq_true_eq] at hh;obtain ⟨hok,h1,h2⟩:=hh;obtain ⟨m,rfl⟩:∃ m:Nat,n=m:=⟨n.toNat,by omega⟩;have hs:=ok_shape hok;rw [nameOf_yes ho];have hb:=hs.bs;have hl:=bases_len hb;have h:=name_short t.us t.bs t.ns hb m (by omega)
   have htop:topOf t.bs m≤4:=by
    by_cases ht:topOf t.bs m=0
    · omega
    · have:=(base_facts hb ht).2.2.2.1;omega
   have hp:2 ^ (topOf t.bs m+1)≤2 ^ 5:=Nat.pow_le_pow_right (by omega) (by omega);have h5:(2:Nat) ^ 5=32:=rfl;unfold nameT;omega
 · rw [(nameOf_no (by simpa using ho)).1];simp
end
section
open Go.RowKit
theorem bv_cases (t:Tg) (x:ByteArray):(baseB t x=true∧1≤bv t x∧baseV t x=bv t x)∨(baseB t x=false∧bv t x=0):=by
 cases h:baseB t x
 · exact .inr ⟨rfl,by unfold bv;rw [h];rfl⟩
 · have hv:baseV t x=(place t.ns x:Int)+1:=by unfold baseV;rw [h,if_pos rfl]
   refine .inl ⟨rfl,?_,?_⟩ <;> unfold bv <;> rw [h,if_pos rfl,hv] <;> omega
theorem bv_le {t:Tg} {x:ByteArray} (hok:t.ok=true):bv t x < t.bs.length:=by
 have hns:=(ok_shape hok).ns;rcases bv_cases t x with ⟨h,-,hv⟩ | ⟨-,h⟩
 · have hb:=h;unfold baseB at hb;rw [Bool.and_eq_true,decide_eq_true_eq] at hb;have:baseV t x=(place t.ns x:Int)+1:=by unfold baseV;rw [h,if_pos rfl]
   omega
 · omega
theorem scan_le {t:Tg} (hok:t.ok=true) (l:List ByteArray):∀ k,(scanTo t l k).1 < t.bs.length:=by
 have hb:=bases_len (ok_shape hok).bs;intro k
 induction k with
 | zero=>show 0 < _;omega
 | succ k ih =>
  rw [scanTo]
  split
  · exact bv_le hok
  · exact ih
theorem valV_bd {t:Tg} (hok:t.ok=true):∀ l:List ByteArray,-1≤valV t l∧valV t l≤1000000:=by
 intro l;have hs:=ok_shape hok;have hu:=hs.us
 by_cases hl:l=[]
 · rw [hl,valV_nil];omega
 · by_cases h:(scanTo t l l.length).1=0
   · rw [valV_unit hl h]
     split
     · rename_i hb
       have hp:=hb.1;unfold unitB at hp;rw [Bool.and_eq_true,decide_eq_true_eq] at hp;unfold unitV;rw [if_pos hb.1];omega
     · omega
   · have hp:=bases_pos hs.bs _ (scan_le hok l l.length);rw [valV_top hl (top:=(scanTo t l l.length).1) (p:=(scanTo t l l.length).2) rfl h rfl rfl];generalize (if 0 < (scanTo t l l.length).2 then valV t (l.take (scanTo t l l.length).2) else 1)=mm;generalize valV t (l.drop ((scanTo t l l.length).2+1))=rr;generalize t.bs.getD (scanTo t l l.length).1 0=bb at *
     split
     · omega
     · have:=Int.mul_nonneg (show 0≤mm by omega) (show (0:Int)≤bb by omega);omega
def okL (t:Tg) (l:List ByteArray):Bool:=t.ok&&decide (1≤l.length∧l.length≤40)
def readB (t:Tg) (l:List ByteArray):Bool:=okL t l&&namedB t (valV t l)&&decide (nameOf t (valV t l)=l)
def readV (t:Tg) (l:List ByteArray):Int:=if readB t l then valV t l else -1
theorem read_no {t:Tg} {l:List ByteArray} (h:readB t l=false):readV t l=-1:=by unfold readV;rw [h];rfl
theorem read_yes {t:Tg} {l:List ByteArray} (h:readB t l=true):t.ok=true∧namedB t (readV t l)=true∧nameOf t (readV t l)=l∧1≤l.length∧l.length≤40:=by
 have e:readV t l=valV t l:=by unfold readV;rw [h,if_pos rfl]
 rw [e];unfold readB okL at h;rw [Bool.and_eq_true,Bool.and_eq_true,Bool.and_eq_true,decide_eq_true_eq,decide_eq_true_eq] at h;exact ⟨h.1.1.1,h.1.2,h.2,h.1.1.2.1,h.1.1.2.2⟩
theorem read_name {t:Tg} {n:Int} (h:namedB t n=true) (h40:(nameOf t n).length≤40):readB t (nameOf t n)=true∧readV t (nameOf t n)=n:=by
 obtain ⟨hok,h1,h2⟩:=named_ok h;obtain ⟨m,rfl⟩:∃ m:Nat,n=m:=⟨n.toNat,by omega⟩;obtain ⟨ho,hne⟩:=named_ne h;have e:nameOf t m=nameT t m:=nameOf_yes ho;have hv:=val_name hok m (by omega) (by omega) hne;have hl:(nameT t m).length≠0:=fun e=>hne (List.eq_nil_of_length_eq_zero e)
 rw [← e] at hv
 have hb:readB t (nameOf t m)=true:=by
  unfold readB okL;rw [hv,h,hok,decide_eq_true (show 1≤(nameOf t m).length∧(nameOf t m).length≤40 from ⟨by rw [e];omega,h40⟩),decide_eq_true rfl];rfl
 exact ⟨hb,by unfold readV;rw [hb,if_pos rfl,hv]⟩
theorem readV_bd (t:Tg) (l:List ByteArray):-1≤readV t l∧readV t l≤99999:=by
 cases h:readB t l
 · rw [read_no h];omega
 · have:=(named_ok (read_yes h).2.1).2;omega
end
section
open Go.RowKit
theorem toStringS_any (A:Option Addr) (n c:Nat) (xs:List ByteArray) (w:World) (h:Strs w A n c xs) (hn:n≤1048576) :
 Calls Tryz.prog 34 #[.slice A n c] w fun e w'=>e=.returned (.slice (some ⟨w.heap.size,0,none⟩) n n)∧w'.ownsRow w.heap.size 9 1 (.slice (some ⟨w.heap.size,0,none⟩) n n) n (xs.map Value.string)∧Below w.heap.size w w':=by
 obtain ⟨i0,hi,hz0,hz1,hz2⟩:=info_parts str_info;obtain ⟨rfl,hcap,h⟩:=h;have hmk:=fun W=>run_make_rowN (P:=Tryz.prog) 28 9 i0 _ Tryz.underlying28 hi hz0 .i64 .i64 xs.length xs.length (Nat.le_refl _) (by rw [hz2];omega) (by omega) W
 rw [hz1] at hmk;go_enter Tryz.func34,Tryz.ntmps34;go_wp2
 go_loopw [4] (fun i wr=>∃ (k:Nat) (cs:Array Value),k≤xs.length∧i=.int .i64 k∧cs.size=xs.length∧(∀ j,j < k→cs[j]?=some (.string (xs.getD j ByteArray.empty)))∧Blk wr w.heap.size 9 cs∧Below w.heap.size w wr) (fun i _=>xs.length - (intOf i).toNat)
 case atStart=>exact ⟨0,_,Nat.zero_le _,rfl,size_madeCells _ _,fun j hj=>absurd hj (by omega),Blk.new _ _ _,(Below.refl _ _).alloc (Nat.le_refl _) _⟩
 case round =>
  obtain ⟨k,cs,hk,rfl,hcs,hj,hb,hB⟩:=hrel
  by_cases hlt:k < xs.length
  · obtain ⟨b,o,rfl,hbo,h⟩:=h (by omega);have c1:=(hB.cell (p:=⟨b,o+k,none⟩) hbo).trans (h k hlt);have c2:=hb.cell k;have f2:=hb.frozen k;rw [Array.getElem?_eq_getElem (by omega)] at c2;have HB:=hb.set_ k (.string (xs.getD k ByteArray.empty))
    have HJ:∀ j,j < k+1→(cs.setIfInBounds k (.string (xs.getD k ByteArray.empty)))[j]?=some (.string (xs.getD j ByteArray.empty)):=by
     intro j hjk;rw [Array.getElem?_setIfInBounds]
     by_cases he:k=j
     · subst he;simp [show k < cs.size by omega]
     · rw [if_neg he];exact hj j (by omega)
    have HBel:=hB.setCell (p:=⟨w.heap.size,k,none⟩) (Nat.le_refl _) (.string (xs.getD k ByteArray.empty));generalize xs.getD k ByteArray.empty=x at *;replace HB:=Lib.hid HB;replace HJ:=Lib.hid HJ;replace HBel:=Lib.hid HBel;clear h hj hb hmk;go_wp2
    go_roundw
    case rel=>exact ⟨k+1,_,by omega,by go_num,by simpa using hcs,HJ.out,HB.out,HBel.out⟩
    case measure=>simp [intOf];omega
  · obtain rfl:k=xs.length:=by omega
    have hcs2:cs=(xs.map Value.string).toArray:=by
     apply Array.ext_getElem?;intro i
     by_cases hi:i < xs.length
     · rw [hj i hi];simp [hi]
     · rw [Array.getElem?_eq_none (by omega),Array.getElem?_eq_none (by simp;omega)]
    subst hcs2;have HO:=Lib.hid (owns_blk (B:=w.heap.size) (n:=xs.length) hb (by simp) (Nat.le_refl _) (by unfold maxLen;omega));replace hB:=Lib.hid hB;clear h hj hb hmk;go_wp2;go_ret;exact ⟨rfl,HO.out,hB.out⟩
theorem takeS_go {k:Nat} (xs ys:List ByteArray) (hk:k < xs.length) (hl:xs.length=ys.length) (h:xs.take k=ys.take k):xs.getD k ByteArray.empty=ys.getD k ByteArray.empty→xs.take (k+1)=ys.take (k+1):=by
 intro he;rw [List.take_succ_eq_append_getElem hk,List.take_succ_eq_append_getElem (by omega:k < ys.length),h];simp only [List.getD_eq_getElem?_getD,List.getElem?_eq_getElem hk,List.getElem?_eq_getElem (by omega:k < ys.length),Option.getD_some] at he;rw [he]
theorem takeS_end {k:Nat} (xs ys:List ByteArray) (hk:xs.length≤k) (hl:xs.length=ys.length) (h:xs.take k=ys.take k):xs=ys:=by
 rwa [List.take_of_length_le hk,List.take_of_length_le (by omega)] at h
set_option maxHeartbeats 1000000 in
theorem eqStringS_any (A A':Option Addr) (n c n' c':Nat) (xs ys:List ByteArray) (w:World) (h:Strs w A n c xs) (h':Strs w A' n' c' ys) (hn:n≤2097152) (hn':n'≤2097152) :
 Calls Tryz.prog 35 #[.slice A n c,.slice A' n' c'] w fun e w'=>e=.returned (.bool (decide (xs=ys)))∧∃ m,w'=w.drewN m:=by
 obtain ⟨rfl,hcap,h⟩:=h;obtain ⟨rfl,hcap',h'⟩:=h'
 by_cases hl:xs.length=ys.length
 · rw [← hl] at h' hcap' ⊢;replace hl:=Lib.hid hl;have heq:((xs.length:Int) != xs.length)=false:=by simp
   go_enter Tryz.func35,Tryz.ntmps35;go_wp2
   go_loopw [5] (fun i wr=>∃ k m:Nat,k≤xs.length∧i=.int .i64 k∧xs.take k=ys.take k∧wr=w.drewN m) (fun i _=>xs.length - (intOf i).toNat)
   case atStart=>exact ⟨0,0,Nat.zero_le _,rfl,by simp,rfl⟩
   case round =>
    obtain ⟨k,m,hk,rfl,hu,rfl⟩:=hrel
    by_cases hlt:k < xs.length
    · obtain ⟨b,o,rfl,_,h⟩:=h (by omega);obtain ⟨b',o',rfl,_,h'⟩:=h' (by omega);have c1:=h k hlt;have c2:=h' k hlt;have HU:=takeS_go (k:=k) xs ys hlt hl.out hu;have HN:¬ xs.getD k ByteArray.empty=ys.getD k ByteArray.empty→¬ xs=ys:=fun hn he=>hn (by rw [he])
      generalize xs.getD k ByteArray.empty=x1 at *;generalize ys.getD k ByteArray.empty=x2 at *;replace HU:=Lib.hid HU;replace HN:=Lib.hid HN;clear h h' hu
      by_cases hx:x1=x2
      · have hx1:(x1.toList==x2.toList)=true:=by rw [str_eq];exact decide_eq_true hx
        have hx2:(x1.toList != x2.toList)=false:=by rw [bne,hx1];rfl
        replace hx:=Lib.hid hx;go_wp2
        go_quiet (fail)
        go_wp2
        go_roundw
        case rel=>exact ⟨k+1,m+nq,by omega,by go_num,HU.out hx.out,by simp⟩
        case measure=>simp [intOf];omega
      · have hx1:(x1.toList==x2.toList)=false:=by rw [str_eq];exact decide_eq_false hx
        have hx2:(x1.toList != x2.toList)=true:=by rw [bne,hx1];rfl
        go_wp2
        go_quiet (fail)
        go_wp2;go_ret;exact ⟨ret_bool (by rw [decide_eq_false (HN.out hx)]),m+nq,by simp⟩
    · have HE:=Lib.hid (takeS_end xs ys (by omega) hl.out hu);clear h h' hu;go_wp2;go_ret;exact ⟨ret_bool (by rw [decide_eq_true HE.out]),m,rfl⟩
 · have hne:xs≠ys:=fun e=>hl (by rw [e])
   have HN:=Lib.hid hne;have hneq:((xs.length:Int) != ys.length)=true:=by rw [bne_iff_ne];omega
   clear hne;go_enter Tryz.func35,Tryz.ntmps35;go_wp2;go_ret;exact ⟨ret_bool (by rw [decide_eq_false HN.out]),0,rfl⟩
def Left (left:Int) (n:Nat) (xs:List ByteArray) (r:Int):Prop:=r=-1∨(0≤r∧r≤left∧n≤left∧∀ x ∈ xs,(x.size:Int)≤left)
def RetLeft (left:Int) (n:Nat) (xs:List ByteArray) (w:World) (e:Ending) (w':World):Prop:=∃ r,e=.returned (.int .i64 r)∧Left left n xs r∧w=w'
set_option maxHeartbeats 1000000 in
theorem szStringS_any (A:Option Addr) (n c:Nat) (xs:List ByteArray) (left:Int) (w:World) (h:Strs w A n c xs) (hc:c≤maxLen) (hs:∀ x ∈ xs,x.size≤maxLen) (h0:0≤left) (h1:left≤1048576) :
 Calls Tryz.prog 33 #[.slice A n c,.int .i64 left] w (RetLeft left n xs w):=by
 unfold maxLen at hc;obtain ⟨rfl,hcap,h⟩:=h
 have hsz:∀ k,(xs.getD k ByteArray.empty).size≤9223372036854775807:=fun k=>by
  by_cases hk:k < xs.length
  · have:=hs _ (List.getElem_mem hk);simp only [List.getD_eq_getElem?_getD,List.getElem?_eq_getElem hk,Option.getD_some];unfold maxLen at this;omega
  · rw [List.getD,List.getElem?_eq_none (by omega)];exact Nat.zero_le _
 replace hsz:=Lib.hid hsz;clear hs
 by_cases hl:(xs.length:Int)≤left
 · go_enter Tryz.func33,Tryz.ntmps33;go_wp2
   go_loop [1,5] (fun s1 i=>∃ (k:Nat) (r:Int),k≤xs.length∧i=.int .i64 k∧s1=.int .i64 r∧0≤r∧r≤left∧(∀ j,j < k→((xs.getD j ByteArray.empty).size:Int)≤left)) (fun _ i=>xs.length - (intOf i).toNat)
   case atStart=>exact ⟨0,left - xs.length,Nat.zero_le _,rfl,rfl,by omega,by omega,fun j hj=>absurd hj (by omega)⟩
   case round =>
    obtain ⟨k,r,hk,rfl,rfl,hr0,hr1,hj⟩:=hrel
    by_cases hlt:k < xs.length
    · obtain ⟨b,o,rfl,hbo,hc⟩:=h (by omega);have ck:=hc k hlt;have hz:=hsz.out k
      have HJ:((xs.getD k ByteArray.empty).size:Int)≤left→∀ j,j < k+1→((xs.getD j ByteArray.empty).size:Int)≤left:=fun hx j hjk=>by
       by_cases e:j=k
       · subst e;exact hx
       · exact hj j (by omega)
      generalize xs.getD k ByteArray.empty=x at *;replace HJ:=Lib.hid HJ;clear hc hj h
      by_cases hx:(x.size:Int)≤r
      · go_wp2
        go_round
        case rel=>exact ⟨k+1,r - x.size,by omega,by go_num,rfl,by omega,by omega,HJ.out (by omega)⟩
        case measure=>simp [intOf];omega
      · go_wp2;go_ret;exact ⟨-1,rfl,.inl rfl,rfl⟩
    · obtain rfl:k=xs.length:=by omega
      have HL:Left left xs.length xs r:=.inr ⟨hr0,hr1,hl,fun x hx=>by
       obtain ⟨j,hjl,rfl⟩:=List.mem_iff_getElem.1 hx;have:=hj j hjl
       simpa [List.getD_eq_getElem?_getD,hjl] using this⟩
      replace HL:=Lib.hid HL;clear hj h;go_wp2;go_ret;exact ⟨r,rfl,HL.out,rfl⟩
 · go_enter Tryz.func33,Tryz.ntmps33;go_wp2;go_ret;exact ⟨-1,rfl,.inl rfl,rfl⟩
theorem szIntS_any (A:Option Addr) (n c:Nat) (left:Int) (w:World) (hn:n≤9223372036854775807) (h0:0≤left) (h1:left≤1048576) :
 Calls Tryz.prog 77 #[.slice A n c,.int .i64 left] w (RetLeft left n [] w):=by
 by_cases hl:(n:Int)≤left
 · go_enter Tryz.func77,Tryz.ntmps77;go_wp2;go_ret;exact ⟨left - n,rfl,.inr ⟨by omega,by omega,hl,by simp⟩,rfl⟩
 · go_enter Tryz.func77,Tryz.ntmps77;go_wp2;go_ret;exact ⟨-1,rfl,.inl rfl,rfl⟩
end
section
open Go.RowKit
theorem empty_list (x:ByteArray):x.toList.isEmpty=decide (x=⟨#[]⟩):=by
 by_cases e:x=⟨#[]⟩
 · subst e;simp [ByteArray.toList_eq]
 · have:¬ x.data.toList=[]:=fun h=>e (ByteArray.ext (Array.toList_inj.1 (by rw [h])))
   simp [e,ByteArray.toList_eq] at this ⊢
   exact this
end
section
open Go.RowKit Go.Sort
set_option maxRecDepth 100000 in
set_option maxHeartbeats 8000000 in
theorem specValue_any {t:Tg} (hok:t.ok=true) (hf:t.Fine):∀ (n:Nat) (l:List ByteArray),l.length=n→n≤1000→(∀ x ∈ l,x.size≤maxLen)→∀ (v:Value) (A:Option Addr) (c:Nat) (w:World),Tng w v t→Strs w A n c l →
 Calls Tryz.prog 147 #[v,.slice A n c] w fun e w'=>e=.returned (.int .i64 (valV t l))∧Below w.heap.size w w':=by
 intro n
 induction n using Nat.strongRecOn with
 | _ n ih =>
  intro l hln hn1 hsz v A c w h hl;have hs:=ok_shape hok;have hbl:=bases_len hs.bs;have hpos:=bases_pos hs.bs;obtain ⟨A1,c1,A2,c2,A3,c3,rfl,-⟩:=h.ex;have hB:=(Below.refl w.heap.size w).alloc (Nat.le_refl _) (.cells #[.slice A1 t.us.length c1,.slice A2 t.bs.length c2,.slice A3 t.ns.length c3] 31);have HX:=Blk.new w 31 #[.slice A1 t.us.length c1,.slice A2 t.bs.length c2,.slice A3 t.ns.length c3];have HT:=h.below hB (Nat.le_refl _);have HL:=hl.below hB (Nat.le_refl _);have hcap:=hl.le;have IH:=Lib.hid ih;replace hB:=Lib.hid hB;replace HX:=Lib.hid HX;replace HT:=Lib.hid HT;replace HL:=Lib.hid HL;replace hpos:=Lib.hid hpos;replace hsz:=Lib.hid hsz;clear ih h hl hs
  by_cases h0:n=0
  · subst h0;have hv:valV t l=0:=by rw [List.eq_nil_of_length_eq_zero hln,valV_nil]
    replace hv:=Lib.hid hv;go_enter Tryz.func147,Tryz.ntmps147;go_wp2;go_ret;exact ⟨ret_int hv.out.symm,hB.out⟩
  · have hne:l≠[]:=fun e=>h0 (by rw [← hln,e];rfl)
    have hn0:((n:Int)==0)=false:=by rw [beq_eq_false_iff_ne];omega
    have hscl:=Lib.hid (scan_le hok l);have hsca:=Lib.hid (scanTo_at t l);replace hne:=Lib.hid hne;replace hln:=Lib.hid hln;go_enter Tryz.func147,Tryz.ntmps147;go_upto_region 1 with (fail)
    generalize w.alloc (.cells #[.slice A1 t.us.length c1,.slice A2 t.bs.length c2,.slice A3 t.ns.length c3] 31)=W at *;obtain ⟨b,o,rfl,hbl2,hc⟩:=HL.out.at_ (by omega);replace hc:=Lib.hid hc;go_wp2
    go_loopw [5,6,7] (fun s5 s6 s7 wr=>∃ k:Nat,k≤n∧s7=.int .i64 k∧s5=.int .i64 (scanTo t l k).1∧((scanTo t l k).1≠0→s6=.int .i64 (scanTo t l k).2)∧(∃ z:Int,s6=.int .i64 z)∧Below W.heap.size W wr) (fun _ _ s7 _=>n - (intOf s7).toNat)
    case atStart=>exact ⟨0,Nat.zero_le _,rfl,rfl,fun h=>absurd rfl h,⟨-1,rfl⟩,Below.refl _ _⟩
    case round =>
     obtain ⟨k,hk,rfl,rfl,h6,⟨z,rfl⟩,bw⟩:=hrel;have HXr:=HX.out.below bw HX.out.lt;have HTr:=HT.out.below bw (Nat.le_refl _);obtain ⟨x0,x1,x2,-,-,-⟩:=blk3 HXr;have hst:=hscl.out k
     by_cases hlt:k < n
     · have ck:=(bw.cell (p:=⟨b,o+k,none⟩) hbl2).trans (hc.out k hlt);have HS:scanTo t l (k+1)=if (scanTo t l k).1 < bv t (l.getD k ByteArray.empty) then (bv t (l.getD k ByteArray.empty),k) else scanTo t l k:=rfl
       have hbc:=bv_cases t (l.getD k ByteArray.empty);have hbv:bv t (l.getD k ByteArray.empty) < t.bs.length:=bv_le hok;have KB:=fun d os=>specBaseOf_any _ t (l.getD k ByteArray.empty) (grow (redrawn wr d) os) (HTr.below (below_regrown wr d os) (Nat.le_refl _)) hf
       generalize l.getD k ByteArray.empty=x at *;generalize bv t x=y at *;generalize hsk:scanTo t l k=sk at *;obtain ⟨top,at_⟩:=sk;have y0:=fun d os=>cell_regrown x0 d os
       have y1:=fun d os=>cell_regrown x1 d os
       have y2:=fun d os=>cell_regrown x2 d os
       have u1:=fun d os=>cell_regrown ck d os
       replace bw:=Lib.hid bw;replace hsk:=Lib.hid hsk;clear HXr HTr ck;rcases hbc with ⟨hb1,hb2,hb3⟩ | ⟨hb1,hb2⟩
       · rw [hb1,hb3] at KB;replace KB:=Lib.hid KB;replace hb1:=Lib.hid hb1;replace hb3:=Lib.hid hb3;go_upto_region 8 with (fail)
         refine wp_region_quiet_below (by kernel_rfl) (by kernel_rfl) ?_
         repeat (go_big_quiet_step (first | (go_at_call 119;exact Calls.regrown_of (KB.out _ _))))
         refine wpQuiet_nil ?_;intro _ hw';obtain ⟨pq,hw''⟩:=hw';have bq:=below_regrown wr pq.d pq.os;subst hw'';clear y0 y1 y2 x0 x1 x2 u1;have HBq:=Lib.hid (bw.out.trans (bq.mono bw.out.size));clear bq
         by_cases hlt2:top < y
         · have hlt3:(top:Int) < (y:Int):=by omega
           rw [if_pos hlt2] at HS;replace HS:=Lib.hid HS;replace h6:=Lib.hid h6;go_wp2
           go_roundw
           case rel=>exact ⟨k+1,by omega,by go_num,by rw [HS.out],fun _=>by rw [HS.out],⟨_,rfl⟩,HBq.out⟩
           case measure=>simp [intOf];omega
         · have hlt3:¬ (top:Int) < (y:Int):=by omega
           rw [if_neg hlt2] at HS;replace HS:=Lib.hid HS;replace h6:=Lib.hid h6;go_wp2
           go_roundw
           case rel=>exact ⟨k+1,by omega,by go_num,by rw [HS.out],by rw [HS.out];exact h6.out,⟨_,rfl⟩,HBq.out⟩
           case measure=>simp [intOf];omega
       · rw [hb1] at KB;replace KB:=Lib.hid KB;replace hb1:=Lib.hid hb1;rw [if_neg (by omega)] at HS;replace HS:=Lib.hid HS;replace h6:=Lib.hid h6;generalize baseV t x=bvx at *;go_upto_region 8 with (fail)
         refine wp_region_quiet_below (by kernel_rfl) (by kernel_rfl) ?_
         repeat (go_big_quiet_step (first | (go_at_call 119;exact Calls.regrown_of (KB.out _ _))))
         refine wpQuiet_nil ?_;intro _ hw';obtain ⟨pq,hw''⟩:=hw';have bq:=below_regrown wr pq.d pq.os;subst hw'';clear y0 y1 y2 x0 x1 x2 u1;have HBq:=Lib.hid (bw.out.trans (bq.mono bw.out.size));clear bq;go_wp2
         go_roundw
         case rel=>exact ⟨k+1,by omega,by go_num,by rw [HS.out],by rw [HS.out];exact h6.out,⟨_,rfl⟩,HBq.out⟩
         case measure=>simp [intOf];omega
     · obtain rfl:k=n:=by omega
       have hBr:=Lib.hid (hB.out.trans (bw.mono hB.out.size));have hln':=hln.out;have HLr:=HL.out.below bw (Nat.le_refl _)
       by_cases ht:(scanTo t l k).1=0
       · have hv:=valV_unit hne.out (by rw [hln'];exact ht);rw [hln'] at hv;rw [ht];have ck:=(bw.cell (p:=⟨b,o+0,none⟩) hbl2).trans (hc.out 0 (by omega));simp only [Nat.add_zero] at ck;have KU:=fun d os=>specUnitOf_any _ t (l.getD 0 ByteArray.empty) (grow (redrawn wr d) os) (HTr.below (below_regrown wr d os) (Nat.le_refl _)) hf
         generalize l.getD 0 ByteArray.empty=x at *;have y0:=fun d os=>cell_regrown x0 d os
         have y1:=fun d os=>cell_regrown x1 d os
         have y2:=fun d os=>cell_regrown x2 d os
         have u1:=fun d os=>cell_regrown ck d os
         have hkp:0 < k:=by omega
         have hkp':(0:Int) < (k:Int):=by omega
         replace h6:=Lib.hid h6;replace ht:=Lib.hid ht;replace hln:=Lib.hid hln';clear HXr HTr ck hln' HLr bw;cases hub:unitB t x
         · rw [hub] at KU hv;rw [if_neg (by simp)] at hv;replace KU:=Lib.hid KU;replace hv:=Lib.hid hv;replace hub:=Lib.hid hub;generalize unitV t x=uv at *;go_upto_region 13 with (fail)
           refine wp_region_quiet_below (by kernel_rfl) (by kernel_rfl) ?_
           repeat (go_big_quiet_step (first | (go_at_call 118;exact Calls.regrown_of (KU.out _ _))))
           refine wpQuiet_nil ?_;intro _ hw';obtain ⟨pq,hw''⟩:=hw';have bq:=below_regrown wr pq.d pq.os;subst hw'';clear y0 y1 y2 x0 x1 x2 u1;have HBq:=Lib.hid (hBr.out.trans (bq.mono hBr.out.size));clear bq;go_wp2;go_ret;exact ⟨ret_int hv.out.symm,HBq.out⟩
         · rw [hub] at KU hv;replace KU:=Lib.hid KU;replace hub:=Lib.hid hub
           by_cases h1:k=1
           · have h1':¬ (1:Int) < (k:Int):=by omega
             rw [if_pos ⟨rfl,h1⟩] at hv;replace hv:=Lib.hid hv;generalize unitV t x=uv at *;replace h1:=Lib.hid h1;go_upto_region 13 with (fail)
             refine wp_region_quiet_below (by kernel_rfl) (by kernel_rfl) ?_
             repeat (go_big_quiet_step (first | (go_at_call 118;exact Calls.regrown_of (KU.out _ _))))
             refine wpQuiet_nil ?_;intro _ hw';obtain ⟨pq,hw''⟩:=hw';have bq:=below_regrown wr pq.d pq.os;subst hw'';clear y0 y1 y2 x0 x1 x2 u1;have HBq:=Lib.hid (hBr.out.trans (bq.mono hBr.out.size));clear bq;go_wp2;go_ret;exact ⟨ret_int hv.out.symm,HBq.out⟩
           · have h1':(1:Int) < (k:Int):=by omega
             rw [if_neg (fun h=>h1 h.2)] at hv;replace hv:=Lib.hid hv;generalize unitV t x=uv at *;replace h1:=Lib.hid h1;go_upto_region 13 with (fail)
             refine wp_region_quiet_below (by kernel_rfl) (by kernel_rfl) ?_
             repeat (go_big_quiet_step (first | (go_at_call 118;exact Calls.regrown_of (KU.out _ _))))
             refine wpQuiet_nil ?_;intro _ hw';obtain ⟨pq,hw''⟩:=hw';have bq:=below_regrown wr pq.d pq.os;subst hw'';clear y0 y1 y2 x0 x1 x2 u1;have HBq:=Lib.hid (hBr.out.trans (bq.mono hBr.out.size));clear bq;go_wp2;go_ret;exact ⟨ret_int hv.out.symm,HBq.out⟩
       · have ez:=h6 ht;have hp:=hsca.out k ht;have hvt:=fun many rest (hm:many=if 0 < (scanTo t l k).2 then valV t (l.take (scanTo t l k).2) else 1) (hr:rest=valV t (l.drop ((scanTo t l k).2+1)))=>valV_top (t:=t) (l:=l) (top:=(scanTo t l k).1) (p:=(scanTo t l k).2) hne.out (by rw [hln']) ht hm hr
         have hpx:=hpos.out _ hst;have ht0:(((scanTo t l k).1:Int)==0)=false:=by rw [beq_eq_false_iff_ne];omega
         obtain ⟨_,_,_,_,_,_,ev,-,I2,-⟩:=HTr.ex;cases ev;obtain ⟨b2,o2,rfl,hb2,hc2⟩:=I2.at_ (by omega);have cb:=hc2 _ hst;generalize (scanTo t l k).1=top at *;generalize (scanTo t l k).2=p at *;generalize t.bs.getD top 0=bb at *;cases ez;have hvb:=valV_bd hok;have ItP:0 < p→∀ (W':World),Tng W' (.agg #[.slice A1 t.us.length c1,.slice (some ⟨b2,o2,none⟩) t.bs.length c2,.slice A3 t.ns.length c3]) t→Strs W' (some ⟨b,o,none⟩) k c l→Calls Tryz.prog 147 #[(.agg #[.slice A1 t.us.length c1,.slice (some ⟨b2,o2,none⟩) t.bs.length c2,.slice A3 t.ns.length c3]),.slice (some ⟨b,o,none⟩) p c] W' fun e w'=>e=.returned (.int .i64 (valV t (l.take p)))∧Below W'.heap.size W' w':=fun _ W' h1 h2=>IH.out p hp (l.take p) (by rw [List.length_take];omega) (by omega) (fun x hx=>hsz.out x (List.mem_of_mem_take hx)) _ _ _ W' h1 (h2.take (by omega))
         have hmb:-1≤(if 0 < p then valV t (l.take p) else 1)∧(if 0 < p then valV t (l.take p) else 1)≤1000000:=by
          split
          · exact hvb _
          · omega
         have hrb:=hvb (l.drop (p+1));replace ItP:=Lib.hid ItP;replace hvt:=Lib.hid hvt;replace HLr:=Lib.hid HLr;replace HTr:=Lib.hid HTr;replace HXr:=Lib.hid HXr;replace ht:=Lib.hid ht;replace h6:=Lib.hid h6;replace hvb:=Lib.hid hvb;clear hc2 I2 hln' bw;have hXc:=Lib.hid (fun W' (h:Below wr.heap.size wr W')=>blk3 (HXr.out.below h HXr.out.lt));have hcb:=Lib.hid (fun W' (h:Below wr.heap.size wr W')=>(h.cell (p:=⟨b2,o2+top,none⟩) hb2).trans cb);have pc:(p:Int)≤(c:Int):=by omega
         have pc':p≤c:=by omega
         clear cb
         go_upto_if 59 with (fail)
         go_cut [12] (fun s12 wx=>s12=.int .i64 (if 0 < p then valV t (l.take p) else 1)∧Below wr.heap.size wr wx)
         case first =>
          by_cases h0p:0 < p
          · have h0p':(0:Int) < (p:Int):=by omega
            have KD:=Lib.hid (fun d os=>ItP.out h0p (grow (redrawn wr d) os) (HTr.out.below (below_regrown wr d os) (Nat.le_refl _)) (HLr.out.below (below_regrown wr d os) (Nat.le_refl _)));have y0:=fun d os=>cell_regrown x0 d os
            have y1:=fun d os=>cell_regrown x1 d os
            have y2:=fun d os=>cell_regrown x2 d os
            go_upto_region 19 with (fail)
            refine wp_region_quiet_below (by kernel_rfl) (by kernel_rfl) ?_
            repeat (go_big_quiet_step (first | (go_at_call 147;exact Calls.regrown_of (KD.out _ _))))
            refine wpQuiet_nil ?_;intro _ hw';obtain ⟨pq,hw''⟩:=hw';have bq:=below_regrown wr pq.d pq.os;subst hw'';clear y0 y1 y2 x0 x1 x2;replace bq:=Lib.hid bq;go_wp2
            go_meet
            exact ⟨by rw [if_pos h0p],bq.out⟩
          · have h0p':¬ (0:Int) < (p:Int):=by omega
            go_wp2
            go_meet
            exact ⟨by rw [if_neg h0p],Below.refl _ _⟩
         case rest =>
          obtain ⟨rfl,bx⟩:=hcut;have hvt':=fun rest hr=>hvt.out _ rest rfl hr
          generalize (if 0 < p then valV t (l.take p) else 1)=many at *;have hBx:=Lib.hid (hBr.out.trans (bx.mono hBr.out.size));clear x0 x1 x2;obtain ⟨x0,x1,x2,-,-,-⟩:=hXc.out _ bx;have HTx:=Lib.hid (HTr.out.below bx (Nat.le_refl _));have HLx:=Lib.hid (HLr.out.below bx (Nat.le_refl _));replace bx:=Lib.hid bx;replace hvt':=Lib.hid hvt';have y0:=fun d os=>cell_regrown x0 d os
          have y1:=fun d os=>cell_regrown x1 d os
          have y2:=fun d os=>cell_regrown x2 d os
          have pk:(p:Int)+1≤(k:Int):=by omega
          have pw:IntKind.i64.wrap ((p:Int)+1)=(p:Int)+1:=IntWalk.i64_in _ (by omega);have p0:(0:Int)≤(p:Int)+1:=by omega
          have pn:((p:Int)+1).toNat=p+1:=by omega
          have pk':p+1≤k:=by omega
          by_cases hcp:c=p+1
          · have hd:l.drop (p+1)=[]:=List.drop_eq_nil_of_le (by rw [hln.out];omega);have hkp:k=p+1:=by omega
            have hv2:=hvt'.out;rw [hd] at hv2;replace hvt':=Lib.hid hv2;have hr2:-1≤valV t []∧valV t []≤1000000:=by rw [valV_nil];omega
            have KD:=Lib.hid (fun d os=>IH.out 0 (by omega) [] rfl (by omega) (fun x hx=>by cases hx) _ (some ⟨b,o,none⟩) 0 (grow (redrawn wc d) os) (HTx.out.below (below_regrown wc d os) (Nat.le_refl _)) ⟨rfl,Nat.le_refl _,fun h=>absurd h (by omega)⟩);clear hrb hv2;generalize valV t []=rest at *;replace hd:=Lib.hid hd;replace hln:=Lib.hid hln.out;subst hkp;subst hcp;go_upto_region 20 with (fail)
            refine wp_region_quiet_below (by kernel_rfl) (by kernel_rfl) ?_
            repeat (go_big_quiet_step (first | (go_at_call 147;exact Calls.regrown_of (KD.out _ _))))
            refine wpQuiet_nil ?_;intro _ hw';obtain ⟨pq,hw''⟩:=hw';have bq:=below_regrown wc pq.d pq.os;subst hw'';clear y0 y1 y2 x0 x1 x2;have bqx:=Lib.hid (bx.out.trans (bq.mono bx.out.size));have hBq:=Lib.hid (hBx.out.trans (bq.mono hBx.out.size));clear bq
            by_cases g1:many < 0
            · have hv:=Lib.hid ((hvt'.out _ rfl).trans (if_pos (.inl g1)));go_wp2;go_ret;exact ⟨ret_int hv.out.symm,hBq.out⟩
            · by_cases g2:rest < 0
              · have hv:=Lib.hid ((hvt'.out _ rfl).trans (if_pos (.inr (.inl g2))));go_wp2;go_ret;exact ⟨ret_int hv.out.symm,hBq.out⟩
              · by_cases g3:99999 < many
                · have hv:=Lib.hid ((hvt'.out _ rfl).trans (if_pos (.inr (.inr g3))));go_wp2;go_ret;exact ⟨ret_int hv.out.symm,hBq.out⟩
                · have hv:=Lib.hid ((hvt'.out _ rfl).trans (if_neg (by omega)));have j1:=Int.mul_nonneg (show 0≤many by omega) (show (0:Int)≤bb by omega)
                  have j2:many * bb≤99999 * 999999:=by
                   have a1:=Int.mul_le_mul_of_nonneg_right (show many≤99999 by omega) (show (0:Int)≤bb by omega);have a2:=Int.mul_le_mul_of_nonneg_left hpx.2 (show (0:Int)≤99999 by omega);omega
                  have cbx:=hcb.out _ bqx.out;have hXx:=hXc.out _ bqx.out;obtain ⟨x0,x1,x2,-,-,-⟩:=hXx;go_wp2
                  all_goals
                   go_ret;exact ⟨ret_int (by rw [hv.out];omega),hBq.out⟩
          · have hcp':¬ p+1=c:=fun e=>hcp e.symm
            have KD:=Lib.hid (fun d os=>IH.out (k - (p+1)) (by omega) (l.drop (p+1)) (by rw [List.length_drop,hln.out]) (by omega) (fun x hx=>hsz.out x (List.mem_of_mem_drop hx)) _ (some ⟨b,o+(p+1),none⟩) (c - (p+1)) (grow (redrawn wc d) os) (HTx.out.below (below_regrown wc d os) (Nat.le_refl _)) ((HLx.out.drop (by omega)).below (below_regrown wc d os) (Nat.le_refl _)));generalize valV t (l.drop (p+1))=rest at *;go_upto_region 20 with (fail)
            refine wp_region_quiet_below (by kernel_rfl) (by kernel_rfl) ?_
            repeat (go_big_quiet_step (first | (go_at_call 147;exact Calls.regrown_of (KD.out _ _))))
            refine wpQuiet_nil ?_;intro _ hw';obtain ⟨pq,hw''⟩:=hw';have bq:=below_regrown wc pq.d pq.os;subst hw'';clear y0 y1 y2 x0 x1 x2;have bqx:=Lib.hid (bx.out.trans (bq.mono bx.out.size));have hBq:=Lib.hid (hBx.out.trans (bq.mono hBx.out.size));clear bq
            by_cases g1:many < 0
            · have hv:=Lib.hid ((hvt'.out _ rfl).trans (if_pos (.inl g1)));go_wp2;go_ret;exact ⟨ret_int hv.out.symm,hBq.out⟩
            · by_cases g2:rest < 0
              · have hv:=Lib.hid ((hvt'.out _ rfl).trans (if_pos (.inr (.inl g2))));go_wp2;go_ret;exact ⟨ret_int hv.out.symm,hBq.out⟩
              · by_cases g3:99999 < many
                · have hv:=Lib.hid ((hvt'.out _ rfl).trans (if_pos (.inr (.inr g3))));go_wp2;go_ret;exact ⟨ret_int hv.out.symm,hBq.out⟩
                · have hv:=Lib.hid ((hvt'.out _ rfl).trans (if_neg (by omega)));have j1:=Int.mul_nonneg (show 0≤many by omega) (show (0:Int)≤bb by omega)
                  have j2:many * bb≤99999 * 999999:=by
                   have a1:=Int.mul_le_mul_of_nonneg_right (show many≤99999 by omega) (show (0:Int)≤bb by omega);have a2:=Int.mul_le_mul_of_nonneg_left hpx.2 (show (0:Int)≤99999 by omega);omega
                  have cbx:=hcb.out _ bqx.out;have hXx:=hXc.out _ bqx.out;obtain ⟨x0,x1,x2,-,-,-⟩:=hXx;go_wp2
                  all_goals
                   go_ret;exact ⟨ret_int (by rw [hv.out];omega),hBq.out⟩
end
section
open Go.RowKit
set_option maxRecDepth 100000 in
set_option maxHeartbeats 4000000 in
theorem specReadName_any (v:Value) (t:Tg) (A:Option Addr) (n c:Nat) (l:List ByteArray) (w:World) (h:Tng w v t) (hf:t.Fine) (hl:Strs w A n c l) (hn:n≤2000000) (hsz:∀ x ∈ l,x.size≤maxLen) :
 Calls Tryz.prog 122 #[v,.slice A n c] w fun e w'=>e=.returned (.tuple #[.int .i64 (readV t l),.bool (readB t l)])∧Below w.heap.size w w':=by
 obtain ⟨A1,c1,A2,c2,A3,c3,rfl,-⟩:=h.ex;have hln:=hl.len;have hB:=(Below.refl w.heap.size w).alloc (Nat.le_refl _) (.cells #[.slice A1 t.us.length c1,.slice A2 t.bs.length c2,.slice A3 t.ns.length c3] 31);have HX:=Blk.new w 31 #[.slice A1 t.us.length c1,.slice A2 t.bs.length c2,.slice A3 t.ns.length c3];have HT:=h.below hB (Nat.le_refl _);have HL:=hl.below hB (Nat.le_refl _);have K1:=Lib.hid (specTongueOk_any _ t _ HT hf);replace hB:=Lib.hid hB;replace HX:=Lib.hid HX;replace HT:=Lib.hid HT;replace HL:=Lib.hid HL;replace hsz:=Lib.hid hsz;replace hln:=Lib.hid hln;clear h hl;go_enter Tryz.func122,Tryz.ntmps122;go_upto_region 1 with (fail)
 generalize w.alloc (.cells #[.slice A1 t.us.length c1,.slice A2 t.bs.length c2,.slice A3 t.ns.length c3] 31)=W at *;obtain ⟨x0,x1,x2,-,-,-⟩:=blk3 HX.out;go_wp2_with (fail);refine K1.out.mono ?_;rintro e w1 ⟨rfl,b1⟩;replace hB:=Lib.hid (hB.out.trans (b1.mono hB.out.size));replace HX:=Lib.hid (HX.out.below b1 HX.out.lt);replace HT:=Lib.hid (HT.out.below b1 (Nat.le_refl _));replace HL:=Lib.hid (HL.out.below b1 (Nat.le_refl _));clear b1 x0 x1 x2 K1;obtain ⟨x0,x1,x2,-,-,-⟩:=blk3 HX.out;have HN:okL t l=false→readB t l=false:=fun h=>by unfold readB;rw [h];rfl
 cases hok:t.ok
 · have hno:=HN (by unfold okL;rw [hok];rfl);have hv:=read_no hno;replace hno:=Lib.hid hno;replace hv:=Lib.hid hv;replace hok:=Lib.hid hok;clear HN;go_wp2
   go_ret2
   exact ⟨two_ret hv.out.symm hno.out.symm,hB.out⟩
 · by_cases hd:1≤n∧n≤40
   · have hdb:decide ((1:Int)≤(n:Int)∧(n:Int)≤40)=true:=decide_eq_true (by omega);have hokl:okL t l=true:=by unfold okL;rw [hok,hln.out,decide_eq_true hd];rfl
     have K2:=Lib.hid (specValue_any hok hf n l hln.out (by omega) hsz.out _ A c w1 HT.out HL.out);have hvb:=valV_bd hok l;have HK:=Lib.hid (fun (x:Int) (hx:-1≤x∧x≤1000000) W' (h:Below w1.heap.size w1 W')=>specNameOf_any _ t x W' (HT.out.below h (Nat.le_refl _)) hf (by omega));have HR:readB t l=(namedB t (valV t l)&&decide (nameOf t (valV t l)=l)):=by unfold readB;rw [hokl,Bool.true_and]
     have HV:readB t l=true→readV t l=valV t l:=fun h=>by unfold readV;rw [h,if_pos rfl]
     have hnl:=nameOf_len t (valV t l);have HV0:readB t l=false→readV t l=-1:=read_no;generalize valV t l=vv at *;replace hok:=Lib.hid hok;replace hokl:=Lib.hid hokl;replace HV:=Lib.hid HV;replace HV0:=Lib.hid HV0;replace HR:=Lib.hid HR;clear HN;go_wp2_with (fail);refine (in_any _ _ _ _).mono ?_;rintro e _ ⟨rfl,rfl⟩;rw [hdb];clear hdb;go_wp2_with (fail);refine K2.out.mono ?_;rintro e w2 ⟨rfl,b2⟩;have K3:=Lib.hid (HK.out vv hvb _ b2);replace hB:=Lib.hid (hB.out.trans (b2.mono hB.out.size));replace HX:=Lib.hid (HX.out.below b2 HX.out.lt);replace HL:=Lib.hid (HL.out.below b2 (Nat.le_refl _));clear b2 x0 x1 x2 K2 HK HT;obtain ⟨x0,x1,x2,-,-,-⟩:=blk3 HX.out;go_wp2_with (fail);refine K3.out.mono ?_;rintro e w3 ⟨v3,rfl,o3,b3⟩;obtain ⟨A3',c3',rfl,s3⟩:=o3.strs;replace hB:=Lib.hid (hB.out.trans (b3.mono hB.out.size));replace HL:=Lib.hid (HL.out.below b3 (Nat.le_refl _));replace s3:=Lib.hid s3;clear b3 x0 x1 x2 K3 o3 HX;generalize nameOf t vv=ws at *;generalize hnb:namedB t vv=nb at *;generalize hwl:ws.length=L at *;cases nb
     · have hr:readB t l=false:=by rw [HR.out];rfl
       have hv:=Lib.hid (HV0.out hr);replace hr:=Lib.hid hr;go_wp2
       go_ret2
       exact ⟨two_ret hv.out.symm hr.out.symm,hB.out⟩
     · by_cases hLn:L=n
       · have hbe:((L:Int) != (n:Int))=false:=by rw [bne_eq_false_iff_eq];omega
         obtain ⟨b,o,rfl,-,hc⟩:=HL.out.at_ (by omega);obtain ⟨b',o',rfl,-,hc'⟩:=s3.out.at_ (by omega);have hwl':ws.length=l.length:=by rw [hwl,hln.out,hLn]
         have hwn:ws.length=n:=by omega
         replace hLn:=Lib.hid hLn;replace hwl:=Lib.hid hwl;replace hwl':=Lib.hid hwl';replace hwn:=Lib.hid hwn;replace hc:=Lib.hid hc;replace hc':=Lib.hid hc';go_wp2
         go_loopw [9] (fun i wr=>∃ k m:Nat,k≤n∧i=.int .i64 k∧ws.take k=l.take k∧wr=w3.drewN m) (fun i _=>n - (intOf i).toNat)
         case atStart=>exact ⟨0,0,Nat.zero_le _,rfl,by simp,rfl⟩
         case round =>
          obtain ⟨k,m,hk,rfl,hu,rfl⟩:=hrel
          by_cases hlt:k < n
          · have d1:=hc'.out k (by rw [hLn.out];exact hlt);have d2:=hc.out k hlt;have HU:=takeS_go (k:=k) ws l (by rw [hwn.out];exact hlt) hwl'.out hu;have HNE:¬ ws.getD k ByteArray.empty=l.getD k ByteArray.empty→¬ ws=l:=fun hn he=>hn (by rw [he])
            have hkL:k < L:=by rw [hLn.out];exact hlt
            generalize ws.getD k ByteArray.empty=x at *;generalize l.getD k ByteArray.empty=y at *;replace HU:=Lib.hid HU;replace HNE:=Lib.hid HNE;clear hu
            by_cases hx:x=y
            · have hx1:(x.toList==y.toList)=true:=by rw [str_eq];exact decide_eq_true hx
              have hx2:(x.toList != y.toList)=false:=by rw [bne,hx1];rfl
              replace hx:=Lib.hid hx;go_wp2
              go_quiet (fail)
              go_wp2
              go_roundw
              case rel=>exact ⟨k+1,m+nq,by omega,by go_num,HU.out hx.out,by simp⟩
              case measure=>simp [intOf];omega
            · have hx1:(x.toList==y.toList)=false:=by rw [str_eq];exact decide_eq_false hx
              have hx2:(x.toList != y.toList)=true:=by rw [bne,hx1];rfl
              have hr:readB t l=false:=by rw [HR.out,decide_eq_false (HNE.out hx)];rfl
              have hv:=Lib.hid (HV0.out hr);replace hr:=Lib.hid hr;replace hx:=Lib.hid hx;go_wp2
              go_quiet (fail)
              go_wp2
              go_ret2
              exact ⟨two_ret hv.out.symm hr.out.symm,below_drewN (below_drewN hB.out _) _⟩
          · have he:=takeS_end ws l (by rw [hwn.out];omega) hwl'.out hu;have hr:readB t l=true:=by rw [HR.out,decide_eq_true he];rfl
            have hv:=Lib.hid (HV.out hr);replace hr:=Lib.hid hr;replace he:=Lib.hid he;clear hu;go_wp2
            go_ret2
            exact ⟨two_ret hv.out.symm hr.out.symm,below_drewN hB.out _⟩
       · have hbe:((L:Int) != (n:Int))=true:=by rw [bne_iff_ne];omega
         have hr:readB t l=false:=by rw [HR.out,decide_eq_false (fun e=>hLn (by rw [← hwl,e,hln.out]))];rfl
         have hv:=Lib.hid (HV0.out hr);replace hr:=Lib.hid hr;replace hLn:=Lib.hid hLn;go_wp2
         go_ret2
         exact ⟨two_ret hv.out.symm hr.out.symm,hB.out⟩
   · have hdb:decide ((1:Int)≤(n:Int)∧(n:Int)≤40)=false:=decide_eq_false (by omega);have hno:=HN (by unfold okL;rw [hln.out,decide_eq_false hd,Bool.and_false]);have hv:=read_no hno;replace hno:=Lib.hid hno;replace hv:=Lib.hid hv;replace hok:=Lib.hid hok;replace hd:=Lib.hid hd;clear HN;go_wp2_with (fail);refine (in_any _ _ _ _).mono ?_;rintro e _ ⟨rfl,rfl⟩;rw [hdb];go_wp2
     go_ret2
     exact ⟨two_ret hv.out.symm hno.out.symm,hB.out⟩
end
section
open Go.RowKit
theorem cutTo_size (s:ByteArray):∀ k,∀ x ∈ (cutTo s k).1,x.size≤s.size:=by
 intro k
 induction k with
 | zero=>intro x hx;cases hx
 | succ k ih =>
  intro x hx;rw [cutTo] at hx
  split at hx
  · split at hx
    · rcases List.mem_append.1 hx with h | h
      · exact ih x h
      · have e:x=s.extract (cutTo s k).2 k:=by simpa using h
        rw [e,ByteArray.size_extract];omega
    · exact ih x hx
  · exact ih x hx
theorem cutL_size (s:ByteArray):∀ x ∈ cutL s,x.size≤s.size:=by
 intro x hx;unfold cutL at hx;rcases List.mem_append.1 hx with h | h
 · exact cutTo_size s _ x h
 · have e:x=s.extract (cutTo s s.size).2 s.size:=by simpa using h
   rw [e,ByteArray.size_extract];omega
def readTB (t:Tg) (s:ByteArray):Bool:=readB t (cutL s)&&decide (textOf t (readV t (cutL s))=s)
def readTV (t:Tg) (s:ByteArray):Int:=if readTB t s then readV t (cutL s) else -1
theorem readT_no {t:Tg} {s:ByteArray} (h:readTB t s=false):readTV t s=-1:=by unfold readTV;rw [h];rfl
set_option maxRecDepth 100000 in
set_option maxHeartbeats 4000000 in
theorem specReadText_any (v:Value) (t:Tg) (s:ByteArray) (w:World) (h:Tng w v t) (hf:t.Fine) (hs:s.size≤1048576) :
 Calls Tryz.prog 73 #[v,.string s] w fun e w'=>e=.returned (.tuple #[.int .i64 (readTV t s),.bool (readTB t s)])∧Below w.heap.size w w':=by
 obtain ⟨A1,c1,A2,c2,A3,c3,rfl,-⟩:=h.ex;have hB:=(Below.refl w.heap.size w).alloc (Nat.le_refl _) (.cells #[.slice A1 t.us.length c1,.slice A2 t.bs.length c2,.slice A3 t.ns.length c3] 31);have HX:=Blk.new w 31 #[.slice A1 t.us.length c1,.slice A2 t.bs.length c2,.slice A3 t.ns.length c3];have HT:=h.below hB (Nat.le_refl _);have hcl:=cutL_len s;have hcs:=Lib.hid (show ∀ x ∈ cutL s,x.size≤maxLen from fun x hx=>by have:=cutL_size s x hx;unfold maxLen;omega);replace hB:=Lib.hid hB;replace HX:=Lib.hid HX;replace HT:=Lib.hid HT;clear h;go_enter Tryz.func73,Tryz.ntmps73;go_upto_region 1 with (fail)
 generalize w.alloc (.cells #[.slice A1 t.us.length c1,.slice A2 t.bs.length c2,.slice A3 t.ns.length c3] 31)=W at *;have hXc:=Lib.hid (fun W' (h:Below W.heap.size W W')=>blk3 (HX.out.below h HX.out.lt));have KC:=Lib.hid (fun W'=>specCut_any s W' (by omega));have KR:=Lib.hid (fun A c W' (h:Below W.heap.size W W') hs=>specReadName_any _ t A (cutL s).length c (cutL s) W' (HT.out.below h (Nat.le_refl _)) hf hs (by omega) hcs.out);obtain ⟨x0,x1,x2,-,-,-⟩:=blk3 HX.out
 go_region_held3 (fun w'=>w'.cell? ⟨w.heap.size,0,none⟩=some (.slice A1 t.us.length c1)∧w'.cell? ⟨w.heap.size,1,none⟩=some (.slice A2 t.bs.length c2)∧w'.cell? ⟨w.heap.size,2,none⟩=some (.slice A3 t.ns.length c3))
  (first | go_keep | exact hS2 | exact hS3)
  (first
   | (go_at_call 94;refine (KC.out _).mono ?_;rintro e w2 ⟨v2,rfl,o2,b2'⟩;have b2:Below W.heap.size W w2:=⟨b2'.os,b2'.tape,b2'.output,b2'.size,b2'.block⟩;obtain ⟨A5,c5,rfl,s5⟩:=o2.strs;obtain ⟨x0',x1',x2',-,-,-⟩:=hXc.out _ b2;have hS2:=And.intro x0' (And.intro x1' x2');replace s5:=Lib.hid s5;replace b2:=Lib.hid b2;clear b2' o2)
   | (go_at_call 122;refine (KR.out _ _ _ b2.out s5.out).mono ?_;rintro e w3 ⟨rfl,b3'⟩;have b3:=b2.out.trans (b3'.mono b2.out.size);obtain ⟨x0'',x1'',x2'',-,-,-⟩:=hXc.out _ b3;have hS3:=And.intro x0'' (And.intro x1'' x2'');replace b3:=Lib.hid b3;clear b3'))
 all_goals
  clear hS2 hS3 x0 x1 x2 x0' x1' x2' KC KR s5;have hB3:=Lib.hid (hB.out.trans (b3.out.mono hB.out.size));have HT3:=HT.out.below b3.out (Nat.le_refl _);have hrd:=readV_bd t (cutL s);have HR:readTB t s=(readB t (cutL s)&&decide (textOf t (readV t (cutL s))=s)):=rfl;have HV:readTB t s=true→readTV t s=readV t (cutL s):=fun h=>by unfold readTV;rw [h,if_pos rfl]
  have KT:=Lib.hid (specTextOf_any _ t (readV t (cutL s)) w3 HT3 hf (by omega));replace HV:=Lib.hid HV;replace HR:=Lib.hid HR;generalize readV t (cutL s)=rv at *;generalize readB t (cutL s)=rb at *;generalize textOf t rv=tx at *;clear HT3;cases rb
  · have hr:readTB t s=false:=by rw [HR.out];rfl
    have hv:=Lib.hid (readT_no hr);replace hr:=Lib.hid hr;go_wp2
    go_ret2
    exact ⟨two_ret hv.out.symm hr.out.symm,hB3.out⟩
  · by_cases he:tx=s
    · have hx1:(tx.toList==s.toList)=true:=by rw [str_eq];exact decide_eq_true he
      have hx2:(tx.toList != s.toList)=false:=by rw [bne,hx1];rfl
      have hr:readTB t s=true:=by rw [HR.out,decide_eq_true he];rfl
      have hv:=Lib.hid (HV.out hr);replace hr:=Lib.hid hr;replace he:=Lib.hid he;go_wp2_with (fail);refine KT.out.mono ?_;rintro e w4 ⟨rfl,b4⟩;have hB4:=Lib.hid (hB3.out.trans (b4.mono hB3.out.size));clear b4;go_wp2
      go_ret2
      exact ⟨two_ret hv.out.symm hr.out.symm,hB4.out⟩
    · have hx1:(tx.toList==s.toList)=false:=by rw [str_eq];exact decide_eq_false he
      have hx2:(tx.toList != s.toList)=true:=by rw [bne,hx1];rfl
      have hr:readTB t s=false:=by rw [HR.out,decide_eq_false he];rfl
      have hv:=Lib.hid (readT_no hr);replace hr:=Lib.hid hr;replace he:=Lib.hid he;go_wp2_with (fail);refine KT.out.mono ?_;rintro e w4 ⟨rfl,b4⟩;have hB4:=Lib.hid (hB3.out.trans (b4.mono hB3.out.size));clear b4;go_wp2
      go_ret2
      exact ⟨two_ret hv.out.symm hr.out.symm,hB4.out⟩
end
end Go.Proofs.YtmhgpbfogdoaeaaGreatDoor
