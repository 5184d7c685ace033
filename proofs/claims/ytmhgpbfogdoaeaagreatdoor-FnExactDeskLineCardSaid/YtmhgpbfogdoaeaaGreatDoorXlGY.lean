/-
  GY: C1b WordsI MathU MathV V1 U1 U2 U3 MathA A1 A2 A3 B1.
-/
import Derived.Test.YtmhgpbfogdoaeaaGreatDoorXlGA
import Derived.Test.YtmhgpbfogdoaeaaGreatDoorXlGB
import Derived.Test.YtmhgpbfogdoaeaaGreatDoorXlGN
namespace Go.Proofs.YtmhgpbfogdoaeaaGreatDoor
section
open Go.RowKit
theorem at_succ {w:World} {b o k:Nat} {v:Value} {P:Prop} (h:P→w.cell? ⟨b,o+(k+1),none⟩=some v):P→w.cell? ⟨b,o+1+k,none⟩=some v:=by
 intro p;rw [show o+1+k=o+(k+1) by omega];exact h p
theorem implNestedOk_any (A:Option Addr) (n c:Nat) (xs:List Int) (w:World) (h:Ints w .i64 A n c xs) (hn:n≤1048576) (hwf:Fits xs) :
 Calls Tryz.prog 204 #[.slice A n c] w fun e w'=>e=.returned (.bool (nested xs))∧w=w':=by
 have HB:=Lib.hid (implBasesOk_any A n c xs w h hn hwf);obtain ⟨rfl,hcap,h⟩:=h;cases hb:basesOk xs
 · have HO:=Lib.hid (nested_off hb);go_enter Tryz.func204,Tryz.ntmps204;go_wp2_with (fail);refine HB.out.mono ?_;rintro e _ ⟨rfl,rfl⟩;go_wp2;go_ret;exact ⟨ret_bool HO.out.symm,rfl⟩
 · have hl:=bases_len hb;have hpos:=bases_pos hb;obtain ⟨b,o,rfl,_,h⟩:=h (by omega)
   by_cases hc1:c=1
   · subst hc1;have HO:=Lib.hid (nested_yes (k:=0) hb (by omega) (nestTo_zero xs));clear h hpos;go_enter Tryz.func204,Tryz.ntmps204;go_wp2_with (fail);refine HB.out.mono ?_;rintro e _ ⟨rfl,rfl⟩;go_wp2;refine wp_loop_rounds 1 ?_;rw [rounds_succ];go_wp2;go_ret;exact ⟨ret_bool HO.out.symm,rfl⟩
   · go_enter Tryz.func204,Tryz.ntmps204;go_wp2_with (fail);refine HB.out.mono ?_;rintro e _ ⟨rfl,rfl⟩;go_wp2
     go_loop [11] (fun i=>∃ k:Nat,k+1≤xs.length∧i=.int .i64 k∧nestTo xs k=true) (fun i=>xs.length - (intOf i).toNat)
     case atStart=>exact ⟨0,by omega,rfl,nestTo_zero xs⟩
     case round =>
      obtain ⟨k,hk,rfl,hu⟩:=hrel
      by_cases hlt:k+1 < xs.length
      · have c1:=at_succ (h (k+1)) hlt;have c2:=h k (by omega);have p1:=hpos (k+1) hlt;have p2:=hpos k (by omega);have HU:=nestTo_go hu;have HN:=nested_no hlt;generalize xs.getD (k+1) 0=x1 at *;generalize xs.getD k 0=x2 at *;replace HU:=Lib.hid HU;replace HN:=Lib.hid HN;clear h hpos hu;cases hx:(x1 % x2 != 0)
        · go_wp2
          go_round
          case rel=>exact ⟨k+1,by omega,by go_num,HU.out hx⟩
          case measure=>simp [intOf];omega
        · go_wp2;go_ret;exact ⟨ret_bool (HN.out hx).symm,rfl⟩
      · have HO:=Lib.hid (nested_yes hb (by omega) hu);clear h hpos hu;go_wp2;go_ret;exact ⟨ret_bool HO.out.symm,rfl⟩
theorem specNestedOk_any (A:Option Addr) (n c:Nat) (xs:List Int) (w:World) (h:Ints w .i64 A n c xs) (hn:n≤1048576) (hwf:Fits xs) :
 Calls Tryz.prog 145 #[.slice A n c] w fun e w'=>e=.returned (.bool (nested xs))∧∃ m,w'=w.drewN m:=by
 have HB:=Lib.hid fun m=>specBasesOk_any A n c xs (w.drewN m) (h.drewN m) hn hwf
 obtain ⟨rfl,hcap,h⟩:=h;cases hb:basesOk xs
 · have HO:=Lib.hid (nested_off hb)
   by_cases h1:1 < xs.length
   · go_enter Tryz.func145,Tryz.ntmps145;go_wp2;refine wp_loop_rounds 1 ?_;rw [rounds_succ];go_wp2_with (fail);refine (HB.out 0).mono ?_;rintro e _ ⟨rfl,m,rfl⟩;rw [hb];go_wp2_with (fail);refine (HB.out _).mono ?_;rintro e _ ⟨rfl,m',rfl⟩;go_wp2_with (fail);go_ret;exact ⟨ret_bool (by rw [HO.out]),by first | exact ex1 | exact ex2 | exact ex3⟩
   · go_enter Tryz.func145,Tryz.ntmps145;go_wp2;refine wp_loop_rounds 1 ?_;rw [rounds_succ];go_wp2_with (fail);refine (HB.out 0).mono ?_;rintro e _ ⟨rfl,m,rfl⟩;go_wp2_with (fail);go_ret;exact ⟨ret_bool (by rw [HO.out]),by first | exact ex1 | exact ex2 | exact ex3⟩
 · have hl:=bases_len hb;have hpos:=bases_pos hb;obtain ⟨b,o,rfl,_,h⟩:=h (by omega);go_enter Tryz.func145,Tryz.ntmps145;go_wp2
   go_loopw [3] (fun i wr=>∃ k m:Nat,k+1≤xs.length∧i=.int .i64 ((k+1:Nat):Int)∧nestTo xs k=true∧wr=w.drewN m) (fun i _=>xs.length - (intOf i).toNat)
   case atStart=>exact ⟨0,0,by omega,rfl,nestTo_zero xs,rfl⟩
   case round =>
    obtain ⟨k,m,hk,rfl,hu,rfl⟩:=hrel
    by_cases hlt:k+1 < xs.length
    · have c1:=h (k+1) hlt;have c2:=h k (by omega);have p1:=hpos (k+1) hlt;have p2:=hpos k (by omega);have HU:=nestTo_go hu;have HN:=nested_no hlt;generalize xs.getD (k+1) 0=x1 at *;generalize xs.getD k 0=x2 at *;replace HU:=Lib.hid HU;replace HN:=Lib.hid HN;clear h hpos hu;go_wp2_with (fail);refine (HB.out _).mono ?_;rintro e _ ⟨rfl,m1,rfl⟩;rw [hb];cases hx:(x1 % x2 != 0)
      · go_wp2
        go_quiet (fail)
        go_wp2
        go_roundw
        case rel=>exact ⟨k+1,_,by omega,by go_num,HU.out hx,by first | rfl | exact World.drewN_drewN _ _ _⟩
        case measure=>simp [intOf];omega
      · go_wp2
        go_quiet (fail)
        go_wp2;go_ret;exact ⟨ret_bool (HN.out hx).symm,by first | exact ex1 | exact ex2 | exact ex3⟩
    · have HO:=Lib.hid (nested_yes hb (by omega) hu);clear h hpos hu;go_wp2_with (fail);refine (HB.out _).mono ?_;rintro e _ ⟨rfl,m1,rfl⟩;rw [hb,← HO.out];go_wp2_with (fail);go_ret;exact ⟨rfl,by first | exact ex1 | exact ex2 | exact ex3⟩
end
section
open Go.RowKit Go.WideMaps Go.Maps
set_option maxRecDepth 100000 in
set_option maxHeartbeats 1000000 in
theorem implWordsOf_any (v:Value) (t:Tg) (w:World) (h:Tng w v t) (hf:t.Fine) :
 Calls Tryz.prog 222 #[v] w (RetStrs w (wordsOf t)):=by
 obtain ⟨A1,c1,A2,c2,A3,c3,rfl,h1,h2,h3⟩:=h.ex;have hBel:Below w.heap.size w (w.alloc (.cells #[.slice A1 t.us.length c1,.slice A2 t.bs.length c2,.slice A3 t.ns.length c3] 31)):=(Below.refl _ _).alloc (Nat.le_refl _) _;have hT:=Lib.hid (implTongueOk_any _ t _ (h.below hBel (Nat.le_refl _)) hf);have H1:=Lib.hid h1;have H3:=Lib.hid h3;have HF:=Lib.hid hf;have HX:=(Blk.new w 31 #[.slice A1 t.us.length c1,.slice A2 t.bs.length c2,.slice A3 t.ns.length c3]);have hZ:(w.alloc (.cells #[.slice A1 t.us.length c1,.slice A2 t.bs.length c2,.slice A3 t.ns.length c3] 31)).heap.size=w.heap.size+1:=by simp
 replace HX:=Lib.hid HX;replace hBel:=Lib.hid hBel;replace hZ:=Lib.hid hZ
 have hR1:∀ w',Below w.heap.size w w'→t.ok=false→RetStrs w (wordsOf t) (.returned (.slice none 0 0)) w':=fun w' hb ho =>
  ⟨_,rfl,by unfold wordsOf;rw [ho];exact owns_none _ _ _,hb⟩
 have hR2:∀ v w',w'.ownsRow w.heap.size 9 1 v (t.us.length+t.ns.length) ((t.us++t.ns).map Value.string)→Below w.heap.size w w'→t.ok=true→RetStrs w (wordsOf t) (.returned v) w':=fun v w' ho hb hk =>
  ⟨_,rfl,by unfold wordsOf OwnStrs;rw [hk,if_pos rfl,words_length];exact ho,hb⟩
 replace hR1:=Lib.hid hR1;replace hR2:=Lib.hid hR2;clear h h1 h2 h3 hf;go_enter Tryz.func222,Tryz.ntmps222;go_wp2_with (fail);refine hT.out.mono ?_;rintro e w1 ⟨rfl,hb1⟩;clear hT;have hB1:=hBel.out.trans (hb1.mono (by rw [hZ.out];omega));have hX1:=HX.out.below hb1 (by rw [hZ.out];omega);have hz1:w.heap.size < w1.heap.size:=by have:=hb1.size;rw [hZ.out] at this;omega
 clear hb1 HX hBel hZ;cases hok:t.ok
 · have HR:=Lib.hid (hR1.out w1 hB1 hok);clear hB1 hX1 hR1 hR2;go_wp2;go_ret;exact HR.out
 · replace hR2:=Lib.hid (fun v w' a b=>hR2.out v w' a b hok);have x0:w1.cell? ⟨w.heap.size,0,none⟩=some (.slice A1 t.us.length c1):=hX1.cell 0;have x2:w1.cell? ⟨w.heap.size,2,none⟩=some (.slice A3 t.ns.length c3):=hX1.cell 2;clear hX1;replace hB1:=Lib.hid hB1;go_wp2_with (fail);have hW2:Below w.heap.size w (w1.alloc (.cells #[.slice A1 t.us.length c1,.slice A3 t.ns.length c3] 28)):=hB1.out.alloc (by omega) _;have hC:=concat_any A1 A3 w1.heap.size _ c1 _ c3 t.us t.ns (w1.alloc (.cells #[.slice A1 t.us.length c1,.slice A3 t.ns.length c3] 28)) (by simp) (by go_simp) (by go_simp) (H1.out.below hW2 (Nat.le_refl _)) (H3.out.below hW2 (Nat.le_refl _)) HF.out.us HF.out.ns;refine hC.mono ?_;rintro e w2 ⟨v2,rfl,ho2,hb2⟩;have HR:=Lib.hid (hR2.out v2 w2 (own_mono ho2 (by simp;omega)) (hW2.trans (hb2.mono (by simp;omega))));clear hC x0 x2 hW2 ho2 hb2 hB1 hR1 hR2;go_wp2;go_ret;exact HR.out
end
section
open Go.RowKit
def bN (t:Tg) (k:Nat):Nat:=(t.bs.getD k 0).toNat
def modT (t:Tg):Nat:=if 3≤t.bs.length then bN t 2 else 1000000
def lowU (t:Tg) (n:Nat):Nat:=n % bN t 1
def tensU (t:Tg) (n:Nat):Nat:=n % modT t
def isT (t:Tg) (n:Nat):Prop:=lowU t n≠0∧tensU t n≠lowU t n
instance (t:Tg) (n:Nat):Decidable (isT t n):=inferInstanceAs (Decidable (_∧_))
def frontU (t:Tg) (n:Nat):List ByteArray:=if tensU t n < n then nameT t (n - tensU t n) else []
def metU (t:Tg) (n:Nat):List ByteArray:=nameT t (tensU t n - lowU t n)
def unitU (t:Tg) (n:Nat):ByteArray:=t.us.getD (lowU t n - 1) ByteArray.empty
def noT (t:Tg) (n:Nat):Prop:=(tensU t n < n∧nameT t (n - tensU t n)=[])∨metU t n=[]
instance (t:Tg) (n:Nat):Decidable (noT t n):=inferInstanceAs (Decidable (_∨_))
def turnT (t:Tg) (x:ByteArray) (n:Nat):List ByteArray:=if isT t n then (if noT t n then [] else frontU t n++[unitU t n,x]++metU t n) else nameT t n
section
variable {t : Tg}
theorem bN_int (hb:basesOk t.bs=true) {k:Nat} (hk:k < t.bs.length):(bN t k:Int)=t.bs.getD k 0∧1≤bN t k:=by
 have:=bases_pos hb k hk;unfold bN;omega
theorem bN_dvd (hn : nested t.bs = true) {j k : Nat} (hjk : j ≤ k) (hk : k < t.bs.length) : bN t j ∣ bN t k := by
  have hb : basesOk t.bs = true := by simp only [nested, Bool.and_eq_true] at hn; exact hn.1
  have hne : nestTo t.bs (t.bs.length - 1) = true := by simp only [nested, Bool.and_eq_true] at hn; exact hn.2
  induction k with
  | zero => obtain rfl : j = 0 := by omega
            exact Nat.dvd_refl _
  | succ k ih =>
    by_cases e : j = k + 1
    · subst e; exact Nat.dvd_refl _
    · refine Nat.dvd_trans (ih (by omega) (by omega)) ?_
      have h := nestTo_at hne (j := k) (by omega)
      have h1 := bN_int hb (k := k) (by omega)
      have h2 := bN_int hb hk
      rw [← h1.1, ← h2.1] at h
      exact Nat.dvd_of_mod_eq_zero (by omega)
theorem b1_us (hok:t.ok=true) (h2:2≤t.bs.length):bN t 1=t.us.length+1:=by
 have hs:=ok_shape hok;have:=hs.two h2;unfold bN;omega
theorem b1_ge (hok:t.ok=true) (h2:2≤t.bs.length):2≤bN t 1:=by
 have hs:=ok_shape hok;have:=hs.us;rw [b1_us hok h2];omega
theorem tens_le (t:Tg) (n:Nat):tensU t n≤n:=Nat.mod_le _ _
theorem tens_low (hn:nested t.bs=true) {n:Nat} (h:n≤999999):tensU t n % bN t 1=lowU t n:=by
 unfold tensU lowU modT
 split
 · exact Nat.mod_mod_of_dvd n (bN_dvd hn (by omega) (by omega))
 · rw [Nat.mod_eq_of_lt (show n < 1000000 by omega)]
theorem low_le (hn:nested t.bs=true) {n:Nat} (h:n≤999999):lowU t n≤tensU t n:=by
 rw [← tens_low hn h];exact Nat.mod_le _ _
theorem low_lt (hok:t.ok=true) (h2:2≤t.bs.length) (n:Nat):lowU t n < bN t 1:=Nat.mod_lt _ (by have:=b1_ge hok h2;omega)
theorem tens_big (_hok:t.ok=true) (_h2:2≤t.bs.length) (hn:nested t.bs=true) {n:Nat} (h:n≤999999) (hi:isT t n):bN t 1+lowU t n≤tensU t n:=by
 have h1:=tens_low hn h;have h3:=low_le hn h;have h4:=Nat.div_add_mod (tensU t n) (bN t 1);rw [h1] at h4;have h5:tensU t n / bN t 1≠0:=fun e=>by rw [e,Nat.mul_zero] at h4;exact hi.2 (by omega)
 have h6:bN t 1 * 1≤bN t 1 * (tensU t n / bN t 1):=Nat.mul_le_mul_left _ (Nat.one_le_iff_ne_zero.2 h5);omega
theorem name_low (hok:t.ok=true) (h2:2≤t.bs.length) {n:Nat} (_h0:lowU t n≠0):nameT t (lowU t n)=[unitU t n]:=by
 have hb:=(ok_shape hok).bs;have h1:=low_lt hok h2 n;have hb1:=b1_us hok h2;have hi:=bN_int hb (k:=1) (by omega)
 have ht:topOf t.bs (lowU t n:Nat)=0:=topOf_zero fun i h1' hi'=>by
  by_cases e:i=1
  · subst e;omega
  · have:=bases_mono hb 1 i (by omega) hi';omega
 rw [nameT,name_unit ht,if_neg (by omega)];rfl
theorem top_one_lt (hb:basesOk t.bs=true) {n:Nat} (ht:topOf t.bs n≤1) (h3:3≤t.bs.length):n < bN t 2:=by
 have h:=topTo_above t.bs n t.bs.length 2 (by show topOf t.bs n < 2;omega) (by omega);have hi:=bN_int hb (k:=2) (by omega);omega
theorem tens_all (hb:basesOk t.bs=true) {n:Nat} (hn:n≤999999) (ht:topOf t.bs n≤1):tensU t n=n:=by
 unfold tensU modT
 split
 · exact Nat.mod_eq_of_lt (top_one_lt hb ht (by omega))
 · exact Nat.mod_eq_of_lt (by omega)
theorem name_turn (hok:t.ok=true) (h2:2≤t.bs.length) (hn:nested t.bs=true):∀ n:Nat,1≤n→n≤99999→isT t n→nameT t n=if noT t n then [] else frontU t n++metU t n++[unitU t n]:=by
 have hb:=(ok_shape hok).bs;have hb1:=b1_us hok h2;have hb1g:=b1_ge hok h2;intro n
 induction n using Nat.strongRecOn with
 | _ n ih =>
  intro hn1 hn2 hi;have hbig:=tens_big hok h2 hn (n:=n) (by omega) hi;have hll:=low_lt hok h2 n;have hnl:=name_low hok h2 hi.1;have hi1:=bN_int hb (k:=1) (by omega);have htl:=tens_le t n
  have ht1:1≤topOf t.bs n:=by
   rcases Nat.lt_or_ge (topOf t.bs n) 1 with h | h
   · have:=topTo_above t.bs n t.bs.length 1 h (by omega);omega
   · exact h
  have ht0:topOf t.bs n≠0:=by omega
  have hf:=base_facts hb ht0;have hd:=div_pos' hf.1 hf.2.1
  by_cases h1:topOf t.bs n=1
  · have htn:=tens_all hb (n:=n) (by omega) (by omega);have hbe:baseN t.bs n=bN t 1:=by unfold baseN bN;rw [h1]
    have hdm:=Nat.div_add_mod n (bN t 1);have hlow:n % bN t 1=lowU t n:=rfl
    have hm0:(n - lowU t n) % bN t 1=0:=by
     have:n - lowU t n=bN t 1 * (n / bN t 1):=by omega
     rw [this,Nat.mul_mod_right]
    have hmq:(n - lowU t n) / bN t 1=n / bN t 1:=by
     have:n - lowU t n=bN t 1 * (n / bN t 1):=by omega
     rw [this,Nat.mul_div_cancel_left _ (by omega)]
    have hmt:topOf t.bs (n - lowU t n:Nat)=1:=topOf_eq (Nat.le_refl _) (by omega) (by omega) (fun i hi1' hl=>by
     have:=topTo_above t.bs n t.bs.length i (by show topOf t.bs n < i;omega) hl;omega)
    have hbm:baseN t.bs (n - lowU t n)=bN t 1:=by unfold baseN bN;rw [hmt]
    have hN:=name_top (us:=t.us) (ns:=t.ns) hb ht0;have hM:=name_top (us:=t.us) (ns:=t.ns) (n:=n - lowU t n) hb (by rw [hmt];omega);rw [hbe,h1,hlow] at hN;rw [hbm,hmt,hmq,hm0] at hM
    have hno:noT t n ↔ nameN t.us t.bs t.ns (n - lowU t n)=[]:=by
     unfold noT metU nameT;rw [htn];exact ⟨fun h=>h.elim (fun h=>absurd h.1 (by omega)) id,fun h=>.inr h⟩
    have hfr:frontU t n=[]:=by unfold frontU;rw [htn,if_neg (by omega)]
    have hme:metU t n=nameN t.us t.bs t.ns (n - lowU t n):=by unfold metU nameT;rw [htn]
    have hnl':nameN t.us t.bs t.ns (lowU t n)=[unitU t n]:=hnl;rw [hnl'] at hN;rw [nameT,hfr,hme,hN]
    by_cases c1:bN t 1≤n / bN t 1
    · rw [if_pos c1] at hM ⊢;rw [if_pos (hno.2 hM)]
    · rw [if_neg c1] at hM ⊢
      by_cases c2:1 < n / bN t 1∧nameN t.us t.bs t.ns (n / bN t 1)=[]
      · rw [if_pos c2] at hM ⊢;rw [if_pos (hno.2 hM)]
      · rw [if_neg c2] at hM ⊢;rw [if_neg (fun h=>h.1 rfl),if_pos (show (0:Nat)=0 from rfl),List.append_nil] at hM;rw [if_neg (show ¬ (lowU t n≠0∧[unitU t n]=[]) from fun h=>by simp at h),if_neg hi.1];rw [if_neg (show ¬ noT t n from fun h=>by have:=hno.1 h;rw [hM] at this;simp at this),hM,List.nil_append]
  · have h3:3≤t.bs.length:=by have:=hf.2.2.2.1;omega
    have hmod:modT t=bN t 2:=by unfold modT;rw [if_pos h3]
    have hbk:baseN t.bs n=bN t (topOf t.bs n):=rfl;have hdv:bN t 2 ∣ baseN t.bs n:=by rw [hbk];exact bN_dvd hn (by omega) hf.2.2.2.1
    have hdv1:bN t 1 ∣ baseN t.bs n:=by rw [hbk];exact bN_dvd hn (by omega) hf.2.2.2.1
    have hdm:=Nat.div_add_mod n (baseN t.bs n);have hrb:n % baseN t.bs n < baseN t.bs n:=Nat.mod_lt _ (by omega);have hrt:tensU t (n % baseN t.bs n)=tensU t n:=by unfold tensU;rw [hmod,Nat.mod_mod_of_dvd n hdv]
    have hrl:lowU t (n % baseN t.bs n)=lowU t n:=by unfold lowU;rw [Nat.mod_mod_of_dvd n hdv1]
    have htr:tensU t n≤n % baseN t.bs n:=by rw [← hrt];exact tens_le t _
    have hir:isT t (n % baseN t.bs n):=by unfold isT;rw [hrt,hrl];exact hi
    have IH:=ih (n % baseN t.bs n) hd.2.2.1 (by omega) (by omega) hir
    have hmb:(n - tensU t n) / baseN t.bs n=n / baseN t.bs n∧(n - tensU t n) % baseN t.bs n=n % baseN t.bs n - tensU t n:=by
     have e:n - tensU t n=(n % baseN t.bs n - tensU t n)+baseN t.bs n * (n / baseN t.bs n):=by omega
     rw [e,Nat.add_mul_div_left _ _ (by omega),Nat.add_mul_mod_self_left,Nat.div_eq_of_lt (by omega),Nat.mod_eq_of_lt (by omega),Nat.zero_add];exact ⟨rfl,rfl⟩
    have hmge:baseN t.bs n≤n - tensU t n:=by
     have:baseN t.bs n * 1≤baseN t.bs n * (n / baseN t.bs n):=Nat.mul_le_mul_left _ hd.1;omega
    have hmt:topOf t.bs (n - tensU t n:Nat)=topOf t.bs n:=topOf_eq ht1 hf.2.2.2.1 (by rw [← hf.2.2.1];omega) (fun i hi1' hl=>by
     have:=topTo_above t.bs n t.bs.length i hi1' hl;omega)
    have hbm:baseN t.bs (n - tensU t n)=baseN t.bs n:=by unfold baseN;rw [hmt]
    have hN:=name_top (us:=t.us) (ns:=t.ns) hb ht0;have hM:=name_top (us:=t.us) (ns:=t.ns) (n:=n - tensU t n) hb (by rw [hmt];exact ht0);rw [hbm,hmt,hmb.1,hmb.2] at hM;have hr0:n % baseN t.bs n≠0:=by omega
    have hno:noT t n ↔ nameN t.us t.bs t.ns (n - tensU t n)=[]∨metU t n=[]:=by
     unfold noT nameT;exact ⟨fun h=>h.elim (fun h=>.inl h.2) .inr,fun h=>h.elim (fun h=>.inl ⟨by omega,h⟩) .inr⟩
    have hfr:frontU t n=nameN t.us t.bs t.ns (n - tensU t n):=by unfold frontU;rw [if_pos (by omega)]
    have hmer:metU t (n % baseN t.bs n)=metU t n:=by unfold metU;rw [hrt,hrl]
    have hunr:unitU t (n % baseN t.bs n)=unitU t n:=by unfold unitU;rw [hrl]
    have hnor:noT t (n % baseN t.bs n) ↔ (tensU t n < n % baseN t.bs n∧nameN t.us t.bs t.ns (n % baseN t.bs n - tensU t n)=[])∨metU t n=[]:=by
     unfold noT;rw [hrt,hmer]
    have hfrr:frontU t (n % baseN t.bs n)=if tensU t n < n % baseN t.bs n then nameN t.us t.bs t.ns (n % baseN t.bs n - tensU t n) else []:=by unfold frontU;rw [hrt]
    rw [hmer,hunr,hfrr] at IH;have IH':nameN t.us t.bs t.ns (n % baseN t.bs n)=_:=IH;rw [nameT,hfr,hN]
    by_cases c1:baseN t.bs n≤n / baseN t.bs n
    · rw [if_pos c1] at hM ⊢;rw [if_pos (hno.2 (.inl hM))]
    · rw [if_neg c1] at hM ⊢
      by_cases c2:1 < n / baseN t.bs n∧nameN t.us t.bs t.ns (n / baseN t.bs n)=[]
      · rw [if_pos c2] at hM ⊢;rw [if_pos (hno.2 (.inl hM))]
      · rw [if_neg c2] at hM ⊢;rw [if_neg hr0]
        by_cases c3:noT t (n % baseN t.bs n)
        · rw [if_pos c3] at IH';rw [if_pos ⟨hr0,IH'⟩];rw [if_pos];rcases hnor.1 c3 with ⟨c4,c5⟩ | c5
          · rw [if_pos ⟨by omega,c5⟩] at hM;exact hno.2 (.inl hM)
          · exact hno.2 (.inr c5)
        · rw [if_neg c3] at IH';have c6:metU t n≠[]:=fun e=>c3 (hnor.2 (.inr e))
          rw [if_neg (show ¬ (n % baseN t.bs n≠0∧nameN t.us t.bs t.ns (n % baseN t.bs n)=[]) from fun h=>by have:=h.2;rw [IH'] at this;simp at this),IH']
          by_cases c4:tensU t n < n % baseN t.bs n
          · have c5:nameN t.us t.bs t.ns (n % baseN t.bs n - tensU t n)≠[]:=fun e=>c3 (hnor.2 (.inl ⟨c4,e⟩))
            rw [if_neg (fun h=>c5 h.2),if_neg (show ¬ n % baseN t.bs n - tensU t n=0 by omega)] at hM;rw [if_pos c4,if_neg (show ¬ noT t n from fun h=>(hno.1 h).elim (fun e=>by rw [hM] at e;simp at e) c6),hM];simp only [List.append_assoc]
          · rw [if_neg (fun h=>h.1 (by omega)),if_pos (show n % baseN t.bs n - tensU t n=0 by omega),List.append_nil] at hM;rw [if_neg c4,if_neg (show ¬ noT t n from fun h=>(hno.1 h).elim (fun e=>by rw [hM] at e;simp at e) c6),hM];simp only [List.nil_append,List.append_assoc]
end
end
section
open Go.RowKit
def hasB (l:List ByteArray) (x:ByteArray):Bool:=decide (place l x < l.length)
theorem hasB_iff {l:List ByteArray} {x:ByteArray}:hasB l x=true ↔ x ∈ l:=by unfold hasB;rw [decide_eq_true_eq];exact place_mem
theorem hasB_not {l:List ByteArray} {x:ByteArray}:hasB l x=false ↔ x ∉ l:=by rw [← hasB_iff];simp
def strangerB (t:Tg) (x:ByteArray):Bool:=wordOk x&&!hasB t.words x
def fitsT (t:Tg) (x:ByteArray):Bool:=t.ok&&decide (2≤t.bs.length)&&nested t.bs&&strangerB t x
def askT (t:Tg) (n:Int) (x:ByteArray):Bool:=fitsT t x&&decide (1≤n∧n≤99999)
def turnedOf (t:Tg) (n:Int) (x:ByteArray):List ByteArray:=if askT t n x then turnT t x n.toNat else []
def turnedB (t:Tg) (n:Int) (x:ByteArray):Bool:=decide (0 < (turnedOf t n x).length)
def isTurnedB (t:Tg) (n:Int) (x:ByteArray):Bool:=hasB (turnedOf t n x) x
theorem ask_of {t:Tg} {x:ByteArray} {n:Int} {a b:Bool} (hf:fitsT t x=a) (hd:decide (1≤n∧n≤99999)=b):askT t n x=(a&&b):=by unfold askT;rw [hf,hd]
section
variable {t : Tg} {x : ByteArray}
theorem fits_parts (h:fitsT t x=true):t.ok=true∧2≤t.bs.length∧nested t.bs=true∧wordOk x=true∧x ∉ t.words:=by
 unfold fitsT strangerB at h;simp only [Bool.and_eq_true,decide_eq_true_eq,Bool.not_eq_true',hasB_not] at h;exact ⟨h.1.1.1,h.1.1.2,h.1.2,h.2.1,h.2.2⟩
theorem fits_off {b:Bool} (hb:b=false) (h:fitsT t x=true→b=true):fitsT t x=false:=by
 cases hf:fitsT t x
 · rfl
 · rw [h hf] at hb;cases hb
theorem fits_rest (hok:t.ok=true) (h2:2≤t.bs.length) (hn:nested t.bs=true):fitsT t x=strangerB t x:=by
 unfold fitsT;rw [hok,hn,decide_eq_true h2];rfl
theorem stranger_eq (hok:t.ok=true) (hw:wordOk x=true):strangerB t x=(!unitB t x&&!baseB t x):=by
 unfold strangerB unitB baseB;rw [hok,hw,Bool.true_and,Bool.true_and,Bool.true_and]
 show (!hasB (t.us++t.ns) x)=(!hasB t.us x&&!hasB t.ns x)
 rw [← Bool.not_or,Bool.not_inj_iff,Bool.eq_iff_iff,Bool.or_eq_true,hasB_iff,hasB_iff,hasB_iff];exact List.mem_append
theorem ask_no {n:Int} (h:askT t n x=false):turnedOf t n x=[]∧turnedB t n x=false∧isTurnedB t n x=false:=by
 have e:turnedOf t n x=[]:=by unfold turnedOf;rw [h];rfl
 exact ⟨e,by unfold turnedB;rw [e];rfl,by unfold isTurnedB;rw [e];rfl⟩
theorem ask_yes {n:Nat} (h:askT t n x=true):turnedOf t n x=turnT t x n:=by unfold turnedOf;rw [h,if_pos rfl];rfl
theorem ask_parts {n:Int} (h:askT t n x=true):fitsT t x=true∧1≤n∧n≤99999:=by
 unfold askT at h;rw [Bool.and_eq_true,decide_eq_true_eq] at h;exact h
theorem turned_ask {n:Int} (h:turnedB t n x=true):askT t n x=true∧turnedOf t n x≠[]:=by
 cases ha:askT t n x
 · rw [(ask_no ha).2.1] at h;cases h
 · refine ⟨rfl,fun e=>?_⟩;unfold turnedB at h;rw [e] at h;simp at h
theorem nameT_mem (hok:t.ok=true) {n:Nat} (h1:1≤n):∀ y ∈ nameT t n,y ∈ t.words:=by
 have hs:=ok_shape hok;exact name_mem t.us t.bs t.ns hs.bs hs.ns n h1
theorem unitU_mem (hok:t.ok=true) (h2:2≤t.bs.length) {n:Nat} (h0:lowU t n≠0):unitU t n ∈ t.us:=by
 have h1:=low_lt hok h2 n;have hb1:=b1_us hok h2;have hlt:lowU t n - 1 < t.us.length:=by omega
 unfold unitU;rw [List.getD_eq_getElem?_getD,List.getElem?_eq_getElem hlt];exact List.getElem_mem hlt
theorem frontU_mem (hok:t.ok=true) {n:Nat}:∀ y ∈ frontU t n,y ∈ t.words:=by
 intro y hy;unfold frontU at hy
 split at hy
 · exact nameT_mem hok (by omega) y hy
 · cases hy
theorem metU_mem (hok:t.ok=true) (h2:2≤t.bs.length) (hn:nested t.bs=true) {n:Nat} (h:n≤999999) (hi:isT t n):∀ y ∈ metU t n,y ∈ t.words:=by
 have:=tens_big hok h2 hn h hi;have:=b1_ge hok h2;exact nameT_mem hok (by omega)
theorem word_size (hok:t.ok=true) {y:ByteArray} (hy:y ∈ t.words):1≤y.size∧y.size≤8:=by
 have:=((ok_iff t).1 hok).2.2.2.2.1 y hy;unfold wordOk at this;rw [Bool.and_eq_true,decide_eq_true_eq] at this;exact this.1
theorem turned_form {n:Int} (h:turnedB t n x=true):∃ m:Nat,n=m∧1≤m∧m≤99999∧fitsT t x=true∧turnedOf t n x=turnT t x m ∧
 ((¬ isT t m∧turnedOf t n x=nameOf t n∧nameOf t n≠[]) ∨
  (isT t m∧¬ noT t m∧turnedOf t n x=frontU t m++[unitU t m,x]++metU t m∧nameOf t n=frontU t m++metU t m++[unitU t m])):=by
 obtain ⟨ha,hne⟩:=turned_ask h;obtain ⟨hf,h1,h2⟩:=ask_parts ha;obtain ⟨m,rfl⟩:∃ m:Nat,n=m:=⟨n.toNat,by omega⟩;obtain ⟨hok,hl2,hn,-,-⟩:=fits_parts hf;have e:=ask_yes ha;have hko:okN t m=true:=okN_of hok (by omega) (by omega);refine ⟨m,rfl,by omega,by omega,hf,e,?_⟩;rw [e] at hne ⊢;rw [nameOf_yes hko]
 by_cases hi:isT t m
 · right
   unfold turnT at hne ⊢;rw [if_pos hi] at hne ⊢
   by_cases hno:noT t m
   · rw [if_pos hno] at hne;exact absurd rfl hne
   · rw [if_neg hno];refine ⟨hi,hno,rfl,?_⟩;rw [name_turn hok hl2 hn m (by omega) (by omega) hi,if_neg hno]
 · left
   unfold turnT at hne ⊢;rw [if_neg hi] at hne ⊢;exact ⟨hi,rfl,hne⟩
theorem nameOf_31 (t:Tg) (n:Int):(nameOf t n).length≤31:=by
 by_cases ho:okN t n=true
 · have hh:=ho;unfold okN at hh;rw [Bool.and_eq_true,decide_eq_true_eq] at hh;obtain ⟨hok,h1,h2⟩:=hh;obtain ⟨m,rfl⟩:∃ m:Nat,n=m:=⟨n.toNat,by omega⟩;have hs:=ok_shape hok;rw [nameOf_yes ho];have hb:=hs.bs;have hl:=bases_len hb;have h:=name_short t.us t.bs t.ns hb m (by omega)
   have htop:topOf t.bs m≤4:=by
    by_cases ht:topOf t.bs m=0
    · omega
    · have:=(base_facts hb ht).2.2.2.1;omega
   have hp:2 ^ (topOf t.bs m+1)≤2 ^ 5:=Nat.pow_le_pow_right (by omega) (by omega);have h5:(2:Nat) ^ 5=32:=rfl;unfold nameT;omega
 · rw [(nameOf_no (by simpa using ho)).1];simp
theorem turned_short {n:Int} (h:turnedB t n x=true):1≤(turnedOf t n x).length∧(turnedOf t n x).length≤32:=by
 obtain ⟨m,rfl,-,-,-,-,hc⟩:=turned_form h;have h1:=nameOf_31 t m;refine ⟨by unfold turnedB at h;rw [decide_eq_true_eq] at h;exact h,?_⟩;rcases hc with ⟨-,e,-⟩ | ⟨-,-,e,e2⟩
 · rw [e];omega
 · rw [e2] at h1;rw [e];simp at h1 ⊢;omega
theorem turned_len (t:Tg) (n:Int) (x:ByteArray):(turnedOf t n x).length≤32:=by
 cases h:turnedB t n x
 · unfold turnedB at h;have:=of_decide_eq_false h;omega
 · exact (turned_short h).2
theorem turned_size (n:Int):∀ y ∈ turnedOf t n x,1≤y.size∧y.size≤8:=by
 intro y hy;cases h:turnedB t n x
 · unfold turnedB at h;have:=of_decide_eq_false h;rw [List.eq_nil_of_length_eq_zero (show (turnedOf t n x).length=0 by omega)] at hy;cases hy
 · obtain ⟨m,rfl,h1,h2,hf,-,hc⟩:=turned_form h;obtain ⟨hok,hl2,hn,hw,hx⟩:=fits_parts hf;rcases hc with ⟨-,e,-⟩ | ⟨hi,-,e,-⟩
   · rw [e] at hy;exact nameOf_size t m y hy
   · rw [e] at hy;rcases List.mem_append.1 hy with hy | hy
     · rcases List.mem_append.1 hy with hy | hy
       · exact word_size hok (frontU_mem hok y hy)
       · rcases List.mem_cons.1 hy with rfl | hy
         · exact word_size hok (List.mem_append.2 (.inl (unitU_mem hok hl2 hi.1)))
         · obtain rfl:y=x:=by simpa using hy
           unfold wordOk at hw;rw [Bool.and_eq_true,decide_eq_true_eq] at hw;exact hw.1
     · exact word_size hok (metU_mem hok hl2 hn (by omega) hi y hy)
end
end
section
open Go.RowKit
def idxV (l:List ByteArray) (x:ByteArray):Int:=if place l x < l.length then (place l x:Int) else -1
theorem idx_at {l:List ByteArray} {x:ByteArray} {k:Nat} (hk:k < l.length) (h:noneTo l x k) (e:l.getD k ByteArray.empty=x):idxV l x=k:=by
 have hp:=place_eq hk h e;unfold idxV;rw [hp,if_pos hk]
theorem idx_no {l:List ByteArray} {x:ByteArray} (h:noneTo l x l.length):idxV l x=-1:=by unfold idxV;rw [place_none h,if_neg (by omega)]
theorem idx_bd (l:List ByteArray) (x:ByteArray):-1≤idxV l x∧idxV l x < l.length∧(0≤idxV l x ↔ hasB l x=true):=by
 unfold idxV hasB
 by_cases h:place l x < l.length
 · rw [if_pos h,decide_eq_true h];exact ⟨by omega,by omega,⟨fun _=>rfl,fun _=>by omega⟩⟩
 · rw [if_neg h,decide_eq_false h];exact ⟨by omega,by omega,⟨fun h=>by omega,fun h=>by cases h⟩⟩
set_option maxHeartbeats 1000000 in
theorem index_any (A:Option Addr) (n c:Nat) (l:List ByteArray) (x:ByteArray) (w:World) (h:Strs w A n c l) (hn:n≤4000000) :
 Calls Tryz.prog 93 #[.slice A n c,.string x] w fun e w'=>e=.returned (.int .i64 (idxV l x))∧w=w':=by
 obtain ⟨rfl,hcap,h⟩:=h;have HN:=Lib.hid (idx_no (l:=l) (x:=x));have HY:=Lib.hid (fun k hk ho e=>idx_at (l:=l) (x:=x) (k:=k) hk ho e);go_enter Tryz.func93,Tryz.ntmps93;go_wp2
 go_loop [8] (fun i=>∃ k:Nat,k≤l.length∧i=.int .i64 k∧noneTo l x k) (fun i=>l.length - (intOf i).toNat)
 case atStart=>exact ⟨0,Nat.zero_le _,rfl,fun i hi=>absurd hi (by omega)⟩
 case round =>
  obtain ⟨k,hk,rfl,hno⟩:=hrel
  by_cases hlt:k < l.length
  · obtain ⟨b,o,rfl,-,hc⟩:=h (by omega);have ck:=hc k hlt;have HNk:=Lib.hid (none_go hno);have HYk:=Lib.hid (HY.out k hlt hno);generalize l.getD k ByteArray.empty=y at *;clear hc h hno
    by_cases e:y=x
    · have he:(x.toList==y.toList)=true:=by rw [str_eq];exact decide_eq_true e.symm
      have hr:=Lib.hid (HYk.out e);replace e:=Lib.hid e;go_wp2;go_ret;exact ⟨ret_int hr.out.symm,rfl⟩
    · have he:(x.toList==y.toList)=false:=by rw [str_eq];exact decide_eq_false (fun h=>e h.symm)
      have hg:=Lib.hid (HNk.out e);replace e:=Lib.hid e;go_wp2
      go_round
      case rel=>exact ⟨k+1,by omega,by go_num,hg.out⟩
      case measure=>simp [intOf];omega
  · obtain rfl:k=l.length:=by omega
    have hr:=Lib.hid (HN.out hno);clear hno h;go_wp2;go_ret;exact ⟨ret_int hr.out.symm,rfl⟩
theorem contains_any (A:Option Addr) (n c:Nat) (l:List ByteArray) (x:ByteArray) (w:World) (h:Strs w A n c l) (hn:n≤4000000) :
 Calls Tryz.prog 221 #[.slice A n c,.string x] w fun e w'=>e=.returned (.bool (hasB l x))∧w=w':=by
 have K:=Lib.hid (index_any A n c l x w h hn);obtain ⟨b1,b2,b3⟩:=idx_bd l x
 have hd:decide (0≤idxV l x)=hasB l x:=by
  cases hh:hasB l x
  · exact decide_eq_false (fun h=>by rw [b3.1 h] at hh;cases hh)
  · exact decide_eq_true (b3.2 hh)
 replace hd:=Lib.hid hd;clear b3 h;generalize idxV l x=v at *;go_enter Tryz.func221,Tryz.ntmps221;go_wp2_with (fail);refine K.out.mono ?_;rintro e _ ⟨rfl,rfl⟩;go_wp2;go_ret;exact ⟨ret_bool hd.out,rfl⟩
set_option maxRecDepth 100000 in
set_option maxHeartbeats 1000000 in
theorem implStranger_any (v:Value) (t:Tg) (x:ByteArray) (w:World) (h:Tng w v t) (hf:t.Fine) (hx:x.size≤maxLen) :
 Calls Tryz.prog 205 #[v,.string x] w fun e w'=>e=.returned (.bool (wordOk x&&!hasB (wordsOf t) x))∧Below w.heap.size w w':=by
 obtain ⟨A1,c1,A2,c2,A3,c3,rfl,-⟩:=h.ex;have hB:=(Below.refl w.heap.size w).alloc (Nat.le_refl _) (.cells #[.slice A1 t.us.length c1,.slice A2 t.bs.length c2,.slice A3 t.ns.length c3] 31);have HX:=Blk.new w 31 #[.slice A1 t.us.length c1,.slice A2 t.bs.length c2,.slice A3 t.ns.length c3];have HT:=h.below hB (Nat.le_refl _);have hwl:=wordsOf_len t hf;replace hB:=Lib.hid hB;replace HX:=Lib.hid HX;replace HT:=Lib.hid HT;clear h;go_enter Tryz.func205,Tryz.ntmps205;go_upto_region 1 with (fail)
 generalize w.alloc (.cells #[.slice A1 t.us.length c1,.slice A2 t.bs.length c2,.slice A3 t.ns.length c3] 31)=W at *;obtain ⟨x0,x1,x2,-,-,-⟩:=blk3 HX.out;have KW:=Lib.hid (implWordOk_any x W hx);have KO:=Lib.hid (implWordsOf_any _ t W HT.out hf);go_wp2_with (fail);refine KW.out.mono ?_;rintro e _ ⟨rfl,rfl⟩;clear KW;cases hw:wordOk x
 · have hr:(wordOk x&&!hasB (wordsOf t) x)=false:=by rw [hw];rfl
   replace hr:=Lib.hid hr;replace hw:=Lib.hid hw;go_wp2;go_ret;exact ⟨ret_bool hr.out.symm,hB.out⟩
 · have hr:(wordOk x&&!hasB (wordsOf t) x)=!hasB (wordsOf t) x:=by rw [hw];rfl
   replace hr:=Lib.hid hr;replace hw:=Lib.hid hw;go_wp2_with (fail);refine KO.out.mono ?_;rintro e w2 ⟨v2,rfl,o2,b2⟩;obtain ⟨A4,c4,rfl,s4⟩:=o2.strs;replace hB:=Lib.hid (hB.out.trans (b2.mono hB.out.size));have KC:=Lib.hid (contains_any A4 _ c4 (wordsOf t) x w2 s4 (by omega));clear b2 o2 s4 x0 x1 x2 KO;go_wp2_with (fail);refine KC.out.mono ?_;rintro e _ ⟨rfl,rfl⟩;clear KC;cases hh:hasB (wordsOf t) x
   all_goals
    have hr2:=hr.out.trans (congrArg not hh);replace hh:=Lib.hid hh;replace hr2:=Lib.hid hr2;go_wp2;go_ret;exact ⟨ret_bool hr2.out.symm,hB.out⟩
set_option maxRecDepth 100000 in
set_option maxHeartbeats 2000000 in
theorem implTurnable_any (v:Value) (t:Tg) (x:ByteArray) (w:World) (h:Tng w v t) (hf:t.Fine) (hx:x.size≤maxLen) :
 Calls Tryz.prog 181 #[v,.string x] w fun e w'=>e=.returned (.bool (fitsT t x))∧Below w.heap.size w w':=by
 obtain ⟨A1,c1,A2,c2,A3,c3,rfl,-⟩:=h.ex;have hB:=(Below.refl w.heap.size w).alloc (Nat.le_refl _) (.cells #[.slice A1 t.us.length c1,.slice A2 t.bs.length c2,.slice A3 t.ns.length c3] 31);have HX:=Blk.new w 31 #[.slice A1 t.us.length c1,.slice A2 t.bs.length c2,.slice A3 t.ns.length c3];have HT:=h.below hB (Nat.le_refl _);have K1:=Lib.hid (implTongueOk_any _ t _ HT hf);have hfb:=hf.bs;have hff:=Lib.hid hf.fits;have hno:=Lib.hid (fun (b:Bool) (hb:b=false) (hh:fitsT t x=true→b=true)=>fits_off (t:=t) (x:=x) hb hh);replace hB:=Lib.hid hB;replace HX:=Lib.hid HX;replace HT:=Lib.hid HT;clear h;go_enter Tryz.func181,Tryz.ntmps181;go_upto_region 1 with (fail)
 generalize w.alloc (.cells #[.slice A1 t.us.length c1,.slice A2 t.bs.length c2,.slice A3 t.ns.length c3] 31)=W at *;obtain ⟨x0,x1,x2,-,-,-⟩:=blk3 HX.out;go_wp2_with (fail);refine K1.out.mono ?_;rintro e w1 ⟨rfl,b1⟩;replace hB:=Lib.hid (hB.out.trans (b1.mono hB.out.size));replace HX:=Lib.hid (HX.out.below b1 HX.out.lt);replace HT:=Lib.hid (HT.out.below b1 (Nat.le_refl _));clear b1 x0 x1 x2 K1;obtain ⟨x0,x1,x2,-,-,-⟩:=blk3 HX.out;cases hok:t.ok
 · have hr:=Lib.hid (hno.out _ hok fun h=>(fits_parts h).1);replace hok:=Lib.hid hok;go_wp2;go_ret;exact ⟨ret_bool hr.out.symm,hB.out⟩
 · by_cases h2:2≤t.bs.length
   · have h2':(1:Int) < (t.bs.length:Int):=by omega
     obtain ⟨_,_,_,_,_,_,ev,-,I2,-⟩:=HT.out.ex;cases ev;have KN:=Lib.hid (implNestedOk_any A2 _ c2 t.bs w1 I2 (by omega) hff.out);clear I2;have hrest:=Lib.hid (fun hn=>fits_rest (t:=t) (x:=x) hok h2 hn);have hws:wordsOf t=t.words:=by unfold wordsOf;rw [hok];rfl
     have KS:=implStranger_any _ t x w1 HT.out hf hx;rw [hws] at KS;have HS:strangerB t x=(wordOk x&&!hasB t.words x):=rfl;rw [← HS] at KS;replace KS:=Lib.hid KS;replace hok:=Lib.hid hok;clear HS hws;go_wp2_with (fail);refine KN.out.mono ?_;rintro e _ ⟨rfl,rfl⟩;cases hn:nested t.bs
     · have hr:=Lib.hid (hno.out _ hn fun h=>(fits_parts h).2.2.1);replace hn:=Lib.hid hn;go_wp2;go_ret;exact ⟨ret_bool hr.out.symm,hB.out⟩
     · have hrest':=Lib.hid (hrest.out hn);replace hn:=Lib.hid hn;clear hrest KN;go_wp2_with (fail);refine KS.out.mono ?_;rintro e w4 ⟨rfl,b4⟩;replace hB:=Lib.hid (hB.out.trans (b4.mono hB.out.size));clear b4 KS x0 x1 x2;generalize strangerB t x=sb at *;go_wp2;go_ret;exact ⟨ret_bool hrest'.out.symm,hB.out⟩
   · have h2':¬ (1:Int) < (t.bs.length:Int):=by omega
     have hr:=Lib.hid (hno.out false rfl fun h=>absurd (fits_parts h).2.1 h2);replace hok:=Lib.hid hok;replace h2:=Lib.hid h2;go_wp2;go_ret;exact ⟨ret_bool hr.out.symm,hB.out⟩
set_option maxRecDepth 100000 in
set_option maxHeartbeats 1000000 in
theorem concat3_any (A A' A'':Option Addr) (g n c n' c' n'' c'':Nat) (xs ys zs:List ByteArray) (w:World) (hg:g < w.heap.size) (h0:w.cell? ⟨g,0,none⟩=some (.slice A n c)) (h1:w.cell? ⟨g,1,none⟩=some (.slice A' n' c')) (h2:w.cell? ⟨g,2,none⟩=some (.slice A'' n'' c''))
 (h:Strs w A n c xs) (h':Strs w A' n' c' ys) (h'':Strs w A'' n'' c'' zs) (hn:n≤1048576) (hn':n'≤1048576) (hn'':n''≤1048576) :
 Calls Tryz.prog 194 #[.slice (some ⟨g,0,none⟩) 3 3] w fun e w'=>∃ v,e=.returned v∧w'.ownsRow w.heap.size 9 1 v (n+n'+n'') ((xs++ys++zs).map Value.string)∧Below w.heap.size w w':=by
 obtain ⟨i0,hi,hz0,hz1,hz2⟩:=info_parts str_info;have HS:=Lib.hid h.src;have HS':=Lib.hid h'.src;have HS'':=Lib.hid h''.src;have hG0:=grow_any (n+n'+n'') w (by omega);rw [Int.natCast_add,Int.natCast_add] at hG0;have hG:=Lib.hid hG0;clear hG0;clear h h' h'';go_enter Tryz.func194,Tryz.ntmps194;go_wp2;refine wp_loop_rounds 4 ?_;rw [rounds_succ];go_wp2;rw [rounds_succ];go_wp2;rw [rounds_succ];go_wp2;rw [rounds_succ];go_wp2_with (fail);refine hG.out.mono ?_;rintro e w1 ⟨v1,rfl,ho1,hb1⟩;have c0:=(hb1.cell (p:=⟨g,0,none⟩) hg).trans h0;have c1:=(hb1.cell (p:=⟨g,1,none⟩) hg).trans h1;have c2:=(hb1.cell (p:=⟨g,2,none⟩) hg).trans h2;have S1:=Lib.hid (HS.out.below hb1 (Nat.le_refl _));replace ho1:=Lib.hid ho1;replace hb1:=Lib.hid hb1;clear h0 h1 h2;go_wp2;refine wp_loop_rounds 4 ?_;rw [rounds_succ];go_wp2_with (at_builtin;refine wpList_app _ rfl (.tmp 31) (.tmp 32) _ rfl w.heap.size 9 i0 _ 16 Tryz.underlying28 hi hz0 hz1 hz2 rfl v1 0 [] rfl ho1.out A n c _ rfl S1.out (by unfold maxLen;omega) (by omega) hb1.out.size ?_;intro v2 w2 ho2 hg2 _);have hb2:=below_own hb1.out ho1.out hg2 hb1.out.size (Nat.le_refl _);have d1:=(hb2.cell (p:=⟨g,1,none⟩) hg).trans ((hb1.out.cell (p:=⟨g,1,none⟩) hg).symm.trans c1);have d2:=(hb2.cell (p:=⟨g,2,none⟩) hg).trans ((hb1.out.cell (p:=⟨g,2,none⟩) hg).symm.trans c2);have S2:=Lib.hid (HS'.out.below hb2 (Nat.le_refl _));replace ho2:=Lib.hid ho2;replace hb2:=Lib.hid hb2
 clear c0 c1 c2 hg2;rw [rounds_succ];go_wp2_with (at_builtin;refine wpList_app _ rfl (.tmp 31) (.tmp 32) _ rfl w.heap.size 9 i0 _ 16 Tryz.underlying28 hi hz0 hz1 hz2 rfl v2 _ _ rfl ho2.out A' n' c' _ rfl S2.out (by unfold maxLen;omega) (by omega) hb2.out.size ?_;intro v3 w3 ho3 hg3 _);have hb3:=below_own hb2.out ho2.out hg3 hb2.out.size (Nat.le_refl _);have e2:=(hb3.cell (p:=⟨g,2,none⟩) hg).trans ((hb2.out.cell (p:=⟨g,2,none⟩) hg).symm.trans d2);have S3:=Lib.hid (HS''.out.below hb3 (Nat.le_refl _));replace ho3:=Lib.hid ho3;replace hb3:=Lib.hid hb3;clear d1 d2 hg3;rw [rounds_succ];go_wp2_with (at_builtin;refine wpList_app _ rfl (.tmp 31) (.tmp 32) _ rfl w.heap.size 9 i0 _ 16 Tryz.underlying28 hi hz0 hz1 hz2 rfl v3 _ _ rfl ho3.out A'' n'' c'' _ rfl S3.out (by unfold maxLen;omega) (by omega) hb3.out.size ?_;intro v4 w4 ho4 hg4 _);have hb4:=below_own hb3.out ho3.out hg4 hb3.out.size (Nat.le_refl _);rw [rounds_succ];replace ho4:=Lib.hid ho4;replace hb4:=Lib.hid hb4;clear hg4 e2;go_wp2;go_ret;exact ⟨_,rfl,by have:=ho4.out;simpa using this,hb4.out⟩
end
section
open Go.RowKit
set_option maxRecDepth 100000 in
set_option maxHeartbeats 2000000 in
theorem specFits_any (v:Value) (t:Tg) (x:ByteArray) (w:World) (h:Tng w v t) (hf:t.Fine) (hx:x.size≤maxLen) :
 Calls Tryz.prog 116 #[v,.string x] w fun e w'=>e=.returned (.bool (fitsT t x))∧Below w.heap.size w w':=by
 obtain ⟨A1,c1,A2,c2,A3,c3,rfl,-⟩:=h.ex;have hB:=(Below.refl w.heap.size w).alloc (Nat.le_refl _) (.cells #[.slice A1 t.us.length c1,.slice A2 t.bs.length c2,.slice A3 t.ns.length c3] 31);have HX:=Blk.new w 31 #[.slice A1 t.us.length c1,.slice A2 t.bs.length c2,.slice A3 t.ns.length c3];have HT:=h.below hB (Nat.le_refl _);have K1:=Lib.hid (specTongueOk_any _ t _ HT hf);have hfb:=hf.bs;have hff:=Lib.hid hf.fits;have hno:=Lib.hid (fun (b:Bool) (hb:b=false) (hh:fitsT t x=true→b=true)=>fits_off (t:=t) (x:=x) hb hh);replace hB:=Lib.hid hB;replace HX:=Lib.hid HX;replace HT:=Lib.hid HT;clear h;go_enter Tryz.func116,Tryz.ntmps116;go_upto_region 1 with (fail)
 generalize w.alloc (.cells #[.slice A1 t.us.length c1,.slice A2 t.bs.length c2,.slice A3 t.ns.length c3] 31)=W at *;obtain ⟨x0,x1,x2,-,-,-⟩:=blk3 HX.out;go_wp2_with (fail);refine K1.out.mono ?_;rintro e w1 ⟨rfl,b1⟩;replace hB:=Lib.hid (hB.out.trans (b1.mono hB.out.size));replace HX:=Lib.hid (HX.out.below b1 HX.out.lt);replace HT:=Lib.hid (HT.out.below b1 (Nat.le_refl _));clear b1 x0 x1 x2 K1;obtain ⟨x0,x1,x2,-,-,-⟩:=blk3 HX.out;cases hok:t.ok
 · have hr:=Lib.hid (hno.out _ hok fun h=>(fits_parts h).1);replace hok:=Lib.hid hok;go_wp2;go_ret;exact ⟨ret_bool hr.out.symm,hB.out⟩
 · by_cases h2:2≤t.bs.length
   · have h2':¬ (t.bs.length:Int) < 2:=by omega
     obtain ⟨_,_,_,_,_,_,ev,-,I2,-⟩:=HT.out.ex;cases ev;have KN:=Lib.hid (specNestedOk_any A2 _ c2 t.bs w1 I2 (by omega) hff.out);clear I2;have hrest:=Lib.hid (fun hn=>fits_rest (t:=t) (x:=x) hok h2 hn);have hse:=Lib.hid (fun hw=>stranger_eq (t:=t) (x:=x) hok hw);replace hok:=Lib.hid hok;go_wp2_with (fail);refine KN.out.mono ?_;rintro e _ ⟨rfl,m,rfl⟩;cases hn:nested t.bs
     · have hr:=Lib.hid (hno.out _ hn fun h=>(fits_parts h).2.2.1);replace hn:=Lib.hid hn;go_wp2;go_ret;exact ⟨ret_bool hr.out.symm,below_drewN hB.out _⟩
     · have hrest':=hrest.out hn;have KW:=Lib.hid (specWordOk_any x (w1.drewN m) hx);replace hn:=Lib.hid hn;replace hrest':=Lib.hid hrest';clear hrest KN;go_wp2_with (fail);refine KW.out.mono ?_;rintro e _ ⟨rfl,rfl⟩;clear KW;cases hw:wordOk x
       · have hr:=Lib.hid (hno.out _ hw fun h=>(fits_parts h).2.2.2.1);replace hw:=Lib.hid hw;go_wp2;go_ret;exact ⟨ret_bool hr.out.symm,below_drewN hB.out _⟩
       · have hse':=hse.out hw;have bd:=below_drewN (Below.refl w1.heap.size w1) m;replace hB:=Lib.hid (hB.out.trans (bd.mono hB.out.size));replace HX:=Lib.hid (HX.out.below bd HX.out.lt);replace HT:=Lib.hid (HT.out.below bd (Nat.le_refl _));replace hw:=Lib.hid hw;clear bd x0 x1 x2 hse;generalize w1.drewN m=w2 at *;obtain ⟨x0,x1,x2,-,-,-⟩:=blk3 HX.out;have KU:=Lib.hid (specUnitOf_any _ t x w2 HT.out hf);have HR:fitsT t x=(!unitB t x&&!baseB t x):=hrest'.out.trans hse';generalize unitB t x=ub at *;generalize unitV t x=uv at *;replace HR:=Lib.hid HR;clear hse' hrest';go_wp2_with (fail);refine KU.out.mono ?_;rintro e w3 ⟨rfl,b3⟩;replace hB:=Lib.hid (hB.out.trans (b3.mono hB.out.size));replace HX:=Lib.hid (HX.out.below b3 HX.out.lt);replace HT:=Lib.hid (HT.out.below b3 (Nat.le_refl _));clear b3 x0 x1 x2 KU;obtain ⟨x0,x1,x2,-,-,-⟩:=blk3 HX.out;have KB:=Lib.hid (specBaseOf_any _ t x w3 HT.out hf);generalize baseB t x=bb at *;generalize baseV t x=bv' at *;go_wp2_with (fail);refine KB.out.mono ?_;rintro e w4 ⟨rfl,b4⟩;replace hB:=Lib.hid (hB.out.trans (b4.mono hB.out.size));clear b4 x0 x1 x2 KB;cases ub <;> cases bb
         all_goals
          go_wp2;go_ret;exact ⟨ret_bool HR.out.symm,hB.out⟩
   · have h2':(t.bs.length:Int) < 2:=by omega
     have hr:=Lib.hid (hno.out false rfl fun h=>absurd (fits_parts h).2.1 h2);replace hok:=Lib.hid hok;replace h2:=Lib.hid h2;go_wp2;go_ret;exact ⟨ret_bool hr.out.symm,hB.out⟩
end
section
open Go.RowKit
def tensTo (t:Tg) (n k:Nat):Nat:=if k≤2 then n else n % bN t 2
theorem tensTo_go {t:Tg} (hn:nested t.bs=true) {n k:Nat} (h2:2≤k) (hk:k < t.bs.length):min (tensTo t n k) (n % bN t k)=tensTo t n (k+1):=by
 have hd:=bN_dvd hn h2 hk;have h3:n % bN t 2≤n % bN t k:=by rw [← Nat.mod_mod_of_dvd n hd];exact Nat.mod_le _ _
 have h4:n % bN t k≤n:=Nat.mod_le _ _;unfold tensTo;rw [if_neg (show ¬ k+1≤2 by omega)]
 by_cases e:k=2
 · subst e;rw [if_pos (Nat.le_refl _)];omega
 · rw [if_neg (by omega)];omega
theorem tensTo_end {t:Tg} (h2:2≤t.bs.length) {n:Nat} (hn:n≤999999):tensTo t n t.bs.length=tensU t n:=by
 unfold tensTo tensU modT
 by_cases e:3≤t.bs.length
 · rw [if_neg (by omega),if_pos e]
 · rw [if_pos (by omega),if_neg e,Nat.mod_eq_of_lt (by omega)]
theorem Src.many {w:World} {b:Nat} {t:TypeId} {news:List Value} (h:Blk w b t news.toArray) (h1:∀ u ∈ news,u.oneCell'=true):Src w (some ⟨b,0,none⟩) news.length news :=
 ⟨rfl,h1,fun _=>⟨b,0,rfl,h.lt,fun j v hv=>by
  rw [Nat.zero_add,h.cell]
  simpa using hv⟩⟩
theorem Src.two {w:World} {b:Nat} {t:TypeId} {u x:Value} (h:Blk w b t #[u,x]) (h1:u.oneCell'=true) (h2:x.oneCell'=true):Src w (some ⟨b,0,none⟩) 2 [u,x] :=
 Src.many (news:=[u,x]) h (by
  intro y hy;rcases List.mem_cons.1 hy with rfl | hy
  · exact h1
  · have e:y=x:=by simpa using hy
    rw [e];exact h2)
set_option maxRecDepth 100000 in
set_option maxHeartbeats 4000000 in
theorem specTurn_any {t:Tg} (hok:t.ok=true) (hl2:2≤t.bs.length) (hne:nested t.bs=true) (n:Nat) (hn1:1≤n) (hn2:n≤99999) (v:Value) (x:ByteArray) (w:World) (h:Tng w v t) :
 Calls Tryz.prog 117 #[v,.int .i64 n,.string x] w (RetStrs w (turnT t x n)):=by
 obtain ⟨i0,hi,hz0,hz1,hz2⟩:=info_parts str_info;have hsh:=ok_shape hok;have hul:=hsh.us;have hbs:=hsh.bs;have hbl:=bases_len hbs;have hb1':=b1_us hok hl2;have hb1a:bN t 1≤21:=by omega
 have hlu:lowU t n≤t.us.length:=by have:=low_lt hok hl2 n;omega
 have hb1:=Lib.hid hb1';have hi1:=(bN_int hbs (k:=1) (by omega)).1;have hll:=low_lt hok hl2 n;have hb1b:=b1_ge hok hl2;clear hb1';have htl:=tens_le t n;have hle:=low_le hne (n:=n) (by omega);have HG:=Lib.hid (fun k h2 hk=>tensTo_go (t:=t) hne (n:=n) (k:=k) h2 hk);have HE:=Lib.hid (tensTo_end hl2 (n:=n) (by omega));have HP:=Lib.hid (fun k (hk:k < t.bs.length)=>bN_int hbs (k:=k) hk);have HBT:=Lib.hid (fun hh=>tens_big hok hl2 hne (n:=n) (by omega) hh);have HLen:=Lib.hid (name_len t.us t.bs t.ns hbs);have KNm:=Lib.hid (fun (m:Nat) (h1:1≤m) (h2:m≤99999)=>specName_any hok m h1 h2);obtain ⟨A1,c1,A2,c2,A3,c3,rfl,-⟩:=h.ex;have hB:=(Below.refl w.heap.size w).alloc (Nat.le_refl _) (.cells #[.slice A1 t.us.length c1,.slice A2 t.bs.length c2,.slice A3 t.ns.length c3] 31);have HX:=Blk.new w 31 #[.slice A1 t.us.length c1,.slice A2 t.bs.length c2,.slice A3 t.ns.length c3];have HT:=h.below hB (Nat.le_refl _);replace hB:=Lib.hid hB;replace HX:=Lib.hid HX;replace HT:=Lib.hid HT;replace hok:=Lib.hid hok;replace hne:=Lib.hid hne;replace hbs:=Lib.hid hbs;clear h hsh;go_enter Tryz.func117,Tryz.ntmps117;go_upto_region 1 with (fail)
 generalize w.alloc (.cells #[.slice A1 t.us.length c1,.slice A2 t.bs.length c2,.slice A3 t.ns.length c3] 31)=W at *;obtain ⟨x0,x1,x2,-,-,-⟩:=blk3 HX.out;obtain ⟨_,_,_,_,_,_,ev,S1,I2,-⟩:=HT.out.ex;cases ev;obtain ⟨b2,o2,rfl,hb2,hc2⟩:=I2.at_ (by omega);have ck1:=hc2 1 (by omega);rw [← hi1] at ck1;have HC:Hid (∀ k,k < t.bs.length→W.cell? ⟨b2,o2+k,none⟩=some (.int .i64 (bN t k))):=Lib.hid (fun k hk=>by rw [hc2 k hk,(HP.out k hk).1]);have e1:(n:Int) % (bN t 1:Int)=((lowU t n:Nat):Int):=rfl;have p1:(0:Int)≤(n:Int) % (bN t 1:Int):=by rw [e1];omega
 have hS1:=Lib.hid S1;replace e1:=Lib.hid e1;replace hi1:=Lib.hid hi1;clear S1 I2 hc2;go_upto_region 2 with (fail)
 rw [e1.out];clear p1;go_wp2
 go_loop [8,9] (fun s8 s9=>∃ k:Nat,2≤k∧k≤t.bs.length∧s9=.int .i64 k∧s8=.int .i64 (tensTo t n k:Nat)) (fun _ i=>t.bs.length - (intOf i).toNat)
 case atStart=>exact ⟨2,Nat.le_refl _,hl2,rfl,rfl⟩
 case round =>
  obtain ⟨k,hk2,hk,rfl,rfl⟩:=hrel
  by_cases hlt:k < t.bs.length
  · have ck:=HC.out k hlt;have hg:=HG.out k hk2 hlt;have hp:=(HP.out k hlt).2;have eK:(n:Int) % (bN t k:Int)=((n % bN t k:Nat):Int):=rfl;have q0:(0:Int)≤(n:Int) % (bN t k:Int):=by rw [eK];omega
    have hm:(if (n:Int) % (bN t k:Int) < ((tensTo t n k:Nat):Int) then (n:Int) % (bN t k:Int) else ((tensTo t n k:Nat):Int))=((tensTo t n (k+1):Nat):Int):=by rw [eK];split <;> omega
    generalize bN t k=b at *;generalize tensTo t n k=T at *;replace hm:=Lib.hid hm;replace hg:=Lib.hid hg;replace eK:=Lib.hid eK;go_wp2
    all_goals
     go_round
     case rel=>exact ⟨k+1,by omega,by omega,by go_num,by rw [hm.out]⟩
     case measure=>simp [intOf];omega
  · obtain rfl:k=t.bs.length:=by omega
    rw [HE.out];have HF0:¬ isT t n→turnT t x n=nameT t n:=fun hh=>by unfold turnT;rw [if_neg hh]
    have HF1:isT t n→noT t n→turnT t x n=[]:=fun hh h2=>by unfold turnT;rw [if_pos hh,if_pos h2]
    have HF2:isT t n→¬ noT t n→turnT t x n=frontU t n++[unitU t n,x]++metU t n:=fun hh h2=>by unfold turnT;rw [if_pos hh,if_neg h2]
    by_cases hT:isT t n
    · obtain ⟨hT1,hT2⟩:=hT;have hbig:=HBT.out ⟨hT1,hT2⟩;have HFn:=fun h=>HF1 ⟨hT1,hT2⟩ h
      have HFy:=fun h=>HF2 ⟨hT1,hT2⟩ h
      obtain ⟨bu,ou,rfl,hbu,hcu⟩:=hS1.out.at_ (by omega);have cku:W.cell? ⟨bu,ou+(lowU t n - 1),none⟩=some (.string (unitU t n)):=hcu _ (by omega);have hno1:tensU t n < n→nameT t (n - tensU t n)=[]→noT t n:=fun h1 h2=>.inl ⟨h1,h2⟩
      have hno2:metU t n=[]→noT t n:=fun h=>.inr h
      have hnn:(tensU t n < n→nameT t (n - tensU t n)≠[])→metU t n≠[]→¬ noT t n:=fun h1 h2 h=>h.elim (fun h=>h1 h.1 h.2) h2
      have hfr1:tensU t n < n→frontU t n=nameT t (n - tensU t n):=fun h=>by unfold frontU;rw [if_pos h]
      have hfr0:¬ tensU t n < n→frontU t n=[]:=fun h=>by unfold frontU;rw [if_neg h]
      have hfl:(frontU t n).length≤99999:=by
       by_cases h:tensU t n < n
       · rw [hfr1 h];have:=HLen.out (n - tensU t n) (by omega);unfold nameT;omega
       · rw [hfr0 h];exact Nat.zero_le _
      have hml:(metU t n).length≤99999:=by have:=HLen.out (tensU t n - lowU t n) (by omega);unfold metU nameT;omega
      have KF:=fun (h:tensU t n < n) v' w' (hh:Tng w' v' t)=>KNm.out (n - tensU t n) (by omega) (by omega) v' w' hh
      have KM:∀ v' w',Tng w' v' t→Calls Tryz.prog 102 #[v',.int .i64 (tensU t n - lowU t n:Nat)] w' (RetStrs w' (metU t n)):=fun v' w' hh=>KNm.out (tensU t n - lowU t n) (by omega) (by omega) v' w' hh
      replace HFn:=Lib.hid HFn;replace HFy:=Lib.hid HFy;replace hno1:=Lib.hid hno1;replace hno2:=Lib.hid hno2;replace hnn:=Lib.hid hnn;replace hfr1:=Lib.hid hfr1;replace hfr0:=Lib.hid hfr0;replace KF:=Lib.hid KF;replace KM:=Lib.hid KM;replace cku:=Lib.hid cku;clear HF0 HF1 HF2 HBT HG HE HC HP HLen KNm hcu hS1;generalize frontU t n=hd at *;generalize metU t n=ml at *;generalize unitU t n=un at *;generalize tensU t n=T at *;generalize lowU t n=L at *;generalize turnT t x n=res at *;have q1:((L:Int)==0)=false:=by rw [beq_eq_false_iff_ne];omega
      have q2:((T:Int)==(L:Int))=false:=by rw [beq_eq_false_iff_ne];omega
      have q3:((T:Int) / (bN t 1:Int)==0)=false:=by
       rw [beq_eq_false_iff_ne];have:(1:Int)≤(T:Int) / (bN t 1:Int):=by rw [Int.le_ediv_iff_mul_le (by omega)];omega
       omega
      have q4:(0:Int)≤(T:Int) / (bN t 1:Int):=Int.ediv_nonneg (by omega) (by omega);have q5:(T:Int) / (bN t 1:Int)≤99999:=Int.le_trans (Int.ediv_le_self _ (by omega)) (by omega);generalize bN t 1=b1 at *;go_upto_region 10 with (fail)
      have hA:=(Below.refl W.heap.size W).alloc (Nat.le_refl _) (.cells #[] 9);have own0:OwnStrs (W.alloc (.cells #[] 9)) w.heap.size (.slice (some ⟨W.heap.size,0,none⟩) 0 0) []:=owns_empty (Blk.new W 9 #[]) hB.out.size;replace hB:=Lib.hid (hB.out.trans (hA.mono hB.out.size));replace HX:=Lib.hid (HX.out.below hA HX.out.lt);replace HT:=Lib.hid (HT.out.below hA (Nat.le_refl _));replace cku:=Lib.hid ((hA.cell (p:=⟨bu,ou+(L - 1),none⟩) hbu).trans cku.out);replace hbu:bu < (W.alloc (.cells #[] 9)).heap.size:=Nat.lt_of_lt_of_le hbu hA.size;replace own0:=Lib.hid own0;clear hA x0 x1 x2 ck1 q1 q2 q3 q4 q5 hb2;generalize W.alloc (.cells #[] 9)=W9 at *;generalize W.heap.size=g0 at *;obtain ⟨x0,x1,x2,-,-,-⟩:=blk3 HX.out
      go_upto_if 57 with (fail)
      go_cut [10] (fun s10 wx=>(∃ A c,s10=.slice A hd.length c∧OwnStrs wx w.heap.size (.slice A hd.length c) hd)∧Below W9.heap.size W9 wx∧(T < n→hd≠[]))
      case first =>
       by_cases hgt:T < n
       · have hgt':(T:Int) < (n:Int):=by omega
         have K9:=KF.out hgt _ W9 HT.out;rw [← hfr1.out hgt,show ((n - T:Nat):Int)=(n:Int) - T by omega] at K9;replace K9:=Lib.hid K9;have w1:IntKind.i64.wrap ((n:Int) - T)=(n:Int) - T:=IntWalk.i64_in _ (by omega);have HN:=fun h=>HFn.out (hno1.out hgt h)
         rw [← hfr1.out hgt] at HN;replace HN:=Lib.hid HN;go_wp2_with (fail);refine K9.out.mono ?_;rintro e w3 ⟨v3,rfl,o3,b3⟩;obtain ⟨A4,c4,rfl,-⟩:=o3.strs;have o4:=Lib.hid (o3.mono hB.out.size);have hB4:=Lib.hid (hB.out.trans (b3.mono hB.out.size));replace b3:=Lib.hid b3
         by_cases hq:hd=[]
         · have hl0:((hd.length:Int)==0)=true:=by rw [hq];rfl
           have hr:=HN.out hq;have HR:RetStrs w res (.returned (.slice A4 hd.length c4)) w3:=⟨_,rfl,by rw [hr,← hq];exact o4.out,hB4.out⟩;replace HR:=Lib.hid HR;replace hq:=Lib.hid hq;replace hr:=Lib.hid hr;clear o3 o4;go_wp2;go_ret;exact HR.out
         · have hl0:((hd.length:Int)==0)=false:=by
            rw [beq_eq_false_iff_ne];intro e;exact hq (List.eq_nil_of_length_eq_zero (by omega))
           replace hq:=Lib.hid hq;clear o3;go_wp2
           go_meet
           exact ⟨⟨_,_,rfl,o4.out⟩,b3.out,fun _=>hq.out⟩
       · have hgt':¬ (T:Int) < (n:Int):=by omega
         have hq:hd=[]:=hfr0.out hgt;replace hq:=Lib.hid hq;go_wp2
         go_meet
         exact ⟨⟨_,_,by rw [hq.out];rfl,by rw [hq.out];exact own0.out⟩,Below.refl _ _,fun h=>absurd h hgt⟩
      case rest =>
       obtain ⟨⟨A10,c10,rfl,o10⟩,b10,hne10⟩:=hcut;clear x0 x1 x2 own0;have hB5:=Lib.hid (hB.out.trans (b10.mono hB.out.size));have HX5:=Lib.hid (HX.out.below b10 HX.out.lt);have HT5:=Lib.hid (HT.out.below b10 (Nat.le_refl _));have cku5:=Lib.hid ((b10.cell (p:=⟨bu,ou+(L - 1),none⟩) hbu).trans cku.out);have hbu5:bu < wc.heap.size:=Nat.lt_of_lt_of_le hbu b10.size;have o5:=Lib.hid o10;replace hne10:=Lib.hid hne10;clear b10 o10 hB HX HT cku hbu;obtain ⟨x0,x1,x2,-,-,-⟩:=blk3 HX5.out;have KM5:=KM.out _ wc HT5.out;rw [show ((T - L:Nat):Int)=(T:Int) - L by omega] at KM5;replace KM5:=Lib.hid KM5;have w1:IntKind.i64.wrap ((T:Int) - L)=(T:Int) - L:=IntWalk.i64_in _ (by omega);go_wp2_with (fail);refine KM5.out.mono ?_;rintro e W5 ⟨v6,rfl,o6,b6⟩;obtain ⟨A11,c11,rfl,-⟩:=o6.strs;have o6':=Lib.hid (o6.mono hB5.out.size);have o7:=Lib.hid (o5.out.below b6 (Nat.le_refl _));have hB2:=Lib.hid (hB5.out.trans (b6.mono hB5.out.size));have HX2:=Lib.hid (HX5.out.below b6 HX5.out.lt);have cku2:=Lib.hid ((b6.cell (p:=⟨bu,ou+(L - 1),none⟩) hbu5).trans cku5.out);have hbu2:bu < W5.heap.size:=Nat.lt_of_lt_of_le hbu5 b6.size;clear o6 b6 o5 hB5 HX5 HT5 cku5 hbu5 x0 x1 x2 KM5
       by_cases hq:ml=[]
       · have hl0:((ml.length:Int)==0)=true:=by rw [hq];rfl
         have hr:=HFn.out (hno2.out hq);have HR:RetStrs w res (.returned (.slice A11 ml.length c11)) W5:=⟨_,rfl,by rw [hr,← hq];exact o6'.out,hB2.out⟩;replace HR:=Lib.hid HR;replace hq:=Lib.hid hq;replace hr:=Lib.hid hr;go_wp2;go_ret;exact HR.out
       · have hl0:((ml.length:Int)==0)=false:=by
          rw [beq_eq_false_iff_ne];intro e;exact hq (List.eq_nil_of_length_eq_zero (by omega))
         have hr:=Lib.hid (HFy.out (hnn.out (fun h=>by rw [← hfr1.out h];exact hne10.out h) hq));replace hq:=Lib.hid hq;obtain ⟨_,_,ev6,s6⟩:=o7.out.strs;cases ev6;obtain ⟨_,_,ev6,s8⟩:=o6'.out.strs;cases ev6;obtain ⟨x0,x1,x2,-,-,-⟩:=blk3 HX2.out;have hXlt:=HX2.out.lt;have HSrc:=Lib.hid (fun W' (hb:Below W5.heap.size W5 W')=>(s6.below hb (Nat.le_refl _)).src);have HSrm:=Lib.hid (fun W' (hb:Below W5.heap.size W5 W')=>(s8.below hb (Nat.le_refl _)).src);have hXk:=Lib.hid (fun W' (hb:Below W5.heap.size W5 W')=>blk3 (HX2.out.below hb HX2.out.lt));have hnk:=Lib.hid (fun W' (hb:Below W5.heap.size W5 W')=>(hb.cell (p:=⟨bu,ou+(L - 1),none⟩) hbu2).trans cku2.out);have k1:=Lib.hid (show 0+hd.length≤maxLen by unfold maxLen;omega);have k2:=Lib.hid (show (0+hd.length) * 16≤140737488355328 by omega);have k3:=Lib.hid (show 0+hd.length+2≤maxLen by unfold maxLen;omega);have k4:=Lib.hid (show (0+hd.length+2) * 16≤140737488355328 by omega);have k5:=Lib.hid (show 0+hd.length+2+ml.length≤maxLen by unfold maxLen;omega);have k6:=Lib.hid (show (0+hd.length+2+ml.length) * 16≤140737488355328 by omega);have ckx:=cku2.out;clear s6 s8;have kk1:(0:Int)≤(L:Int) - 1:=by omega
         have kk2:(L:Int) - 1 < (t.us.length:Int):=by omega
         have kk3:((L:Int) - 1).toNat=L - 1:=by omega
         have kk4:IntKind.i64.wrap ((L:Int) - 1)=(L:Int) - 1:=IntWalk.i64_in _ (by omega);have kk5:(1:Int)≤(L:Int):=by omega
         have bA:=Lib.hid (((Below.refl W5.heap.size W5).alloc (Nat.le_refl _) (.cells #[] 9)).drew);have bB:=Lib.hid ((((Below.refl W5.heap.size W5).alloc (Nat.le_refl _) (.cells #[] 9)).alloc (by simp) (.cells #[.string un,.string x] 9)).drew);have bC:=Lib.hid ((((Below.refl W5.heap.size W5).alloc (Nat.le_refl _) (.cells #[.string un,.string x] 9)).alloc (by simp) (.cells #[] 9)).drew);have bk0:Blk (W5.alloc (.cells #[] 9)) W5.heap.size 9 #[]:=Blk.new _ _ _;have bk1:Blk (W5.alloc (.cells #[.string un,.string x] 9)) W5.heap.size 9 #[.string un,.string x]:=Blk.new _ _ _;have bkB:=Lib.hid ((blk_new_at (w:=W5.alloc (.cells #[] 9)) (t:=9) (cs:=#[.string un,.string x]) (W5.heap.size+1) (by simp)).drew);have bkC:=Lib.hid ((bk1.alloc (.cells #[] 9)).drew);have oA:=Lib.hid (owns_empty (B:=W5.heap.size) bk0.drew (Nat.le_refl _));have oB:=Lib.hid (owns_empty (B:=W5.heap.size) (bk0.alloc (.cells #[.string un,.string x] 9)).drew (Nat.le_refl _));have oC:=Lib.hid (owns_empty (B:=W5.heap.size) ((blk_new_at (w:=W5.alloc (.cells #[.string un,.string x] 9)) (t:=9) (cs:=#[]) (W5.heap.size+1) (by simp)).drew) (by omega));clear bk0 bk1;go_upto_region 17 with (fail)
         go_region_held3 (fun w'=>(w'.cell? ⟨w.heap.size,0,none⟩=some (.slice (some ⟨bu,ou,none⟩) t.us.length c1)∧w'.cell? ⟨w.heap.size,1,none⟩=some (.slice (some ⟨b2,o2,none⟩) t.bs.length c2)∧w'.cell? ⟨w.heap.size,2,none⟩=some (.slice A3 t.ns.length c3))∧w'.cell? ⟨bu,ou+(L - 1),none⟩=some (.string un))
          (first | go_keep | exact hS5 | exact hS6 | exact hS7)
          (first
           | (refine step_app _ (by rfl) (.tmp 76) (.tmp 77) _ (by rfl) W5.heap.size 9 i0 _ 16 Tryz.underlying28 hi hz0 hz1 hz2 rfl (.slice (some ⟨W5.heap.size,0,none⟩) 0 0) 0 [] (by rfl) oA.out A10 hd.length c10 _ (by rfl) (HSrc.out _ bA.out) k1.out k2.out bA.out.size ?_;intro v5 w5 ho5 hg5 _;have hB5:=below_own (w:=W5) (S:=W5.heap.size) bA.out oA.out hg5 bA.out.size (Nat.le_refl _);have hk5:True:=trivial;obtain ⟨x0',x1',x2',-,-,-⟩:=hXk.out _ hB5;have hS5:=And.intro (And.intro x0' (And.intro x1' x2')) (hnk.out _ hB5);replace ho5:=Lib.hid ho5;replace hB5:=Lib.hid hB5;replace hk5:=Lib.hid hk5;clear hg5)
           | (refine step_app _ (by rfl) (.tmp 76) (.tmp 77) _ (by rfl) W5.heap.size 9 i0 _ 16 Tryz.underlying28 hi hz0 hz1 hz2 rfl (.slice (some ⟨W5.heap.size,0,none⟩) 0 0) 0 [] (by rfl) oB.out A10 hd.length c10 _ (by rfl) (HSrc.out _ bB.out) k1.out k2.out bB.out.size ?_;intro v5 w5 ho5 hg5 _;have hB5:=below_own (w:=W5) (S:=W5.heap.size) bB.out oB.out hg5 bB.out.size (Nat.le_refl _);have hk5:Blk w5 (W5.heap.size+1) 9 #[.string un,.string x]:=bkB.out.grown hg5 (by simp [Value.ownBlock]);obtain ⟨x0',x1',x2',-,-,-⟩:=hXk.out _ hB5;have hS5:=And.intro (And.intro x0' (And.intro x1' x2')) (hnk.out _ hB5);replace ho5:=Lib.hid ho5;replace hB5:=Lib.hid hB5;replace hk5:=Lib.hid hk5;clear hg5)
           | (refine step_app _ (by rfl) (.tmp 76) (.tmp 77) _ (by rfl) W5.heap.size 9 i0 _ 16 Tryz.underlying28 hi hz0 hz1 hz2 rfl (.slice (some ⟨W5.heap.size+1,0,none⟩) 0 0) 0 [] (by rfl) oC.out A10 hd.length c10 _ (by rfl) (HSrc.out _ bC.out) k1.out k2.out bC.out.size ?_;intro v5 w5 ho5 hg5 _;have hB5:=below_own (w:=W5) (S:=W5.heap.size) bC.out oC.out hg5 bC.out.size (Nat.le_refl _);have hk5:Blk w5 W5.heap.size 9 #[.string un,.string x]:=bkC.out.grown hg5 (by simp [Value.ownBlock]);obtain ⟨x0',x1',x2',-,-,-⟩:=hXk.out _ hB5;have hS5:=And.intro (And.intro x0' (And.intro x1' x2')) (hnk.out _ hB5);replace ho5:=Lib.hid ho5;replace hB5:=Lib.hid hB5;replace hk5:=Lib.hid hk5;clear hg5)
           | (refine step_app _ (by rfl) (.tmp 78) (.tmp 86) _ (by rfl) W5.heap.size 9 i0 _ 16 Tryz.underlying28 hi hz0 hz1 hz2 rfl v5 _ _ (by rfl) (World.ownsRow.alloc ho5.out _) (some ⟨w5.heap.size,0,none⟩) 2 2 [.string un,.string x] (by rfl) (Src.two (Blk.new _ _ _) rfl rfl) k3.out k4.out (by have:=hB5.out.size;simp;omega) ?_;intro v6 w6 ho6 hg6 _;have hB6:=below_own (w:=W5) (S:=W5.heap.size) (hB5.out.alloc hB5.out.size _) (World.ownsRow.alloc ho5.out _) hg6 (by have:=hB5.out.size;simp;omega) (Nat.le_refl _);obtain ⟨x0',x1',x2',-,-,-⟩:=hXk.out _ hB6;have hS6:=And.intro (And.intro x0' (And.intro x1' x2')) (hnk.out _ hB6);replace ho6:=Lib.hid ho6;replace hB6:=Lib.hid hB6;clear hg6)
           | (refine step_app _ (by rfl) (.tmp 78) (.tmp 86) _ (by rfl) W5.heap.size 9 i0 _ 16 Tryz.underlying28 hi hz0 hz1 hz2 rfl v5 _ _ (by rfl) ho5.out _ 2 2 [.string un,.string x] (by rfl) (Src.two hk5.out rfl rfl) k3.out k4.out hB5.out.size ?_;intro v6 w6 ho6 hg6 _;have hB6:=below_own (w:=W5) (S:=W5.heap.size) hB5.out ho5.out hg6 hB5.out.size (Nat.le_refl _);obtain ⟨x0',x1',x2',-,-,-⟩:=hXk.out _ hB6;have hS6:=And.intro (And.intro x0' (And.intro x1' x2')) (hnk.out _ hB6);replace ho6:=Lib.hid ho6;replace hB6:=Lib.hid hB6;clear hg6)
           | (refine step_app _ (by rfl) (.tmp 87) (.tmp 88) _ (by rfl) W5.heap.size 9 i0 _ 16 Tryz.underlying28 hi hz0 hz1 hz2 rfl v6 _ _ (by rfl) ho6.out A11 ml.length c11 _ (by rfl) (HSrm.out _ hB6.out) k5.out k6.out hB6.out.size ?_;intro v7 w7 ho7 hg7 _;have hB7:=below_own (w:=W5) (S:=W5.heap.size) hB6.out ho6.out hg7 hB6.out.size (Nat.le_refl _);obtain ⟨x0',x1',x2',-,-,-⟩:=hXk.out _ hB7;have hS7:=And.intro (And.intro x0' (And.intro x1' x2')) (hnk.out _ hB7);replace ho7:=Lib.hid ho7;replace hB7:=Lib.hid hB7;clear hg7))
         all_goals
          have ho9:OwnStrs w7 W5.heap.size v7 res:=by
           have:=ho7.out;rw [hr.out];unfold OwnStrs;have e:(hd++[un,x]++ml).length=0+hd.length+2+ml.length:=by simp;omega
           rw [e]
           simpa using this
          obtain ⟨A12,c12,rfl,-⟩:=ho9.strs;have HR:RetStrs w res (.returned (.slice A12 res.length c12)) w7:=⟨_,rfl,ho9.mono hB2.out.size,hB2.out.trans (hB7.out.mono hB2.out.size)⟩;replace HR:=Lib.hid HR;clear ho9 ho7 hB7 hr;go_wp2;go_ret;exact HR.out
    · have hF:=Lib.hid (HF0 hT);have K:=Lib.hid (KNm.out n hn1 hn2 _ W HT.out)
      have hcase:lowU t n=0∨(lowU t n≠0∧tensU t n=lowU t n):=by
       by_cases h0:lowU t n=0
       · exact .inl h0
       · exact .inr ⟨h0,by
          by_cases h1:tensU t n=lowU t n
          · exact h1
          · exact absurd ⟨h0,h1⟩ hT⟩
      replace hT:=Lib.hid hT;clear HF0 HF1 HF2 HBT HG HE HC HP HLen KNm hS1;generalize tensU t n=T at *;generalize lowU t n=L at *;rcases hcase with hz | ⟨hz,hz'⟩
      · have q1:((L:Int)==0)=true:=by rw [beq_iff_eq];omega
        replace hz:=Lib.hid hz;go_wp2_with (fail);refine K.out.mono ?_;rintro e w3 ⟨v3,rfl,o3,b3⟩;obtain ⟨A4,c4,rfl,-⟩:=o3.strs;have HR:RetStrs w (turnT t x n) (.returned (.slice A4 (nameT t n).length c4)) w3:=⟨_,rfl,by rw [hF.out];exact o3.mono hB.out.size,hB.out.trans (b3.mono hB.out.size)⟩;replace HR:=Lib.hid HR;clear o3 b3;go_wp2;go_ret;exact HR.out
      · have q1:((L:Int)==0)=false:=by rw [beq_eq_false_iff_ne];omega
        have q2:((T:Int)==(L:Int))=true:=by rw [beq_iff_eq];omega
        replace hz:=Lib.hid hz;replace hz':=Lib.hid hz';go_wp2_with (fail);refine K.out.mono ?_;rintro e w3 ⟨v3,rfl,o3,b3⟩;obtain ⟨A4,c4,rfl,-⟩:=o3.strs;have HR:RetStrs w (turnT t x n) (.returned (.slice A4 (nameT t n).length c4)) w3:=⟨_,rfl,by rw [hF.out];exact o3.mono hB.out.size,hB.out.trans (b3.mono hB.out.size)⟩;replace HR:=Lib.hid HR;clear o3 b3;go_wp2;go_ret;exact HR.out
end
section
open Go.RowKit
theorem turned_none2 {w w1:World} {t:Tg} {n:Int} {x:ByteArray} (hb:Below w.heap.size w w1) (h:askT t n x=false):RetStrs2 w (turnedOf t n x) (turnedB t n x) (.returned (.tuple #[.slice (some ⟨w1.heap.size,0,none⟩) 0 0,.bool false])) (w1.alloc (.cells #[] 9)) :=
 ⟨_,by rw [(ask_no h).2.1],by rw [(ask_no h).1];exact owns_empty (Blk.new _ _ _) hb.size,hb.alloc hb.size _⟩
set_option maxRecDepth 100000 in
set_option maxHeartbeats 2000000 in
theorem specTurnedName_any (v:Value) (t:Tg) (n:Int) (x:ByteArray) (w:World) (h:Tng w v t) (hf:t.Fine) (_hn:-9223372036854775808≤n∧n≤9223372036854775807) (hx:x.size≤maxLen) :
 Calls Tryz.prog 70 #[v,.int .i64 n,.string x] w (RetStrs2 w (turnedOf t n x) (turnedB t n x)):=by
 obtain ⟨A1,c1,A2,c2,A3,c3,rfl,-⟩:=h.ex;have hB:=(Below.refl w.heap.size w).alloc (Nat.le_refl _) (.cells #[.slice A1 t.us.length c1,.slice A2 t.bs.length c2,.slice A3 t.ns.length c3] 31);have HX:=Blk.new w 31 #[.slice A1 t.us.length c1,.slice A2 t.bs.length c2,.slice A3 t.ns.length c3];have HT:=h.below hB (Nat.le_refl _);have K1:=Lib.hid (specFits_any _ t x _ HT hf hx);replace hB:=Lib.hid hB;replace HX:=Lib.hid HX;replace HT:=Lib.hid HT;clear h hf;go_enter Tryz.func70,Tryz.ntmps70;go_upto_region 1 with (fail)
 generalize w.alloc (.cells #[.slice A1 t.us.length c1,.slice A2 t.bs.length c2,.slice A3 t.ns.length c3] 31)=W at *;obtain ⟨x0,x1,x2,-,-,-⟩:=blk3 HX.out;go_wp2_with (fail);refine K1.out.mono ?_;rintro e w1 ⟨rfl,b1⟩;replace hB:=Lib.hid (hB.out.trans (b1.mono hB.out.size));replace HX:=Lib.hid (HX.out.below b1 HX.out.lt);replace HT:=Lib.hid (HT.out.below b1 (Nat.le_refl _));clear b1 x0 x1 x2 K1;obtain ⟨x0,x1,x2,-,-,-⟩:=blk3 HX.out;cases hfi:fitsT t x
 · have hno:askT t n x=false:=ask_of hfi rfl;replace hno:=Lib.hid hno;replace hfi:=Lib.hid hfi;go_wp2
   go_ret2
   exact turned_none2 hB.out hno.out
 · by_cases hd:1≤n∧n≤99999
   · obtain ⟨hd1,hd2⟩:=hd;obtain ⟨m,rfl⟩:∃ m:Nat,n=m:=⟨n.toNat,by omega⟩;obtain ⟨hok,hl2,hne,-,-⟩:=fits_parts hfi;have hyes:askT t m x=true:=ask_of hfi (decide_eq_true ⟨hd1,hd2⟩);have K2:=Lib.hid (specTurn_any hok hl2 hne m (by omega) (by omega) _ x w1 HT.out);have hdb:decide (1≤(m:Int)∧(m:Int)≤99999)=true:=decide_eq_true ⟨hd1,hd2⟩;replace hyes:=Lib.hid hyes;replace hok:=Lib.hid hok;replace hne:=Lib.hid hne;replace hfi:=Lib.hid hfi;go_wp2_with (fail);refine (in_any _ _ _ _).mono ?_;rintro e _ ⟨rfl,rfl⟩;rw [hdb];clear hdb;go_wp2_with (fail);refine K2.out.mono ?_;rintro e w3 ⟨v3,rfl,o3,b3⟩;obtain ⟨A,c,rfl,-⟩:=o3.strs
     have HR:RetStrs2 w (turnedOf t m x) (turnedB t m x) (.returned (.tuple #[.slice A (turnT t x m).length c,.bool (decide (0 < (turnT t x m).length))])) w3 :=
      ⟨_,by unfold turnedB;rw [ask_yes hyes.out],by rw [ask_yes hyes.out];exact o3.mono hB.out.size,hB.out.trans (b3.mono hB.out.size)⟩
     replace HR:=Lib.hid HR;clear o3 b3 x0 x1 x2;generalize turnT t x m=xs at *;generalize xs.length=L at *;go_wp2
     go_ret2
     exact HR.out
   · have hno:askT t n x=false:=ask_of hfi (decide_eq_false hd);have hdb:=decide_eq_false hd;replace hno:=Lib.hid hno;replace hfi:=Lib.hid hfi;replace hd:=Lib.hid hd;go_wp2_with (fail);refine (in_any _ _ _ _).mono ?_;rintro e _ ⟨rfl,rfl⟩;rw [hdb];clear hdb;go_wp2
     go_ret2
     exact turned_none2 hB.out hno.out
end
section
open Go.RowKit
def lackB (t:Tg) (n k:Nat):Nat:=bN t k - n % bN t k
def leastTo (t:Tg) (n:Nat):Nat→Nat
 | 0=>0
 | k+1=>if k=0 then 0 else if k=1 then lackB t n 1 else min (leastTo t n k) (lackB t n k)
def upTo (t:Tg) (n k:Nat):Nat:=if k≤1 then 0 else n+leastTo t n k
def capTo (t:Tg) (n k:Nat):Nat:=if k≤1 then 101 else min 101 (leastTo t n k)
def leastN (t:Tg) (n:Nat):Nat:=leastTo t n t.bs.length
theorem least_two (t:Tg) (n:Nat):leastTo t n 2=lackB t n 1:=rfl
theorem least_go {t:Tg} {n k:Nat} (h:2≤k):leastTo t n (k+1)=min (leastTo t n k) (lackB t n k):=by
 rw [leastTo,if_neg (by omega),if_neg (by omega)]
theorem lack_bd {t:Tg} (hb:basesOk t.bs=true) (n:Nat) {k:Nat} (hk:k < t.bs.length):1≤lackB t n k∧lackB t n k≤bN t k:=by
 have h1:=(bN_int hb hk).2;have h2:=Nat.mod_lt n (show 0 < bN t k by omega);unfold lackB;omega
theorem leastU_bd {t:Tg} (hb:basesOk t.bs=true) (n:Nat):∀ k,2≤k→k≤t.bs.length→1≤leastTo t n k∧leastTo t n k≤bN t 1:=by
 intro k
 induction k with
 | zero=>intro h;omega
 | succ k ih =>
  intro h2 hk
  by_cases e:k=1
  · subst e;rw [least_two];exact lack_bd hb n hk
  · rw [least_go (by omega)];have i:=ih (by omega) (by omega);have l:=lack_bd hb n (k:=k) (by omega);omega
theorem up_go {t:Tg} (hb:basesOk t.bs=true) {n k:Nat} (h1:1≤k) (hk:k < t.bs.length) :
 (upTo t n k=0→upTo t n (k+1)=n+lackB t n k)∧(upTo t n k≠0→n+lackB t n k - n < upTo t n k - n→upTo t n (k+1)=n+lackB t n k) ∧
 (upTo t n k≠0→¬ (n+lackB t n k - n < upTo t n k - n)→upTo t n (k+1)=upTo t n k):=by
 unfold upTo;rw [if_neg (show ¬ k+1≤1 by omega)]
 by_cases e:k=1
 · subst e;rw [if_pos (Nat.le_refl _),least_two];exact ⟨fun _=>rfl,fun h=>absurd rfl h,fun h=>absurd rfl h⟩
 · rw [if_neg (by omega),least_go (by omega)];have:=leastU_bd hb n k (by omega) (by omega);refine ⟨fun h=>?_,fun _ h=>?_,fun _ h=>?_⟩ <;> omega
theorem cap_step {t:Tg} {n k:Nat} (h1:1≤k):min (capTo t n k) (lackB t n k)=capTo t n (k+1):=by
 unfold capTo;rw [if_neg (show ¬ k+1≤1 by omega)]
 by_cases e:k=1
 · subst e;rw [if_pos (Nat.le_refl _),least_two]
 · rw [if_neg (by omega),least_go (by omega)];omega
theorem up_bd {t:Tg} (hb:basesOk t.bs=true) (n k:Nat) (hk:k≤t.bs.length):upTo t n k≤n+999999∧(upTo t n k≠0→n < upTo t n k):=by
 unfold upTo
 by_cases h:k≤1
 · rw [if_pos h];omega
 · rw [if_neg h];have h1:=leastU_bd hb n k (by omega) hk;have h2:=bases_pos hb 1 (by omega);have h3:bN t 1≤999999:=by unfold bN;omega
   omega
theorem least_21 {t:Tg} (hok:t.ok=true) (h2:2≤t.bs.length) (n:Nat):1≤leastN t n∧leastN t n≤21∧leastN t n≤bN t 1:=by
 have h1:=leastU_bd (ok_shape hok).bs n t.bs.length h2 (Nat.le_refl _);have h3:=b1_us hok h2;have h4:=(ok_shape hok).us;unfold leastN;omega
theorem lack_named {t:Tg} (hok:t.ok=true) (h2:2≤t.bs.length) (n:Nat):namedB t (leastN t n)=true:=by
 obtain ⟨h1,h21,hb1⟩:=least_21 hok h2 n;have hs:=ok_shape hok;have hb:=hs.bs;refine named_of hok h1 (by omega) ?_;unfold nameT;refine named_below hb h2 (hs.two h2) _ h1 ?_;have hg:=(gr_at h2).1;have g1:=hg.1;have g2:=hg.2.1
 have hm:t.bs.getD 1 0≤t.bs.getD (grAt t.bs) 0:=by
  by_cases e:grAt t.bs=1
  · rw [e];exact Int.le_refl _
  · exact Int.le_of_lt (bases_mono hb 1 _ (by omega) g2)
 have hu:=b1_us hok h2;have hub:=hs.us;have hi:=(bN_int hb (k:=1) (by omega)).1;have hq:=Int.mul_le_mul_of_nonneg_right (show (2:Int)≤t.bs.getD (grAt t.bs) 0 by omega) (show (0:Int)≤t.bs.getD (grAt t.bs) 0 by omega);omega
def fitsW (t:Tg) (x:ByteArray):Bool:=t.ok&&strangerB t x
def fitsA (t:Tg) (x:ByteArray) (b:Int):Bool:=fitsW t x&&decide (0≤b∧b≤100)
def askA (t:Tg) (n:Int) (x:ByteArray) (b:Int):Bool:=fitsA t x b&&decide (1≤n∧n≤99999)
def condA (t:Tg) (n:Int) (b:Int):Bool:=decide (2≤t.bs.length)&&(decide ((leastN t n.toNat:Int)≤b)&&namedB t (n+leastN t n.toNat))
def takenOf (t:Tg) (n:Int) (x:ByteArray) (b:Int):List ByteArray:=if askA t n x b&&condA t n b then nameOf t (leastN t n.toNat)++[x]++nameOf t (n+leastN t n.toNat) else []
def takenB (t:Tg) (n:Int) (x:ByteArray) (b:Int):Bool:=decide (0 < (takenOf t n x b).length)
def lessB (xs ys:List ByteArray):Bool:=decide (0 < xs.length)&&(!decide (0 < ys.length) || decide (xs.length < ys.length))
def shortOf (t:Tg) (n:Int) (x:ByteArray) (b:Int):List ByteArray:=if askA t n x b then (if lessB (takenOf t n x b) (nameOf t n) then takenOf t n x b else nameOf t n) else []
def shortB (t:Tg) (n:Int) (x:ByteArray) (b:Int):Bool:=decide (0 < (shortOf t n x b).length)
section
variable {t : Tg} {x : ByteArray} {n b : Int}
theorem fitsA_parts (h:fitsA t x b=true):t.ok=true∧wordOk x=true∧x ∉ t.words∧0≤b∧b≤100:=by
 unfold fitsA fitsW strangerB at h;simp only [Bool.and_eq_true,decide_eq_true_eq,Bool.not_eq_true',hasB_not] at h;exact ⟨h.1.1,h.1.2.1,h.1.2.2,h.2.1,h.2.2⟩
theorem askA_parts (h:askA t n x b=true):fitsA t x b=true∧1≤n∧n≤99999:=by
 unfold askA at h;rw [Bool.and_eq_true,decide_eq_true_eq] at h;exact h
theorem askA_no (h:askA t n x b=false):takenOf t n x b=[]∧takenB t n x b=false∧shortOf t n x b=[]∧shortB t n x b=false:=by
 have e1:takenOf t n x b=[]:=by unfold takenOf;rw [h];rfl
 have e2:shortOf t n x b=[]:=by unfold shortOf;rw [h];rfl
 exact ⟨e1,by unfold takenB;rw [e1];rfl,e2,by unfold shortB;rw [e2];rfl⟩
theorem taken_no (h:takenB t n x b=false):takenOf t n x b=[]:=List.eq_nil_of_length_eq_zero (by unfold takenB at h;have:=of_decide_eq_false h;omega)
theorem short_no (h:shortB t n x b=false):shortOf t n x b=[]:=List.eq_nil_of_length_eq_zero (by unfold shortB at h;have:=of_decide_eq_false h;omega)
theorem taken_form (h:takenB t n x b=true):∃ m L:Nat,n=m∧1≤m∧m≤99999∧L=leastN t m∧1≤L∧L≤21∧(L:Int)≤b∧2≤t.bs.length∧askA t n x b=true∧namedB t L=true∧namedB t (n+L)=true∧takenOf t n x b=nameOf t L++[x]++nameOf t (n+L):=by
 have ht:(askA t n x b&&condA t n b)=true:=by
  cases hc:askA t n x b&&condA t n b
  · unfold takenB takenOf at h;rw [hc] at h;simp at h
  · rfl
 have e:takenOf t n x b=nameOf t (leastN t n.toNat)++[x]++nameOf t (n+leastN t n.toNat):=by unfold takenOf;rw [if_pos ht]
 rw [Bool.and_eq_true] at ht;obtain ⟨ha,hc⟩:=ht;unfold condA at hc;simp only [Bool.and_eq_true,decide_eq_true_eq] at hc;obtain ⟨hf,h1,h2⟩:=askA_parts ha;obtain ⟨m,rfl⟩:∃ m:Nat,n=m:=⟨n.toNat,by omega⟩;have hok:=(fitsA_parts hf).1;rw [Int.toNat_natCast] at hc e;obtain ⟨l1,l2,-⟩:=least_21 hok hc.1 m;exact ⟨m,leastN t m,rfl,by omega,by omega,rfl,l1,l2,hc.2.1,hc.1,ha,lack_named hok hc.1 m,hc.2.2,e⟩
theorem takenB_of (ha:askA t n x b=true) (hc:condA t n b=true):takenOf t n x b=nameOf t (leastN t n.toNat)++[x]++nameOf t (n+leastN t n.toNat)∧takenB t n x b=true:=by
 have e:takenOf t n x b=nameOf t (leastN t n.toNat)++[x]++nameOf t (n+leastN t n.toNat):=by unfold takenOf;rw [ha,hc];rfl
 exact ⟨e,by unfold takenB;rw [e,decide_eq_true_eq];simp;omega⟩
theorem condA_no (hc:condA t n b=false):takenOf t n x b=[]∧takenB t n x b=false:=by
 have e:takenOf t n x b=[]:=by unfold takenOf;rw [hc,Bool.and_false];rfl
 exact ⟨e,by unfold takenB;rw [e];rfl⟩
theorem short_len_named (t:Tg) (n:Int):namedB t n=decide (0 < (nameOf t n).length):=rfl
theorem short_form (h:shortB t n x b=true):askA t n x b=true∧((namedB t n=true∧shortOf t n x b=nameOf t n)∨(takenB t n x b=true∧shortOf t n x b=takenOf t n x b∧(namedB t n=true→(takenOf t n x b).length < (nameOf t n).length))):=by
 cases ha:askA t n x b
 · rw [(askA_no ha).2.2.2] at h;cases h
 · refine ⟨rfl,?_⟩;unfold shortB shortOf at h;unfold shortOf;rw [ha,if_pos rfl] at h ⊢;cases hl:lessB (takenOf t n x b) (nameOf t n)
   · left
     rw [hl,if_neg (by decide)] at h;exact ⟨h,if_neg (by decide)⟩
   · right
     unfold lessB at hl;rw [Bool.and_eq_true,Bool.or_eq_true,Bool.not_eq_true',← short_len_named] at hl;refine ⟨hl.1,if_pos rfl,fun hn=>?_⟩;rcases hl.2 with h | h
     · rw [hn] at h;cases h
     · exact of_decide_eq_true h
theorem getD_in {l:List ByteArray} {k:Nat} (h:k < l.length):l.getD k ByteArray.empty ∈ l:=by
 rw [List.getD_eq_getElem?_getD,List.getElem?_eq_getElem h];exact List.getElem_mem h
theorem taken_len (t:Tg) (n:Int) (x:ByteArray) (b:Int):(takenOf t n x b).length≤63:=by
 cases h:takenB t n x b
 · rw [taken_no h];simp
 · obtain ⟨m,L,-,-,-,-,-,-,-,-,-,-,-,e⟩:=taken_form h;have h1:=nameOf_31 t L;have h2:=nameOf_31 t (n+L);rw [e];simp;omega
theorem short_len (t:Tg) (n:Int) (x:ByteArray) (b:Int):(shortOf t n x b).length≤63:=by
 have h1:=taken_len t n x b;have h2:=nameOf_31 t n;unfold shortOf
 split
 · split <;> omega
 · simp
theorem short_size (t:Tg) (n:Int) (x:ByteArray) (b:Int):∀ y ∈ shortOf t n x b,1≤y.size∧y.size≤8:=by
 intro y hy;cases h:shortB t n x b
 · rw [short_no h] at hy;cases hy
 · obtain ⟨ha,hc⟩:=short_form h;rcases hc with ⟨-,e⟩ | ⟨ht,e,-⟩
   · rw [e] at hy;exact nameOf_size t n y hy
   · obtain ⟨m,L,-,-,-,-,-,-,-,-,-,-,-,e2⟩:=taken_form ht;rw [e,e2] at hy;rcases List.mem_append.1 hy with hy | hy
     · rcases List.mem_append.1 hy with hy | hy
       · exact nameOf_size t _ y hy
       · obtain rfl:y=x:=by simpa using hy
         have hw:=(fitsA_parts (askA_parts ha).1).2.1;unfold wordOk at hw;rw [Bool.and_eq_true,decide_eq_true_eq] at hw;exact hw.1
     · exact nameOf_size t _ y hy
end
end
section
open Go.RowKit
set_option maxRecDepth 100000 in
set_option maxHeartbeats 4000000 in
theorem specUp_any {t:Tg} (hok:t.ok=true) (n:Nat) (hn2:n≤99999) (v:Value) (w:World) (h:Tng w v t) :
 Calls Tryz.prog 146 #[v,.int .i64 n] w fun e w'=>e=.returned (.int .i64 (upTo t n t.bs.length:Nat))∧Below w.heap.size w w':=by
 have hbs:=(ok_shape hok).bs;have hbl:=bases_len hbs;have HP:=Lib.hid (fun k (hk:k < t.bs.length)=>bN_int hbs (k:=k) hk);have HU:=Lib.hid (fun k (hk:k < t.bs.length)=>(bases_pos hbs k hk));have HG:=Lib.hid (fun k h1 hk=>up_go (t:=t) hbs (n:=n) (k:=k) h1 hk);have HB:=Lib.hid (fun k hk=>up_bd (t:=t) hbs n k hk);obtain ⟨A1,c1,A2,c2,A3,c3,rfl,-⟩:=h.ex;have hB:=(Below.refl w.heap.size w).alloc (Nat.le_refl _) (.cells #[.slice A1 t.us.length c1,.slice A2 t.bs.length c2,.slice A3 t.ns.length c3] 31);have HX:=Blk.new w 31 #[.slice A1 t.us.length c1,.slice A2 t.bs.length c2,.slice A3 t.ns.length c3];have HT:=h.below hB (Nat.le_refl _);replace hB:=Lib.hid hB;replace HX:=Lib.hid HX;replace HT:=Lib.hid HT;replace hok:=Lib.hid hok;replace hbs:=Lib.hid hbs;clear h;go_enter Tryz.func146,Tryz.ntmps146;go_upto_region 1 with (fail)
 generalize w.alloc (.cells #[.slice A1 t.us.length c1,.slice A2 t.bs.length c2,.slice A3 t.ns.length c3] 31)=W at *;obtain ⟨x0,x1,x2,-,-,-⟩:=blk3 HX.out;obtain ⟨_,_,_,_,_,_,ev,-,I2,-⟩:=HT.out.ex;cases ev;obtain ⟨b2,o2,rfl,hb2,hc2⟩:=I2.at_ (by omega);have HC:Hid (∀ k,k < t.bs.length→W.cell? ⟨b2,o2+k,none⟩=some (.int .i64 (bN t k))):=Lib.hid (fun k hk=>by rw [hc2 k hk,(HP.out k hk).1]);clear I2 hc2;go_wp2
 go_loopw [5,6] (fun s5 s6 wr=>∃ k m:Nat,1≤k∧k≤t.bs.length∧s6=.int .i64 k∧s5=.int .i64 (upTo t n k:Nat)∧wr=W.drewN m) (fun _ i _=>t.bs.length - (intOf i).toNat)
 case atStart=>exact ⟨1,0,Nat.le_refl _,by omega,rfl,rfl,rfl⟩
 case round =>
  obtain ⟨k,m,hk1,hk,rfl,rfl,rfl⟩:=hrel
  by_cases hlt:k < t.bs.length
  · have ck:=HC.out k hlt;have hp:=(HP.out k hlt).2;have hpu:=HU.out k hlt;have hbu:bN t k≤999999:=by have:=(HP.out k hlt).1;omega
    have hbd:=HB.out k hk;obtain ⟨g1,g2,g3⟩:=HG.out k hk1 hlt
    have hlk:n+lackB t n k=n - n % bN t k+bN t k:=by
     have:=Nat.mod_lt n (show 0 < bN t k by omega);have:=Nat.mod_le n (bN t k);unfold lackB;omega
    have eK:(n:Int) % (bN t k:Int)=((n % bN t k:Nat):Int):=rfl;have hml:=Nat.mod_le n (bN t k);have q0:(0:Int)≤(n:Int) % (bN t k:Int):=by rw [eK];omega
    have hlb:1≤lackB t n k∧lackB t n k≤bN t k:=lack_bd hbs.out n hlt;have v1:IntKind.i64.wrap ((n:Int) - (n:Int) % (bN t k:Int))=(n:Int) - (n:Int) % (bN t k:Int):=IntWalk.i64_in _ (by rw [eK];omega);have v2:(n:Int) - (n:Int) % (bN t k:Int)+(bN t k:Int)=((n+lackB t n k:Nat):Int):=by rw [eK];omega
    have v3:IntKind.i64.wrap ((n:Int) - (n:Int) % (bN t k:Int)+(bN t k:Int))=(n:Int) - (n:Int) % (bN t k:Int)+(bN t k:Int):=IntWalk.i64_in _ (by rw [v2];omega);clear hlk hpu;generalize upTo t n k=U at *;generalize lackB t n k=L at *;generalize bN t k=b at *;obtain ⟨V,hV⟩:∃ V:Nat,V=n+L:=⟨_,rfl⟩;rw [← hV] at g1 g2 g3 v2;have w1:IntKind.i64.wrap ((V:Int) - (n:Int))=(V:Int) - (n:Int):=IntWalk.i64_in _ (by omega);have w2:IntKind.i64.wrap ((U:Int) - (n:Int))=(U:Int) - (n:Int):=IntWalk.i64_in _ (by omega);have kw:IntKind.i64.wrap ((k:Int)+1)=(k:Int)+1:=IntWalk.i64_in _ (by omega);have hVn:n < V:=by omega
    replace v2:=Lib.hid v2;replace eK:=Lib.hid eK;replace g1:=Lib.hid g1;replace g2:=Lib.hid g2;replace g3:=Lib.hid g3;have hlt':(k:Int) < (t.bs.length:Int):=by omega
    obtain ⟨hbd1,hbd2⟩:=hbd;replace hV:=Lib.hid hV;go_upto_region 5 with (fail)
    go_quiet (fail)
    rw [v2.out];clear v1 v3 q0 ck
    by_cases h0:U=0
    · have u0:((U:Int)==0)=true:=by rw [beq_iff_eq];omega
      have hg:=Lib.hid (g1.out h0);replace h0:=Lib.hid h0;replace hbd2:=Lib.hid hbd2;go_wp2
      go_roundw
      case rel=>exact ⟨k+1,m+nq,by omega,by omega,by go_num,by rw [hg.out],by simp⟩
      case measure=>simp [intOf];omega
    · have u0:((U:Int)==0)=false:=by rw [beq_eq_false_iff_ne];omega
      have hUn:=hbd2 h0
      by_cases hlt2:V - n < U - n
      · have hg:=Lib.hid (g2.out h0 hlt2);have hl2:(V:Int) - (n:Int) < (U:Int) - (n:Int):=by omega
        replace h0:=Lib.hid h0;replace hbd2:=Lib.hid hbd2;go_wp2
        go_roundw
        case rel=>exact ⟨k+1,m+nq,by omega,by omega,by go_num,by rw [hg.out],by simp⟩
        case measure=>simp [intOf];omega
      · have hg:=Lib.hid (g3.out h0 hlt2);have hl2:¬ (V:Int) - (n:Int) < (U:Int) - (n:Int):=by omega
        replace h0:=Lib.hid h0;replace hbd2:=Lib.hid hbd2;go_wp2
        go_roundw
        case rel=>exact ⟨k+1,m+nq,by omega,by omega,by go_num,by rw [hg.out],by simp⟩
        case measure=>simp [intOf];omega
  · obtain rfl:k=t.bs.length:=by omega
    have hlt':¬ (t.bs.length:Int) < (t.bs.length:Int):=by omega
    go_wp2;go_ret;exact ⟨rfl,below_drewN hB.out _⟩
end
section
open Go.RowKit
theorem askA_off {t:Tg} {x:ByteArray} {n b:Int} {c:Bool} (hc:c=false) (h:askA t n x b=true→c=true):askA t n x b=false:=by
 cases ha:askA t n x b
 · rfl
 · rw [h ha] at hc;cases hc
theorem taken_leaf {w w1:World} {xs:List ByteArray} {c:Bool} (hb:Below w.heap.size w w1) (h:xs=[]) (h':c=false):RetStrs2 w xs c (.returned (.tuple #[.slice (some ⟨w1.heap.size,0,none⟩) 0 0,.bool false])) (w1.alloc (.cells #[] 9)) :=
 ⟨_,by rw [h'],by rw [h];exact owns_empty (Blk.new _ _ _) hb.size,hb.alloc hb.size _⟩
theorem takenOf_none2 {w w1:World} {t:Tg} {x:ByteArray} {n b:Int} (hb:Below w.heap.size w w1) (h:askA t n x b=false):RetStrs2 w (takenOf t n x b) (takenB t n x b) (.returned (.tuple #[.slice (some ⟨w1.heap.size,0,none⟩) 0 0,.bool false])) (w1.alloc (.cells #[] 9)) :=
 taken_leaf hb (askA_no h).1 (askA_no h).2.1
theorem shortOf_none2 {w w1:World} {t:Tg} {x:ByteArray} {n b:Int} (hb:Below w.heap.size w w1) (h:askA t n x b=false):RetStrs2 w (shortOf t n x b) (shortB t n x b) (.returned (.tuple #[.slice (some ⟨w1.heap.size,0,none⟩) 0 0,.bool false])) (w1.alloc (.cells #[] 9)) :=
 taken_leaf hb (askA_no h).2.2.1 (askA_no h).2.2.2
set_option maxRecDepth 100000 in
set_option maxHeartbeats 8000000 in
theorem specTakenFrom_any (v:Value) (t:Tg) (n:Int) (x:ByteArray) (b:Int) (w:World) (h:Tng w v t) (hf:t.Fine) (hn:-9223372036854775808≤n∧n≤9223372036854775807) (hx:x.size≤maxLen) (hbb:-9223372036854775808≤b∧b≤9223372036854775807) :
 Calls Tryz.prog 121 #[v,.int .i64 n,.string x,.int .i64 b] w (RetStrs2 w (takenOf t n x b) (takenB t n x b)):=by
 obtain ⟨i0,hi,hz0,hz1,hz2⟩:=info_parts str_info;obtain ⟨A1,c1,A2,c2,A3,c3,rfl,-⟩:=h.ex;have hB:=(Below.refl w.heap.size w).alloc (Nat.le_refl _) (.cells #[.slice A1 t.us.length c1,.slice A2 t.bs.length c2,.slice A3 t.ns.length c3] 31);have HX:=Blk.new w 31 #[.slice A1 t.us.length c1,.slice A2 t.bs.length c2,.slice A3 t.ns.length c3];have HT:=h.below hB (Nat.le_refl _);have hno:=Lib.hid (fun (c:Bool) (hc:c=false) (hh:askA t n x b=true→c=true)=>askA_off (t:=t) (n:=n) (x:=x) (b:=b) hc hh);have hnil:=Lib.hid (fun (h:askA t n x b=false) (w1:World) (hb1:Below w.heap.size w w1)=>takenOf_none2 (w:=w) (w1:=w1) hb1 h);have hse:=fun ho hw=>stranger_eq (t:=t) (x:=x) ho hw
 replace hB:=Lib.hid hB;replace HX:=Lib.hid HX;replace HT:=Lib.hid HT;clear h;go_enter Tryz.func121,Tryz.ntmps121;go_upto_region 1 with (fail)
 generalize w.alloc (.cells #[.slice A1 t.us.length c1,.slice A2 t.bs.length c2,.slice A3 t.ns.length c3] 31)=W at *;obtain ⟨x0,x1,x2,-,-,-⟩:=blk3 HX.out;have KU:=Lib.hid (specUnitOf_any _ t x W HT.out hf);generalize unitB t x=ub at *;generalize unitV t x=uv at *;go_wp2_with (fail);refine KU.out.mono ?_;rintro e w1 ⟨rfl,b1⟩;clear KU;replace hB:=Lib.hid (hB.out.trans (b1.mono hB.out.size));replace HX:=Lib.hid (HX.out.below b1 HX.out.lt);replace HT:=Lib.hid (HT.out.below b1 (Nat.le_refl _));clear b1 x0 x1 x2;obtain ⟨x0,x1,x2,-,-,-⟩:=blk3 HX.out;have KB:=Lib.hid (specBaseOf_any _ t x w1 HT.out hf);generalize baseB t x=bb at *;generalize baseV t x=bv' at *;go_wp2_with (fail);refine KB.out.mono ?_;rintro e w2 ⟨rfl,b2⟩;clear KB;replace hB:=Lib.hid (hB.out.trans (b2.mono hB.out.size));replace HX:=Lib.hid (HX.out.below b2 HX.out.lt);replace HT:=Lib.hid (HT.out.below b2 (Nat.le_refl _));clear b2 x0 x1 x2;obtain ⟨x0,x1,x2,-,-,-⟩:=blk3 HX.out;have KT:=Lib.hid (specTongueOk_any _ t w2 HT.out hf);replace hse:=Lib.hid hse;go_wp2_with (fail);refine KT.out.mono ?_;rintro e w3 ⟨rfl,b3⟩;clear KT;replace hB:=Lib.hid (hB.out.trans (b3.mono hB.out.size));replace HX:=Lib.hid (HX.out.below b3 HX.out.lt);replace HT:=Lib.hid (HT.out.below b3 (Nat.le_refl _));clear b3 x0 x1 x2;obtain ⟨x0,x1,x2,-,-,-⟩:=blk3 HX.out;cases hok:t.ok
 · have HR:=Lib.hid (hnil.out (hno.out _ hok fun h=>(fitsA_parts (askA_parts h).1).1) _ hB.out);replace hok:=Lib.hid hok;go_wp2
   go_ret2
   exact HR.out
 · have KW:=Lib.hid (specWordOk_any x w3 hx);go_wp2_with (fail);refine KW.out.mono ?_;rintro e _ ⟨rfl,rfl⟩;clear KW;cases hw:wordOk x
   · have HR:=Lib.hid (hnil.out (hno.out _ hw fun h=>(fitsA_parts (askA_parts h).1).2.1) _ hB.out);replace hw:=Lib.hid hw;replace hok:=Lib.hid hok;go_wp2
     go_ret2
     exact HR.out
   · have hse':=hse.out hok hw
     have hst:askA t n x b=true→strangerB t x=true:=fun h=>by
      have:=(fitsA_parts (askA_parts h).1);unfold strangerB;rw [hw,hasB_not.2 this.2.2.1];rfl
     have hst2:strangerB t x=true→0≤b∧b≤100→1≤n∧n≤99999→askA t n x b=true:=fun h1 h2 h3=>by
      unfold askA fitsA fitsW;rw [hok,h1,decide_eq_true h2,decide_eq_true h3];rfl
     replace hw:=Lib.hid hw;cases ub
     · cases bb
       · replace hst2:=Lib.hid (hst2 hse');clear hse' hst
         by_cases hd:1≤n∧n≤99999
         · have hdb:=decide_eq_true hd;obtain ⟨hd1,hd2⟩:=hd;go_wp2_with (fail);refine (in_any _ _ _ _).mono ?_;rintro e _ ⟨rfl,rfl⟩;rw [hdb];clear hdb
           by_cases hq:0≤b∧b≤100
           · have hqb:=decide_eq_true hq;obtain ⟨hq1,hq2⟩:=hq;have ha:=hst2.out ⟨hq1,hq2⟩ ⟨hd1,hd2⟩;go_wp2_with (fail);refine (in_any _ _ _ _).mono ?_;rintro e _ ⟨rfl,rfl⟩;rw [hqb];clear hqb hst2 hno hnil hse;obtain ⟨m,rfl⟩:∃ m:Nat,n=m:=⟨n.toNat,by omega⟩;have KUp:=Lib.hid (specUp_any hok m (by omega) _ w3 HT.out);have hbl:=bases_len (ok_shape hok).bs;have HN:=condA_no (t:=t) (n:=(m:Int)) (b:=b) (x:=x);have HY:=takenB_of (t:=t) (n:=(m:Int)) (x:=x) (b:=b) ha;have HL:=fun h2=>least_21 (t:=t) hok h2 m
             have HNL:=fun h2=>lack_named (t:=t) hok h2 m
             have hcd:condA t m b=(decide (2≤t.bs.length)&&(decide ((leastN t m:Int)≤b)&&namedB t (m+leastN t m))):=rfl;have hup:upTo t m t.bs.length=if t.bs.length≤1 then 0 else m+leastN t m:=rfl
             rw [Int.toNat_natCast] at HY;generalize leastN t m=L at *;generalize upTo t m t.bs.length=U at *;replace ha:=Lib.hid ha;replace hok:=Lib.hid hok;go_wp2_with (fail);refine KUp.out.mono ?_;rintro e w4 ⟨rfl,b4⟩;clear KUp;replace hB:=Lib.hid (hB.out.trans (b4.mono hB.out.size));replace HX:=Lib.hid (HX.out.below b4 HX.out.lt);replace HT:=Lib.hid (HT.out.below b4 (Nat.le_refl _));clear b4 x0 x1 x2;obtain ⟨x0,x1,x2,-,-,-⟩:=blk3 HX.out;have hleaf:=fun (hc:condA t m b=false) (w1:World) (hb1:Below w.heap.size w w1)=>taken_leaf (w:=w) (w1:=w1) hb1 (HN hc).1 (HN hc).2
             by_cases h2:2≤t.bs.length
             · rw [if_neg (by omega)] at hup;obtain ⟨l1,l21,-⟩:=HL h2;have hnL:=HNL h2;have u0:((U:Int)==0)=false:=by rw [beq_eq_false_iff_ne];omega
               have w1':IntKind.i64.wrap ((U:Int) - (m:Int))=(U:Int) - (m:Int):=IntWalk.i64_in _ (by omega);have hz:(U:Int) - (m:Int)=(L:Int):=by omega
               have hz2:(m:Int)+(L:Int)=(U:Int):=by omega
               rw [hz2] at HY hcd
               by_cases hle:(L:Int)≤b
               · have hle':¬ b < (U:Int) - (m:Int):=by omega
                 have K7:Calls Tryz.prog 50 #[.agg #[.slice A1 t.us.length c1,.slice A2 t.bs.length c2,.slice A3 t.ns.length c3],.int .i64 ((U:Int) - (m:Int))] w4 (RetStrs2 w4 (nameOf t (L:Int)) (namedB t (L:Int))):=by
                  rw [hz];exact specNameOf_any _ t (L:Int) w4 HT.out hf (by omega)
                 have HN2:namedB t (U:Int)=false→condA t m b=false:=fun h=>by rw [hcd,h,Bool.and_false,Bool.and_false]
                 have HY2:namedB t (U:Int)=true→takenOf t m x b=nameOf t (L:Int)++[x]++nameOf t (U:Int)∧takenB t m x b=true:=fun h=>HY (by rw [hcd,h,decide_eq_true h2,decide_eq_true hle];rfl)
                 have hl1:=nameOf_31 t (L:Int);have hl2:=nameOf_31 t (U:Int);rw [hnL] at K7;replace K7:=Lib.hid K7;replace HN2:=Lib.hid HN2;replace HY2:=Lib.hid HY2;replace hleaf:=Lib.hid hleaf;replace hz:=Lib.hid hz;replace hz2':=Lib.hid hz2;replace hup:=Lib.hid hup;clear HN HY HL HNL hcd hz2;generalize nameOf t (L:Int)=ls at *;go_wp2_with (fail);refine K7.out.mono ?_;rintro e w5 ⟨v5,rfl,o5,b5⟩;obtain ⟨A5,c5,rfl,s5⟩:=o5.strs;clear K7 o5;have hbk5:=b5;replace s5:=Lib.hid s5;replace hB:=Lib.hid (hB.out.trans (hbk5.mono hB.out.size));replace HX:=Lib.hid (HX.out.below hbk5 HX.out.lt);replace HT:=Lib.hid (HT.out.below hbk5 (Nat.le_refl _));clear hbk5 x0 x1 x2;obtain ⟨x0,x1,x2,-,-,-⟩:=blk3 HX.out;have K8:=Lib.hid (specNameOf_any _ t (U:Int) w5 HT.out hf (by omega));clear b5;generalize nameOf t (U:Int)=ms at *;generalize namedB t (U:Int)=nb at *;go_wp2_with (fail);refine K8.out.mono ?_;rintro e w6 ⟨v6,rfl,o6,b6⟩;obtain ⟨A6,c6,rfl,s6⟩:=o6.strs;clear K8 o6;replace s5:=Lib.hid (s5.out.below b6 (Nat.le_refl _));replace s6:=Lib.hid s6;replace hB:=Lib.hid (hB.out.trans (b6.mono hB.out.size));replace HX:=Lib.hid (HX.out.below b6 HX.out.lt);replace HT:=Lib.hid (HT.out.below b6 (Nat.le_refl _));clear b6 x0 x1 x2;obtain ⟨x0,x1,x2,-,-,-⟩:=blk3 HX.out;cases nb
                 · have HR:=Lib.hid (hleaf.out (HN2.out rfl) _ hB.out);go_wp2
                   go_ret2
                   exact HR.out
                 · obtain ⟨hr,hrb⟩:=HY2.out rfl;have bA:=(Below.refl w6.heap.size w6).alloc (Nat.le_refl _) (.cells #[] 9);have HO0:(w6.alloc (.cells #[] 9)).ownsRow w6.heap.size 9 1 (.slice (some ⟨w6.heap.size,0,none⟩) 0 0) 0 []:=owns_empty (Blk.new w6 9 #[]) (Nat.le_refl _);have HS1:=Lib.hid ((s5.out.below bA (Nat.le_refl _)).src);have HS3:=Lib.hid (fun W' (hb:Below w6.heap.size w6 W')=>(s6.out.below hb (Nat.le_refl _)).src);have hsz:=hB.out.size;replace bA:=Lib.hid bA;replace HO0:=Lib.hid HO0;have k1:=Lib.hid (show 0+ls.length≤maxLen by unfold maxLen;omega);have k2:=Lib.hid (show (0+ls.length) * 16≤140737488355328 by omega);have k3:=Lib.hid (show 0+ls.length+1≤maxLen by unfold maxLen;omega);have k4:=Lib.hid (show (0+ls.length+1) * 16≤140737488355328 by omega);have k5:=Lib.hid (show 0+ls.length+1+ms.length≤maxLen by unfold maxLen;omega);have k6:=Lib.hid (show (0+ls.length+1+ms.length) * 16≤140737488355328 by omega);replace hr:=Lib.hid hr;replace hrb:=Lib.hid hrb;clear s5 s6 HN2 HY2 hleaf x0 x1 x2
                   go_wp2_with (at_builtin;first
                    | (refine wpList_app _ rfl (.tmp 90) (.tmp 91) _ rfl w6.heap.size 9 i0 _ 16 Tryz.underlying28 hi hz0 hz1 hz2 rfl (.slice (some ⟨w6.heap.size,0,none⟩) 0 0) 0 [] rfl HO0.out A5 _ c5 _ rfl HS1.out k1.out k2.out bA.out.size ?_;intro v7 w7 ho7 hg7 _;have hB7:=below_own bA.out HO0.out hg7 bA.out.size (Nat.le_refl _);have hB7a:=Lib.hid (hB7.alloc hB7.size (.cells #[.string x] 9));have ho7a:=Lib.hid (World.ownsRow.alloc ho7 (.cells #[.string x] 9));have hk7:=Lib.hid (Src.one (Blk.new w7 9 #[.string x]) rfl);clear hg7 hB7 ho7)
                    | (refine wpList_app _ rfl (.tmp 92) (.tmp 94) _ rfl w6.heap.size 9 i0 _ 16 Tryz.underlying28 hi hz0 hz1 hz2 rfl v7 _ _ rfl ho7a.out (some ⟨w7.heap.size,0,none⟩) 1 1 [.string x] rfl hk7.out k3.out k4.out hB7a.out.size ?_;intro v8 w8 ho8 hg8 _;have hB8:=Lib.hid (below_own hB7a.out ho7a.out hg8 hB7a.out.size (Nat.le_refl _));have HS8:=Lib.hid (HS3.out _ hB8.out);replace ho8:=Lib.hid ho8;clear hg8)
                    | (refine wpList_app _ rfl (.tmp 95) (.tmp 96) _ rfl w6.heap.size 9 i0 _ 16 Tryz.underlying28 hi hz0 hz1 hz2 rfl v8 _ _ rfl ho8.out A6 ms.length c6 _ rfl HS8.out k5.out k6.out hB8.out.size ?_;intro v9 w9 ho9 hg9 _))
                   have hB9:=below_own hB8.out ho8.out hg9 hB8.out.size (Nat.le_refl _)
                   have hR:OwnStrs w9 w6.heap.size v9 (ls++[x]++ms):=by
                    unfold OwnStrs;have e:(ls++[x]++ms).length=0+ls.length+1+ms.length:=by simp;omega
                    rw [e]
                    simpa using ho9
                   have HR:RetStrs2 w (takenOf t m x b) (takenB t m x b) (.returned (.tuple #[v9,.bool true])) w9 :=
                    ⟨_,by rw [hrb.out],by rw [hr.out];exact hR.mono hsz,hB.out.trans (hB9.mono hsz)⟩
                   obtain ⟨A9,c9,rfl,-⟩:=hR.strs;generalize (ls++[x]++ms).length=L9 at *;replace HR:=Lib.hid HR;clear ho9 hg9 hB9 hR;go_wp2
                   go_ret2
                   exact HR.out
               · have hle':b < (U:Int) - (m:Int):=by omega
                 have HR:=Lib.hid (hleaf (by rw [hcd,decide_eq_false hle,Bool.false_and,Bool.and_false]) _ hB.out);replace hz:=Lib.hid hz;replace hz2':=Lib.hid hz2;replace hup:=Lib.hid hup;clear HN HY HL HNL hcd hz2 hleaf;go_wp2
                 go_ret2
                 exact HR.out
             · have HR:=Lib.hid (hleaf (by rw [hcd,decide_eq_false h2,Bool.false_and]) _ hB.out);rw [if_pos (by omega)] at hup;subst hup;clear HN HY HL HNL hcd hleaf;replace h2:=Lib.hid h2;go_wp2
               go_ret2
               exact HR.out
           · have HR:=Lib.hid (hnil.out (hno.out false rfl fun h=>absurd (fitsA_parts (askA_parts h).1).2.2.2 hq) _ hB.out);have hqb:=decide_eq_false hq;replace hok:=Lib.hid hok;replace hq:=Lib.hid hq;go_wp2_with (fail);refine (in_any _ _ _ _).mono ?_;rintro e _ ⟨rfl,rfl⟩;rw [hqb];clear hqb;go_wp2
             go_ret2
             exact HR.out
         · have HR:=Lib.hid (hnil.out (hno.out false rfl fun h=>absurd (askA_parts h).2 hd) _ hB.out);have hdb:=decide_eq_false hd;replace hok:=Lib.hid hok;replace hd:=Lib.hid hd;go_wp2_with (fail);refine (in_any _ _ _ _).mono ?_;rintro e _ ⟨rfl,rfl⟩;rw [hdb];clear hdb;go_wp2
           go_ret2
           exact HR.out
       · have HR:=Lib.hid (hnil.out (hno.out _ hse' hst) _ hB.out);replace hok:=Lib.hid hok;clear hse' hst hst2;go_wp2
         go_ret2
         exact HR.out
     · have HR:=Lib.hid (hnil.out (hno.out _ hse' hst) _ hB.out);replace hok:=Lib.hid hok;clear hse' hst hst2;go_wp2
       go_ret2
       exact HR.out
end
section
open Go.RowKit
set_option maxRecDepth 100000 in
set_option maxHeartbeats 8000000 in
theorem specShorterName_any (v:Value) (t:Tg) (n:Int) (x:ByteArray) (b:Int) (w:World) (h:Tng w v t) (hf:t.Fine) (hn:-9223372036854775808≤n∧n≤9223372036854775807) (hx:x.size≤maxLen) (hbb:-9223372036854775808≤b∧b≤9223372036854775807) :
 Calls Tryz.prog 71 #[v,.int .i64 n,.string x,.int .i64 b] w (RetStrs2 w (shortOf t n x b) (shortB t n x b)):=by
 obtain ⟨A1,c1,A2,c2,A3,c3,rfl,-⟩:=h.ex;have hB:=(Below.refl w.heap.size w).alloc (Nat.le_refl _) (.cells #[.slice A1 t.us.length c1,.slice A2 t.bs.length c2,.slice A3 t.ns.length c3] 31);have HX:=Blk.new w 31 #[.slice A1 t.us.length c1,.slice A2 t.bs.length c2,.slice A3 t.ns.length c3];have HT:=h.below hB (Nat.le_refl _);have hno:=Lib.hid (fun (c:Bool) (hc:c=false) (hh:askA t n x b=true→c=true)=>askA_off (t:=t) (n:=n) (x:=x) (b:=b) hc hh);have hnil:=Lib.hid (fun (h:askA t n x b=false) (w1:World) (hb1:Below w.heap.size w w1)=>shortOf_none2 (w:=w) (w1:=w1) hb1 h);have hse:=fun ho hw=>stranger_eq (t:=t) (x:=x) ho hw
 replace hB:=Lib.hid hB;replace HX:=Lib.hid HX;replace HT:=Lib.hid HT;clear h;go_enter Tryz.func71,Tryz.ntmps71;go_upto_region 1 with (fail)
 generalize w.alloc (.cells #[.slice A1 t.us.length c1,.slice A2 t.bs.length c2,.slice A3 t.ns.length c3] 31)=W at *;obtain ⟨x0,x1,x2,-,-,-⟩:=blk3 HX.out;have KU:=Lib.hid (specUnitOf_any _ t x W HT.out hf);generalize unitB t x=ub at *;generalize unitV t x=uv at *;go_wp2_with (fail);refine KU.out.mono ?_;rintro e w1 ⟨rfl,b1⟩;clear KU;replace hB:=Lib.hid (hB.out.trans (b1.mono hB.out.size));replace HX:=Lib.hid (HX.out.below b1 HX.out.lt);replace HT:=Lib.hid (HT.out.below b1 (Nat.le_refl _));clear b1 x0 x1 x2;obtain ⟨x0,x1,x2,-,-,-⟩:=blk3 HX.out;have KB:=Lib.hid (specBaseOf_any _ t x w1 HT.out hf);generalize baseB t x=bb at *;generalize baseV t x=bv' at *;go_wp2_with (fail);refine KB.out.mono ?_;rintro e w2 ⟨rfl,b2⟩;clear KB;replace hB:=Lib.hid (hB.out.trans (b2.mono hB.out.size));replace HX:=Lib.hid (HX.out.below b2 HX.out.lt);replace HT:=Lib.hid (HT.out.below b2 (Nat.le_refl _));clear b2 x0 x1 x2;obtain ⟨x0,x1,x2,-,-,-⟩:=blk3 HX.out;have KT:=Lib.hid (specTongueOk_any _ t w2 HT.out hf);replace hse:=Lib.hid hse;go_wp2_with (fail);refine KT.out.mono ?_;rintro e w3 ⟨rfl,b3⟩;clear KT;replace hB:=Lib.hid (hB.out.trans (b3.mono hB.out.size));replace HX:=Lib.hid (HX.out.below b3 HX.out.lt);replace HT:=Lib.hid (HT.out.below b3 (Nat.le_refl _));clear b3 x0 x1 x2;obtain ⟨x0,x1,x2,-,-,-⟩:=blk3 HX.out;cases hok:t.ok
 · have HR:=Lib.hid (hnil.out (hno.out _ hok fun h=>(fitsA_parts (askA_parts h).1).1) _ hB.out);replace hok:=Lib.hid hok;go_wp2
   go_ret2
   exact HR.out
 · have KW:=Lib.hid (specWordOk_any x w3 hx);go_wp2_with (fail);refine KW.out.mono ?_;rintro e _ ⟨rfl,rfl⟩;clear KW;cases hw:wordOk x
   · have HR:=Lib.hid (hnil.out (hno.out _ hw fun h=>(fitsA_parts (askA_parts h).1).2.1) _ hB.out);replace hw:=Lib.hid hw;replace hok:=Lib.hid hok;go_wp2
     go_ret2
     exact HR.out
   · have hse':=hse.out hok hw
     have hst:askA t n x b=true→strangerB t x=true:=fun h=>by
      have:=(fitsA_parts (askA_parts h).1);unfold strangerB;rw [hw,hasB_not.2 this.2.2.1];rfl
     have hst2:strangerB t x=true→0≤b∧b≤100→1≤n∧n≤99999→askA t n x b=true:=fun h1 h2 h3=>by
      unfold askA fitsA fitsW;rw [hok,h1,decide_eq_true h2,decide_eq_true h3];rfl
     replace hw:=Lib.hid hw;cases ub
     · cases bb
       · replace hst2:=Lib.hid (hst2 hse');clear hse' hst
         by_cases hd:1≤n∧n≤99999
         · have hdb:=decide_eq_true hd;obtain ⟨hd1,hd2⟩:=hd;go_wp2_with (fail);refine (in_any _ _ _ _).mono ?_;rintro e _ ⟨rfl,rfl⟩;rw [hdb];clear hdb
           by_cases hq:0≤b∧b≤100
           · have hqb:=decide_eq_true hq;obtain ⟨hq1,hq2⟩:=hq;have ha:=hst2.out ⟨hq1,hq2⟩ ⟨hd1,hd2⟩;go_wp2_with (fail);refine (in_any _ _ _ _).mono ?_;rintro e _ ⟨rfl,rfl⟩;rw [hqb];clear hqb hst2 hno hnil hse;obtain ⟨m,rfl⟩:∃ m:Nat,n=m:=⟨n.toNat,by omega⟩;have K1:=Lib.hid (specNameOf_any _ t (m:Int) w3 HT.out hf (by omega));have K2:=fun W (hT:Tng W (.agg #[.slice A1 t.us.length c1,.slice A2 t.bs.length c2,.slice A3 t.ns.length c3]) t)=>specTakenFrom_any _ t (m:Int) x b W hT hf (by omega) hx (by omega)
             have HE:shortOf t m x b=if takenB t m x b&&(!namedB t m || decide ((takenOf t m x b).length < (nameOf t m).length)) then takenOf t m x b else nameOf t m:=by
              unfold shortOf;rw [ha];rfl
             have HB1:shortOf t m x b=nameOf t m→shortB t m x b=namedB t m:=fun h=>by unfold shortB;rw [h];rfl
             have HB2:shortOf t m x b=takenOf t m x b→shortB t m x b=takenB t m x b:=fun h=>by unfold shortB;rw [h];rfl
             have hl1:=nameOf_31 t (m:Int);have hl2:=taken_len t (m:Int) x b;replace ha:=Lib.hid ha;replace hok:=Lib.hid hok;generalize nameOf t (m:Int)=ns' at *;generalize namedB t (m:Int)=nb at *;generalize takenOf t (m:Int) x b=ts at *;generalize takenB t (m:Int) x b=tb at *;replace K2:=Lib.hid K2;replace HE:=Lib.hid HE;replace HB1:=Lib.hid HB1;replace HB2:=Lib.hid HB2;go_wp2_with (fail);refine K1.out.mono ?_;rintro e w4 ⟨v4,rfl,o4,b4⟩;obtain ⟨A4,c4,rfl,-⟩:=o4.strs;replace o4:=Lib.hid (o4.mono hB.out.size);clear K1;replace hB:=Lib.hid (hB.out.trans (b4.mono hB.out.size));replace HX:=Lib.hid (HX.out.below b4 HX.out.lt);replace HT:=Lib.hid (HT.out.below b4 (Nat.le_refl _));clear b4 x0 x1 x2;obtain ⟨x0,x1,x2,-,-,-⟩:=blk3 HX.out;have K3:=Lib.hid (K2.out w4 HT.out);clear K2;go_wp2_with (fail);refine K3.out.mono ?_;rintro e w5 ⟨v5,rfl,o5,b5⟩;obtain ⟨A5,c5,rfl,-⟩:=o5.strs;replace o5:=Lib.hid (o5.mono hB.out.size);replace o4:=Lib.hid (o4.out.below b5 (Nat.le_refl _));clear K3;replace hB:=Lib.hid (hB.out.trans (b5.mono hB.out.size));replace HX:=Lib.hid (HX.out.below b5 HX.out.lt);replace HT:=Lib.hid (HT.out.below b5 (Nat.le_refl _));clear b5 x0 x1 x2;obtain ⟨x0,x1,x2,-,-,-⟩:=blk3 HX.out;cases tb
             · have h1:shortOf t m x b=ns':=by rw [HE.out];rfl
               have HR:RetStrs2 w (shortOf t m x b) (shortB t m x b) (.returned (.tuple #[.slice A4 ns'.length c4,.bool nb])) w5:=⟨_,by rw [HB1.out h1],by rw [h1];exact o4.out,hB.out⟩;replace HR:=Lib.hid HR;clear h1 HE HB1 HB2 o4 o5;go_wp2
               go_ret2
               exact HR.out
             · cases nb
               · have h1:shortOf t m x b=ts:=by rw [HE.out];rfl
                 have HR:RetStrs2 w (shortOf t m x b) (shortB t m x b) (.returned (.tuple #[.slice A5 ts.length c5,.bool true])) w5:=⟨_,by rw [HB2.out h1],by rw [h1];exact o5.out,hB.out⟩;replace HR:=Lib.hid HR;clear h1 HE HB1 HB2 o4 o5;go_wp2
                 go_ret2
                 exact HR.out
               · by_cases hlt:ts.length < ns'.length
                 · have h1:shortOf t m x b=ts:=by rw [HE.out,decide_eq_true hlt];rfl
                   have HR:RetStrs2 w (shortOf t m x b) (shortB t m x b) (.returned (.tuple #[.slice A5 ts.length c5,.bool true])) w5:=⟨_,by rw [HB2.out h1],by rw [h1];exact o5.out,hB.out⟩;replace HR:=Lib.hid HR;have hlt':decide ((ts.length:Int) < (ns'.length:Int))=true:=decide_eq_true (by omega);clear h1 HE HB1 HB2 o4 o5;generalize ts.length=tl at *;generalize ns'.length=nl at *;have hlt2:(tl:Int) < (nl:Int):=by omega
                   go_wp2
                   go_ret2
                   exact HR.out
                 · have h1:shortOf t m x b=ns':=by rw [HE.out,decide_eq_false hlt];rfl
                   have HR:RetStrs2 w (shortOf t m x b) (shortB t m x b) (.returned (.tuple #[.slice A4 ns'.length c4,.bool true])) w5:=⟨_,by rw [HB1.out h1],by rw [h1];exact o4.out,hB.out⟩;replace HR:=Lib.hid HR;have hlt':decide ((ts.length:Int) < (ns'.length:Int))=false:=decide_eq_false (by omega);clear h1 HE HB1 HB2 o4 o5;generalize ts.length=tl at *;generalize ns'.length=nl at *;have hlt2:¬ (tl:Int) < (nl:Int):=by omega
                   go_wp2
                   go_ret2
                   exact HR.out
           · have HR:=Lib.hid (hnil.out (hno.out false rfl fun h=>absurd (fitsA_parts (askA_parts h).1).2.2.2 hq) _ hB.out);have hqb:=decide_eq_false hq;replace hok:=Lib.hid hok;replace hq:=Lib.hid hq;go_wp2_with (fail);refine (in_any _ _ _ _).mono ?_;rintro e _ ⟨rfl,rfl⟩;rw [hqb];clear hqb;go_wp2
             go_ret2
             exact HR.out
         · have HR:=Lib.hid (hnil.out (hno.out false rfl fun h=>absurd (askA_parts h).2 hd) _ hB.out);have hdb:=decide_eq_false hd;replace hok:=Lib.hid hok;replace hd:=Lib.hid hd;go_wp2_with (fail);refine (in_any _ _ _ _).mono ?_;rintro e _ ⟨rfl,rfl⟩;rw [hdb];clear hdb;go_wp2
           go_ret2
           exact HR.out
       · have HR:=Lib.hid (hnil.out (hno.out _ hse' hst) _ hB.out);replace hok:=Lib.hid hok;clear hse' hst hst2;go_wp2
         go_ret2
         exact HR.out
     · have HR:=Lib.hid (hnil.out (hno.out _ hse' hst) _ hB.out);replace hok:=Lib.hid hok;clear hse' hst hst2;go_wp2
       go_ret2
       exact HR.out
end
section
open Go.RowKit
theorem fitsA_off {t:Tg} {x:ByteArray} {b:Int} {c:Bool} (hc:c=false) (h:fitsA t x b=true→c=true):fitsA t x b=false:=by
 cases ha:fitsA t x b
 · rfl
 · rw [h ha] at hc;cases hc
set_option maxRecDepth 100000 in
set_option maxHeartbeats 2000000 in
theorem implTakeable_any (v:Value) (t:Tg) (x:ByteArray) (b:Int) (w:World) (h:Tng w v t) (hf:t.Fine) (hx:x.size≤maxLen) :
 Calls Tryz.prog 184 #[v,.string x,.int .i64 b] w fun e w'=>e=.returned (.bool (fitsA t x b))∧Below w.heap.size w w':=by
 obtain ⟨A1,c1,A2,c2,A3,c3,rfl,-⟩:=h.ex;have hB:=(Below.refl w.heap.size w).alloc (Nat.le_refl _) (.cells #[.slice A1 t.us.length c1,.slice A2 t.bs.length c2,.slice A3 t.ns.length c3] 31);have HX:=Blk.new w 31 #[.slice A1 t.us.length c1,.slice A2 t.bs.length c2,.slice A3 t.ns.length c3];have HT:=h.below hB (Nat.le_refl _);have K1:=Lib.hid (implTongueOk_any _ t _ HT hf);have hno:=Lib.hid (fun (c:Bool) (hc:c=false) (hh:fitsA t x b=true→c=true)=>fitsA_off (t:=t) (x:=x) (b:=b) hc hh);replace hB:=Lib.hid hB;replace HX:=Lib.hid HX;replace HT:=Lib.hid HT;clear h;go_enter Tryz.func184,Tryz.ntmps184;go_upto_region 1 with (fail)
 generalize w.alloc (.cells #[.slice A1 t.us.length c1,.slice A2 t.bs.length c2,.slice A3 t.ns.length c3] 31)=W at *;obtain ⟨x0,x1,x2,-,-,-⟩:=blk3 HX.out;go_wp2_with (fail);refine K1.out.mono ?_;rintro e w1 ⟨rfl,b1⟩;replace hB:=Lib.hid (hB.out.trans (b1.mono hB.out.size));replace HX:=Lib.hid (HX.out.below b1 HX.out.lt);replace HT:=Lib.hid (HT.out.below b1 (Nat.le_refl _));clear b1 x0 x1 x2 K1;obtain ⟨x0,x1,x2,-,-,-⟩:=blk3 HX.out;cases hok:t.ok
 · have hr:=Lib.hid (hno.out _ hok fun h=>(fitsA_parts h).1);replace hok:=Lib.hid hok;go_wp2;go_ret;exact ⟨ret_bool hr.out.symm,hB.out⟩
 · have hws:wordsOf t=t.words:=by unfold wordsOf;rw [hok];rfl
   have KS:=implStranger_any _ t x w1 HT.out hf hx;rw [hws] at KS;have HS:strangerB t x=(wordOk x&&!hasB t.words x):=rfl;rw [← HS] at KS;have HF:fitsA t x b=(strangerB t x&&decide (0≤b∧b≤100)):=by unfold fitsA fitsW;rw [hok,Bool.true_and]
   replace KS:=Lib.hid KS;replace HF:=Lib.hid HF;replace hok:=Lib.hid hok;clear HS hws hno;generalize strangerB t x=sb at *;go_wp2_with (fail);refine KS.out.mono ?_;rintro e w2 ⟨rfl,b2⟩;replace hB:=Lib.hid (hB.out.trans (b2.mono hB.out.size));clear b2 KS x0 x1 x2;cases sb
   · have hr:=Lib.hid HF.out;go_wp2;go_ret;exact ⟨ret_bool hr.out.symm,hB.out⟩
   · by_cases h0:0≤b
     · have h0':decide (0≤b)=true:=decide_eq_true h0
       by_cases h1:b≤100
       · have h1':decide (b≤100)=true:=decide_eq_true h1;have hr:fitsA t x b=true:=by rw [HF.out,decide_eq_true ⟨h0,h1⟩];rfl
         replace hr:=Lib.hid hr;go_wp2;go_ret;exact ⟨ret_bool hr.out.symm,hB.out⟩
       · have h1':decide (b≤100)=false:=decide_eq_false h1;have hr:fitsA t x b=false:=by rw [HF.out,decide_eq_false (fun h=>h1 h.2)];rfl
         replace hr:=Lib.hid hr;go_wp2;go_ret;exact ⟨ret_bool hr.out.symm,hB.out⟩
     · have h0':decide (0≤b)=false:=decide_eq_false h0;have hr:fitsA t x b=false:=by rw [HF.out,decide_eq_false (fun h=>h0 h.1)];rfl
       replace hr:=Lib.hid hr;go_wp2;go_ret;exact ⟨ret_bool hr.out.symm,hB.out⟩
theorem at_next {w:World} {b o k:Nat} {v:Value} (h:w.cell? ⟨b,o+(k+1),none⟩=some v):w.cell? ⟨b,o+1+k,none⟩=some v:=by
 rw [show o+1+k=o+(k+1) by omega];exact h
set_option maxRecDepth 100000 in
set_option maxHeartbeats 2000000 in
theorem implLeast_any {t:Tg} (hb:basesOk t.bs=true) (n:Nat) (hn2:n≤99999) (A:Option Addr) (c:Nat) (w:World) (h:Ints w .i64 A t.bs.length c t.bs) :
 Calls Tryz.prog 223 #[.slice A t.bs.length c,.int .i64 n] w fun e w'=>e=.returned (.int .i64 (capTo t n t.bs.length:Nat))∧w=w':=by
 have hbl:=bases_len hb;have HP:=Lib.hid (fun k (hk:k < t.bs.length)=>bN_int hb (k:=k) hk);have HU:=Lib.hid (fun k (hk:k < t.bs.length)=>bases_pos hb k hk);have HG:=Lib.hid (fun k h1=>cap_step (t:=t) (n:=n) (k:=k) h1);have HL:=Lib.hid (fun k (hk:k < t.bs.length)=>lack_bd hb n hk);obtain ⟨b,o,rfl,-,hc⟩:=h.at_ (by omega);have hcap:=h.le;have HC:Hid (∀ k,k < t.bs.length→w.cell? ⟨b,o+k,none⟩=some (.int .i64 (bN t k))):=Lib.hid (fun k hk=>by rw [hc k hk,(HP.out k hk).1]);replace hb:=Lib.hid hb;clear h hc
 by_cases hc1:c=1
 · subst hc1;have hl1:t.bs.length=1:=by omega
   have hr:(101:Int)=(capTo t n t.bs.length:Nat):=by rw [hl1];rfl
   replace hr:=Lib.hid hr;generalize t.bs.length=L at *;subst hl1;go_enter Tryz.func223,Tryz.ntmps223;go_wp2;refine wp_loop_rounds 1 ?_;rw [rounds_succ];go_wp2;go_ret;exact ⟨ret_int hr.out,rfl⟩
 · go_enter Tryz.func223,Tryz.ntmps223;go_wp2
   go_loop [5,11] (fun s5 s11=>∃ k:Nat,k+1≤t.bs.length∧s11=.int .i64 k∧s5=.int .i64 (capTo t n (k+1):Nat)) (fun _ i=>t.bs.length - (intOf i).toNat)
   case atStart=>exact ⟨0,by omega,rfl,rfl⟩
   case round =>
    obtain ⟨k,hk,rfl,rfl⟩:=hrel
    by_cases hlt:k+1 < t.bs.length
    · have ck:=at_next (HC.out (k+1) hlt);have hp:=(HP.out (k+1) hlt).2;have hpu:=HU.out (k+1) hlt;have hbu:bN t (k+1)≤999999:=by have:=(HP.out (k+1) hlt).1;omega
      have hg:=HG.out (k+1) (by omega);have hlk:=HL.out (k+1) hlt;have hlu:lackB t n (k+1)=bN t (k+1) - n % bN t (k+1):=rfl;have eK:(n:Int) % (bN t (k+1):Int)=((n % bN t (k+1):Nat):Int):=rfl;have hml:=Nat.mod_lt n (show 0 < bN t (k+1) by omega);have q0:(0:Int)≤(n:Int) % (bN t (k+1):Int):=by rw [eK];omega
      have q1:(n:Int) % (bN t (k+1):Int) < (bN t (k+1):Int):=by rw [eK];omega
      have v1:(bN t (k+1):Int) - (n:Int) % (bN t (k+1):Int)=((lackB t n (k+1):Nat):Int):=by rw [eK];omega
      have w1:IntKind.i64.wrap ((bN t (k+1):Int) - (n:Int) % (bN t (k+1):Int))=(bN t (k+1):Int) - (n:Int) % (bN t (k+1):Int):=IntWalk.i64_in _ (by omega)
      have hm:(if (bN t (k+1):Int) - (n:Int) % (bN t (k+1):Int) < ((capTo t n (k+1):Nat):Int) then (bN t (k+1):Int) - (n:Int) % (bN t (k+1):Int) else ((capTo t n (k+1):Nat):Int))=((capTo t n (k+1+1):Nat):Int):=by
       rw [v1];split <;> omega
      clear hpu hlu hlk;generalize capTo t n (k+1)=C at *;generalize lackB t n (k+1)=L at *;generalize bN t (k+1)=B at *;replace hm:=Lib.hid hm;replace hg:=Lib.hid hg;replace v1:=Lib.hid v1;replace eK:=Lib.hid eK;go_wp2
      all_goals
       go_round
       case rel=>exact ⟨k+1,by omega,by go_num,by rw [hm.out]⟩
       case measure=>simp [intOf];omega
    · have hr:capTo t n (k+1)=capTo t n t.bs.length:=by rw [show k+1=t.bs.length by omega]
      have hr2:=Lib.hid (show ((capTo t n (k+1):Nat):Int)=(capTo t n t.bs.length:Nat) by rw [hr]);clear hr;go_wp2;go_ret;exact ⟨ret_int hr2.out,rfl⟩
end
end Go.Proofs.YtmhgpbfogdoaeaaGreatDoor
