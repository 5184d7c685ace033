/-
  GI: LK L1 L2 L4 M1 M2 M3 M5 M6.
-/
import Derived.Test.YtmhgpbfogdoaeaaGreatDoorXlGX
import Derived.Test.YtmhgpbfogdoaeaaGreatDoorXlGA
import Derived.Test.YtmhgpbfogdoaeaaGreatDoorXlGN
import Derived.Lib.QuietBelow
import Derived.Test.YtmhgpbfogdoaeaaGreatDoorXlGP
import Derived.Maps.OwnSet
import Derived.Maps.Views
import Derived.Deep.RegionHeld3
import Derived.Deep.LoopGhost
namespace Go.Proofs.YtmhgpbfogdoaeaaGreatDoor
section
open Go.RowKit
theorem Ints.dropI {w:World} {k:IntKind} {b o n c:Nat} {xs:List Int} (h:Ints w k (some ⟨b,o,none⟩) n c xs) {m:Nat} (hm:m≤n):Ints w k (some ⟨b,o+m,none⟩) (n - m) (c - m) (xs.drop m):=by
 obtain ⟨rfl,hle,ha⟩:=h;refine ⟨by simp,by omega,fun hn=>?_⟩;obtain ⟨b',o',e,hlt,hc⟩:=ha (by omega);cases e;refine ⟨b,o+m,rfl,hlt,fun j hj=>?_⟩;rw [Nat.add_assoc,hc (m+j) (by omega)]
 simp [List.getD_eq_getElem?_getD,List.getElem?_drop]
theorem own_snocW {w:World} {B n:Nat} {v:Value} {bs:List Int} {x:Int} (h:w.ownsRow B 3 1 v n (bs.map (Value.int .i64)++[.int .i64 x])):OwnI w B v (bs++[x]):=by
 have hl:=h.1;simp only [List.length_append,List.length_map,List.length_singleton,Nat.mul_one] at hl;unfold OwnI;rw [List.map_append,List.length_append,List.length_singleton,hl];exact h
def RetI2 (w:World) (xs:List Int) (b:Bool) (e:Ending) (w':World):Prop:=∃ A c,e=.returned (.tuple #[.slice A xs.length c,.bool b])∧Ints w' .i64 A xs.length c xs∧Below w.heap.size w w'
def RetO2 (w:World) (xs:List Int) (b:Bool) (e:Ending) (w':World):Prop:=∃ v,e=.returned (.tuple #[v,.bool b])∧OwnI w' w.heap.size v xs∧Below w.heap.size w w'
theorem ints_nil (w:World) (k:IntKind) (A:Option Addr) (c:Nat):Ints w k A 0 c []:=⟨rfl,Nat.zero_le _,fun h=>absurd h (by omega)⟩
def seenL (f:Int→Int) (n:Int) (k:Nat):List Int:=(List.range (k+1)).map fun i=>itF f i n
theorem seen_len (f:Int→Int) (n:Int) (k:Nat):(seenL f n k).length=k+1:=by simp [seenL]
theorem seen_at (f:Int→Int) (n:Int) {k i:Nat} (h:i≤k):(seenL f n k).getD i 0=itF f i n:=by
 simp [seenL,List.getD_eq_getElem?_getD,show i < k+1 by omega]
theorem seen_succ (f:Int→Int) (n:Int) (k:Nat):seenL f n (k+1)=seenL f n k++[f (itF f k n)]:=by
 unfold seenL;rw [List.range_succ,List.map_append];rfl
theorem seen_ring {f:Int→Int} {n:Int} {j k:Nat} (h:RingIs f n j (k+1 - j)) (_hj:j≤k) (ho:okF f n=true):(seenL f n k).drop j=ringF f n:=by
 rw [h.ring ho];apply List.ext_getElem
 · simp [seenL]
 · intro i h1 h2
   simp [seenL,List.getElem_drop]
theorem itF_bd {f:Int→Int} (hf:∀ x,-1≤f x∧f x≤320) {n:Int} (hn:-9223372036854775808≤n∧n≤9223372036854775807) (k:Nat):-9223372036854775808≤itF f k n∧itF f k n≤9223372036854775807:=by
 cases k with
 | zero=>exact hn
 | succ k=>have:=hf (itF f k n);show _≤f _∧f _≤_;omega
end
section
open Go.RowKit
set_option maxRecDepth 100000 in
set_option maxHeartbeats 2000000 in
theorem specLettersOf_any (v:Value) (t:Tg) (n:Int) (w:World) (h:Tng w v t) (hf:t.Fine) (hn:-9223372036854775808≤n∧n≤9223372036854775807) :
 Calls Tryz.prog 67 #[v,.int .i64 n] w fun e w'=>e=.returned (.int .i64 (lettersOf t n))∧Below w.heap.size w w':=by
 obtain ⟨A1,c1,A2,c2,A3,c3,rfl,-⟩:=h.ex;have hB:=(Below.refl w.heap.size w).alloc (Nat.le_refl _) (.cells #[.slice A1 t.us.length c1,.slice A2 t.bs.length c2,.slice A3 t.ns.length c3] 31);have HX:=Blk.new w 31 #[.slice A1 t.us.length c1,.slice A2 t.bs.length c2,.slice A3 t.ns.length c3];have HT:=h.below hB (Nat.le_refl _);have K1:=specNameOf_any _ t n _ HT hf hn;have hat:=Lib.hid (nameOf_at t n);have hls:=Lib.hid (lettersTo_le (nameOf_at t n));have hln:=nameOf_short t n;have hyes:=Lib.hid (fun h=>letters_yes (t:=t) (n:=n) h);have hno:=Lib.hid (fun h=>letters_no (t:=t) (n:=n) h);generalize lettersOf t n=lt at *;generalize namedB t n=nb at *;generalize nameOf t n=xs at *;replace K1:=Lib.hid K1;replace hB:=Lib.hid hB;replace HX:=Lib.hid HX;clear h hf HT;go_enter Tryz.func67,Tryz.ntmps67;go_upto_region 1 with (fail)
 generalize w.alloc (.cells #[.slice A1 t.us.length c1,.slice A2 t.bs.length c2,.slice A3 t.ns.length c3] 31)=W at *;obtain ⟨x0,x1,x2,-,-,-⟩:=blk3 HX.out;go_wp2_with (fail);refine K1.out.mono ?_;rintro e w1 ⟨v1,rfl,o1,b1⟩;obtain ⟨A,c,rfl,hs⟩:=o1.strs;replace hB:=Lib.hid (hB.out.trans (b1.mono hB.out.size));clear b1 x0 x1 x2 K1 o1 HX;cases nb
 · have hg:=Lib.hid (hno.out rfl);go_wp2;go_ret;exact ⟨ret_int hg.out.symm,hB.out⟩
 · have hg:=Lib.hid (hyes.out rfl);generalize hL:xs.length=L at *;replace hL:=Lib.hid hL;go_wp2
   go_loop [7,8] (fun s7 s8=>∃ k:Nat,k≤L∧s8=.int .i64 k∧s7=.int .i64 (lettersTo' xs k)) (fun _ i=>L - (intOf i).toNat)
   case atStart=>exact ⟨0,Nat.zero_le _,rfl,rfl⟩
   case round =>
    obtain ⟨k,hk,rfl,rfl⟩:=hrel
    by_cases hlt:k < L
    · obtain ⟨b,o,rfl,-,hc⟩:=hs.at_ (by omega);have ck:=hc k hlt;have z2:=hat.out k;have z1:=hls.out k;have HJ:lettersTo' xs (k+1)=lettersTo' xs k+(xs.getD k ByteArray.empty).size:=rfl;generalize xs.getD k ByteArray.empty=x at *;generalize lettersTo' xs k=a at *;have y1:IntKind.i64.wrap ((a:Int)+x.size)=(a:Int)+x.size:=IntWalk.i64_in _ (by omega);replace HJ:=Lib.hid HJ;clear hc;go_wp2
      go_round
      case rel=>exact ⟨k+1,by omega,by go_num,by rw [HJ.out];rfl⟩
      case measure=>simp [intOf];omega
    · obtain rfl:k=L:=by omega
      go_wp2;go_ret;exact ⟨ret_int hg.out.symm,hB.out⟩
end
section
open Go.RowKit Go.Sort
set_option maxRecDepth 100000 in
set_option maxHeartbeats 4000000 in
theorem specRingFrom_any (v:Value) (t:Tg) (n:Int) (w:World) (h:Tng w v t) (hf:t.Fine) (hn:-9223372036854775808≤n∧n≤9223372036854775807) :
 Calls Tryz.prog 68 #[v,.int .i64 n] w (RetI2 w (ringF (lettersOf t) n) (okF (lettersOf t) n)):=by
 obtain ⟨i0,hi,hz0,hz1,hz2⟩:=info_parts int_info;obtain ⟨A1,c1,A2,c2,A3,c3,rfl,-⟩:=h.ex;have hB:=(Below.refl w.heap.size w).alloc (Nat.le_refl _) (.cells #[.slice A1 t.us.length c1,.slice A2 t.bs.length c2,.slice A3 t.ns.length c3] 31);have HX:=Blk.new w 31 #[.slice A1 t.us.length c1,.slice A2 t.bs.length c2,.slice A3 t.ns.length c3];have HT:=h.below hB (Nat.le_refl _);have hbd:=Lib.hid (letters_bd t);have hneg:=Lib.hid (letters_neg t);have hib:=Lib.hid (itF_bd (letters_bd t) hn);have KL:=Lib.hid (fun x W (hT:Tng W (.agg #[.slice A1 t.us.length c1,.slice A2 t.bs.length c2,.slice A3 t.ns.length c3]) t) hx=>specLettersOf_any _ t x W hT hf hx);generalize lettersOf t=f at *;replace hB:=Lib.hid hB;replace HX:=Lib.hid HX;replace HT:=Lib.hid HT;clear h hf;go_enter Tryz.func68,Tryz.ntmps68;go_upto_region 1 with (fail)
 generalize w.alloc (.cells #[.slice A1 t.us.length c1,.slice A2 t.bs.length c2,.slice A3 t.ns.length c3] 31)=W at *;go_wp2
 go_loopw [6,7] (fun s6 s7 wr=>∃ k:Nat,k≤200∧s7=.int .i64 k∧OwnI wr W.heap.size s6 (seenL f n k)∧Below W.heap.size W wr∧∀ a b,a < b→b≤k→itF f a n≠itF f b n) (fun _ s7 _=>200 - (intOf s7).toNat)
 case atStart=>exact ⟨0,by omega,rfl,owns_blk (Blk.new _ _ _) rfl (Nat.le_refl _) (by unfold maxLen;simp),(Below.refl _ _).alloc (Nat.le_refl _) _,fun a b h1 h2=>by omega⟩
 case round =>
  obtain ⟨k,hk,rfl,ho,hBr,hap⟩:=hrel;have hsl:=seen_len f n k;have hsat:=Lib.hid (fun i (hi:i≤k)=>seen_at f n hi);have hss:=Lib.hid (seen_succ f n k);have hwB:=hB.out.trans (hBr.mono hB.out.size)
  by_cases hlt:k < 200
  · obtain ⟨gs,cs,rfl,-,hgl⟩:=World.ownsRow.form ho (by omega);have hdrop:=Lib.hid (fun j (hr:RingIs f n j (k+1 - j)) (hj:j≤k) (hok:okF f n=true)=>seen_ring hr hj hok);have hints:=ho.ints;obtain ⟨As,cs',es,hints⟩:=hints;cases es;rw [hsl] at hints;have HTr:=HT.out.below hBr (Nat.le_refl _);obtain ⟨x0,x1,x2,-,-,-⟩:=blk3 (HX.out.below hBr HX.out.lt);obtain ⟨gb,go_,eg,-,hc⟩:=hints.at_ (by omega);cases eg;have ck:=hc k (by omega);rw [hsat.out k (Nat.le_refl _),Nat.zero_add] at ck;have KD:=fun d os=>KL.out (itF f k n) (grow (redrawn wr d) os) (HTr.below (below_regrown wr d os) (Nat.le_refl _)) (hib.out k)
    have hnb:=hbd.out (itF f k n);have hnx:itF f (k+1) n=f (itF f k n):=rfl;have hno:=Lib.hid (fun (h:itF f (k+1) n < 0)=>ok_neg hbd.out hneg.out h);have hfound:=Lib.hid (fun j (hj:j≤k) (he:itF f j n=itF f (k+1) n)=>ring_found hj hap he);have y0:=fun d os=>cell_regrown x0 d os
    have y1:=fun d os=>cell_regrown x1 d os
    have y2:=fun d os=>cell_regrown x2 d os
    have u1:=fun d os=>cell_regrown ck d os
    have hseen:Hid (∀ j,j < k+1→wr.cell? ⟨gs,j,none⟩=some (.int .i64 (itF f j n))):=fun j hj=>by rw [← Nat.zero_add j,hc j hj,hsat.out j (by omega),Nat.zero_add]
    generalize hxk:itF f k n=xk at *;generalize hfx:f xk=nx at *;replace KD:=Lib.hid KD;replace ho:=Lib.hid ho;replace hBr:=Lib.hid hBr;replace hap:=Lib.hid hap;replace hints:=Lib.hid hints;replace hwB:=Lib.hid hwB;replace hnx:=Lib.hid hnx;have e1:IntKind.i64.wrap (((k+1:Nat):Int) - 1)=(k:Int):=by rw [show ((k+1:Nat):Int) - 1=(k:Int) by omega];exact IntWalk.i64_in _ (by omega)
    have hlt':(k:Int) < 200:=by omega
    clear hc HTr ck hxk hfx;go_upto_region 5 with (fail)
    refine wp_region_quiet_below (by kernel_rfl) (by kernel_rfl) ?_
    repeat (go_big_quiet_step (first | (go_at_call 67;exact Calls.regrown_of (KD.out _ _))))
    refine wpQuiet_nil ?_;intro _ hw';obtain ⟨pq,hw''⟩:=hw';have bq:=below_regrown wr pq.d pq.os;have hBq:=Lib.hid (hBr.out.trans (bq.mono hBr.out.size));have hWq:=Lib.hid (hwB.out.trans (bq.mono hwB.out.size));have hoq:=Lib.hid (ho.out.below bq (Nat.le_refl _));have hiq:=Lib.hid (hints.out.below bq (Nat.le_refl _));have hcq:Hid (∀ j,j < k+1→(grow (redrawn wr pq.d) pq.os).cell? ⟨gs,j,none⟩=some (.int .i64 (itF f j n))):=fun j hj=>(bq.cell (p:=⟨gs,j,none⟩) hgl).trans (hseen.out j hj)
    subst hw'';clear y0 y1 y2 u1 x0 x1 x2 bq hBr hwB ho hints hseen KD;generalize grow (redrawn wr pq.d) pq.os=W2 at *
    by_cases hx0:nx < 0
    · have hok:=Lib.hid (hno.out (by rw [hnx.out];exact hx0));have hr:=Lib.hid (ring_no hok.out).1;go_wp2
      go_ret2
      exact ⟨some ⟨W2.heap.size,0,none⟩,0,by rw [hok.out,hr.out];rfl,by rw [hr.out];exact ints_nil _ _ _ _,hWq.out.alloc hWq.out.size _⟩
    · have hnx0:=Lib.hid (show 0≤nx by omega);go_wp2
      go_loop [9] (fun s9=>∃ j:Nat,j≤k+1∧s9=.int .i64 j∧∀ i,i < j→itF f i n≠nx) (fun s9=>k+1 - (intOf s9).toNat)
      case atStart=>exact ⟨0,by omega,rfl,fun i hi=>by omega⟩
      case round =>
       obtain ⟨j,hj,rfl,hjs⟩:=hrel
       by_cases hj2:j < k+1
       · have cj:=hcq.out j hj2
         by_cases he:itF f j n=nx
         · have hRI:=hfound.out j (by omega) (by rw [hnx.out];exact he);have hok:okF f n=true:=by rw [hRI.ok];exact decide_eq_true ⟨by rw [he];exact hnx0.out,by omega⟩
           have hdr:=hiq.out.dropI (m:=j) (by omega);rw [hdrop.out j hRI (by omega) hok] at hdr;have hrl:(ringF f n).length=k+1 - j:=hdr.len;have hcs:=hiq.out.le;rw [he] at cj;have hnn:(nx==nx)=true:=by simp
           have q1:(j:Int)≤((k+1:Nat):Int):=by omega
           have q2:¬ j=cs:=by omega
           have q3:j≤k+1:=by omega
           replace hdr:=Lib.hid hdr;replace hrl:=Lib.hid hrl;replace hok:=Lib.hid hok;replace hRI:=Lib.hid hRI;replace hjs:=Lib.hid hjs;clear he;go_wp2
           go_ret2
           exact ⟨some ⟨gs,j,none⟩,cs - j,by rw [hok.out,hrl.out];rfl,by rw [hrl.out];simpa using hdr.out,hWq.out⟩
         · have hnn:(itF f j n==nx)=false:=by rw [beq_eq_false_iff_ne];exact he
           have hjs2:Hid (∀ i,i < j+1→itF f i n≠nx):=fun i hi=>by
            by_cases e:i=j
            · subst e;exact he
            · exact hjs i (by omega)
           generalize itF f j n=xj at *;clear hjs;go_wp2
           go_round
           case rel=>exact ⟨j+1,by omega,by go_num,hjs2.out⟩
           case measure=>simp [intOf];omega
       · obtain rfl:j=k+1:=by omega
         have hap2:Hid (∀ a b,a < b→b≤k+1→itF f a n≠itF f b n):=fun a b h1 h2=>by
          by_cases e:b=k+1
          · subst e;rw [hnx.out];exact hjs a h1
          · exact hap.out a b h1 (by omega)
         have hsz:=hBq.out.size;have m1:=Lib.hid (show k+1+1≤maxLen by unfold maxLen;omega);have m2:=Lib.hid (show (k+1+1) * 8≤140737488355328 by omega)
         have hoq2:Hid (W2.ownsRow W.heap.size 3 1 (.slice (some ⟨gs,0,none⟩) (k+1) cs) (k+1) ((seenL f n k).map (Value.int .i64))):=by
          have hh:=hoq.out;unfold OwnI at hh;rw [hsl] at hh;exact hh
         clear hjs;go_wp2_with (at_builtin;refine wpList_app _ rfl (.tmp 42) (.tmp 44) _ rfl W.heap.size 3 i0 _ 8 Tryz.underlying29 hi hz0 hz1 hz2 rfl (.slice (some ⟨gs,0,none⟩) (k+1) cs) _ _ rfl (World.ownsRow.alloc hoq2.out _) (some ⟨W2.heap.size,0,none⟩) 1 1 [.int .i64 nx] rfl (Src.one (Blk.new _ _ _) rfl) m1.out m2.out (by simp;omega) ?_;intro v6 w6 ho6 hg6 _);have hB6:=Lib.hid (below_own (hBq.out.alloc hBq.out.size _) (World.ownsRow.alloc hoq2.out _) hg6 (by simp;omega) (Nat.le_refl _));have ho7:=Lib.hid (own_snocW ho6);rw [← hss.out] at ho7;clear ho6 hg6;go_wp2
         go_roundw
         case rel=>exact ⟨k+1,by omega,by go_num,ho7.out,hB6.out,hap2.out⟩
         case measure=>simp [intOf];omega
  · obtain rfl:k=200:=by omega
    have hok:=Lib.hid (ok_late hbd.out hap);have hr:=Lib.hid (ring_no hok.out).1;have hWq:=Lib.hid hwB;obtain ⟨gs,cs,rfl,-,-⟩:=World.ownsRow.form ho (by omega);clear ho;go_wp2
    go_ret2
    exact ⟨some ⟨wr.heap.size,0,none⟩,0,by rw [hok.out,hr.out];rfl,by rw [hr.out];exact ints_nil _ _ _ _,hWq.out.alloc hWq.out.size _⟩
end
section
open Go.RowKit
set_option maxRecDepth 100000 in
set_option maxHeartbeats 2000000 in
theorem implLettersOf_any (v:Value) (t:Tg) (n:Int) (w:World) (h:Tng w v t) (hf:t.Fine) (hn:-9223372036854775808≤n∧n≤9223372036854775807) :
 Calls Tryz.prog 141 #[v,.int .i64 n] w fun e w'=>e=.returned (.int .i64 (lettersOf t n))∧Below w.heap.size w w':=by
 obtain ⟨A1,c1,A2,c2,A3,c3,rfl,-⟩:=h.ex;have hB:=(Below.refl w.heap.size w).alloc (Nat.le_refl _) (.cells #[.slice A1 t.us.length c1,.slice A2 t.bs.length c2,.slice A3 t.ns.length c3] 31);have HX:=Blk.new w 31 #[.slice A1 t.us.length c1,.slice A2 t.bs.length c2,.slice A3 t.ns.length c3];have HT:=h.below hB (Nat.le_refl _);have K1:=implNameOf_any _ t n _ HT hf hn;have hat:=Lib.hid (nameOf_at t n);have hls:=Lib.hid (lettersTo_le (nameOf_at t n));have hln:=nameOf_short t n;have hyes:=Lib.hid (fun h=>letters_yes (t:=t) (n:=n) h);have hno:=Lib.hid (fun h=>letters_no (t:=t) (n:=n) h);generalize lettersOf t n=lt at *;generalize namedB t n=nb at *;generalize nameOf t n=xs at *;replace K1:=Lib.hid K1;replace hB:=Lib.hid hB;replace HX:=Lib.hid HX;clear h hf HT;go_enter Tryz.func141,Tryz.ntmps141;go_upto_region 1 with (fail)
 generalize w.alloc (.cells #[.slice A1 t.us.length c1,.slice A2 t.bs.length c2,.slice A3 t.ns.length c3] 31)=W at *;obtain ⟨x0,x1,x2,-,-,-⟩:=blk3 HX.out;go_wp2_with (fail);refine K1.out.mono ?_;rintro e w1 ⟨v1,rfl,o1,b1⟩;obtain ⟨A,c,rfl,hs⟩:=o1.strs;replace hB:=Lib.hid (hB.out.trans (b1.mono hB.out.size));clear b1 x0 x1 x2 K1 o1 HX;cases nb
 · have hg:=Lib.hid (hno.out rfl);go_wp2;go_ret;exact ⟨ret_int hg.out.symm,hB.out⟩
 · have hg:=Lib.hid (hyes.out rfl);generalize hL:xs.length=L at *;replace hL:=Lib.hid hL;go_wp2
   go_loop [7,20] (fun s7 s8=>∃ k:Nat,k≤L∧s8=.int .i64 k∧s7=.int .i64 (lettersTo' xs k)) (fun _ i=>L - (intOf i).toNat)
   case atStart=>exact ⟨0,Nat.zero_le _,rfl,rfl⟩
   case round =>
    obtain ⟨k,hk,rfl,rfl⟩:=hrel
    by_cases hlt:k < L
    · obtain ⟨b,o,rfl,-,hc⟩:=hs.at_ (by omega);have ck:=hc k hlt;have z2:=hat.out k;have z1:=hls.out k;have HJ:lettersTo' xs (k+1)=lettersTo' xs k+(xs.getD k ByteArray.empty).size:=rfl;generalize xs.getD k ByteArray.empty=x at *;generalize lettersTo' xs k=a at *;have y1:IntKind.i64.wrap ((a:Int)+x.size)=(a:Int)+x.size:=IntWalk.i64_in _ (by omega);replace HJ:=Lib.hid HJ;clear hc;go_wp2
      go_round
      case rel=>exact ⟨k+1,by omega,by go_num,by rw [HJ.out];rfl⟩
      case measure=>simp [intOf];omega
    · obtain rfl:k=L:=by omega
      go_wp2;go_ret;exact ⟨ret_int hg.out.symm,hB.out⟩
end
section
open Go.RowKit Go.WideMaps Go.Maps
abbrev keyI (x:Int):Lit:=.int .i64 x
theorem keyI_is (x:Int):WideAt.IsKeyLit (keyI x):=trivial
theorem keyI_inj {a b:Int} (h:a≠b):keyI a≠keyI b:=fun e=>h (by injection e)
theorem keyLawI:Keyed Tryz.prog 3:=int_keyed Tryz.underlying3
theorem zeroInt8 (w:World):(zeroValue 3).run Tryz.prog w=.ok (.int .i64 0) w:=by kernel_rfl
def MemoD (f:Int→Int) (D:DataW Unit):Prop:=∀ x,Maps.has D (keyI x)=true→D.atKey (keyI x) (.lit (.int .i64 0))=.lit (.int .i64 (f x))
theorem memo_empty (f:Int→Int):MemoD f (.map []):=fun x h=>by simp [Maps.has] at h
theorem memo_put {f:Int→Int} {D:DataW Unit} (hM:IsMap D) (h:MemoD f D) (x:Int):MemoD f (D.put (keyI x) (.lit (.int .i64 (f x)))):=fun y hy=>by
 by_cases e:y=x
 · subst e;exact atKey_put_same hM (keyI_is _) _ _
 · rw [atKey_put_other (keyI_inj e)];rw [has_put_other (keyI_inj e)] at hy;exact h y hy
structure PS (w0:World) (f:Int→Int) (b N:Nat) (w:World):Prop where
 low:Below w0.heap.size w0 w
 ge:w0.heap.size≤b
 memo:∃ n D,n≤N∧w.ownsMap Tryz.prog 3 (plainElem Tryz.prog 3) b n D∧MemoD f D
theorem PS.kept {w0 w w':World} {f:Int→Int} {b N:Nat} (h:PS w0 f b N w) (hb:Below w.heap.size w w'):PS w0 f b N w':=by
 obtain ⟨n,D,h1,h2,h3⟩:=h.memo;exact ⟨h.low.trans (hb.mono h.low.size),h.ge,n,D,h1,h2.kept (grown_of_below none hb) (by simp),h3⟩
theorem PS.mono {w0 w:World} {f:Int→Int} {b N N':Nat} (h:PS w0 f b N w) (hN:N≤N'):PS w0 f b N' w:=by
 obtain ⟨n,D,h1,h2,h3⟩:=h.memo;exact ⟨h.low,h.ge,n,D,by omega,h2,h3⟩
theorem PS.lt {w0 w:World} {f:Int→Int} {b N:Nat} (h:PS w0 f b N w):b < w.heap.size:=by
 obtain ⟨n,D,h1,h2,h3⟩:=h.memo;exact h2.lt
theorem Blk4 {w:World} {g:Nat} {t:TypeId} {x y z u:Value} (h:Blk w g t #[x,y,z,u]):w.cell? ⟨g,0,none⟩=some x∧w.cell? ⟨g,1,none⟩=some y∧w.cell? ⟨g,2,none⟩=some z∧w.cell? ⟨g,3,none⟩=some u :=
 ⟨by rw [h.cell];rfl,by rw [h.cell];rfl,by rw [h.cell];rfl,by rw [h.cell];rfl⟩
def RetNext (w0:World) (f:Int→Int) (b N:Nat) (x:Int) (w:World) (e:Ending) (w':World):Prop:=e=.returned (.int .i64 (f x))∧PS w0 f b (N+1) w'∧w.grownBy w' (some b)
set_option maxRecDepth 100000 in
set_option maxHeartbeats 4000000 in
theorem next_any (w0:World) (A1 A2 A3:Option Addr) (c1 c2 c3:Nat) (t:Tg) (hT:Tng w0 (.agg #[.slice A1 t.us.length c1,.slice A2 t.bs.length c2,.slice A3 t.ns.length c3]) t) (hf:t.Fine)
 (b N:Nat) (hN:N≤100000000) (x:Int) (hx:-9223372036854775808≤x∧x≤9223372036854775807) (w:World) (h:PS w0 (lettersOf t) b N w) :
 Calls Tryz.prog 203 #[.agg #[.slice A1 t.us.length c1,.slice A2 t.bs.length c2,.slice A3 t.ns.length c3,.map (some b)],.int .i64 x] w (RetNext w0 (lettersOf t) b N x w):=by
 have hA:=(Below.refl w.heap.size w).alloc (Nat.le_refl _) (.cells #[.slice A1 t.us.length c1,.slice A2 t.bs.length c2,.slice A3 t.ns.length c3,.map (some b)] 182);have HX:=Blk.new w 182 #[.slice A1 t.us.length c1,.slice A2 t.bs.length c2,.slice A3 t.ns.length c3,.map (some b)];have S1:=h.kept hA;have hG:=Lib.hid (grown_of_below (some b) hA);have hltb:=h.lt;have KL:=Lib.hid (implLettersOf_any _ t x _ (hT.below S1.low (Nat.le_refl _)) hf hx);have hbd:=letters_bd t x;have hkey:=Lib.hid (keyOf_int_mk (P:=Tryz.prog) (q:=.i64) (a:=x) Tryz.underlying3 (by simp [Lit.wf,IntKind.min,IntKind.max,IntKind.signed,IntKind.bits];omega));obtain ⟨n,D,hnN,hown,hmemo⟩:=S1.memo;have hmx:=Lib.hid (hmemo x);have hput:=Lib.hid (memo_put hown.isMap hmemo x);have hzero:=Lib.hid (zeroInt8 (w.alloc (.cells #[.slice A1 t.us.length c1,.slice A2 t.bs.length c2,.slice A3 t.ns.length c3,.map (some b)] 182)));have hbw:=Lib.hid (show b≠w.heap.size by omega);generalize lettersOf t=f at *;generalize hfx:f x=y at *;replace hfx:=Lib.hid hfx;replace HX:=Lib.hid HX;replace S1:=Lib.hid S1;replace hA:=Lib.hid hA;replace hown:=Lib.hid hown;clear h hT hf hmemo;go_enter Tryz.func203,Tryz.ntmps203;go_upto_region 1 with (fail)
 obtain ⟨x0,x1,x2,x3⟩:=Blk4 HX.out;generalize w.alloc (.cells #[.slice A1 t.us.length c1,.slice A2 t.bs.length c2,.slice A3 t.ns.length c3,.map (some b)] 182)=W at *;go_upto_region 2 with (at_lookup;refine wpList_lookup_own_ok_int _ rfl _ _ 180 rfl 3 3 .i64 keyLawI Tryz.underlying180 Tryz.underlying3 hzero.out b n D rfl hown.out _ _ rfl hkey.out ?_;intro c hat hwc)
 cases hh:Maps.has D (keyI x)
 · replace hat:=Lib.hid hat;go_wp2_with (fail);refine KL.out.mono ?_;rintro e w2 ⟨rfl,b2⟩;obtain ⟨y0,y1,y2,y3⟩:=Blk4 (HX.out.below b2 HX.out.lt);have hown2:=Lib.hid (hown.out.kept (grown_of_below none b2) (by simp));have hG2:=Lib.hid (hG.out.trans (grown_of_below (some b) b2));have S2:=S1.out.kept b2;have hl2:=S2.lt;have hge:=S2.ge;have hs2:=S2.low.size;replace S2:=Lib.hid S2;clear x0 x1 x2 x3 b2 KL;go_wp2_with (at_mapUpdate;refine wpList_mapUpdate_own _ rfl _ _ _ 180 rfl 3 3 keyLawI Tryz.underlying180 _ b n D rfl hown2.out (by unfold maxLen;omega) _ _ _ rfl rfl hkey.out _ [] (plainElem_int Tryz.underlying3 (by simp [Lit.wf,IntKind.min,IntKind.max,IntKind.signed,IntKind.bits];omega)) ?_;intro w3 hown3 hg3);have hfin:RetNext w0 f b N x w (.returned (.int .i64 y)) w3:=⟨by rw [hfx.out],⟨S2.out.low.grown hg3 hs2 (fun k e=>by cases e;exact hge),hge,n+1,_,by omega,hown3,hput.out⟩,hG2.out.trans hg3⟩;replace hfin:=Lib.hid hfin;clear hown3 hg3;go_wp2;go_ret;exact hfin.out
 · have hc:c=y:=by
    have e:=hmx.out hh;rw [hat] at e;injection e with e
    injection e
   subst hc;clear hat;have hfin:RetNext w0 f b N x w (.returned (.int .i64 c)) W:=⟨by rw [hfx.out],S1.out.mono (by omega),hG.out⟩;replace hfin:=Lib.hid hfin;go_wp2;go_ret;exact hfin.out
end
section
open Go.RowKit Go.WideMaps Go.Maps
structure ES (w0:World) (f:Int→Int) (b N z:Nat) (cs:Array Value) (wS w:World):Prop where
 ps:PS w0 f b N w
 bx:Blk w z 182 cs
 gr:wS.grownBy w (some b)
theorem ES.next {w0 wS w w':World} {f:Int→Int} {b N N' z:Nat} {cs:Array Value} (h:ES w0 f b N z cs wS w) (hp:PS w0 f b N' w') (hg:w.grownBy w' (some b)) (hz:z≠b):ES w0 f b N' z cs wS w' :=
 ⟨hp,(hg.block z h.bx.lt (by simpa using hz)).trans h.bx,h.gr.trans hg⟩
theorem ES.mono {w0 wS w:World} {f:Int→Int} {b N N' z:Nat} {cs:Array Value} (h:ES w0 f b N z cs wS w) (hN:N≤N'):ES w0 f b N' z cs wS w:=⟨h.ps.mono hN,h.bx,h.gr⟩
def RetEntry (w0:World) (f:Int→Int) (b N:Nat) (n:Int) (w:World) (e:Ending) (w':World):Prop :=
 e=.returned (.tuple #[.int .i64 (itF f (muF f n) n),.int .i64 (muF f n)])∧PS w0 f b (N+2000) w'∧w.grownBy w' (some b)
set_option maxRecDepth 100000 in
set_option maxHeartbeats 8000000 in
theorem entry_any (w0:World) (A1 A2 A3:Option Addr) (c1 c2 c3:Nat) (t:Tg) (hT:Tng w0 (.agg #[.slice A1 t.us.length c1,.slice A2 t.bs.length c2,.slice A3 t.ns.length c3]) t) (hf:t.Fine)
 (b N:Nat) (hN:N≤50000000) (n:Int) (hn:-9223372036854775808≤n∧n≤9223372036854775807) (w:World) (h:PS w0 (lettersOf t) b N w) :
 Calls Tryz.prog 202 #[.agg #[.slice A1 t.us.length c1,.slice A2 t.bs.length c2,.slice A3 t.ns.length c3,.map (some b)],.int .i64 n] w (RetEntry w0 (lettersOf t) b N n w):=by
 have hA:=(Below.refl w.heap.size w).alloc (Nat.le_refl _) (.cells #[.slice A1 t.us.length c1,.slice A2 t.bs.length c2,.slice A3 t.ns.length c3,.map (some b)] 182)
 have S0:ES w0 (lettersOf t) b N w.heap.size #[.slice A1 t.us.length c1,.slice A2 t.bs.length c2,.slice A3 t.ns.length c3,.map (some b)] w (w.alloc (.cells #[.slice A1 t.us.length c1,.slice A2 t.bs.length c2,.slice A3 t.ns.length c3,.map (some b)] 182)) :=
  ⟨h.kept hA,Blk.new _ _ _,grown_of_below (some b) hA⟩
 have hzb:w.heap.size≠b:=by have:=h.lt;omega
 have KN:=fun (M:Nat) (x:Int) W (hM:M≤100000000) (hx:-9223372036854775808≤x∧x≤9223372036854775807) hp=>next_any w0 A1 A2 A3 c1 c2 c3 t hT hf b M hM x hx W hp
 have hib:=itF_bd (letters_bd t) hn;have hbd:=letters_bd t;generalize lettersOf t=f at *;obtain ⟨hR,hsum⟩:=ring_is f hbd n;obtain ⟨K,hK1,hK2,hK3⟩:=hR.meets;have hmeet:=Lib.hid (fun k (h1:1≤k)=>hR.meet (k:=k) h1);have hent:=Lib.hid (fun k s (h1:1≤k) (hk:k % lamF f n=0) hs=>hR.enter (k:=k) (s:=s) h1 hk hs);have hone:=Lib.hid (fun k=>show itF f (k+1) n=f (itF f k n) from rfl);have hK3':=Lib.hid hK3;replace hR:=Lib.hid hR;replace S0:=Lib.hid S0;replace KN:=Lib.hid KN;replace hib:=Lib.hid hib;replace hbd:=Lib.hid hbd;clear h hT hf hA hK3;generalize hmu:muF f n=mu at *;generalize lamF f n=lam at *;replace hmu:=Lib.hid hmu;go_enter Tryz.func202,Tryz.ntmps202;go_upto_region 1 with (fail)
 generalize w.alloc (.cells #[.slice A1 t.us.length c1,.slice A2 t.bs.length c2,.slice A3 t.ns.length c3,.map (some b)] 182)=W at *;generalize w.heap.size=z at *;obtain ⟨y1,hy1⟩:∃ y,f n=y:=⟨_,rfl⟩;obtain ⟨y2,hy2⟩:∃ y,f y1=y:=⟨_,rfl⟩
 go_cut [6,7] (fun s6 s7 wx=>s6=.int .i64 y1∧s7=.int .i64 y2∧ES w0 f b (N+3) z #[.slice A1 t.us.length c1,.slice A2 t.bs.length c2,.slice A3 t.ns.length c3,.map (some b)] w wx)
 case first =>
  obtain ⟨x0,x1,x2,x3⟩:=Blk4 S0.out.bx;have i1:=hbd.out n;rw [hy1] at i1;have hx12:Hid (∀ x,x=n∨x=y1→-9223372036854775808≤x∧x≤9223372036854775807):=fun x hx=>by rcases hx with rfl | rfl <;> omega
  replace hy1:=Lib.hid hy1;replace hy2:=Lib.hid hy2
  go_region_held3 (fun w'=>w'.cell? ⟨z,0,none⟩=some (.slice A1 t.us.length c1)∧w'.cell? ⟨z,1,none⟩=some (.slice A2 t.bs.length c2)∧w'.cell? ⟨z,2,none⟩=some (.slice A3 t.ns.length c3)∧w'.cell? ⟨z,3,none⟩=some (.map (some b)))
   (first | go_keep | exact hS3 | exact hS2 | exact hS1)
   (first
    | (have hgd:=E2.out.ps;clear hgd;go_at_call 203;refine (KN.out (N+2) _ _ (by omega) (hx12.out _ (by first | exact .inl rfl | exact .inr rfl)) (by first | exact E2.out.ps | exact E2.out.ps.kept ((Below.refl _ _).drew))).mono ?_;rintro e w3 ⟨rfl,p3,g3'⟩;have g3:V2.grownBy w3 (some b):=⟨g3'.os,g3'.tape,g3'.output,g3'.size,g3'.block⟩;have E3:=E2.out.next p3 g3 hzb;have hS3:=Blk4 E3.bx;replace E3:=Lib.hid E3;clear p3 g3 g3';(first | rw [hy1.out] | rw [hy2.out]))
    | (have hgd:=E1.out.ps;clear hgd;go_at_call 203;refine (KN.out (N+1) _ _ (by omega) (hx12.out _ (by first | exact .inl rfl | exact .inr rfl)) (by first | exact E1.out.ps | exact E1.out.ps.kept ((Below.refl _ _).drew))).mono ?_;rintro e V2 ⟨rfl,p2,g2'⟩;have g2:V1.grownBy V2 (some b):=⟨g2'.os,g2'.tape,g2'.output,g2'.size,g2'.block⟩;have E2:=E1.out.next p2 g2 hzb;have hS2:=Blk4 E2.bx;replace E2:=Lib.hid E2;clear p2 g2 g2';(first | rw [hy1.out] | rw [hy2.out]))
    | (go_at_call 203;refine (KN.out N _ _ (by omega) (hx12.out _ (by first | exact .inl rfl | exact .inr rfl)) (by first | exact S0.out.ps | exact S0.out.ps.kept ((Below.refl _ _).drew))).mono ?_;rintro e V1 ⟨rfl,p1,g1'⟩;have g1:W.grownBy V1 (some b):=⟨g1'.os,g1'.tape,g1'.output,g1'.size,g1'.block⟩;have E1:=S0.out.next p1 g1 hzb;have hS1:=Blk4 E1.bx;replace E1:=Lib.hid E1;clear p1 g1 g1';rw [hy1.out]))
  all_goals
   go_wp2
   go_meet
   exact ⟨rfl,rfl,E3.out⟩
 case rest =>
  clear S0;obtain ⟨rfl,rfl,S0⟩:=hcut;replace S0:=Lib.hid S0;go_wp2
  go_loopg [6,7] K (fun gg s6 s7 wr=>∃ k:Nat,1≤k∧k≤K∧K - k≤gg∧s6=.int .i64 (itF f k n)∧s7=.int .i64 (itF f (2 * k) n)∧ES w0 f b (N+3 * k) z #[.slice A1 t.us.length c1,.slice A2 t.bs.length c2,.slice A3 t.ns.length c3,.map (some b)] w wr)
  case atStart=>exact ⟨1,Nat.le_refl _,hK1,by omega,by rw [← hy1];rfl,by rw [← hy2,← hy1];rfl,S0.out⟩
  case round =>
   clear S0 hy1 hy2;obtain ⟨k,hk1,hkK,hgk,rfl,rfl,S0⟩:=hrel;have hx:=hib.out k;have hy:=hib.out (2 * k);have hm:=hmeet.out k hk1;obtain ⟨u,hu⟩:∃ u,f (itF f k n)=u:=⟨_,rfl⟩;obtain ⟨v,hv⟩:∃ v,f (itF f (2 * k) n)=v:=⟨_,rfl⟩;obtain ⟨v2,hv2⟩:∃ v2,f v=v2:=⟨_,rfl⟩;have hvb:=hbd.out (itF f (2 * k) n);rw [hv] at hvb;have hu':Hid (itF f (k+1) n=u):=hu;have hv':Hid (itF f (2 * (k+1)) n=v2):=by show itF f (2 * k+1+1) n=v2;rw [← hv2,← hv];rfl
   by_cases he:itF f k n=itF f (2 * k) n
   · obtain ⟨hmk,hkl⟩:=hm.1 he;have hes:=Lib.hid (fun s hs=>hent.out k s hk1 hkl hs);have hxx:(itF f k n != itF f k n)=false:=by simp
     rw [← he];replace hmk:=Lib.hid hmk;replace S0:=Lib.hid S0;clear hm he hx hy hu hv hv2 hvb hu' hv';go_wp2
     go_loopw [6,7,8] (fun s6 s7 s8 wq=>∃ s:Nat,s≤mu∧s8=.int .i64 s∧s6=.int .i64 (itF f s n)∧s7=.int .i64 (itF f (k+s) n)∧ES w0 f b (N+3 * k+2 * s) z #[.slice A1 t.us.length c1,.slice A2 t.bs.length c2,.slice A3 t.ns.length c3,.map (some b)] w wq) (fun _ _ s8 _=>mu - (intOf s8).toNat)
     case atStart=>exact ⟨0,Nat.zero_le _,rfl,rfl,rfl,S0.out⟩
     case round =>
      clear S0;obtain ⟨s,hs,rfl,rfl,rfl,S0⟩:=hrel;have hx:=hib.out s;have hy:=hib.out (k+s);have hee:=hes.out s hs;obtain ⟨u,hu⟩:∃ u,f (itF f s n)=u:=⟨_,rfl⟩;obtain ⟨v,hv⟩:∃ v,f (itF f (k+s) n)=v:=⟨_,rfl⟩;have hu':Hid (itF f (s+1) n=u):=hu;have hv':Hid (itF f (k+(s+1)) n=v):=hv
      by_cases hsm:s=mu
      · have he:itF f (k+s) n=itF f s n:=(hee.2 hsm).symm;have hnn:(itF f s n != itF f s n)=false:=by simp
        have hfin:RetEntry w0 f b N n w (.returned (.tuple #[.int .i64 (itF f s n),.int .i64 (s:Int)])) wr:=⟨by rw [hmu.out,hsm],S0.ps.mono (by omega),S0.gr⟩;rw [he];replace hfin:=Lib.hid hfin;clear hee hu hv hu' hv' hx hy he hsm S0;generalize itF f s n=x at *;go_wp2
        go_ret2
        exact hfin.out
      · have hne:(itF f s n != itF f (k+s) n)=true:=by
         have:¬ itF f s n=itF f (k+s) n:=fun h=>hsm (hee.1 h)
         simpa using this
        generalize itF f s n=x at *;generalize itF f (k+s) n=y at *;have hxs:Hid (∀ q,q=x∨q=y→-9223372036854775808≤q∧q≤9223372036854775807):=fun q hq=>by rcases hq with rfl | rfl <;> omega
        obtain ⟨x0,x1,x2,x3⟩:=Blk4 S0.bx;replace S0:=Lib.hid S0;replace hu:=Lib.hid hu;replace hv:=Lib.hid hv;have hsm':s < mu:=by omega
        clear hee hsm;go_wp2
        go_region_held3 (fun w'=>w'.cell? ⟨z,0,none⟩=some (.slice A1 t.us.length c1)∧w'.cell? ⟨z,1,none⟩=some (.slice A2 t.bs.length c2)∧w'.cell? ⟨z,2,none⟩=some (.slice A3 t.ns.length c3)∧w'.cell? ⟨z,3,none⟩=some (.map (some b)))
         (first | go_keep | exact hS2 | exact hS1)
         (first
          | (have hgd:=E1.out.ps;clear hgd;go_at_call 203;refine (KN.out (N+3 * k+2 * s+1) _ _ (by omega) (hxs.out _ (by first | exact .inl rfl | exact .inr rfl)) (by first | exact E1.out.ps | exact E1.out.ps.kept ((Below.refl _ _).drew))).mono ?_;rintro e V2 ⟨rfl,p2,g2'⟩;have g2:V1.grownBy V2 (some b):=⟨g2'.os,g2'.tape,g2'.output,g2'.size,g2'.block⟩;have E2:=E1.out.next p2 g2 hzb;have hS2:=Blk4 E2.bx;replace E2:=Lib.hid E2;clear p2 g2 g2';(first | rw [hu.out] | rw [hv.out]))
          | (go_at_call 203;refine (KN.out (N+3 * k+2 * s) _ _ (by omega) (hxs.out _ (by first | exact .inl rfl | exact .inr rfl)) (by first | exact S0.out.ps | exact S0.out.ps.kept ((Below.refl _ _).drew))).mono ?_;rintro e V1 ⟨rfl,p1,g1'⟩;have g1:wr.grownBy V1 (some b):=⟨g1'.os,g1'.tape,g1'.output,g1'.size,g1'.block⟩;have E1:=S0.out.next p1 g1 hzb;have hS1:=Blk4 E1.bx;replace E1:=Lib.hid E1;clear p1 g1 g1';(first | rw [hu.out] | rw [hv.out])))
        all_goals
         go_wp2
         go_roundw
         case rel=>exact ⟨s+1,by omega,by go_num,by rw [hu'.out],by rw [hv'.out],E2.out.mono (by omega)⟩
         case measure=>simp [intOf];omega
   · have hkK2:k+1≤K:=by
      rcases Nat.lt_or_ge k K with h1 | h1
      · exact h1
      · obtain rfl:k=K:=by omega
        exact absurd hK3'.out he
     have hne:(itF f k n != itF f (2 * k) n)=true:=by simpa using he
     generalize itF f k n=x at *;generalize itF f (2 * k) n=y at *;have hxs:Hid (∀ q,q=x∨q=y∨q=v→-9223372036854775808≤q∧q≤9223372036854775807):=fun q hq=>by rcases hq with rfl | rfl | rfl <;> omega
     obtain ⟨x0,x1,x2,x3⟩:=Blk4 S0.bx;replace S0:=Lib.hid S0;replace hu:=Lib.hid hu;replace hv:=Lib.hid hv;replace hv2:=Lib.hid hv2;clear hm he;go_wp2
     go_region_held3 (fun w'=>w'.cell? ⟨z,0,none⟩=some (.slice A1 t.us.length c1)∧w'.cell? ⟨z,1,none⟩=some (.slice A2 t.bs.length c2)∧w'.cell? ⟨z,2,none⟩=some (.slice A3 t.ns.length c3)∧w'.cell? ⟨z,3,none⟩=some (.map (some b)))
      (first | go_keep | exact hS3 | exact hS2 | exact hS1)
      (first
       | (have hgd:=E2.out.ps;clear hgd;go_at_call 203;refine (KN.out (N+3 * k+2) _ _ (by omega) (hxs.out _ (by first | exact .inl rfl | exact .inr (.inl rfl) | exact .inr (.inr rfl))) (by first | exact E2.out.ps | exact E2.out.ps.kept ((Below.refl _ _).drew))).mono ?_;rintro e V3 ⟨rfl,p3,g3'⟩;have g3:V2.grownBy V3 (some b):=⟨g3'.os,g3'.tape,g3'.output,g3'.size,g3'.block⟩;have E3:=E2.out.next p3 g3 hzb;have hS3:=Blk4 E3.bx;replace E3:=Lib.hid E3;clear p3 g3 g3';(first | rw [hu.out] | rw [hv.out] | rw [hv2.out]))
       | (have hgd:=E1.out.ps;clear hgd;go_at_call 203;refine (KN.out (N+3 * k+1) _ _ (by omega) (hxs.out _ (by first | exact .inl rfl | exact .inr (.inl rfl) | exact .inr (.inr rfl))) (by first | exact E1.out.ps | exact E1.out.ps.kept ((Below.refl _ _).drew))).mono ?_;rintro e V2 ⟨rfl,p2,g2'⟩;have g2:V1.grownBy V2 (some b):=⟨g2'.os,g2'.tape,g2'.output,g2'.size,g2'.block⟩;have E2:=E1.out.next p2 g2 hzb;have hS2:=Blk4 E2.bx;replace E2:=Lib.hid E2;clear p2 g2 g2';(first | rw [hu.out] | rw [hv.out] | rw [hv2.out]))
       | (go_at_call 203;refine (KN.out (N+3 * k) _ _ (by omega) (hxs.out _ (by first | exact .inl rfl | exact .inr (.inl rfl) | exact .inr (.inr rfl))) (by first | exact S0.out.ps | exact S0.out.ps.kept ((Below.refl _ _).drew))).mono ?_;rintro e V1 ⟨rfl,p1,g1'⟩;have g1:wr.grownBy V1 (some b):=⟨g1'.os,g1'.tape,g1'.output,g1'.size,g1'.block⟩;have E1:=S0.out.next p1 g1 hzb;have hS1:=Blk4 E1.bx;replace E1:=Lib.hid E1;clear p1 g1 g1';(first | rw [hu.out] | rw [hv.out] | rw [hv2.out])))
     all_goals
      go_wp2
      go_roundg (K - (k+1))
      case measure=>omega
      case rel=>exact ⟨k+1,by omega,hkK2,Nat.le_refl _,by rw [hu'.out],by rw [hv'.out],E3.out.mono (by omega)⟩
end
section
open Go.RowKit Go.WideMaps Go.Maps
theorem run_makeMap_8 {P:Program} (t k e:TypeId) (_ht:P.underlying t=some (.map k e)) (w:World) :
 (Instr.makeMap t none).run P w=.ok (.map (some w.heap.size)) (w.alloc (.map #[] 0)):=by
 simp [Instr.makeMap]
def RetPath (w:World) (f:Int→Int) (s1 s2 s3:Value) (e:Ending) (w':World):Prop:=∃ b,e=.returned (.agg #[s1,s2,s3,.map (some b)])∧PS w f b 0 w'
set_option maxRecDepth 100000 in
set_option maxHeartbeats 2000000 in
theorem pathIn_any (f:Int→Int) (A1 A2 A3:Option Addr) (n1 n2 n3 c1 c2 c3:Nat) (w:World) :
 Calls Tryz.prog 179 #[.agg #[.slice A1 n1 c1,.slice A2 n2 c2,.slice A3 n3 c3]] w (RetPath w f (.slice A1 n1 c1) (.slice A2 n2 c2) (.slice A3 n3 c3)):=by
 have hmm:=fun W=>run_makeMap_8 (P:=Tryz.prog) 180 3 3 Tryz.underlying180 W
 go_enter Tryz.func179,Tryz.ntmps179;have hB:Below w.heap.size w (((w.alloc (.cells #[.slice A1 n1 c1,.slice A2 n2 c2,.slice A3 n3 c3] 31)).alloc (.cells #[.slice A1 n1 c1,.slice A2 n2 c2,.slice A3 n3 c3,.map (some (w.heap.size+1+1))] 182)).alloc (.map #[] 0)):=(((Below.refl _ _).alloc (Nat.le_refl _) _).alloc (by simp) _).alloc (by simp;omega) _;have HX:Blk (((w.alloc (.cells #[.slice A1 n1 c1,.slice A2 n2 c2,.slice A3 n3 c3] 31)).alloc (.cells #[.slice A1 n1 c1,.slice A2 n2 c2,.slice A3 n3 c3,.map (some (w.heap.size+1+1))] 182)).alloc (.map #[] 0)) (w.heap.size+1) 182 #[.slice A1 n1 c1,.slice A2 n2 c2,.slice A3 n3 c3,.map (some (w.heap.size+1+1))]:=(blk_new_at _ (by simp)).alloc _
 have HM:(((w.alloc (.cells #[.slice A1 n1 c1,.slice A2 n2 c2,.slice A3 n3 c3] 31)).alloc (.cells #[.slice A1 n1 c1,.slice A2 n2 c2,.slice A3 n3 c3,.map (some (w.heap.size+1+1))] 182)).alloc (.map #[] 0)).ownsMap Tryz.prog 3 (plainElem Tryz.prog 3) (w.heap.size+1+1) 0 (.map []:DataW Unit):=by
  have:=World.ownsMap_made (H:=Unit) ((w.alloc (.cells #[.slice A1 n1 c1,.slice A2 n2 c2,.slice A3 n3 c3] 31)).alloc (.cells #[.slice A1 n1 c1,.slice A2 n2 c2,.slice A3 n3 c3,.map (some (w.heap.size+1+1))] 182)) Tryz.prog 3 (plainElem Tryz.prog 3)
  simpa using this
 have HF:RetPath w f (.slice A1 n1 c1) (.slice A2 n2 c2) (.slice A3 n3 c3) (.returned (.agg #[.slice A1 n1 c1,.slice A2 n2 c2,.slice A3 n3 c3,.map (some (w.heap.size+1+1))])) (((w.alloc (.cells #[.slice A1 n1 c1,.slice A2 n2 c2,.slice A3 n3 c3] 31)).alloc (.cells #[.slice A1 n1 c1,.slice A2 n2 c2,.slice A3 n3 c3,.map (some (w.heap.size+1+1))] 182)).alloc (.map #[] 0)) :=
  ⟨_,rfl,hB,by omega,0,_,Nat.le_refl _,HM,memo_empty f⟩
 obtain ⟨r0,r1,r2,r3⟩:=Blk4 HX;replace HF:=Lib.hid HF;clear hB HX HM;go_wp2;generalize (((w.alloc (.cells #[.slice A1 n1 c1,.slice A2 n2 c2,.slice A3 n3 c3] 31)).alloc (.cells #[.slice A1 n1 c1,.slice A2 n2 c2,.slice A3 n3 c3,.map (some (w.heap.size+1+1))] 182)).alloc (.map #[] 0))=W at *;refine bodyPost_ret (v:=.agg #[.slice A1 n1 c1,.slice A2 n2 c2,.slice A3 n3 c3,.map (some (w.heap.size+1+1))]) (by simp [results,Tryz.results179,go_sem,r0,r1,r2,r3]) rfl ?_;exact HF.out
theorem own_gr {a a':World} {B n b:Nat} {e:TypeId} {u:Value} {xs:List Value} (h:a.ownsRow B e 1 u n xs) (hg:a.grownBy a' (some b)) (hb:b < B):a'.ownsRow B e 1 u n xs:=by
 refine h.kept hg ?_;cases hv:u.ownBlock with
 | none=>exact .inl rfl
 | some k=>exact .inr fun e=>by have:=(World.ownsRow.lt h k hv).1;cases e;omega
theorem PS.row {w0 w w':World} {f:Int→Int} {b N:Nat} {row:Option Nat} (h:PS w0 f b N w) (hg:w.grownBy w' row) (hr:∀ k,row=some k→b < k):PS w0 f b N w':=by
 obtain ⟨n,D,h1,h2,h3⟩:=h.memo;exact ⟨h.low.grown hg h.low.size (fun k e=>by have:=hr k e;have:=h.ge;omega),h.ge,n,D,h1,h2.kept hg (fun e=>by have:=hr b e.symm;omega),h3⟩
structure RS (w0:World) (f:Int→Int) (b N z:Nat) (cs:Array Value) (w:World) (B:Nat) (v:Value) (xs:List Int) (wr:World):Prop where
 es:ES w0 f b N z cs w wr
 own:OwnI wr B v xs
section
variable {w0 w wr w' : World} {f : Int → Int} {b N N' z B : Nat} {cs : Array Value} {v v' : Value} {xs : List Int}
theorem RS.next (h:RS w0 f b N z cs w B v xs wr) (hp:PS w0 f b N' w') (hg:wr.grownBy w' (some b)) (hz:z≠b) (hb:b < B):RS w0 f b N' z cs w B v xs w':=⟨h.es.next hp hg hz,own_gr h.own hg hb⟩
theorem RS.al (h:RS w0 f b N z cs w B v xs wr) (o:Obj):RS w0 f b N z cs w B v xs (wr.alloc o) :=
 ⟨⟨h.es.ps.kept ((Below.refl _ _).alloc (Nat.le_refl _) o),h.es.bx.alloc o,h.es.gr.trans (World.grownBy_alloc wr o (some b))⟩,World.ownsRow.alloc h.own o⟩
theorem RS.push {ys:List Int} (h:RS w0 f b N z cs w B v xs wr) (ho:OwnI w' B v' ys) (hg:wr.grownBy w' v.ownBlock) (hz:z < B) (hb:b < B) (hw:w.heap.size≤B):RS w0 f b N z cs w B v' ys w' :=
 ⟨⟨h.es.ps.row hg (fun k e=>by have:=(World.ownsRow.lt h.own k e).1;omega),h.es.bx.grown hg (fun e=>by have:=(World.ownsRow.lt h.own z e.symm).1;omega),grown_append h.es.gr (own_mono h.own hw) hg⟩,ho⟩
end
def ringTo (f:Int→Int) (n:Int) (mu i:Nat):List Int:=(List.range i).map fun j=>itF f (mu+j) n
theorem ringTo_succ (f:Int→Int) (n:Int) (mu i:Nat):ringTo f n mu (i+1)=ringTo f n mu i++[itF f (mu+i) n]:=by unfold ringTo;rw [List.range_succ,List.map_append];rfl
theorem ringTo_len (f:Int→Int) (n:Int) (mu i:Nat):(ringTo f n mu i).length=i:=by simp [ringTo]
def RetRing (w0:World) (f:Int→Int) (b N:Nat) (n:Int) (w:World) (e:Ending) (w':World):Prop :=
 ∃ v,e=.returned (.tuple #[v,.int .i64 (stepsF f n)])∧OwnI w' w.heap.size v (ringF f n)∧PS w0 f b (N+3000) w'∧w.grownBy w' (some b)
theorem ring_none {w0 w w':World} {f:Int→Int} {b N M:Nat} {n:Int} (ho:okF f n=false) (hp:PS w0 f b M w') (hM:M≤N+3000) (hg:w.grownBy w' (some b)):RetRing w0 f b N n w (.returned (.tuple #[.slice none 0 0,.int .i64 (-1)])) w' :=
 ⟨_,by rw [(ring_no ho).2],by rw [(ring_no ho).1];exact owns_none _ _ _,hp.mono hM,hg⟩
set_option maxRecDepth 100000 in
set_option maxHeartbeats 8000000 in
theorem ringFrom_any (w0:World) (A1 A2 A3:Option Addr) (c1 c2 c3:Nat) (t:Tg) (hT:Tng w0 (.agg #[.slice A1 t.us.length c1,.slice A2 t.bs.length c2,.slice A3 t.ns.length c3]) t) (hf:t.Fine)
 (b N:Nat) (hN:N≤40000000) (n:Int) (hn:-9223372036854775808≤n∧n≤9223372036854775807) (w:World) (h:PS w0 (lettersOf t) b N w) :
 Calls Tryz.prog 180 #[.agg #[.slice A1 t.us.length c1,.slice A2 t.bs.length c2,.slice A3 t.ns.length c3,.map (some b)],.int .i64 n] w (RetRing w0 (lettersOf t) b N n w):=by
 obtain ⟨i0,hi,hz0,hz1,hz2⟩:=info_parts int_info;have hA:=(Below.refl w.heap.size w).alloc (Nat.le_refl _) (.cells #[.slice A1 t.us.length c1,.slice A2 t.bs.length c2,.slice A3 t.ns.length c3,.map (some b)] 182)
 have S0:ES w0 (lettersOf t) b N w.heap.size #[.slice A1 t.us.length c1,.slice A2 t.bs.length c2,.slice A3 t.ns.length c3,.map (some b)] w (w.alloc (.cells #[.slice A1 t.us.length c1,.slice A2 t.bs.length c2,.slice A3 t.ns.length c3,.map (some b)] 182)) :=
  ⟨h.kept hA,Blk.new _ _ _,grown_of_below (some b) hA⟩
 have hzb:w.heap.size≠b:=by have:=h.lt;omega
 have hzw:w.heap.size < (w.alloc (.cells #[.slice A1 t.us.length c1,.slice A2 t.bs.length c2,.slice A3 t.ns.length c3,.map (some b)] 182)).heap.size:=by simp
 have KE:=entry_any w0 A1 A2 A3 c1 c2 c3 t hT hf b N (by omega) n hn _ S0.ps;unfold RetEntry at KE;have KN:=fun (M:Nat) (x:Int) W (hM:M≤100000000) (hx:-9223372036854775808≤x∧x≤9223372036854775807) hp=>next_any w0 A1 A2 A3 c1 c2 c3 t hT hf b M hM x hx W hp
 have hib:=itF_bd (letters_bd t) hn;have hbd:=letters_bd t;generalize lettersOf t=f at *;obtain ⟨hR,hsum⟩:=ring_is f hbd n;have hps:=hR.pos;have hok:=Lib.hid hR.ok;have hring:=Lib.hid (fun h=>hR.ring h);have hsteps:=Lib.hid (fun h=>hR.steps h);have hrnd:=Lib.hid (fun i h1 h2=>hR.round (i:=i) h1 h2);replace hR:=Lib.hid hR;replace S0:=Lib.hid S0;replace KN:=Lib.hid KN;replace hib:=Lib.hid hib;replace hbd:=Lib.hid hbd;clear h hT hf hA;generalize muF f n=mu at *;generalize lamF f n=lam at *;replace KE:=Lib.hid KE;go_enter Tryz.func180,Tryz.ntmps180;go_upto_region 1 with (fail)
 generalize w.alloc (.cells #[.slice A1 t.us.length c1,.slice A2 t.bs.length c2,.slice A3 t.ns.length c3,.map (some b)] 182)=W at *;generalize hzz:w.heap.size=z at *;obtain ⟨x0,x1,x2,x3⟩:=Blk4 S0.out.bx;go_wp2_with (fail);refine KE.out.mono ?_;rintro e w1 ⟨rfl,p1,g1⟩;have E1:=S0.out.next p1 g1 hzb;have hs1:=g1.size;clear p1 g1 KE S0 x0 x1 x2 x3;obtain ⟨x0,x1,x2,x3⟩:=Blk4 E1.bx;have hx0b:=hib.out mu;have hbl:=E1.ps.lt;replace E1:=Lib.hid E1
 by_cases hneg:itF f mu n < 0
 · have hno:okF f n=false:=by rw [hok.out];exact decide_eq_false (by omega)
   have HF:=Lib.hid (ring_none hno E1.out.ps (show N+2000≤N+3000 by omega) E1.out.gr);generalize itF f mu n=xm at *;go_wp2
   go_ret2
   exact HF.out
 · obtain ⟨xm,hxm⟩:∃ x,itF f mu n=x:=⟨_,rfl⟩;rw [hxm] at hneg hx0b ⊢;have KN1:=Lib.hid (KN.out (N+2000) xm (w1.alloc (.cells #[.int .i64 xm] 3)) (by omega) hx0b (E1.out.ps.kept ((Below.refl _ _).alloc (Nat.le_refl _) _)));have hu:f xm=itF f (mu+1) n:=by rw [← hxm];rfl
   have R0:RS w0 f b (N+2000) z #[.slice A1 t.us.length c1,.slice A2 t.bs.length c2,.slice A3 t.ns.length c3,.map (some b)] w w1.heap.size (.slice (some ⟨w1.heap.size,0,none⟩) 1 1) (ringTo f n mu 1) (w1.alloc (.cells #[.int .i64 xm] 3)) :=
    ⟨⟨E1.out.ps.kept ((Below.refl _ _).alloc (Nat.le_refl _) _),E1.out.bx.alloc _,E1.out.gr.trans (World.grownBy_alloc w1 _ (some b))⟩,by
     have e:ringTo f n mu 1=[xm]:=by rw [← hxm];rfl
     rw [e];exact owns_blk (Blk.new _ _ _) rfl (Nat.le_refl _) (by unfold maxLen;omega)⟩
   have hzB:z < w1.heap.size:=by omega
   have hwB:w.heap.size≤w1.heap.size:=by omega
   replace R0:=Lib.hid R0;obtain ⟨x0,x1,x2,x3⟩:=Blk4 R0.out.es.bx;generalize hv1:f xm=y1 at *;replace hu:=Lib.hid hu;replace hv1:=Lib.hid hv1;have hxm0:0≤xm:=by omega
   clear E1;go_upto_region 5 with (fail)
   generalize w1.alloc (.cells #[.int .i64 xm] 3)=W1 at *;generalize w1.heap.size=B at *;go_wp2_with (fail);refine KN1.out.mono ?_;rintro e w2 ⟨rfl,p2,g2⟩;have R1:=Lib.hid (R0.out.next p2 g2 hzb hbl);rw [hv1.out];clear R0 p2 g2 KN1 x0 x1 x2 x3;go_wp2
   go_loopg [8,9] lam (fun gg s8 s9 wr=>∃ i:Nat,1≤i∧i≤lam∧lam - i≤gg∧s9=.int .i64 (itF f (mu+i) n)∧RS w0 f b (N+2000+i) z #[.slice A1 t.us.length c1,.slice A2 t.bs.length c2,.slice A3 t.ns.length c3,.map (some b)] w B s8 (ringTo f n mu i) wr)
   case atStart=>exact ⟨1,Nat.le_refl _,hps,by omega,by rw [hu.out],R1.out⟩
   case round =>
    clear R1;obtain ⟨i,hi1,hi2,hgi,rfl,R⟩:=hrel;have hrd:=hrnd.out i hi1 hi2;rw [hxm] at hrd;have hyb:=hib.out (mu+i);have hsc:=Lib.hid (ringTo_succ f n mu i);have hln:=ringTo_len f n mu i;obtain ⟨u,hu2⟩:∃ u,f (itF f (mu+i) n)=u:=⟨_,rfl⟩;have hu3:Hid (itF f (mu+(i+1)) n=u):=hu2;obtain ⟨A8,c8,rfl,-⟩:=R.own.ints;rw [hln]
    by_cases he:itF f (mu+i) n=xm
    · have hil:=hrd.1 he;have hnn:(xm != xm)=false:=by simp
      have hw1:IntKind.i64.wrap ((mu:Int)+(i:Int))=(mu:Int)+(i:Int):=IntWalk.i64_in _ (by omega);have hgtd:(200:Int) < (mu:Int)+(i:Int)∨¬ (200:Int) < (mu:Int)+(i:Int):=by omega
      rw [he];rcases hgtd with hgt | hgt
      · have hno:okF f n=false:=by rw [hok.out,hxm];exact decide_eq_false (by omega)
        have HF:=Lib.hid (ring_none hno R.es.ps (show N+2000+i≤N+3000 by omega) R.es.gr);clear R hu2 hu3 he hrd hil;go_wp2
        go_ret2
        exact HF.out
      · have hyes:okF f n=true:=by rw [hok.out,hxm];exact decide_eq_true (by omega)
        have hr1:ringF f n=ringTo f n mu i:=by rw [hring.out hyes,← hil];rfl
        have HF:RetRing w0 f b N n w (.returned (.tuple #[.slice A8 i c8,.int .i64 (mu:Int)])) wr:=⟨_,by rw [hsteps.out hyes],by rw [hr1];have:=own_mono R.own hwB;rw [hln] at this;unfold OwnI;rw [hln];exact this,R.es.ps.mono (by omega),R.es.gr⟩;replace HF:=Lib.hid HF;clear R hu2 hu3 he hrd hil hr1;go_wp2
        go_ret2
        exact HF.out
    · have hnn:(itF f (mu+i) n != xm)=true:=by simpa using he
      have hil:i < lam:=by
       rcases Nat.lt_or_ge i lam with h1 | h1
       · exact h1
       · exact absurd (hrd.2 (by omega)) he
      generalize itF f (mu+i) n=y at *
      have hsz:B≤wr.heap.size:=by
       obtain ⟨g8,_,_,h1,h2⟩:=World.ownsRow.form R.own (by rw [hln];omega);omega
      have m1:=Lib.hid (show i+1≤maxLen by unfold maxLen;omega);have m2:=Lib.hid (show (i+1) * 8≤140737488355328 by omega);have ho:wr.ownsRow B 3 1 (.slice A8 i c8) i ((ringTo f n mu i).map (Value.int .i64)):=by have:=R.own;unfold OwnI at this;rw [hln] at this;exact this
      replace ho:=Lib.hid ho;rw [hln] at R;replace R:=Lib.hid R;clear hrd he;go_upto_region 7 with (at_builtin;refine wpList_app _ rfl (.tmp 29) (.tmp 31) _ rfl B 3 i0 _ 8 Tryz.underlying29 hi hz0 hz1 hz2 rfl (.slice A8 i c8) _ _ rfl (World.ownsRow.alloc ho.out _) (some ⟨wr.heap.size,0,none⟩) 1 1 [.int .i64 y] rfl (Src.one (Blk.new _ _ _) rfl) m1.out m2.out (by simp;omega) ?_;intro v6 w6 ho6 hg6 _)
      have R6:=(R.out.al _).push (own_snocW ho6) hg6 hzB hbl hwB;rw [← hsc.out] at R6;obtain ⟨x0,x1,x2,x3⟩:=Blk4 R6.es.bx;have KN2:=Lib.hid (KN.out (N+2000+i) y w6 (by omega) hyb R6.es.ps);replace R6:=Lib.hid R6;replace hu2:=Lib.hid hu2;clear ho6 hg6 R ho;go_wp2_with (fail);refine KN2.out.mono ?_;rintro e w7 ⟨rfl,p7,g7⟩;have R7:=Lib.hid (R6.out.next p7 g7 hzb hbl);rw [hu2.out];clear R6 p7 g7 KN2 x0 x1 x2 x3;go_wp2
      go_roundg (lam - (i+1))
      case measure=>omega
      case rel=>exact ⟨i+1,by omega,by omega,Nat.le_refl _,by rw [hu3.out],R7.out⟩
end
section
open Go.RowKit Go.WideMaps Go.Maps
set_option maxRecDepth 100000 in
set_option maxHeartbeats 4000000 in
theorem implRingFrom_any (v:Value) (t:Tg) (n:Int) (w:World) (h:Tng w v t) (hf:t.Fine) (hn:-9223372036854775808≤n∧n≤9223372036854775807) :
 Calls Tryz.prog 159 #[v,.int .i64 n] w (RetO2 w (ringF (lettersOf t) n) (okF (lettersOf t) n)):=by
 obtain ⟨A1,c1,A2,c2,A3,c3,rfl,-⟩:=h.ex;have hB:=(Below.refl w.heap.size w).alloc (Nat.le_refl _) (.cells #[.slice A1 t.us.length c1,.slice A2 t.bs.length c2,.slice A3 t.ns.length c3] 31);have HX:=Blk.new w 31 #[.slice A1 t.us.length c1,.slice A2 t.bs.length c2,.slice A3 t.ns.length c3];have HT:=h.below hB (Nat.le_refl _);have KP:=Lib.hid (pathIn_any (lettersOf t) A1 A2 A3 t.us.length t.bs.length t.ns.length c1 c2 c3 (w.alloc (.cells #[.slice A1 t.us.length c1,.slice A2 t.bs.length c2,.slice A3 t.ns.length c3] 31)));have KR:=Lib.hid (fun b W hp=>ringFrom_any _ A1 A2 A3 c1 c2 c3 t HT hf b 0 (by omega) n hn W hp);have hpos:=ringF_pos (n:=n) (letters_bd t);have hrl:=ringF_le (n:=n) (letters_bd t);generalize lettersOf t=f at *;replace hB:=Lib.hid hB;replace HX:=Lib.hid HX;clear h HT;go_enter Tryz.func159,Tryz.ntmps159;go_upto_region 1 with (fail)
 obtain ⟨x0,x1,x2,-,-,-⟩:=blk3 HX.out;generalize w.alloc (.cells #[.slice A1 t.us.length c1,.slice A2 t.bs.length c2,.slice A3 t.ns.length c3] 31)=W at *;go_wp2_with (fail);refine KP.out.mono ?_;rintro e w1 ⟨b,rfl,p1⟩;have KR1:=Lib.hid (KR.out b w1 p1);have hw1:=p1.low.size;have hwW:=hB.out.size;clear p1 KP KR;go_wp2_with (fail);refine KR1.out.mono ?_;rintro e w2 ⟨v,rfl,ho,p2,-⟩;have hBf:=Lib.hid (hB.out.trans (p2.low.mono hB.out.size));have ho2:=Lib.hid (ho.mono (show w.heap.size≤w1.heap.size by omega));obtain ⟨A,c,rfl,-⟩:=ho.ints;clear ho p2 KR1 x0 x1 x2 HX;have hb:=hpos;have HF:RetO2 w (ringF f n) (okF f n) (.returned (.tuple #[.slice A (ringF f n).length c,.bool (decide (0 < (ringF f n).length))])) w2:=⟨_,by rw [hb],ho2.out,hBf.out⟩;replace HF:=Lib.hid HF;clear hb hpos;generalize (ringF f n).length=L at *;go_wp2
 go_ret2
 exact HF.out
end
end Go.Proofs.YtmhgpbfogdoaeaaGreatDoor
