/-
  GH: V2 V3 V4 V5 B2 B3 P3d P3e.
-/
import Derived.Test.YtmhgpbfogdoaeaaGreatDoorXlGY
import Derived.Laws.EntriesVeiled
import Derived.StillTailTactics
import Derived.Test.YtmhgpbfogdoaeaaGreatDoorXlGP
import Derived.Deep.RegionHeld3
import Derived.Test.YtmhgpbfogdoaeaaGreatDoorXlGN
namespace Go.Proofs.YtmhgpbfogdoaeaaGreatDoor
section
open Go.RowKit
set_option maxRecDepth 100000 in
set_option maxHeartbeats 1000000 in
theorem partsOf_any {t:Tg} (hok:t.ok=true) (hl2:2≤t.bs.length) (hne:nested t.bs=true) (n:Nat) (hn2:n≤99999) (A:Option Addr) (c:Nat) (w:World) (h:Ints w .i64 A t.bs.length c t.bs) :
 Calls Tryz.prog 206 #[.slice A t.bs.length c,.int .i64 n] w fun e w'=>e=.returned (.tuple #[.int .i64 (n - tensU t n:Nat),.int .i64 (tensU t n - lowU t n:Nat),.int .i64 (lowU t n:Nat)])∧w=w':=by
 have hbs:=(ok_shape hok).bs;have htl:=tens_le t n;have hle:=low_le hne (n:=n) (by omega);have hlow:=tens_low hne (n:=n) (by omega);obtain ⟨b,o,rfl,-,hc⟩:=h.at_ (by omega);have i1:=bN_int hbs (k:=1) (by omega);have ck1:=hc 1 (by omega);rw [← i1.1] at ck1;have p1:=i1.2;have v1:((n - tensU t n:Nat):Int)=(n:Int) - (tensU t n:Nat):=by omega
 have v2:((tensU t n - lowU t n:Nat):Int)=(tensU t n:Int) - (lowU t n:Nat):=by omega
 have w1:IntKind.i64.wrap ((n:Int) - (tensU t n:Nat))=(n:Int) - (tensU t n:Nat):=IntWalk.i64_in _ (by omega);have w2:IntKind.i64.wrap ((tensU t n:Int) - (lowU t n:Nat))=(tensU t n:Int) - (lowU t n:Nat):=IntWalk.i64_in _ (by omega);have e1:(tensU t n:Int) % (bN t 1:Int)=((lowU t n:Nat):Int):=by rw [← hlow];rfl
 rw [v1,v2]
 by_cases h3:3≤t.bs.length
 · have i2:=bN_int hbs (k:=2) (by omega);have ck2:=hc 2 (by omega);rw [← i2.1] at ck2;have p2:=i2.2;have e2:(n:Int) % (bN t 2:Int)=((tensU t n:Nat):Int):=by unfold tensU modT;rw [if_pos h3];rfl
   have t1:(2:Int) < (t.bs.length:Int):=by omega
   have q2:(0:Int)≤(n:Int) % (bN t 2:Int):=by rw [e2];omega
   have q1:(0:Int)≤(tensU t n:Int) % (bN t 1:Int):=by rw [e1];omega
   replace e1:=Lib.hid e1;replace e2:=Lib.hid e2;replace i1:=Lib.hid i1;replace i2:=Lib.hid i2;replace v1:=Lib.hid v1;replace v2:=Lib.hid v2;replace hlow:=Lib.hid hlow;clear hc h;generalize bN t 1=B1 at *;generalize bN t 2=B2 at *;generalize tensU t n=T at *;generalize lowU t n=L at *;go_enter Tryz.func206,Tryz.ntmps206;go_upto_region 4 with (fail)
   rw [e2.out];clear q2;go_upto_region 5 with (fail)
   rw [e1.out];clear q1;go_wp2
   go_ret3
   exact ⟨rfl,rfl⟩
 · have e2:tensU t n=n:=by unfold tensU modT;rw [if_neg h3];exact Nat.mod_eq_of_lt (by omega)
   have t1:¬ (2:Int) < (t.bs.length:Int):=by omega
   rw [e2] at e1 v1 v2 w1 w2 hle ⊢;have q1:(0:Int)≤(n:Int) % (bN t 1:Int):=by rw [e1];omega
   replace e1:=Lib.hid e1;replace e2:=Lib.hid e2;replace i1:=Lib.hid i1;replace v1:=Lib.hid v1;replace v2:=Lib.hid v2;replace hlow:=Lib.hid hlow;clear hc h htl;generalize bN t 1=B1 at *;generalize lowU t n=L at *;go_enter Tryz.func206,Tryz.ntmps206;go_upto_region 5 with (fail)
   rw [e1.out];clear q1;go_wp2
   go_ret3
   exact ⟨rfl,rfl⟩
abbrev orderV (g:Nat):Value:=.agg #[.func (.func 207) #[] #[.pointer (some ⟨g,0,none⟩)],.func (.func 208) #[] #[.pointer (some ⟨g,0,none⟩)]]
set_option maxRecDepth 100000 in
theorem unitFirst_any (x:ByteArray) (w:World) :
 Calls Tryz.prog 183 #[.string x] w fun e w'=>∃ g,e=.returned (orderV g)∧Blk w' g 9 #[.string x]∧Below w.heap.size w w':=by
 have HB:=blk_new_at (w:=w.alloc (.cells #[.string x] 9)) (t:=188) (cs:=#[.nilFunc,.nilFunc]) (w.heap.size+1) (by simp);have x0:=HB.cell 0;have x1:=HB.cell 1;have f0:=HB.frozen 0;have f1:=HB.frozen 1;simp only [List.getElem?_toArray,List.getElem?_cons_zero,List.getElem?_cons_succ] at x0 x1;replace HB:=Lib.hid HB;go_enter Tryz.func183,Tryz.ntmps183;go_wp2;have HC:=blk_new_at (w:=w.alloc (.cells #[.string x] 9)) (t:=188) (cs:=#[.func (.func 207) #[] #[.pointer (some ⟨w.heap.size,0,none⟩)],.func (.func 208) #[] #[.pointer (some ⟨w.heap.size,0,none⟩)]]) (w.heap.size+1) (by simp);have y0:=HC.cell 0;have y1:=HC.cell 1;simp only [List.getElem?_toArray,List.getElem?_cons_zero,List.getElem?_cons_succ] at y0 y1;refine bodyPost_ret (v:=orderV w.heap.size) (by simp [results,Tryz.results183,go_sem,y0,y1]) rfl ?_;exact ⟨w.heap.size,rfl,(Blk.new w 9 #[.string x]).alloc _,((Below.refl w.heap.size w).alloc (Nat.le_refl _) _).alloc (by simp) _⟩
set_option maxRecDepth 100000 in
set_option maxHeartbeats 1000000 in
theorem turnJoin_any (x u:ByteArray) (A:Option Addr) (n c g:Nat) (l:List ByteArray) (w:World) (hg:Blk w g 9 #[.string x]) (h:Strs w A n c l) (hn:n≤1048576) :
 Calls Tryz.prog 207 #[.slice A n c,.string u,.pointer (some ⟨g,0,none⟩)] w (RetStrs w ([u,x]++l)):=by
 have cg:=hg.cell 0;simp only [List.getElem?_toArray,List.getElem?_cons_zero] at cg;have hB1:=(Below.refl w.heap.size w).alloc (Nat.le_refl _) (.cells #[.string u,.string x] 9);have hB2:=hB1.alloc hB1.size (.cells #[.slice (some ⟨w.heap.size,0,none⟩) 2 2,.slice A n c] 28);have S1:=strs_of_blk [u,x] (Blk.new w 9 #[.string u,.string x]);have S1':=S1.below ((Below.refl _ _).alloc (Nat.le_refl _) (.cells #[.slice (some ⟨w.heap.size,0,none⟩) 2 2,.slice A n c] 28)) (Nat.le_refl _);have hln:=h.len;have S2:=h.below hB2 (Nat.le_refl _);have K:=concat_any (some ⟨w.heap.size,0,none⟩) A (w.heap.size+1) 2 2 n c [u,x] l ((w.alloc (.cells #[.string u,.string x] 9)).alloc (.cells #[.slice (some ⟨w.heap.size,0,none⟩) 2 2,.slice A n c] 28)) (by simp) (by go_simp) (by go_simp) S1' S2 (by omega) hn;replace K:=Lib.hid K;replace hB2:=Lib.hid hB2;replace hln:=Lib.hid hln;clear hB1 S1 S1' S2 h hg;go_enter Tryz.func207,Tryz.ntmps207;go_wp2_with (fail);refine K.out.mono ?_;rintro e w3 ⟨v3,rfl,o3,b3⟩;have e2:([u,x]++l).length=2+n:=by rw [← hln.out];simp;omega
 have hsz:w.heap.size≤((w.alloc (.cells #[.string u,.string x] 9)).alloc (.cells #[.slice (some ⟨w.heap.size,0,none⟩) 2 2,.slice A n c] 28)).heap.size:=hB2.out.size
 have o4:OwnStrs w3 w.heap.size v3 ([u,x]++l):=by
  unfold OwnStrs;rw [e2];exact own_mono o3 hsz
 have hF:RetStrs w ([u,x]++l) (.returned v3) w3:=⟨_,rfl,o4,hB2.out.trans (b3.mono hsz)⟩;replace hF:=Lib.hid hF;clear o3 o4 b3 e2 hsz;go_wp2;go_ret;exact hF.out
end
section
open Go.RowKit
abbrev orderB (w:World) (q g:Nat):Prop:=Blk w q 188 #[.func (.func 207) #[] #[.pointer (some ⟨g,0,none⟩)],.func (.func 208) #[] #[.pointer (some ⟨g,0,none⟩)]]
theorem len_pos {l:List ByteArray} (h:l≠[]):decide (0 < l.length)=true:=decide_eq_true (by have:l.length≠0:=fun e=>h (List.eq_nil_of_length_eq_zero e);omega)
theorem named_len {t:Tg} (hok:t.ok=true) {m:Nat} (h1:1≤m) (h2:m≤99999):nameOf t m=nameT t m∧namedB t m=decide (0 < (nameT t m).length):=by
 have e:nameOf t m=nameT t m:=nameOf_yes (okN_of hok h1 h2);exact ⟨e,by unfold namedB;rw [e]⟩
set_option maxRecDepth 100000 in
set_option maxHeartbeats 4000000 in
theorem nameBy_any {t:Tg} (hok:t.ok=true) (hl2:2≤t.bs.length) (hne:nested t.bs=true) (hf:t.Fine) (n:Nat) (hn1:1≤n) (hn2:n≤99999) (v:Value) (x:ByteArray) (g:Nat) (w:World) (h:Tng w v t) (hg:Blk w g 9 #[.string x]) :
 Calls Tryz.prog 182 #[v,.int .i64 n,orderV g] w (RetStrs2 w (turnT t x n) (decide (0 < (turnT t x n).length))):=by
 obtain ⟨i0,hi,hz0,hz1,hz2⟩:=info_parts str_info;have hsh:=ok_shape hok;have hul:=hsh.us;have hbs:=hsh.bs;have hll:=low_lt hok hl2 n;have hb1:=b1_us hok hl2;have htl:=tens_le t n;have hle:=low_le hne (n:=n) (by omega);have hlu:lowU t n≤t.us.length:=by omega
 have KP:=fun A c W h=>partsOf_any hok hl2 hne n hn2 A c W h
 have KN:=fun (m:Nat) (h1:1≤m) (h2:m≤99999) W (hT:Tng W v t)=>implNameOf_any v t m W hT hf (by omega)
 have HN:=fun (m:Nat) (h1:1≤m) (h2:m≤99999)=>named_len hok h1 h2
 have HF0:¬ isT t n→turnT t x n=nameT t n:=fun hh=>by unfold turnT;rw [if_neg hh]
 have HF1:isT t n→noT t n→turnT t x n=[]:=fun hh h2=>by unfold turnT;rw [if_pos hh,if_pos h2]
 have HF2:isT t n→¬ noT t n→turnT t x n=frontU t n++[unitU t n,x]++metU t n:=fun hh h2=>by unfold turnT;rw [if_pos hh,if_neg h2]
 have HLen:=name_len t.us t.bs t.ns hbs;obtain ⟨A1,c1,A2,c2,A3,c3,rfl,-⟩:=h.ex;have hB0:=(Below.refl w.heap.size w).alloc (Nat.le_refl _) (.cells #[.slice A1 t.us.length c1,.slice A2 t.bs.length c2,.slice A3 t.ns.length c3] 31);have hB:=hB0.alloc hB0.size (.cells #[.func (.func 207) #[] #[.pointer (some ⟨g,0,none⟩)],.func (.func 208) #[] #[.pointer (some ⟨g,0,none⟩)]] 188);have HX:=(Blk.new w 31 #[.slice A1 t.us.length c1,.slice A2 t.bs.length c2,.slice A3 t.ns.length c3]).alloc (.cells #[.func (.func 207) #[] #[.pointer (some ⟨g,0,none⟩)],.func (.func 208) #[] #[.pointer (some ⟨g,0,none⟩)]] 188);have HQ:orderB ((w.alloc (.cells #[.slice A1 t.us.length c1,.slice A2 t.bs.length c2,.slice A3 t.ns.length c3] 31)).alloc (.cells #[.func (.func 207) #[] #[.pointer (some ⟨g,0,none⟩)],.func (.func 208) #[] #[.pointer (some ⟨g,0,none⟩)]] 188)) (w.heap.size+1) g:=blk_new_at (w.heap.size+1) (by simp);have HT:=h.below hB (Nat.le_refl _);have HG:=hg.below hB hg.lt;replace hB:=Lib.hid hB;replace HX:=Lib.hid HX;replace HQ:=Lib.hid HQ;replace HT:=Lib.hid HT;replace HG:=Lib.hid HG;replace hok:=Lib.hid hok;replace hne:=Lib.hid hne;replace hbs:=Lib.hid hbs;replace hb1:=Lib.hid hb1;replace KP:=Lib.hid KP;replace KN:=Lib.hid KN;replace HN:=Lib.hid HN;replace HF0:=Lib.hid HF0;replace HF1:=Lib.hid HF1;replace HF2:=Lib.hid HF2;replace HLen:=Lib.hid HLen;clear h hsh hB0 hg;go_enter Tryz.func182,Tryz.ntmps182
 go_upto_region 1 with (fail)
 generalize (w.alloc (.cells #[.slice A1 t.us.length c1,.slice A2 t.bs.length c2,.slice A3 t.ns.length c3] 31)).alloc (.cells #[.func (.func 207) #[] #[.pointer (some ⟨g,0,none⟩)],.func (.func 208) #[] #[.pointer (some ⟨g,0,none⟩)]] 188)=W at *;obtain ⟨x0,x1,x2,-,-,-⟩:=blk3 HX.out;obtain ⟨_,_,_,_,_,_,ev,S1,I2,-⟩:=HT.out.ex;cases ev;have KP1:=Lib.hid (KP.out A2 c2 W I2);have hS1:=Lib.hid S1.at_;clear I2 S1;go_wp2_with (fail);refine KP1.out.mono ?_;rintro e _ ⟨rfl,rfl⟩;clear KP1 KP
 by_cases hT:isT t n
 · obtain ⟨hT1,hT2⟩:=hT;obtain ⟨bu,ou,rfl,hbu,hcu⟩:=hS1.out (by omega);have cku:W.cell? ⟨bu,ou+(lowU t n - 1),none⟩=some (.string (unitU t n)):=hcu _ (by omega);have HFn:=fun h=>HF1.out ⟨hT1,hT2⟩ h
   have HFy:=fun h=>HF2.out ⟨hT1,hT2⟩ h
   have hno1:tensU t n < n→nameT t (n - tensU t n)=[]→noT t n:=fun h1 h2=>.inl ⟨h1,h2⟩
   have hno2:metU t n=[]→noT t n:=fun h=>.inr h
   have hnn:(tensU t n < n→nameT t (n - tensU t n)≠[])→metU t n≠[]→¬ noT t n:=fun h1 h2 h=>h.elim (fun h=>h1 h.1 h.2) h2
   have hfr1:tensU t n < n→frontU t n=nameT t (n - tensU t n):=fun h=>by unfold frontU;rw [if_pos h]
   have hfr0:¬ tensU t n < n→frontU t n=[]:=fun h=>by unfold frontU;rw [if_neg h]
   have hml:(metU t n).length≤99999:=by have:=HLen.out (tensU t n - lowU t n) (by omega);unfold metU nameT;omega
   have hfl:tensU t n < n→(nameT t (n - tensU t n)).length≤99999:=fun h=>by have:=HLen.out (n - tensU t n) (by omega);unfold nameT;omega
   have KM:=fun W hT=>KN.out (tensU t n - lowU t n) (by omega) (by omega) W hT
   obtain ⟨em1,em2⟩:=HN.out (tensU t n - lowU t n) (by omega) (by omega);rw [em1,em2,show nameT t (tensU t n - lowU t n)=metU t n from rfl] at KM;have KF:=fun (h:tensU t n < n) W hT=>KN.out (n - tensU t n) (by omega) (by omega) W hT
   have hfN:=fun (h:tensU t n < n)=>HN.out (n - tensU t n) (by omega) (by omega)
   have q1:(((tensU t n - lowU t n:Nat):Int)==0)=false:=by rw [beq_eq_false_iff_ne];omega
   have q2:(((lowU t n:Nat):Int)==0)=false:=by rw [beq_eq_false_iff_ne];omega
   replace HFn:=Lib.hid HFn;replace HFy:=Lib.hid HFy;replace hno1:=Lib.hid hno1;replace hno2:=Lib.hid hno2;replace hnn:=Lib.hid hnn;replace hfr1:=Lib.hid hfr1;replace hfr0:=Lib.hid hfr0;replace KM:=Lib.hid KM;replace KF:=Lib.hid KF;replace hfN:=Lib.hid hfN;replace hfl:=Lib.hid hfl;replace cku:=Lib.hid cku;clear em1 em2 HF0 HF1 HF2 KN HN HLen hcu hS1;have hF0:tensU t n < n ↔ 0 < n - tensU t n:=by omega
   have hL1:1≤lowU t n:=by omega
   generalize frontU t n=hd at *;generalize metU t n=ml at *;generalize unitU t n=un at *;generalize nameT t (n - tensU t n)=fr at *;generalize n - tensU t n=F at *;generalize tensU t n - lowU t n=M at *;generalize tensU t n=T at *;generalize lowU t n=L at *;have hres:∀ res,turnT t x n=res→∀ (v':Value) W',OwnStrs W' w.heap.size v' res→Below w.heap.size w W'→RetStrs2 w (turnT t x n) (decide (0 < (turnT t x n).length)) (.returned (.tuple #[v',.bool (decide (0 < res.length))])) W':=fun res h v' W' ho hb=>⟨_,by rw [h],by rw [h];exact ho,hb⟩
   have hnil:noT t n→∀ W',Below w.heap.size w W'→RetStrs2 w (turnT t x n) (decide (0 < (turnT t x n).length)) (.returned (.tuple #[.slice none 0 0,.bool false])) W':=fun h W' hb=>⟨_,by rw [HFn.out h];rfl,by rw [HFn.out h];exact owns_none _ _ _,hb⟩
   replace hres:=Lib.hid hres;replace hnil:=Lib.hid hnil;replace hF0:=Lib.hid hF0;have KM1:=Lib.hid (KM.out W HT.out);go_wp2_with (fail);refine KM1.out.mono ?_;rintro e w2 ⟨v2,rfl,o2,b2⟩;obtain ⟨A5,c5,rfl,s5⟩:=o2.strs;replace hB:=Lib.hid (hB.out.trans (b2.mono hB.out.size));replace HX:=Lib.hid (HX.out.below b2 HX.out.lt);replace HQ:=Lib.hid (HQ.out.below b2 HQ.out.lt);replace HG:=Lib.hid (HG.out.below b2 HG.out.lt);replace HT:=Lib.hid (HT.out.below b2 (Nat.le_refl _));replace cku:=Lib.hid ((b2.cell (p:=⟨bu,ou+(L - 1),none⟩) hbu).trans cku.out);replace hbu:bu < w2.heap.size:=Nat.lt_of_lt_of_le hbu b2.size;clear b2 x0 x1 x2 KM1 KM o2 q1 q2;obtain ⟨x0,x1,x2,-,-,-⟩:=blk3 HX.out
   by_cases hq:ml=[]
   · have hl0:decide (0 < ml.length)=false:=by rw [hq];rfl
     have HR:=Lib.hid (hnil.out (hno2.out hq) _ hB.out);replace hq:=Lib.hid hq;rw [hl0];clear hl0 s5;go_wp2
     go_ret2
     exact HR.out
   · have hl0:=len_pos hq;have hnn':=Lib.hid (fun h=>hnn.out h hq);replace hq:=Lib.hid hq;rw [hl0];clear hl0 hnn;go_upto_region 7 with (fail)
     have y0:w2.cell? ⟨w.heap.size+1,0,none⟩=some (.func (.func 207) #[] #[.pointer (some ⟨g,0,none⟩)]):=HQ.out.cell 0;have ku:=cku.out;have kk1:(0:Int)≤(L:Int) - 1:=by omega
     have kk2:(L:Int) - 1 < (t.us.length:Int):=by omega
     have kk3:((L:Int) - 1).toNat=L - 1:=by omega
     have kk4:IntKind.i64.wrap ((L:Int) - 1)=(L:Int) - 1:=IntWalk.i64_in _ (by omega);have kk5:(1:Int)≤(L:Int):=by omega
     go_still_tail 9,(by kernel_rfl)
     change wpList _ _ _ _ _ w2.drew
     have bd:=(Below.refl w2.heap.size w2).drew;replace hB:=Lib.hid (hB.out.trans (bd.mono hB.out.size));replace HX:=Lib.hid (HX.out.below bd HX.out.lt);replace HQ:=Lib.hid (HQ.out.below bd HQ.out.lt);replace HG:=Lib.hid (HG.out.below bd HG.out.lt);replace HT:=Lib.hid (HT.out.below bd (Nat.le_refl _));replace s5:=s5.below bd (Nat.le_refl _);clear bd x0 x1 x2 y0 ku kk1 kk2 kk3 kk4 kk5 cku hbu;generalize w2.drew=w3 at *;have KJ:=Lib.hid (turnJoin_any x un A5 _ c5 g ml w3 HG.out s5 (by omega));clear s5;go_wp2_with (fail);refine KJ.out.mono ?_;rintro e w4 ⟨v4,rfl,o4,b4⟩;obtain ⟨A6,c6,rfl,-⟩:=o4.strs;replace o4:=Lib.hid (o4.mono hB.out.size);replace hB:=Lib.hid (hB.out.trans (b4.mono hB.out.size));replace HX:=Lib.hid (HX.out.below b4 HX.out.lt);replace HT:=Lib.hid (HT.out.below b4 (Nat.le_refl _));clear b4 KJ HQ HG;obtain ⟨x0,x1,x2,-,-,-⟩:=blk3 HX.out;have hjl:([un,x]++ml).length≤100001:=by simp;omega
     have hj0:decide (0 < ([un,x]++ml).length)=true:=len_pos (by simp)
     have hFy0:T < n→fr≠[]→turnT t x n=fr++([un,x]++ml):=fun h h2=>by
      rw [HFy.out (hnn'.out fun _=>h2),hfr1.out h];simp
     have hFy1:¬ T < n→turnT t x n=[un,x]++ml:=fun h=>by
      rw [HFy.out (hnn'.out fun h2=>absurd h2 h),hfr0.out h];simp
     replace hFy0:=Lib.hid hFy0;replace hFy1:=Lib.hid hFy1;generalize [un,x]++ml=jn at *
     by_cases hgt:T < n
     · have hgt0:(((F:Nat):Int)==0)=false:=by rw [beq_eq_false_iff_ne];have:=hF0.out.1 hgt;omega
       obtain ⟨en1,en2⟩:=hfN.out hgt;have KF1:=KF.out hgt w4 HT.out;rw [en1,en2] at KF1;replace KF1:=Lib.hid KF1;have hfl':=hfl.out hgt;have hFy2:=Lib.hid (fun h2=>hFy0.out hgt h2);have hnoF:=Lib.hid (fun h2=>hno1.out hgt h2);replace hgt:=Lib.hid hgt;clear en1 en2;go_wp2_with (fail);refine KF1.out.mono ?_;rintro e w5 ⟨v5,rfl,o5,b5⟩;obtain ⟨A7,c7,rfl,-⟩:=o5.strs;replace o5:=Lib.hid (o5.mono hB.out.size);replace hB:=Lib.hid (hB.out.trans (b5.mono hB.out.size));replace o4:=Lib.hid (o4.out.below b5 (Nat.le_refl _));clear b5 x0 x1 x2 KF1 KF HX HT
       by_cases hqf:fr=[]
       · have hl0:decide (0 < fr.length)=false:=by rw [hqf];rfl
         have HR:=Lib.hid (hnil.out (hnoF.out hqf) _ hB.out);replace hqf:=Lib.hid hqf;rw [hl0];clear hl0;go_wp2
         go_ret2
         exact HR.out
       · have hl0:=len_pos hqf;have hT3:=hFy2.out hqf;have hp:decide (0 < (fr++jn).length)=true:=len_pos (by simp [hqf]);have hres':=hres.out (fr++jn) hT3;rw [hp] at hres';replace hres':=Lib.hid hres';replace hqf:=Lib.hid hqf;replace hp:=Lib.hid hp;replace hT3:=Lib.hid hT3;rw [hl0];clear hl0;obtain ⟨_,_,ev,s6⟩:=o4.out.strs;cases ev;have HS:=Lib.hid s6.src;have k1:=Lib.hid (show fr.length+jn.length≤maxLen by unfold maxLen;omega);have k2:=Lib.hid (show (fr.length+jn.length) * 16≤140737488355328 by omega);have k3:=Lib.hid hB.out.size;clear s6;go_wp2_with (at_builtin;refine wpList_app _ rfl (.tmp 62) (.tmp 63) _ rfl w.heap.size 9 i0 _ 16 Tryz.underlying28 hi hz0 hz1 hz2 rfl (.slice A7 fr.length c7) _ _ rfl o5.out A6 jn.length c6 _ rfl HS.out k1.out k2.out k3.out ?_;intro v7 w7 o7 g7 _);have hB7:=Lib.hid (below_own hB.out o5.out g7 hB.out.size (Nat.le_refl _))
         have o8:OwnStrs w7 w.heap.size v7 (fr++jn):=by
          unfold OwnStrs
          simpa using o7
         have HR:=Lib.hid (hres'.out v7 w7 o8 hB7.out);obtain ⟨A8,c8,rfl,-⟩:=o8.strs;clear g7 o7 o8;go_wp2
         go_ret2
         exact HR.out
     · have hgt0:(((F:Nat):Int)==0)=true:=by
        rw [beq_iff_eq];have:¬ 0 < F:=fun h=>hgt (hF0.out.2 h)
        omega
       have hres':=hres.out jn (hFy1.out hgt);rw [hj0] at hres';have HR:=Lib.hid (hres' _ _ o4.out hB.out);replace hgt:=Lib.hid hgt;clear hres';go_wp2
       go_ret2
       exact HR.out
 · have hF:=HF0.out hT;have K:=KN.out n hn1 hn2 W HT.out;obtain ⟨em1,em2⟩:=HN.out n hn1 hn2;rw [em1,em2] at K;replace K:=Lib.hid K
   have hcase:tensU t n - lowU t n=0∨(tensU t n - lowU t n≠0∧lowU t n=0):=by
    by_cases h0:lowU t n=0
    · by_cases h1:tensU t n - lowU t n=0
      · exact .inl h1
      · exact .inr ⟨h1,h0⟩
    · left
      by_cases h1:tensU t n=lowU t n
      · omega
      · exact absurd ⟨h0,h1⟩ hT
   have HR:∀ (e:Ending) W',RetStrs2 W (nameT t n) (decide (0 < (nameT t n).length)) e W'→RetStrs2 w (turnT t x n) (decide (0 < (turnT t x n).length)) e W':=fun e W' ⟨v',he,ho,hb⟩=>⟨v',by rw [hF];exact he,by rw [hF];exact ho.mono hB.out.size,hB.out.trans (hb.mono hB.out.size)⟩
   replace HR:=Lib.hid HR;replace hT:=Lib.hid hT;replace hF:=Lib.hid hF;clear HF0 HF1 HF2 KN HN HLen hS1 em1 em2;generalize n - tensU t n=F at *;generalize tensU t n - lowU t n=M at *;generalize lowU t n=L at *;rcases hcase with hz | ⟨hz,hz'⟩
   · have q1:(((M:Nat):Int)==0)=true:=by rw [beq_iff_eq];omega
     replace hz:=Lib.hid hz;go_wp2_with (fail);refine K.out.mono ?_;rintro e w2 ⟨v2,rfl,o2,b2⟩;have HE:=Lib.hid (HR.out _ _ ⟨v2,rfl,o2,b2⟩);obtain ⟨A5,c5,rfl,-⟩:=o2.strs;clear o2 b2;generalize decide (0 < (nameT t n).length)=bb at *;go_wp2
     go_ret2
     exact HE.out
   · have q1:(((M:Nat):Int)==0)=false:=by rw [beq_eq_false_iff_ne];omega
     have q2:(((L:Nat):Int)==0)=true:=by rw [beq_iff_eq];omega
     replace hz:=Lib.hid hz;replace hz':=Lib.hid hz';go_wp2_with (fail);refine K.out.mono ?_;rintro e w2 ⟨v2,rfl,o2,b2⟩;have HE:=Lib.hid (HR.out _ _ ⟨v2,rfl,o2,b2⟩);obtain ⟨A5,c5,rfl,-⟩:=o2.strs;clear o2 b2;generalize decide (0 < (nameT t n).length)=bb at *;go_wp2
     go_ret2
     exact HE.out
end
section
open Go.RowKit
set_option maxRecDepth 100000 in
set_option maxHeartbeats 4000000 in
theorem implTurnedName_any (v:Value) (t:Tg) (n:Int) (x:ByteArray) (w:World) (h:Tng w v t) (hf:t.Fine) (hn:-9223372036854775808≤n∧n≤9223372036854775807) (hx:x.size≤maxLen) :
 Calls Tryz.prog 161 #[v,.int .i64 n,.string x] w (RetStrs2 w (turnedOf t n x) (turnedB t n x)):=by
 obtain ⟨A1,c1,A2,c2,A3,c3,rfl,-⟩:=h.ex;have hB:=(Below.refl w.heap.size w).alloc (Nat.le_refl _) (.cells #[.slice A1 t.us.length c1,.slice A2 t.bs.length c2,.slice A3 t.ns.length c3] 31);have HX:=Blk.new w 31 #[.slice A1 t.us.length c1,.slice A2 t.bs.length c2,.slice A3 t.ns.length c3];have HT:=h.below hB (Nat.le_refl _);have K1:=Lib.hid (implTurnable_any _ t x _ HT hf hx);have hnil:askT t n x=false→∀ W',Below w.heap.size w W'→RetStrs2 w (turnedOf t n x) (turnedB t n x) (.returned (.tuple #[.slice none 0 0,.bool false])) W':=fun h W' hb=>⟨_,by rw [(ask_no h).2.1],by rw [(ask_no h).1];exact owns_none _ _ _,hb⟩
 replace hnil:=Lib.hid hnil;replace hB:=Lib.hid hB;replace HX:=Lib.hid HX;replace HT:=Lib.hid HT;clear h;go_enter Tryz.func161,Tryz.ntmps161;go_upto_region 1 with (fail)
 generalize w.alloc (.cells #[.slice A1 t.us.length c1,.slice A2 t.bs.length c2,.slice A3 t.ns.length c3] 31)=W at *;obtain ⟨x0,x1,x2,-,-,-⟩:=blk3 HX.out;go_wp2_with (fail);refine K1.out.mono ?_;rintro e w1 ⟨rfl,b1⟩;replace hB:=Lib.hid (hB.out.trans (b1.mono hB.out.size));replace HX:=Lib.hid (HX.out.below b1 HX.out.lt);replace HT:=Lib.hid (HT.out.below b1 (Nat.le_refl _));clear b1 x0 x1 x2 K1;obtain ⟨x0,x1,x2,-,-,-⟩:=blk3 HX.out;cases hfi:fitsT t x
 · have HR:=Lib.hid (hnil.out (ask_of hfi rfl) _ hB.out);replace hfi:=Lib.hid hfi;go_wp2
   go_ret2
   exact HR.out
 · have KA:=Lib.hid (implAskable_any _ t n w1 HT.out hf hn);obtain ⟨hok,hl2,hne,-,-⟩:=fits_parts hfi;have hokn:okN t n=decide (1≤n∧n≤99999):=by unfold okN;rw [hok,Bool.true_and]
   have hask:askT t n x=okN t n:=by rw [hokn];exact ask_of hfi rfl
   replace hokn:=Lib.hid hokn;replace hask:=Lib.hid hask;replace hfi:=Lib.hid hfi;replace hok:=Lib.hid hok;replace hne:=Lib.hid hne;go_wp2_with (fail);refine KA.out.mono ?_;rintro e w2 ⟨rfl,b2⟩;replace hB:=Lib.hid (hB.out.trans (b2.mono hB.out.size));replace HX:=Lib.hid (HX.out.below b2 HX.out.lt);replace HT:=Lib.hid (HT.out.below b2 (Nat.le_refl _));clear b2 x0 x1 x2 KA;obtain ⟨x0,x1,x2,-,-,-⟩:=blk3 HX.out;cases hkn:okN t n
   · have HR:=Lib.hid (hnil.out (hask.out.trans hkn) _ hB.out);replace hkn:=Lib.hid hkn;go_wp2
     go_ret2
     exact HR.out
   · have hd:=hokn.out.symm.trans hkn;rw [decide_eq_true_eq] at hd;obtain ⟨hd1,hd2⟩:=hd;obtain ⟨m,rfl⟩:∃ m:Nat,n=m:=⟨n.toNat,by omega⟩;have ha:=hask.out.trans hkn;have e1:=ask_yes ha;have HE:∀ e W',RetStrs2 w (turnT t x m) (decide (0 < (turnT t x m).length)) e W'→RetStrs2 w (turnedOf t m x) (turnedB t m x) e W':=fun e W' h=>by unfold turnedB;rw [e1];exact h
     replace HE:=Lib.hid HE;replace ha:=Lib.hid ha;replace e1:=Lib.hid e1;replace hkn:=Lib.hid hkn;go_upto_region 3 with (fail)
     have hXk:=Lib.hid (fun W' (hb:Below w2.heap.size w2 W')=>blk3 (HX.out.below hb HX.out.lt));have KB:=Lib.hid (fun W' g (hb:Below w2.heap.size w2 W') hg=>nameBy_any hok.out hl2 hne.out hf m (by omega) (by omega) _ x g W' (HT.out.below hb (Nat.le_refl _)) hg)
     go_region_held3 (fun w'=>w'.cell? ⟨w.heap.size,0,none⟩=some (.slice A1 t.us.length c1)∧w'.cell? ⟨w.heap.size,1,none⟩=some (.slice A2 t.bs.length c2)∧w'.cell? ⟨w.heap.size,2,none⟩=some (.slice A3 t.ns.length c3))
      (first | go_keep | exact hS2 | exact hS3)
      (first
       | (go_at_call 183;refine (unitFirst_any x _).mono ?_;rintro e w4 ⟨g,rfl,hg,b4'⟩;have b4:Below w2.heap.size w2 w4:=⟨b4'.os,b4'.tape,b4'.output,b4'.size,b4'.block⟩;obtain ⟨x0',x1',x2',-,-,-⟩:=hXk.out _ b4;have hS2:=And.intro x0' (And.intro x1' x2');have KB2:=Lib.hid (KB.out _ _ b4 hg);replace b4:=Lib.hid b4;clear b4' hg)
       | (go_at_call 182;refine KB2.out.mono ?_;rintro e w5 ⟨v5,rfl,o5,b5⟩;obtain ⟨x0'',x1'',x2'',-,-,-⟩:=hXk.out _ (b4.out.trans (b5.mono b4.out.size));have hS3:=And.intro x0'' (And.intro x1'' x2'');replace o5:=Lib.hid o5;replace b5:=Lib.hid b5))
     all_goals
      have hB5:=hB.out.trans (b4.out.mono hB.out.size);have HR:=Lib.hid (HE.out _ _ ⟨v5,rfl,o5.out.mono hB5.size,hB5.trans (b5.out.mono hB5.size)⟩);obtain ⟨A4,c4,rfl,-⟩:=o5.out.strs;clear o5 b5 KB KB2 b4 hS2 hS3 x0 x1 x2 x0' x1' x2' x0'' x1'' x2'' hXk hB5;generalize decide (0 < (turnT t x m).length)=bb at *;go_wp2
      go_ret2
      exact HR.out
end
section
open Go.RowKit
set_option maxRecDepth 100000 in
set_option maxHeartbeats 4000000 in
theorem nameByTaking_any (v:Value) (t:Tg) (n:Int) (x:ByteArray) (b:Int) (w:World) (h:Tng w v t) (hf:t.Fine) (ha:askA t n x b=true) :
 Calls Tryz.prog 211 #[v,.int .i64 n,.string x,.int .i64 b] w (RetStrs w (takenOf t n x b)):=by
 obtain ⟨hfi,hd1,hd2⟩:=askA_parts ha;obtain ⟨hok,-,-,hq1,hq2⟩:=fitsA_parts hfi;obtain ⟨m,rfl⟩:∃ m:Nat,n=m:=⟨n.toNat,by omega⟩;have hbs:=(ok_shape hok).bs;have hbl:=bases_len hbs;have HN:=condA_no (t:=t) (n:=(m:Int)) (b:=b) (x:=x);have HY:=takenB_of (t:=t) (n:=(m:Int)) (x:=x) (b:=b) ha;have HL:=fun h2=>least_21 (t:=t) hok h2 m
 have HNL:=fun h2=>lack_named (t:=t) hok h2 m
 have hcd:condA t m b=(decide (2≤t.bs.length)&&(decide ((leastN t m:Int)≤b)&&namedB t (m+leastN t m))):=rfl;have hcap:capTo t m t.bs.length=if t.bs.length≤1 then 101 else min 101 (leastN t m):=rfl
 rw [Int.toNat_natCast] at HY;have KL:=fun A c W hI=>implLeast_any (t:=t) hbs m (by omega) A c W hI
 generalize leastN t m=L at *;generalize capTo t m t.bs.length=C at *;obtain ⟨A1,c1,A2,c2,A3,c3,rfl,-⟩:=h.ex;have hB:=(Below.refl w.heap.size w).alloc (Nat.le_refl _) (.cells #[.slice A1 t.us.length c1,.slice A2 t.bs.length c2,.slice A3 t.ns.length c3] 31);have HX:=Blk.new w 31 #[.slice A1 t.us.length c1,.slice A2 t.bs.length c2,.slice A3 t.ns.length c3];have HT:=h.below hB (Nat.le_refl _);have hleaf:=fun (hc:condA t m b=false) (w1:World) (hb1:Below w.heap.size w w1)=>show RetStrs w (takenOf t m x b) (.returned (.slice none 0 0)) w1 from ⟨_,rfl,by rw [(HN hc).1];exact owns_none _ _ _,hb1⟩
 replace hB:=Lib.hid hB;replace HX:=Lib.hid HX;replace HT:=Lib.hid HT;replace ha:=Lib.hid ha;replace hfi:=Lib.hid hfi;replace hok:=Lib.hid hok;replace hbs:=Lib.hid hbs;replace KL:=Lib.hid KL;clear h HN;go_enter Tryz.func211,Tryz.ntmps211;go_upto_region 1 with (fail)
 generalize w.alloc (.cells #[.slice A1 t.us.length c1,.slice A2 t.bs.length c2,.slice A3 t.ns.length c3] 31)=W at *;obtain ⟨x0,x1,x2,-,-,-⟩:=blk3 HX.out;obtain ⟨_,_,_,_,_,_,ev,-,I2,-⟩:=HT.out.ex;cases ev;have KL1:=Lib.hid (KL.out A2 c2 W I2);clear I2 KL;go_wp2_with (fail);refine KL1.out.mono ?_;rintro e _ ⟨rfl,rfl⟩;clear KL1
 by_cases h2:2≤t.bs.length
 · rw [if_neg (by omega)] at hcap;obtain ⟨l1,l21,-⟩:=HL h2;have hnL:=HNL h2;have hCL:C=L:=by omega
   clear hcap;subst hCL
   by_cases hle:(C:Int)≤b
   · have hle':¬ b < (C:Int):=by omega
     have w1':IntKind.i64.wrap ((m:Int)+(C:Int))=(m:Int)+(C:Int):=IntWalk.i64_in _ (by omega);have K7:=implNameOf_any _ t (C:Int) W HT.out hf (by omega);have HN2:namedB t ((m:Int)+(C:Int))=false→condA t m b=false:=fun h=>by rw [hcd,h,Bool.and_false,Bool.and_false]
     have HY2:namedB t ((m:Int)+(C:Int))=true→takenOf t m x b=nameOf t (C:Int)++[x]++nameOf t ((m:Int)+(C:Int)):=fun h=>(HY (by rw [hcd,h,decide_eq_true h2,decide_eq_true hle];rfl)).1
     have hl1:=nameOf_31 t (C:Int);have hl2:=nameOf_31 t ((m:Int)+(C:Int));have K8':=fun W' hT=>implNameOf_any (.agg #[.slice A1 t.us.length c1,.slice A2 t.bs.length c2,.slice A3 t.ns.length c3]) t ((m:Int)+(C:Int)) W' hT hf (by omega)
     rw [hnL] at K7;replace K7:=Lib.hid K7;replace K8':=Lib.hid K8';replace HN2:=Lib.hid HN2;replace HY2:=Lib.hid HY2;replace hleaf:=Lib.hid hleaf;clear HY HL HNL hcd;generalize nameOf t (C:Int)=ls at *;generalize nameOf t ((m:Int)+(C:Int))=ms at *;generalize namedB t ((m:Int)+(C:Int))=nb at *;go_wp2_with (fail);refine K7.out.mono ?_;rintro e w5 ⟨v5,rfl,o5,b5⟩;obtain ⟨A5,c5,rfl,s5⟩:=o5.strs;clear K7 o5;replace s5:=Lib.hid s5;replace hB:=Lib.hid (hB.out.trans (b5.mono hB.out.size));replace HX:=Lib.hid (HX.out.below b5 HX.out.lt);replace HT:=Lib.hid (HT.out.below b5 (Nat.le_refl _));clear b5 x0 x1 x2;obtain ⟨x0,x1,x2,-,-,-⟩:=blk3 HX.out;have K8:=Lib.hid (K8'.out w5 HT.out);go_wp2_with (fail);refine K8.out.mono ?_;rintro e w6 ⟨v6,rfl,o6,b6⟩;obtain ⟨A6,c6,rfl,s6⟩:=o6.strs;clear K8 K8' o6;replace s5:=Lib.hid (s5.out.below b6 (Nat.le_refl _));replace s6:=Lib.hid s6;replace hB:=Lib.hid (hB.out.trans (b6.mono hB.out.size));clear b6 x0 x1 x2 HX HT;cases nb
     · have HR:=Lib.hid (hleaf.out (HN2.out rfl) _ hB.out);go_wp2;go_ret;exact HR.out
     · have hr:=HY2.out rfl;have bA:=(Below.refl w6.heap.size w6).alloc (Nat.le_refl _) (.cells #[.string x] 9);have bB:=bA.alloc bA.size (.cells #[.slice A5 ls.length c5,.slice (some ⟨w6.heap.size,0,none⟩) 1 1,.slice A6 ms.length c6] 28);have S2:=(strs_of_blk [x] (Blk.new w6 9 #[.string x])).below ((Below.refl _ _).alloc (Nat.le_refl _) (.cells #[.slice A5 ls.length c5,.slice (some ⟨w6.heap.size,0,none⟩) 1 1,.slice A6 ms.length c6] 28)) (Nat.le_refl _);have S1:=s5.out.below bB (Nat.le_refl _);have S3:=s6.out.below bB (Nat.le_refl _);have KC:=concat3_any A5 (some ⟨w6.heap.size,0,none⟩) A6 (w6.heap.size+1) ls.length c5 1 1 ms.length c6 ls [x] ms ((w6.alloc (.cells #[.string x] 9)).alloc (.cells #[.slice A5 ls.length c5,.slice (some ⟨w6.heap.size,0,none⟩) 1 1,.slice A6 ms.length c6] 28)) (by simp) (by go_simp) (by go_simp) (by go_simp) S1 S2 S3 (by omega) (by omega) (by omega);have hlen:(ls++[x]++ms).length=ls.length+1+ms.length:=by simp;omega
       replace KC:=Lib.hid KC;replace bB:=Lib.hid bB;replace hlen:=Lib.hid hlen;replace hr:=Lib.hid hr;clear S1 S2 S3 bA s5 s6 hleaf HN2 HY2;go_wp2_with (fail);refine KC.out.mono ?_;rintro e w7 ⟨v7,rfl,o7,b7⟩;have hBB:=hB.out.trans (bB.out.mono hB.out.size);have hsz:=hBB.size
       have o8:OwnStrs w7 w.heap.size v7 (takenOf t m x b):=by
        unfold OwnStrs;rw [hr.out,hlen.out];exact own_mono o7 hsz
       have HR:RetStrs w (takenOf t m x b) (.returned v7) w7:=⟨_,rfl,o8,hBB.trans (b7.mono hsz)⟩;replace HR:=Lib.hid HR;clear o7 o8 b7 hBB hsz;go_wp2;go_ret;exact HR.out
   · have hle':b < (C:Int):=by omega
     have HR:=Lib.hid (hleaf (by rw [hcd,decide_eq_false hle,Bool.false_and,Bool.and_false]) _ hB.out);clear HY HL HNL hcd hleaf;go_wp2;go_ret;exact HR.out
 · rw [if_pos (by omega)] at hcap;have HR:=Lib.hid (hleaf (by rw [hcd,decide_eq_false h2,Bool.false_and]) _ hB.out);subst hcap;have hle':b < 101:=by omega
   clear HY HL HNL hcd hleaf;replace h2:=Lib.hid h2;go_wp2;go_ret;exact HR.out
end
section
open Go.RowKit
def lessN (n n':Nat):Bool:=decide (0 < n)&&(!decide (0 < n') || decide (n < n'))
theorem lessB_eq (xs ys:List ByteArray):lessB xs ys=lessN xs.length ys.length:=rfl
set_option maxHeartbeats 1000000 in
theorem shorter_any (A A':Option Addr) (n c n' c':Nat) (w:World) :
 Calls Tryz.prog 209 #[.slice A n c,.slice A' n' c'] w fun e w'=>e=.returned (.bool (lessN n n'))∧w=w':=by
 by_cases h0:0 < n
 · have h0':(0:Int) < (n:Int):=by omega
   by_cases h1:0 < n'
   · have h1':((n':Int)==0)=false:=by rw [beq_eq_false_iff_ne];omega
     have hr:lessN n n'=decide (n < n'):=by unfold lessN;rw [decide_eq_true h0,decide_eq_true h1];rfl
     by_cases h2:n < n'
     · have h2':(n:Int) < (n':Int):=by omega
       rw [decide_eq_true h2] at hr;replace hr:=Lib.hid hr;go_enter Tryz.func209,Tryz.ntmps209;go_wp2;go_ret;exact ⟨ret_bool hr.out.symm,rfl⟩
     · have h2':¬ (n:Int) < (n':Int):=by omega
       rw [decide_eq_false h2] at hr;replace hr:=Lib.hid hr;go_enter Tryz.func209,Tryz.ntmps209;go_wp2;go_ret;exact ⟨ret_bool hr.out.symm,rfl⟩
   · obtain rfl:n'=0:=by omega
     have hr:lessN n 0=true:=by unfold lessN;rw [decide_eq_true h0];rfl
     replace hr:=Lib.hid hr;go_enter Tryz.func209,Tryz.ntmps209;go_wp2;go_ret;exact ⟨ret_bool hr.out.symm,rfl⟩
 · obtain rfl:n=0:=by omega
   have hr:lessN 0 n'=false:=rfl;replace hr:=Lib.hid hr;go_enter Tryz.func209,Tryz.ntmps209;go_wp2;go_ret;exact ⟨ret_bool hr.out.symm,rfl⟩
set_option maxHeartbeats 1000000 in
theorem keptOf_any (A A':Option Addr) (n c n' c':Nat) (w:World) :
 Calls Tryz.prog 210 #[.slice A n c,.slice A' n' c',.func (.func 209) #[] #[]] w fun e w'=>e=.returned (if lessN n n' then .slice A n c else .slice A' n' c')∧w=w':=by
 have K:=Lib.hid (shorter_any A A' n c n' c' w);generalize lessN n n'=lb at *;go_enter Tryz.func210,Tryz.ntmps210;go_wp2_with (fail);refine K.out.mono ?_;rintro e _ ⟨rfl,rfl⟩;clear K;cases lb
 · go_wp2;go_ret;exact ⟨rfl,rfl⟩
 · go_wp2;go_ret;exact ⟨rfl,rfl⟩
set_option maxRecDepth 100000 in
set_option maxHeartbeats 4000000 in
theorem shorterName_any (v:Value) (t:Tg) (n:Int) (x:ByteArray) (b:Int) (w:World) (h:Tng w v t) (hf:t.Fine) (ha:askA t n x b=true) :
 Calls Tryz.prog 185 #[v,.int .i64 n,.string x,.int .i64 b] w (RetStrs w (shortOf t n x b)):=by
 obtain ⟨hfi,hd1,hd2⟩:=askA_parts ha;have HE:shortOf t n x b=if lessB (takenOf t n x b) (nameOf t n) then takenOf t n x b else nameOf t n:=by unfold shortOf;rw [ha,if_pos rfl]
 rw [lessB_eq] at HE;obtain ⟨A1,c1,A2,c2,A3,c3,rfl,-⟩:=h.ex;have hB:=(Below.refl w.heap.size w).alloc (Nat.le_refl _) (.cells #[.slice A1 t.us.length c1,.slice A2 t.bs.length c2,.slice A3 t.ns.length c3] 31);have HX:=Blk.new w 31 #[.slice A1 t.us.length c1,.slice A2 t.bs.length c2,.slice A3 t.ns.length c3];have HT:=h.below hB (Nat.le_refl _);have K1:=Lib.hid (implNameOf_any _ t n _ HT hf (by omega));have K2':=Lib.hid (fun W' hT=>nameByTaking_any (.agg #[.slice A1 t.us.length c1,.slice A2 t.bs.length c2,.slice A3 t.ns.length c3]) t n x b W' hT hf ha);replace hB:=Lib.hid hB;replace HX:=Lib.hid HX;replace HT:=Lib.hid HT;replace ha:=Lib.hid ha;replace hfi:=Lib.hid hfi;replace HE:=Lib.hid HE;clear h;generalize nameOf t n=ns' at *;generalize namedB t n=nb at *;generalize takenOf t n x b=ts at *;go_enter Tryz.func185,Tryz.ntmps185;go_upto_region 1 with (fail)
 generalize w.alloc (.cells #[.slice A1 t.us.length c1,.slice A2 t.bs.length c2,.slice A3 t.ns.length c3] 31)=W at *;obtain ⟨x0,x1,x2,-,-,-⟩:=blk3 HX.out;go_wp2_with (fail);refine K1.out.mono ?_;rintro e w1 ⟨v1,rfl,o1,b1⟩;obtain ⟨A4,c4,rfl,-⟩:=o1.strs;replace o1:=Lib.hid (o1.mono hB.out.size);replace hB:=Lib.hid (hB.out.trans (b1.mono hB.out.size));replace HX:=Lib.hid (HX.out.below b1 HX.out.lt);replace HT:=Lib.hid (HT.out.below b1 (Nat.le_refl _));clear b1 x0 x1 x2 K1;obtain ⟨x0,x1,x2,-,-,-⟩:=blk3 HX.out;have K2:=Lib.hid (K2'.out w1 HT.out);go_wp2_with (fail);refine K2.out.mono ?_;rintro e w2 ⟨v2,rfl,o2,b2⟩;obtain ⟨A5,c5,rfl,-⟩:=o2.strs;replace o2:=Lib.hid (o2.mono hB.out.size);replace o1:=Lib.hid (o1.out.below b2 (Nat.le_refl _));replace hB:=Lib.hid (hB.out.trans (b2.mono hB.out.size));have K3:=Lib.hid (keptOf_any A5 A4 ts.length c5 ns'.length c4 w2);clear b2 x0 x1 x2 K2 K2' HX HT;go_wp2_with (fail);refine K3.out.mono ?_;rintro e _ ⟨rfl,rfl⟩;clear K3;generalize lessN ts.length ns'.length=lb at *;cases lb
 · have HR:RetStrs w (shortOf t n x b) (.returned (.slice A4 ns'.length c4)) w2:=⟨_,rfl,by rw [HE.out];exact o1.out,hB.out⟩;replace HR:=Lib.hid HR;clear o1 o2 HE;rw [if_neg (by decide)];go_wp2;go_ret;exact HR.out
 · have HR:RetStrs w (shortOf t n x b) (.returned (.slice A5 ts.length c5)) w2:=⟨_,rfl,by rw [HE.out];exact o2.out,hB.out⟩;replace HR:=Lib.hid HR;clear o1 o2 HE;rw [if_pos rfl];go_wp2;go_ret;exact HR.out
set_option maxRecDepth 100000 in
set_option maxHeartbeats 4000000 in
theorem implShorterName_any (v:Value) (t:Tg) (n:Int) (x:ByteArray) (b:Int) (w:World) (h:Tng w v t) (hf:t.Fine) (hn:-9223372036854775808≤n∧n≤9223372036854775807) (hx:x.size≤maxLen) :
 Calls Tryz.prog 162 #[v,.int .i64 n,.string x,.int .i64 b] w (RetStrs2 w (shortOf t n x b) (shortB t n x b)):=by
 obtain ⟨A1,c1,A2,c2,A3,c3,rfl,-⟩:=h.ex;have hB:=(Below.refl w.heap.size w).alloc (Nat.le_refl _) (.cells #[.slice A1 t.us.length c1,.slice A2 t.bs.length c2,.slice A3 t.ns.length c3] 31);have HX:=Blk.new w 31 #[.slice A1 t.us.length c1,.slice A2 t.bs.length c2,.slice A3 t.ns.length c3];have HT:=h.below hB (Nat.le_refl _);have K1:=Lib.hid (implTakeable_any _ t x b _ HT hf hx);have hnil:askA t n x b=false→∀ W',Below w.heap.size w W'→RetStrs2 w (shortOf t n x b) (shortB t n x b) (.returned (.tuple #[.slice none 0 0,.bool false])) W':=fun h W' hb=>⟨_,by rw [(askA_no h).2.2.2],by rw [(askA_no h).2.2.1];exact owns_none _ _ _,hb⟩
 replace hnil:=Lib.hid hnil;replace hB:=Lib.hid hB;replace HX:=Lib.hid HX;replace HT:=Lib.hid HT;clear h;go_enter Tryz.func162,Tryz.ntmps162;go_upto_region 1 with (fail)
 generalize w.alloc (.cells #[.slice A1 t.us.length c1,.slice A2 t.bs.length c2,.slice A3 t.ns.length c3] 31)=W at *;obtain ⟨x0,x1,x2,-,-,-⟩:=blk3 HX.out;go_wp2_with (fail);refine K1.out.mono ?_;rintro e w1 ⟨rfl,b1⟩;replace hB:=Lib.hid (hB.out.trans (b1.mono hB.out.size));replace HX:=Lib.hid (HX.out.below b1 HX.out.lt);replace HT:=Lib.hid (HT.out.below b1 (Nat.le_refl _));clear b1 x0 x1 x2 K1;obtain ⟨x0,x1,x2,-,-,-⟩:=blk3 HX.out;cases hfi:fitsA t x b
 · have HR:=Lib.hid (hnil.out (by unfold askA;rw [hfi];rfl) _ hB.out);replace hfi:=Lib.hid hfi;go_wp2
   go_ret2
   exact HR.out
 · have KA:=Lib.hid (implAskable_any _ t n w1 HT.out hf hn);have hok:=(fitsA_parts hfi).1;have hokn:okN t n=askA t n x b:=by unfold okN askA;rw [hok,hfi]
   replace hokn:=Lib.hid hokn;replace hfi:=Lib.hid hfi;replace hok:=Lib.hid hok;go_wp2_with (fail);refine KA.out.mono ?_;rintro e w2 ⟨rfl,b2⟩;replace hB:=Lib.hid (hB.out.trans (b2.mono hB.out.size));replace HX:=Lib.hid (HX.out.below b2 HX.out.lt);replace HT:=Lib.hid (HT.out.below b2 (Nat.le_refl _));clear b2 x0 x1 x2 KA;obtain ⟨x0,x1,x2,-,-,-⟩:=blk3 HX.out;rw [hokn.out];cases ha:askA t n x b
   · have HR:=Lib.hid (hnil.out ha _ hB.out);replace ha:=Lib.hid ha;go_wp2
     go_ret2
     exact HR.out
   · have KN:=Lib.hid (shorterName_any _ t n x b w2 HT.out hf ha);have hbb:shortB t n x b=decide (0 < (shortOf t n x b).length):=rfl;replace ha:=Lib.hid ha;go_wp2_with (fail);refine KN.out.mono ?_;rintro e w3 ⟨v3,rfl,o3,b3⟩;obtain ⟨A4,c4,rfl,-⟩:=o3.strs;have HR:∀ c,c=decide (0 < (shortOf t n x b).length)→RetStrs2 w (shortOf t n x b) (shortB t n x b) (.returned (.tuple #[.slice A4 (shortOf t n x b).length c4,.bool c])) w3:=fun c hc=>⟨_,by rw [hc,hbb],o3.mono hB.out.size,hB.out.trans (b3.mono hB.out.size)⟩
     replace HR:=Lib.hid HR;clear o3 b3 x0 x1 x2 KN hbb;have HR2:=Lib.hid (HR.out _ rfl);clear HR;generalize (shortOf t n x b).length=L at *;go_wp2
     go_ret2
     exact HR2.out
end
section
open Go.RowKit
structure CntSt (W0:World) (cs:Array Value) (bw bt bc:Nat) (w:World) (k:Nat):Prop where
 bel:Below W0.heap.size W0 w
 hw:Blk w bw 3 #[.int .i64 k]
 ht:Blk w bt 31 cs
 hc:Blk w bc 77 #[.func (.func 201) #[] #[.pointer (some ⟨bw,0,none⟩),.pointer (some ⟨bt,0,none⟩),.pointer (some ⟨bc,0,none⟩)]]
section
variable {W0 : World} {cs : Array Value} {bw bt bc : Nat} {w : World} {k : Nat}
theorem CntSt.drewN (h:CntSt W0 cs bw bt bc w k) (m:Nat):CntSt W0 cs bw bt bc (w.drewN m) k:=⟨below_drewN h.bel m,h.hw.drewN m,h.ht.drewN m,h.hc.drewN m⟩
theorem CntSt.step (h:CntSt W0 cs bw bt bc w k) (hb:W0.heap.size≤bw) (h1:bt≠bw) (h2:bc≠bw):CntSt W0 cs bw bt bc (w.setCell ⟨bw,0,none⟩ (.int .i64 ((k:Int)+1))) (k+1) :=
 ⟨h.bel.setCell (p:=⟨bw,0,none⟩) hb _,by simpa using h.hw.set_ 0 (.int .i64 ((k:Int)+1)),h.ht.far (p:=⟨bw,0,none⟩) h1 _,h.hc.far (p:=⟨bw,0,none⟩) h2 _⟩
end
set_option maxRecDepth 100000 in
set_option maxHeartbeats 1000000 in
theorem implCount_any {t:Tg} (hok:t.ok=true) {W0:World} {A1 A2 A3:Option Addr} {c1 c2 c3:Nat} (hT:Tng W0 (.agg #[.slice A1 t.us.length c1,.slice A2 t.bs.length c2,.slice A3 t.ns.length c3]) t)
 {bw bt bc:Nat} (g1:W0.heap.size≤bw) (g2:bt≠bw) (g3:bc≠bw):∀ n:Nat,1≤n→n≤99999→∀ (w:World) (k:Nat),CntSt W0 #[.slice A1 t.us.length c1,.slice A2 t.bs.length c2,.slice A3 t.ns.length c3] bw bt bc w k→k+n≤1000000 →
 Calls Tryz.prog 201 #[.int .i64 n,.pointer (some ⟨bw,0,none⟩),.pointer (some ⟨bt,0,none⟩),.pointer (some ⟨bc,0,none⟩)] w fun e w'=>e=.returned (.bool (decide (nameT t n≠[])))∧∃ k',CntSt W0 #[.slice A1 t.us.length c1,.slice A2 t.bs.length c2,.slice A3 t.ns.length c3] bw bt bc w' k'∧k'≤k+n∧(nameT t n≠[]→k'=k+(nameT t n).length):=by
 have hI:Ints W0 .i64 A2 t.bs.length c2 t.bs:=by
  obtain ⟨_,_,_,_,_,_,e,-,I2,-⟩:=hT.ex;cases e;exact I2
 have hsh:=ok_shape hok;have hul:=hsh.us;have hbs:=hsh.bs;have hbl:=bases_len hbs;have HU:=Lib.hid (fun m (h:m≤t.us.length)=>name_of_unit hok h);have HV:=Lib.hid (fun m (h:¬ m≤t.us.length) (ht:topOf t.bs m=0)=>name_behind h ht);have HI2:=Lib.hid (hI.at_ (by omega));have HI:=Lib.hid (fun W (h:Below W0.heap.size W0 W)=>hI.below h (Nat.le_refl _));replace hbs:=Lib.hid hbs;clear hsh hT hI;intro n
 induction n using Nat.strongRecOn with
 | _ n ih =>
  intro hn1 hn2 w k hS hkn;have IH:=Lib.hid (fun m (h1:m < n) (h2:1≤m)=>ih m h1 h2 (by omega));clear ih;have y1:=hS.hw.cell 0;have y2:=hS.hw.frozen 0;simp only [List.getElem?_toArray,List.getElem?_cons_zero] at y1;have hk1:IntKind.i64.wrap ((k:Int)+1)=(k:Int)+1:=IntWalk.i64_in _ (by omega);have hS1:=hS.step g1 g2 g3;replace hS1:=Lib.hid hS1;clear hS;go_enter Tryz.func201,Tryz.ntmps201;go_upto_region 2 with (fail)
  generalize w.setCell ⟨bw,0,none⟩ (.int .i64 ((k:Int)+1))=W at *;obtain ⟨x0,x1,x2,-,-,-⟩:=blk3 hS1.out.ht;clear y1 y2
  by_cases hu:n≤t.us.length
  · have hN:=HU.out n hu;have hu':(n:Int)≤(t.us.length:Int):=by omega
    replace hN:=Lib.hid hN;go_wp2;go_ret;rw [hN.out];exact ⟨rfl,k+1,hS1.out,by omega,fun _=>rfl⟩
  · have hu':¬ (n:Int)≤(t.us.length:Int):=by omega
    have KT:=implTaken_any A2 c2 t.bs n W (HI.out W hS1.out.bel) hbs.out hn1 hn2
    by_cases hlt:n / baseN t.bs n < baseN t.bs n
    · have ht:topOf t.bs n≠0:=fun h=>by
       rw [base_one hbs.out h,Nat.div_one] at hlt;omega
      rw [decide_eq_true hlt] at KT;obtain ⟨f1,f2,f3,f4,f5⟩:=base_facts hbs.out ht;obtain ⟨d1,d2,d3,d4⟩:=div_pos' f1 f2;have N2:=fun h=>name_nohead (us:=t.us) (ns:=t.ns) hbs.out ht h
      have N3:=fun h=>name_norest (us:=t.us) (ns:=t.ns) hbs.out ht h
      have N4:=fun h=>name_parts (us:=t.us) (ns:=t.ns) hbs.out ht h
      have e2:(n:Int) % (baseN t.bs n:Int)=((n % baseN t.bs n:Nat):Int):=rfl;obtain ⟨b2,o2,e3,hb2,hc2⟩:=HI2.out;subst e3;have ck2:=hc2 _ f4;rw [← f3] at ck2;have hbn:baseN t.bs n≤99999:=by omega
      replace f3:=Lib.hid f3;clear hc2;have IHq:=fun w k a b=>IH.out (n / baseN t.bs n) d2 d1 w k a b
      have IHr:=fun h0 w k a b=>IH.out (n % baseN t.bs n) d3 (Nat.one_le_iff_ne_zero.2 h0) w k a b
      unfold nameT at IHq IHr;generalize hq:n / baseN t.bs n=q at *;generalize hr:n % baseN t.bs n=r at *;generalize baseN t.bs n=bb at *;generalize topOf t.bs n=kk at *;generalize t.ns.getD (kk - 1) ByteArray.empty=nm at *;generalize nameN t.us t.bs t.ns q=qs at *;generalize nameN t.us t.bs t.ns r=rs at *;replace N2:=Lib.hid N2;replace N3:=Lib.hid N3;replace N4:=Lib.hid N4;replace e2:=Lib.hid e2;replace hq:=Lib.hid hq;replace hr:=Lib.hid hr;replace IHq:=Lib.hid IHq;replace IHr:=Lib.hid IHr;replace KT:=Lib.hid KT;replace ht:=Lib.hid ht;replace hlt:=Lib.hid hlt;clear IH;go_wp2_with (fail);refine KT.out.mono ?_;rintro e w1 ⟨rfl,m1,rfl⟩;have hS2:=hS1.out.drewN m1;replace hS2:=Lib.hid hS2;clear x0 x1 x2 hS1 KT;generalize W.drewN m1=W1 at *;obtain ⟨x0,x1,x2,-,-,-⟩:=blk3 hS2.out.ht;obtain ⟨okh,hokh⟩:∃ okh:Bool,okh=decide (1 < q→qs≠[]):=⟨_,rfl⟩;obtain ⟨hd,hhd⟩:∃ hd:List ByteArray,hd=if 1 < q then qs else []:=⟨_,rfl⟩
      replace hokh:=Lib.hid hokh;replace hhd:=Lib.hid hhd;go_upto_region 5 with (fail)
      go_cut [36] (fun s36 wx=>∃ k2,s36=.bool (!okh)∧CntSt W0 #[.slice A1 t.us.length c1,.slice (some ⟨b2,o2,none⟩) t.bs.length c2,.slice A3 t.ns.length c3] bw bt bc wx k2∧k2≤k+1+q∧(okh=true→k2=k+1+hd.length))
      case first =>
       by_cases h1:1 < q
       · have h1':(1:Int) < (q:Int):=by omega
         have K5:=Lib.hid (IHq.out W1 (k+1) hS2.out (by omega));have y3:=hS2.out.hc.cell 0;simp only [List.getElem?_toArray,List.getElem?_cons_zero] at y3;go_wp2_with (fail);refine K5.out.mono ?_;rintro e w2 ⟨rfl,k2,hs2,hk2,hy2⟩;have ho:decide (qs≠[])=okh:=by rw [hokh.out];by_cases h:qs=[] <;> simp [h,h1]
         rw [ho]
         have hy2':okh=true→k2=k+1+hd.length:=fun h=>by
          rw [hhd.out,if_pos h1];exact hy2 (by rw [← ho] at h;exact of_decide_eq_true h)
         replace hs2:=Lib.hid hs2;replace hy2':=Lib.hid hy2';replace ho:=Lib.hid ho;clear hy2;go_wp2
         all_goals
          go_meet
          exact ⟨_,rfl,hs2.out,hk2,hy2'.out⟩
       · have h1':¬ (1:Int) < (q:Int):=by omega
         have ho:okh=true:=by rw [hokh.out];simp [h1]
         have hh:hd=[]:=by rw [hhd.out,if_neg h1]
         replace ho:=Lib.hid ho;replace hh:=Lib.hid hh;go_wp2
         all_goals
          go_meet
          exact ⟨k+1,by rw [ho.out];rfl,hS2.out,by omega,fun _=>by rw [hh.out];rfl⟩
      case rest =>
       obtain ⟨k2,rfl,hSc,hk2,hyc⟩:=hcut
       by_cases hk1:okh=true
       · have hy2:=hyc hk1;have hb1:1 < q→qs≠[]:=of_decide_eq_true (hokh.out.symm.trans hk1)
         have hNN:(r≠0→rs≠[])→nameT t n=hd++[nm]++(if r=0 then [] else rs):=fun h=>by
          rw [hhd.out];exact N4.out hlt.out hb1 h
         have cc2:=(hSc.bel.cell (p:=⟨b2,o2+kk,none⟩) hb2).trans ck2;have y3:=hSc.hc.cell 0;simp only [List.getElem?_toArray,List.getElem?_cons_zero] at y3;clear x0 x1 x2;obtain ⟨x0,x1,x2,-,-,-⟩:=blk3 hSc.ht;have r0:(0:Int)≤(n:Int) % (bb:Int):=by rw [e2.out];omega
         have r1:(n:Int) % (bb:Int)≤99999:=by rw [e2.out];omega
         have hbz:¬ (bb:Int)=0:=by omega
         subst hk1;replace hSc:=Lib.hid hSc;replace hb1:=Lib.hid hb1;replace hNN:=Lib.hid hNN;replace hy2:=Lib.hid hy2;clear hyc;go_upto_region 8 with (fail)
         rw [e2.out];clear r0 r1
         by_cases hr0:r=0
         · have hr0':((r:Int)==0)=true:=by rw [beq_iff_eq];omega
           have hN:=hNN.out (fun h=>absurd hr0 h);rw [if_pos hr0,List.append_nil] at hN;have hne:nameT t n≠[]:=by rw [hN];simp
           have hl:(nameT t n).length=hd.length+1:=by rw [hN];simp
           replace hN:=Lib.hid hN;replace hne:=Lib.hid hne;replace hl:=Lib.hid hl;go_wp2
           all_goals
            go_ret;exact ⟨ret_bool (decide_eq_true hne.out).symm,k2,hSc.out,by omega,fun _=>by rw [hl.out,hy2.out];omega⟩
         · have hr0':((r:Int)==0)=false:=by rw [beq_eq_false_iff_ne];omega
           have K9:=Lib.hid (IHr.out hr0 wc k2 hSc.out (by omega));go_wp2_with (fail);refine K9.out.mono ?_;rintro e w9 ⟨rfl,k9,hs9,hk9,hy9⟩
           have hb9:decide (rs≠[])=decide (nameT t n≠[]):=by
            by_cases hrs:rs=[]
            · rw [decide_eq_false (fun h=>h hrs),decide_eq_false (fun h=>h (N3.out hr0 hrs))]
            · rw [decide_eq_true hrs,decide_eq_true (by rw [hNN.out (fun _=>hrs)];simp)]
           have hy9':nameT t n≠[]→k9=k+(nameT t n).length:=fun h=>by
            have hrs:rs≠[]:=fun e=>h (N3.out hr0 e)
            rw [hy9 hrs,hy2.out,hNN.out (fun _=>hrs),if_neg hr0]
            simp
            omega
           generalize decide (rs≠[])=bb9 at *;replace hb9:=Lib.hid hb9;replace hy9':=Lib.hid hy9';replace hs9:=Lib.hid hs9;clear hy9;go_wp2
           all_goals
            go_ret;exact ⟨ret_bool hb9.out,k9,hs9.out,by omega,hy9'.out⟩
       · have hk0:okh=false:=by simpa using hk1
         have hN:nameT t n=[]:=by
          rw [hk0] at hokh;have h:=of_decide_eq_false hokh.out.symm;have h1:1 < q:=Classical.byContradiction fun h1=>h fun h2=>absurd h2 h1
          exact N2.out h1 (Classical.byContradiction fun h2=>h fun _=>h2)
         subst hk0;replace hN:=Lib.hid hN;replace hSc:=Lib.hid hSc;clear hk1 hyc;go_wp2
         all_goals
          go_ret;exact ⟨ret_bool (decide_eq_false (fun h=>h hN.out)).symm,k2,hSc.out,by omega,fun h=>absurd hN.out h⟩
    · have hN:nameT t n=[]:=by
       by_cases ht:topOf t.bs n=0
       · exact HV.out n hu ht
       · exact name_over hbs.out ht (by omega)
      rw [decide_eq_false hlt] at KT;replace KT:=Lib.hid KT;replace hN:=Lib.hid hN;replace hlt:=Lib.hid hlt;generalize topOf t.bs n=kk at *;generalize n / baseN t.bs n=q at *;go_wp2_with (fail);refine KT.out.mono ?_;rintro e w1 ⟨rfl,m1,rfl⟩;go_wp2
      all_goals
       go_ret;exact ⟨ret_bool (decide_eq_false (fun h=>h hN.out)).symm,k+1,hS1.out.drewN m1,by omega,fun h=>absurd hN.out h⟩
end
section
open Go.RowKit
set_option maxRecDepth 100000 in
set_option maxHeartbeats 1000000 in
theorem implLong_any (v:Value) (t:Tg) (m:Nat) (w:World) (h:Tng w v t) (ho:t.ok=true) (h1:1≤m) (h2:m≤99999) :
 Calls Tryz.prog 178 #[v,.int .i64 m] w fun e w'=>e=.returned (.int .i64 (longOf t m))∧Below w.heap.size w w':=by
 have h0:=h;obtain ⟨A1,c1,A2,c2,A3,c3,rfl,-⟩:=h.ex;have hB:=(Below.refl w.heap.size w).alloc (Nat.le_refl _) (.cells #[.slice A1 t.us.length c1,.slice A2 t.bs.length c2,.slice A3 t.ns.length c3] 31);have HX:=Blk.new w 31 #[.slice A1 t.us.length c1,.slice A2 t.bs.length c2,.slice A3 t.ns.length c3]
 have hok:okN t m=true:=by
  unfold okN;rw [ho,decide_eq_true (by omega)];rfl
 have hlt:=HX.lt;have e1:=nameOf_yes hok;have e2:=namedB_eq hok
 have hg:longOf t m=if decide (nameT t m≠[]) then ((nameT t m).length:Int) else -1:=by
  unfold longOf;rw [e1,e2]
 replace hB:=Lib.hid hB;replace HX:=Lib.hid HX;replace h0:=Lib.hid h0;replace e1:=Lib.hid e1;replace e2:=Lib.hid e2;replace hok:=Lib.hid hok;clear h;go_enter Tryz.func178,Tryz.ntmps178;go_upto_region 1 with (fail)
 generalize hW1:w.alloc (.cells #[.slice A1 t.us.length c1,.slice A2 t.bs.length c2,.slice A3 t.ns.length c3] 31)=w1 at *;replace hW1:=Lib.hid hW1
 have hw5:CntSt w #[.slice A1 t.us.length c1,.slice A2 t.bs.length c2,.slice A3 t.ns.length c3] w1.heap.size w.heap.size (w1.heap.size+1)
  ((w1.alloc (.cells #[.int .i64 0] 3)).alloc (.cells #[.func (.func 201) #[] #[.pointer (some ⟨w1.heap.size,0,none⟩),.pointer (some ⟨w.heap.size,0,none⟩),.pointer (some ⟨w1.heap.size+1,0,none⟩)]] 77)) 0 :=
  ⟨(hB.out.alloc hB.out.size _).alloc (by have:=hB.out.size;simp;omega) _,(Blk.new _ _ _).alloc _,(HX.out.alloc _).alloc _,blk_new_at _ (by simp)⟩
 have K2:=Lib.hid (implCount_any ho h0.out (hB.out.size) (by omega) (by omega) m h1 h2 _ 0 hw5 (by omega));replace ho:=Lib.hid ho;replace hw5:=Lib.hid hw5;go_wp2_with (fail);refine K2.out.mono ?_;rintro e w5 ⟨rfl,k5,hs5,-,hy5⟩;have y1:=hs5.hw.cell 0;simp only [List.getElem?_toArray,List.getElem?_cons_zero] at y1;have hB5:=hs5.bel
 by_cases hne:nameT t m=[]
 · have hg2:longOf t m=-1:=by rw [hg,decide_eq_false (fun h=>h hne)];rfl
   rw [decide_eq_false (fun h=>h hne)];replace hg2:=Lib.hid hg2;replace hB5:=Lib.hid hB5;clear hs5 hy5 hg;go_wp2;go_ret;exact ⟨ret_int hg2.out.symm,hB5.out⟩
 · have hg2:longOf t m=(k5:Int):=by rw [hg,decide_eq_true hne,hy5 hne];simp
   rw [decide_eq_true hne];replace hg2:=Lib.hid hg2;replace hB5:=Lib.hid hB5;clear hs5 hy5 hg;go_wp2;go_ret;exact ⟨ret_int hg2.out.symm,hB5.out⟩
set_option maxRecDepth 100000 in
set_option maxHeartbeats 1000000 in
theorem implLongOf_any (v:Value) (t:Tg) (n:Int) (w:World) (h:Tng w v t) (hf:t.Fine) (hn:-9223372036854775808≤n∧n≤9223372036854775807) :
 Calls Tryz.prog 158 #[v,.int .i64 n] w fun e w'=>e=.returned (.int .i64 (longOf t n))∧Below w.heap.size w w':=by
 have h0:=h;obtain ⟨A1,c1,A2,c2,A3,c3,rfl,-⟩:=h.ex;have hB:=(Below.refl w.heap.size w).alloc (Nat.le_refl _) (.cells #[.slice A1 t.us.length c1,.slice A2 t.bs.length c2,.slice A3 t.ns.length c3] 31);have HX:=Blk.new w 31 #[.slice A1 t.us.length c1,.slice A2 t.bs.length c2,.slice A3 t.ns.length c3];have HT:=h.below hB (Nat.le_refl _);have K1:=Lib.hid (implAskable_any _ t n _ HT hf hn);replace hB:=Lib.hid hB;replace HX:=Lib.hid HX;replace h0:=Lib.hid h0;clear h hf HT;go_enter Tryz.func158,Tryz.ntmps158;go_upto_region 1 with (fail)
 generalize w.alloc (.cells #[.slice A1 t.us.length c1,.slice A2 t.bs.length c2,.slice A3 t.ns.length c3] 31)=W at *;obtain ⟨x0,x1,x2,-,-,-⟩:=blk3 HX.out;go_wp2_with (fail);refine K1.out.mono ?_;rintro e w1 ⟨rfl,b1⟩;replace hB:=Lib.hid (hB.out.trans (b1.mono hB.out.size));replace HX:=Lib.hid (HX.out.below b1 HX.out.lt);clear b1 x0 x1 x2 K1;obtain ⟨x0,x1,x2,-,-,-⟩:=blk3 HX.out;cases hok:okN t n
 · have hg:longOf t n=-1:=by
    unfold longOf;rw [(nameOf_no hok).2];rfl
   replace hg:=Lib.hid hg;replace hok:=Lib.hid hok;go_wp2;go_ret;exact ⟨ret_int hg.out.symm,hB.out⟩
 · have ho:=hok;unfold okN at ho;rw [Bool.and_eq_true,decide_eq_true_eq] at ho;obtain ⟨ho,hd⟩:=ho;obtain ⟨m,rfl⟩:∃ m:Nat,n=m:=⟨n.toNat,by omega⟩;have K2:=Lib.hid (implLong_any _ t m w1 (h0.out.below hB.out (Nat.le_refl _)) ho (by omega) (by omega));replace hok:=Lib.hid hok;replace ho:=Lib.hid ho;replace hd:=Lib.hid hd;go_wp2_with (fail);refine K2.out.mono ?_;rintro e w5 ⟨rfl,b5⟩;have hB5:=Lib.hid (hB.out.trans (b5.mono hB.out.size));clear b5 x0 x1 x2 K2;go_wp2;go_ret;exact ⟨rfl,hB5.out⟩
end
end Go.Proofs.YtmhgpbfogdoaeaaGreatDoor
