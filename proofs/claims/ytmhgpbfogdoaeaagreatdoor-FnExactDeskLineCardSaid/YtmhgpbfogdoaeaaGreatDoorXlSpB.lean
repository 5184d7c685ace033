/-
  DeskLine of the model.
-/
import Derived.Lib.QuietBelow
import Derived.Test.YtmhgpbfogdoaeaaGreatDoorXlSpA
import Derived.Test.YtmhgpbfogdoaeaaGreatDoorXlGM
import Derived.Test.YtmhgpbfogdoaeaaGreatDoorXlGL
import Derived.Test.YtmhgpbfogdoaeaaGreatDoorXlGV
import Derived.Test.YtmhgpbfogdoaeaaGreatDoorXlGN
import Derived.Test.YtmhgpbfogdoaeaaGreatDoorXlGI
import Derived.Test.YtmhgpbfogdoaeaaGreatDoorXlGY
import Derived.Test.YtmhgpbfogdoaeaaGreatDoorXlGZ
namespace Go.Proofs.YtmhgpbfogdoaeaaGreatDoor
open Go.RowKit Go.Sort
def RetML (w:World) (d:Dk) (s:ByteArray) (e:Ending) (w':World):Prop:=∃ v,e=.returned (.tuple #[v,.string s])∧MDk w' w.heap.size v d∧Below w.heap.size w w'
structure SL (w:World) (q4 q6 q11:Nat) (d:Dk) (CS C3:Array Value) (W:World):Prop where
 res:Blk W q4 33 #[.slice none 0 0,.slice none 0 0,.slice none 0 0,.int .i64 0,.slice none 0 0]
 box:Blk W q6 33 CS
 own:MDk W w.heap.size (.agg CS) d
 tb:Blk W q11 31 C3
 tng:Tng W (.agg C3) d.t
 low:Below w.heap.size w W
 q4w:w.heap.size≤q4
section
variable {w W W' : World} {q4 q6 q11 : Nat} {d : Dk} {CS C3 : Array Value}
theorem SL.below (h:SL w q4 q6 q11 d CS C3 W) (hb:Below W.heap.size W W'):SL w q4 q6 q11 d CS C3 W' :=
 ⟨h.res.below hb h.res.lt,h.box.below hb h.box.lt,h.own.below hb (Nat.le_refl _),h.tb.below hb h.tb.lt,h.tng.below hb (Nat.le_refl _),h.low.trans (hb.mono h.low.size),h.q4w⟩
theorem SL.fin (h:SL w q4 q6 q11 d CS C3 W) (s:ByteArray) (u0 u1 u2 u3 u4:Value):RetML w d s (.returned (.tuple #[.agg CS,.string s])) (((((W.setCell ⟨q4,0,none⟩ u0).setCell ⟨q4,1,none⟩ u1).setCell ⟨q4,2,none⟩ u2).setCell ⟨q4,3,none⟩ u3).setCell ⟨q4,4,none⟩ u4) :=
 ⟨_,rfl,own_md5 h.own h.res,below_dk5 h.low h.q4w⟩
theorem SL.drew (h:SL w q4 q6 q11 d CS C3 W):SL w q4 q6 q11 d CS C3 W.drew:=h.below (Below.refl _ _).drew
theorem RetML.drew {s:ByteArray} {e:Ending} (h:RetML w d s e W):RetML w d s e W.drew:=by
 obtain ⟨v,e,h1,h2⟩:=h;exact ⟨v,e,h1.below (Below.refl _ _).drew (Nat.le_refl _),h2.drew⟩
theorem RetML.as {d':Dk} {s s':ByteArray} {v:Value} (h:RetML w d s (.returned (.tuple #[v,.string s])) W) (hd:d=d') (hs:s=s'):RetML w d' s' (.returned (.tuple #[v,.string s])) W:=by
 subst hd hs;exact h
end
theorem test_no {s x:ByteArray} {l:List UInt8} (h:s≠x) (e:tl x=l):(s.toList==l)=false:=by
 have e9:s.toList=tl s:=by simp [ByteArray.toList_eq]
 rw [e9,← e];exact beq_eq_false_iff_ne.2 fun e=>h (tl_inj e)
theorem test_yes {s x:ByteArray} {l:List UInt8} (h:s=x) (e:tl x=l):(s.toList==l)=true:=by
 have e9:s.toList=tl s:=by simp [ByteArray.toList_eq]
 rw [e9,← e,h]
 simp
theorem tail_size9 (wd s:ByteArray):(tailT wd s).size≤s.size:=by unfold tailT;rw [ByteArray.size_extract];omega
theorem strs_drew9 {w:World} {A:Option Addr} {n c:Nat} {xs:List ByteArray} (h:Strs w A n c xs):Strs w.drew A n c xs:=h.below (Below.refl _ _).drew (Nat.le_refl _)
theorem ask_place {s:ByteArray} (k:Nat) (hk:k < 7) (h:s=askWs.getD k ByteArray.empty):place askWs s=k:=by
 subst h
 match k,hk with
 | 0,_=>rfl
 | 1,_=>rfl
 | 2,_=>rfl
 | 3,_=>rfl
 | 4,_=>rfl
 | 5,_=>rfl
 | 6,_=>rfl
theorem ask_none {s:ByteArray} (h:∀ k,k < 7→s≠askWs.getD k ByteArray.empty):¬ place askWs s < 7:=by
 have:=place_none (ws:=askWs) (x:=s) (fun i hi e=>h i hi e.symm);rw [this];decide
set_option maxRecDepth 100000 in
set_option maxHeartbeats 16000000 in
theorem specDeskLine_any (v:Value) (d:Dk) (s:ByteArray) (w:World) (h:Dsk w v d) (hf:d.Fine) (hs:s.size≤1048576) :
 Calls Tryz.prog 21 #[v,.string s] w (RetML w (lineP d s).1 (lineP d s).2):=by
 obtain ⟨A1,c1,A2,c2,A3,c3,A5,c5,rfl,-⟩:=h.ex;have hB:=((Below.refl w.heap.size w).alloc (Nat.le_refl _) (.cells #[.slice A1 d.t.us.length c1,.slice A2 d.t.bs.length c2,.slice A3 d.t.ns.length c3,.int .i64 d.now,.slice A5 d.past.length c5] 33)).alloc (by simp) (.cells #[.slice none 0 0,.slice none 0 0,.slice none 0 0,.int .i64 0,.slice none 0 0] 33);have HX:=(Blk.new w 33 #[.slice A1 d.t.us.length c1,.slice A2 d.t.bs.length c2,.slice A3 d.t.ns.length c3,.int .i64 d.now,.slice A5 d.past.length c5]).alloc (.cells #[.slice none 0 0,.slice none 0 0,.slice none 0 0,.int .i64 0,.slice none 0 0] 33);have HZ:Blk ((w.alloc (.cells #[.slice A1 d.t.us.length c1,.slice A2 d.t.bs.length c2,.slice A3 d.t.ns.length c3,.int .i64 d.now,.slice A5 d.past.length c5] 33)).alloc (.cells #[.slice none 0 0,.slice none 0 0,.slice none 0 0,.int .i64 0,.slice none 0 0] 33)) (w.heap.size+1) 33 #[.slice none 0 0,.slice none 0 0,.slice none 0 0,.int .i64 0,.slice none 0 0]:=blk_new_at _ (by simp);have HD:=h.below hB (Nat.le_refl _);have K1:=Lib.hid (specDeskOk_any _ d _ HD hf);have hPno:=Lib.hid (lineP_no (d:=d) (s:=s));have hPdo:=Lib.hid (lineP_deed (d:=d) (s:=s));have hPas:=Lib.hid (lineP_ask (d:=d) (s:=s));obtain ⟨dR,hdR⟩:∃ x,(lineP d s).1=x:=⟨_,rfl⟩;obtain ⟨tR,htR⟩:∃ x,(lineP d s).2=x:=⟨_,rfl⟩;rw [hdR,htR];replace hdR:=Lib.hid hdR;replace htR:=Lib.hid htR;replace hB:=Lib.hid hB;replace HX:=Lib.hid HX
 replace HZ:=Lib.hid HZ;replace HD:=Lib.hid HD;have hdk:=Lib.hid ((dkOk_iff d).1);replace hf:=Lib.hid hf;clear h;go_enter Tryz.func21,Tryz.ntmps21;go_upto_region 1 with (fail)
 generalize (w.alloc (.cells #[.slice A1 d.t.us.length c1,.slice A2 d.t.bs.length c2,.slice A3 d.t.ns.length c3,.int .i64 d.now,.slice A5 d.past.length c5] 33)).alloc (.cells #[.slice none 0 0,.slice none 0 0,.slice none 0 0,.int .i64 0,.slice none 0 0] 33)=W at *;obtain ⟨⟨x0,x1,x2,x3,x4⟩,-⟩:=blk5 HX.out;go_wp2_with (go_at_call 13;refine K1.out.mono ?_;rintro e w1 ⟨rfl,b1⟩;refine Hid.out ?_);have hB1:=Lib.hid (hB.out.trans (b1.mono hB.out.size));have HX1:=Lib.hid (HX.out.below b1 HX.out.lt);have HZ1:=Lib.hid (HZ.out.below b1 HZ.out.lt);have HD1:=Lib.hid (HD.out.below b1 (Nat.le_refl _));clear x0 x1 x2 x3 x4 K1 b1 HX HZ HD hB;refine Lib.hid ?_;cases hok:dkOk d
 · have hg:=hPno.out hok;obtain ⟨⟨z0,z1,z2,z3,z4⟩,⟨e0,e1,e2,e3,e4⟩⟩:=blk5 HZ1.out;have HF:=fun u0 u1 u2 u3 u4=>own_md5 (u0:=u0) (u1:=u1) (u2:=u2) (u3:=u3) (u4:=u4) (own_mdNo w1 w.heap.size) HZ1.out
   have HG:=fun u0 u1 u2 u3 u4=>below_dk5 (u0:=u0) (u1:=u1) (u2:=u2) (u3:=u3) (u4:=u4) (g:=w.heap.size+1) hB1.out (by omega)
   have r1:noDk=dR:=by rw [← hdR.out,hg]
   have r2:(⟨#[]⟩:ByteArray)=tR:=by rw [← htR.out,hg]
   replace r1:=Lib.hid r1;replace r2:=Lib.hid r2;replace hg:=Lib.hid hg;replace hok:=Lib.hid hok;replace HF:=Lib.hid HF;replace HG:=Lib.hid HG;clear HX1 HZ1 HD1 hPno hPdo hPas hdk;go_wp2;refine bodyPost_ret (v:=.tuple #[.agg #[.slice none 0 0,.slice none 0 0,.slice none 0 0,.int .i64 0,.slice none 0 0],.string ⟨#[]⟩]) (by simp [results,Tryz.results21,go_sem,z0,z1,z2,z3,z4]) rfl ?_;exact RetML.as ⟨_,rfl,HF.out _ _ _ _ _,HG.out _ _ _ _ _⟩ r1.out r2.out
 · obtain ⟨d1,d2,d3⟩:=hdk.out hok;have hnow:=named_bd d1;have K2:=Lib.hid (specCopy_any _ d w1 HD1.out hf.out);obtain ⟨⟨x0,x1,x2,x3,x4⟩,⟨f0,f1,f2,f3,f4⟩⟩:=blk5 HX1.out;have hs1:=HZ1.out.lt;replace hok:=Lib.hid hok;replace d1:=Lib.hid d1;clear d2 hdk hPno;go_wp2_with (go_at_call 62;refine K2.out.mono ?_;rintro e w2 ⟨v2,rfl,o2,b2⟩;obtain ⟨X1,k1,X2,k2,X3,k3,X5,k5,rfl⟩:=o2.shape;refine Hid.out ?_);have hAl:=(Below.refl w2.heap.size w2).alloc (Nat.le_refl _) (.cells #[.slice X1 d.t.us.length k1,.slice X2 d.t.bs.length k2,.slice X3 d.t.ns.length k3,.int .i64 d.now,.slice X5 d.past.length k5] 33);have b2':=b2.trans (hAl.mono b2.size);have XA:=Lib.hid (HX1.out.below b2' HX1.out.lt);have ZA:=Lib.hid (HZ1.out.below b2' HZ1.out.lt);have BA:=Lib.hid (hB1.out.trans (b2'.mono hB1.out.size));have HDV:=Lib.hid (HD1.out.below b2' (Nat.le_refl _));have OA:=Lib.hid ((o2.m.mono (B':=w.heap.size) hB1.out.size).below hAl (Nat.le_refl _));have QA:=Lib.hid (Blk.new w2 33 #[.slice X1 d.t.us.length k1,.slice X2 d.t.bs.length k2,.slice X3 d.t.ns.length k3,.int .i64 d.now,.slice X5 d.past.length k5]);clear hAl b2 b2' o2 K2 HX1 HZ1 HD1 hB1 x0 x1 x2 x3 x4 f0 f1 f2 f3 f4 hs1;refine Lib.hid ?_;go_upto_region 4 with (fail)
   generalize w2.alloc (.cells #[.slice X1 d.t.us.length k1,.slice X2 d.t.bs.length k2,.slice X3 d.t.ns.length k3,.int .i64 d.now,.slice X5 d.past.length k5] 33)=V at *;generalize w2.heap.size=q6 at *;have KR:=specReadDeed_any s V (by omega);unfold RetRd at KR;cases hr:rdB (tl s)
   · have hg:=hPas.out hok.out hr;have r1:d=dR:=by rw [← hdR.out,hg]
     have r2:ansL d s=tR:=by rw [← htR.out,hg]
     replace hdR:=Lib.hid r1;replace htR:=Lib.hid r2;clear hg r1 r2 hPas hPdo;rw [hr] at KR;replace hr:=Lib.hid hr;generalize rdV (tl s)=a at *;obtain ⟨xk,xn⟩:=a
     dsimp only at KR
     replace KR:=Lib.hid KR;go_wp2_with (go_at_call 46;refine KR.out.mono ?_;rintro e w3 ⟨rfl,b3⟩;refine Hid.out ?_);have hal:=(Below.refl w3.heap.size w3).alloc (Nat.le_refl _) (.cells #[.int .i64 xk,.int .i64 xn] 41);have hba:=b3.trans (hal.mono b3.size);have XB:=Lib.hid (XA.out.below hba XA.out.lt);have ZB:=Lib.hid (ZA.out.below hba ZA.out.lt);have BB:=Lib.hid (BA.out.trans (hba.mono BA.out.size));have HDB:=Lib.hid (HDV.out.below hba (Nat.le_refl _));have OB:=Lib.hid (OA.out.below hba (Nat.le_refl _));have QB:=Lib.hid (QA.out.below hba QA.out.lt);clear hal hba b3 KR XA ZA BA HDV OA QA;refine Lib.hid ?_;go_upto_region 5 with (fail)
     generalize w3.alloc (.cells #[.int .i64 xk,.int .i64 xn] 41)=V2 at *;generalize w3.heap.size=q7 at *;obtain ⟨⟨x0,x1,x2,x3,x4⟩,-⟩:=blk5 XB.out;have hal:=(Below.refl V2.heap.size V2).alloc (Nat.le_refl _) (.cells #[.slice A1 d.t.us.length c1,.slice A2 d.t.bs.length c2,.slice A3 d.t.ns.length c3] 31)
     have S:SL w (w.heap.size+1) q6 V2.heap.size d #[.slice X1 d.t.us.length k1,.slice X2 d.t.bs.length k2,.slice X3 d.t.ns.length k3,.int .i64 d.now,.slice X5 d.past.length k5] #[.slice A1 d.t.us.length c1,.slice A2 d.t.bs.length c2,.slice A3 d.t.ns.length c3] (V2.alloc (.cells #[.slice A1 d.t.us.length c1,.slice A2 d.t.bs.length c2,.slice A3 d.t.ns.length c3] 31)) :=
      ⟨ZB.out.below hal ZB.out.lt,QB.out.below hal QB.out.lt,OB.out.below hal (Nat.le_refl _),Blk.new _ _ _,(dsk_tng HDB.out).below hal (Nat.le_refl _),BB.out.trans (hal.mono BB.out.size),by omega⟩
     replace S:=Lib.hid S;clear hal ZB QB OB HDB BB;have XC:=Lib.hid (XB.out.alloc (.cells #[.slice A1 d.t.us.length c1,.slice A2 d.t.bs.length c2,.slice A3 d.t.ns.length c3] 31));go_upto_region 11 with (fail)
     generalize V2.alloc (.cells #[.slice A1 d.t.us.length c1,.slice A2 d.t.bs.length c2,.slice A3 d.t.ns.length c3] 31)=V3 at *;generalize V2.heap.size=q11 at *;clear x0 x1 x2 x3 x4 XB;obtain ⟨⟨x0,x1,x2,x3,x4⟩,-⟩:=blk5 XC.out;go_upto_region 12 with (fail)
     clear x0 x1 x2 x3 x4 XC
     by_cases h0:s=numberW
     · have t0:(s.toList==[110,117,109,98,101,114])=true:=test_yes h0 rfl;have hp:=ask_place 0 (by decide) h0;have htx:numT d.now=tR:=by rw [← htR.out];unfold ansL;rw [hp];rfl
       replace htx:=Lib.hid htx;replace hp:=Lib.hid hp;replace h0:=Lib.hid h0
       have KC:∀ W2,SL w (w.heap.size+1) q6 q11 d #[.slice X1 d.t.us.length k1,.slice X2 d.t.bs.length k2,.slice X3 d.t.ns.length k3,.int .i64 d.now,.slice X5 d.past.length k5] #[.slice A1 d.t.us.length c1,.slice A2 d.t.bs.length c2,.slice A3 d.t.ns.length c3] W2→Calls Tryz.prog 64 #[.int .i64 d.now] W2 (fun e V=>e=.returned (.string (numT d.now))∧SL w (w.heap.size+1) q6 q11 d #[.slice X1 d.t.us.length k1,.slice X2 d.t.bs.length k2,.slice X3 d.t.ns.length k3,.int .i64 d.now,.slice X5 d.past.length k5] #[.slice A1 d.t.us.length c1,.slice A2 d.t.bs.length c2,.slice A3 d.t.ns.length c3] V):=fun W2 S2=>by
        refine (num_int d.now W2 (by omega) (by omega)).mono ?_;rintro e V ⟨rfl,hb⟩;exact ⟨rfl,S2.below hb⟩
       replace KC:=Lib.hid KC;generalize numT d.now=tx at *;obtain ⟨⟨y0,y1,y2,y3,y4⟩,-⟩:=blk5 S.out.box;obtain ⟨⟨z0,z1,z2,z3,z4⟩,⟨f0,f1,f2,f3,f4⟩⟩:=blk5 S.out.res;obtain ⟨u0,u1,u2,-,-,-⟩:=blk3 S.out.tb;go_upto_region 14 with (fail)
       go_region_with (go_at_call 64;refine (KC.out _ (by repeat (first | exact S.out | refine SL.drew ?_))).mono ?_;rintro e V4 ⟨rfl,E4⟩;obtain ⟨⟨y0,y1,y2,y3,y4⟩,-⟩:=blk5 E4.box;obtain ⟨⟨z0,z1,z2,z3,z4⟩,⟨f0,f1,f2,f3,f4⟩⟩:=blk5 E4.res;obtain ⟨u0,u1,u2,-,-,-⟩:=blk3 E4.tb;replace E4:=Lib.hid E4;go_simp)
       all_goals
        go_wp2;refine bodyPost_ret (v:=.tuple #[.agg #[.slice X1 d.t.us.length k1,.slice X2 d.t.bs.length k2,.slice X3 d.t.ns.length k3,.int .i64 d.now,.slice X5 d.past.length k5],.string tx]) (by simp [results,Tryz.results21,go_sem,z0,z1,z2,z3,z4]) rfl ?_;exact RetML.as (by first | exact E4.out.fin _ _ _ _ _ _ | exact E4.out.drew.fin _ _ _ _ _ _ | exact RetML.drew (E4.out.fin _ _ _ _ _ _)) hdR.out htx.out
     have n0:s≠numberW:=h0;clear h0
     by_cases h1:s=nameW
     · have t0:(s.toList==[110,117,109,98,101,114])=false:=test_no n0 rfl;have t1:(s.toList==[110,97,109,101])=true:=test_yes h1 rfl;have hp:=ask_place 1 (by decide) h1;have htx:textOf d.t d.now=tR:=by rw [← htR.out];unfold ansL;rw [hp];rfl
       replace htx:=Lib.hid htx;replace hp:=Lib.hid hp;replace h1:=Lib.hid h1;replace n0:=Lib.hid n0
       have KC:∀ W2,SL w (w.heap.size+1) q6 q11 d #[.slice X1 d.t.us.length k1,.slice X2 d.t.bs.length k2,.slice X3 d.t.ns.length k3,.int .i64 d.now,.slice X5 d.past.length k5] #[.slice A1 d.t.us.length c1,.slice A2 d.t.bs.length c2,.slice A3 d.t.ns.length c3] W2→Calls Tryz.prog 65 #[.agg #[.slice A1 d.t.us.length c1,.slice A2 d.t.bs.length c2,.slice A3 d.t.ns.length c3],.int .i64 d.now] W2 (fun e V=>e=.returned (.string (textOf d.t d.now))∧SL w (w.heap.size+1) q6 q11 d #[.slice X1 d.t.us.length k1,.slice X2 d.t.bs.length k2,.slice X3 d.t.ns.length k3,.int .i64 d.now,.slice X5 d.past.length k5] #[.slice A1 d.t.us.length c1,.slice A2 d.t.bs.length c2,.slice A3 d.t.ns.length c3] V):=fun W2 S2=>by
        refine (specTextOf_any _ d.t d.now W2 S2.tng hf.out.t (by omega)).mono ?_;rintro e V ⟨rfl,hb⟩;exact ⟨rfl,S2.below hb⟩
       replace KC:=Lib.hid KC;generalize textOf d.t d.now=tx at *;obtain ⟨⟨y0,y1,y2,y3,y4⟩,-⟩:=blk5 S.out.box;obtain ⟨⟨z0,z1,z2,z3,z4⟩,⟨f0,f1,f2,f3,f4⟩⟩:=blk5 S.out.res;obtain ⟨u0,u1,u2,-,-,-⟩:=blk3 S.out.tb;go_upto_region 16 with (fail)
       go_region_with (go_at_call 65;refine (KC.out _ (by repeat (first | exact S.out | refine SL.drew ?_))).mono ?_;rintro e V4 ⟨rfl,E4⟩;obtain ⟨⟨y0,y1,y2,y3,y4⟩,-⟩:=blk5 E4.box;obtain ⟨⟨z0,z1,z2,z3,z4⟩,⟨f0,f1,f2,f3,f4⟩⟩:=blk5 E4.res;obtain ⟨u0,u1,u2,-,-,-⟩:=blk3 E4.tb;replace E4:=Lib.hid E4;go_simp)
       all_goals
        go_wp2;refine bodyPost_ret (v:=.tuple #[.agg #[.slice X1 d.t.us.length k1,.slice X2 d.t.bs.length k2,.slice X3 d.t.ns.length k3,.int .i64 d.now,.slice X5 d.past.length k5],.string tx]) (by simp [results,Tryz.results21,go_sem,z0,z1,z2,z3,z4]) rfl ?_;exact RetML.as (by first | exact E4.out.fin _ _ _ _ _ _ | exact E4.out.drew.fin _ _ _ _ _ _ | exact RetML.drew (E4.out.fin _ _ _ _ _ _)) hdR.out htx.out
     have n1:s≠nameW:=h1;clear h1
     by_cases h2:s=wordsW
     · have t0:(s.toList==[110,117,109,98,101,114])=false:=test_no n0 rfl;have t1:(s.toList==[110,97,109,101])=false:=test_no n1 rfl;have t2:(s.toList==[119,111,114,100,115])=true:=test_yes h2 rfl;have hlw:=letters_words d1.out;have hp:=ask_place 2 (by decide) h2;have htx:numT (longOf d.t d.now)=tR:=by rw [← htR.out];unfold ansL;rw [hp];rfl
       replace htx:=Lib.hid htx;replace hp:=Lib.hid hp;replace h2:=Lib.hid h2;replace n0:=Lib.hid n0;replace n1:=Lib.hid n1
       have KC:∀ W2,SL w (w.heap.size+1) q6 q11 d #[.slice X1 d.t.us.length k1,.slice X2 d.t.bs.length k2,.slice X3 d.t.ns.length k3,.int .i64 d.now,.slice X5 d.past.length k5] #[.slice A1 d.t.us.length c1,.slice A2 d.t.bs.length c2,.slice A3 d.t.ns.length c3] W2→Calls Tryz.prog 66 #[.agg #[.slice A1 d.t.us.length c1,.slice A2 d.t.bs.length c2,.slice A3 d.t.ns.length c3],.int .i64 d.now] W2 (fun e V=>e=.returned (.int .i64 (longOf d.t d.now))∧SL w (w.heap.size+1) q6 q11 d #[.slice X1 d.t.us.length k1,.slice X2 d.t.bs.length k2,.slice X3 d.t.ns.length k3,.int .i64 d.now,.slice X5 d.past.length k5] #[.slice A1 d.t.us.length c1,.slice A2 d.t.bs.length c2,.slice A3 d.t.ns.length c3] V):=fun W2 S2=>by
        refine (specLongOf_any _ d.t d.now W2 S2.tng hf.out.t (by omega)).mono ?_;rintro e V ⟨rfl,hb⟩;exact ⟨rfl,S2.below hb⟩
       replace KC:=Lib.hid KC
       have KD:∀ W2,SL w (w.heap.size+1) q6 q11 d #[.slice X1 d.t.us.length k1,.slice X2 d.t.bs.length k2,.slice X3 d.t.ns.length k3,.int .i64 d.now,.slice X5 d.past.length k5] #[.slice A1 d.t.us.length c1,.slice A2 d.t.bs.length c2,.slice A3 d.t.ns.length c3] W2→Calls Tryz.prog 64 #[.int .i64 (longOf d.t d.now)] W2 (fun e V=>e=.returned (.string (numT (longOf d.t d.now)))∧SL w (w.heap.size+1) q6 q11 d #[.slice X1 d.t.us.length k1,.slice X2 d.t.bs.length k2,.slice X3 d.t.ns.length k3,.int .i64 d.now,.slice X5 d.past.length k5] #[.slice A1 d.t.us.length c1,.slice A2 d.t.bs.length c2,.slice A3 d.t.ns.length c3] V):=fun W2 S2=>by
        refine (num_int (longOf d.t d.now) W2 (by omega) (by omega)).mono ?_;rintro e V ⟨rfl,hb⟩;exact ⟨rfl,S2.below hb⟩
       replace KD:=Lib.hid KD;generalize longOf d.t d.now=lg at *;generalize numT lg=tx at *;replace hlw:=Lib.hid hlw;obtain ⟨⟨y0,y1,y2,y3,y4⟩,-⟩:=blk5 S.out.box;obtain ⟨⟨z0,z1,z2,z3,z4⟩,⟨f0,f1,f2,f3,f4⟩⟩:=blk5 S.out.res;obtain ⟨u0,u1,u2,-,-,-⟩:=blk3 S.out.tb;go_upto_region 18 with (fail)
       go_region_with (first | (go_at_call 64;refine (KD.out _ (by repeat (first | exact E4.out | refine SL.drew ?_))).mono ?_;rintro e V5 ⟨rfl,E5⟩;obtain ⟨⟨y0,y1,y2,y3,y4⟩,-⟩:=blk5 E5.box;obtain ⟨⟨z0,z1,z2,z3,z4⟩,⟨f0,f1,f2,f3,f4⟩⟩:=blk5 E5.res;obtain ⟨u0,u1,u2,-,-,-⟩:=blk3 E5.tb;replace E5:=Lib.hid E5;go_simp) | (go_at_call 66;refine (KC.out _ (by repeat (first | exact S.out | refine SL.drew ?_))).mono ?_;rintro e V4 ⟨rfl,E4⟩;obtain ⟨⟨y0,y1,y2,y3,y4⟩,-⟩:=blk5 E4.box;obtain ⟨⟨z0,z1,z2,z3,z4⟩,⟨f0,f1,f2,f3,f4⟩⟩:=blk5 E4.res;obtain ⟨u0,u1,u2,-,-,-⟩:=blk3 E4.tb;replace E4:=Lib.hid E4;go_simp))
       all_goals
        go_wp2;refine bodyPost_ret (v:=.tuple #[.agg #[.slice X1 d.t.us.length k1,.slice X2 d.t.bs.length k2,.slice X3 d.t.ns.length k3,.int .i64 d.now,.slice X5 d.past.length k5],.string tx]) (by simp [results,Tryz.results21,go_sem,z0,z1,z2,z3,z4]) rfl ?_;exact RetML.as (by first | exact E5.out.fin _ _ _ _ _ _ | exact E5.out.drew.fin _ _ _ _ _ _ | exact RetML.drew (E5.out.fin _ _ _ _ _ _)) hdR.out htx.out
     have n2:s≠wordsW:=h2;clear h2
     by_cases h3:s=countW
     · have t0:(s.toList==[110,117,109,98,101,114])=false:=test_no n0 rfl;have t1:(s.toList==[110,97,109,101])=false:=test_no n1 rfl;have t2:(s.toList==[119,111,114,100,115])=false:=test_no n2 rfl;have t3:(s.toList==[99,111,117,110,116])=true:=test_yes h3 rfl;have hlw:=letters_words d1.out;have hp:=ask_place 3 (by decide) h3;have htx:numT (lettersOf d.t d.now)=tR:=by rw [← htR.out];unfold ansL;rw [hp];rfl
       replace htx:=Lib.hid htx;replace hp:=Lib.hid hp;replace h3:=Lib.hid h3;replace n0:=Lib.hid n0;replace n1:=Lib.hid n1;replace n2:=Lib.hid n2
       have KC:∀ W2,SL w (w.heap.size+1) q6 q11 d #[.slice X1 d.t.us.length k1,.slice X2 d.t.bs.length k2,.slice X3 d.t.ns.length k3,.int .i64 d.now,.slice X5 d.past.length k5] #[.slice A1 d.t.us.length c1,.slice A2 d.t.bs.length c2,.slice A3 d.t.ns.length c3] W2→Calls Tryz.prog 67 #[.agg #[.slice A1 d.t.us.length c1,.slice A2 d.t.bs.length c2,.slice A3 d.t.ns.length c3],.int .i64 d.now] W2 (fun e V=>e=.returned (.int .i64 (lettersOf d.t d.now))∧SL w (w.heap.size+1) q6 q11 d #[.slice X1 d.t.us.length k1,.slice X2 d.t.bs.length k2,.slice X3 d.t.ns.length k3,.int .i64 d.now,.slice X5 d.past.length k5] #[.slice A1 d.t.us.length c1,.slice A2 d.t.bs.length c2,.slice A3 d.t.ns.length c3] V):=fun W2 S2=>by
        refine (specLettersOf_any _ d.t d.now W2 S2.tng hf.out.t (by omega)).mono ?_;rintro e V ⟨rfl,hb⟩;exact ⟨rfl,S2.below hb⟩
       replace KC:=Lib.hid KC
       have KD:∀ W2,SL w (w.heap.size+1) q6 q11 d #[.slice X1 d.t.us.length k1,.slice X2 d.t.bs.length k2,.slice X3 d.t.ns.length k3,.int .i64 d.now,.slice X5 d.past.length k5] #[.slice A1 d.t.us.length c1,.slice A2 d.t.bs.length c2,.slice A3 d.t.ns.length c3] W2→Calls Tryz.prog 64 #[.int .i64 (lettersOf d.t d.now)] W2 (fun e V=>e=.returned (.string (numT (lettersOf d.t d.now)))∧SL w (w.heap.size+1) q6 q11 d #[.slice X1 d.t.us.length k1,.slice X2 d.t.bs.length k2,.slice X3 d.t.ns.length k3,.int .i64 d.now,.slice X5 d.past.length k5] #[.slice A1 d.t.us.length c1,.slice A2 d.t.bs.length c2,.slice A3 d.t.ns.length c3] V):=fun W2 S2=>by
        refine (num_int (lettersOf d.t d.now) W2 (by omega) (by omega)).mono ?_;rintro e V ⟨rfl,hb⟩;exact ⟨rfl,S2.below hb⟩
       replace KD:=Lib.hid KD;generalize lettersOf d.t d.now=lg at *;generalize numT lg=tx at *;replace hlw:=Lib.hid hlw;obtain ⟨⟨y0,y1,y2,y3,y4⟩,-⟩:=blk5 S.out.box;obtain ⟨⟨z0,z1,z2,z3,z4⟩,⟨f0,f1,f2,f3,f4⟩⟩:=blk5 S.out.res;obtain ⟨u0,u1,u2,-,-,-⟩:=blk3 S.out.tb;go_upto_region 20 with (fail)
       go_region_with (first | (go_at_call 64;refine (KD.out _ (by repeat (first | exact E4.out | refine SL.drew ?_))).mono ?_;rintro e V5 ⟨rfl,E5⟩;obtain ⟨⟨y0,y1,y2,y3,y4⟩,-⟩:=blk5 E5.box;obtain ⟨⟨z0,z1,z2,z3,z4⟩,⟨f0,f1,f2,f3,f4⟩⟩:=blk5 E5.res;obtain ⟨u0,u1,u2,-,-,-⟩:=blk3 E5.tb;replace E5:=Lib.hid E5;go_simp) | (go_at_call 67;refine (KC.out _ (by repeat (first | exact S.out | refine SL.drew ?_))).mono ?_;rintro e V4 ⟨rfl,E4⟩;obtain ⟨⟨y0,y1,y2,y3,y4⟩,-⟩:=blk5 E4.box;obtain ⟨⟨z0,z1,z2,z3,z4⟩,⟨f0,f1,f2,f3,f4⟩⟩:=blk5 E4.res;obtain ⟨u0,u1,u2,-,-,-⟩:=blk3 E4.tb;replace E4:=Lib.hid E4;go_simp))
       all_goals
        go_wp2;refine bodyPost_ret (v:=.tuple #[.agg #[.slice X1 d.t.us.length k1,.slice X2 d.t.bs.length k2,.slice X3 d.t.ns.length k3,.int .i64 d.now,.slice X5 d.past.length k5],.string tx]) (by simp [results,Tryz.results21,go_sem,z0,z1,z2,z3,z4]) rfl ?_;exact RetML.as (by first | exact E5.out.fin _ _ _ _ _ _ | exact E5.out.drew.fin _ _ _ _ _ _ | exact RetML.drew (E5.out.fin _ _ _ _ _ _)) hdR.out htx.out
     have n3:s≠countW:=h3;clear h3
     by_cases h4:s=ringW
     · have t0:(s.toList==[110,117,109,98,101,114])=false:=test_no n0 rfl;have t1:(s.toList==[110,97,109,101])=false:=test_no n1 rfl;have t2:(s.toList==[119,111,114,100,115])=false:=test_no n2 rfl;have t3:(s.toList==[99,111,117,110,116])=false:=test_no n3 rfl;have t4:(s.toList==[114,105,110,103])=true:=test_yes h4 rfl;have hp:=ask_place 4 (by decide) h4;have htx:orNone ⟨#[44]⟩ (ringTs d)=tR:=by rw [← htR.out];unfold ansL;rw [hp];rfl
       replace htx:=Lib.hid htx;replace hp:=Lib.hid hp;replace h4:=Lib.hid h4;replace n0:=Lib.hid n0;replace n1:=Lib.hid n1;replace n2:=Lib.hid n2;replace n3:=Lib.hid n3;have hpos:=Lib.hid (ringTs_pos d);obtain ⟨hlq,hln⟩:=ring_len d;have hbd:=Lib.hid (@ring_bd d);have hrp:=ringF_pos (f:=lettersOf d.t) (n:=d.now) (letters_f d.t);have hrt:ringTs d=(ringF (lettersOf d.t) d.now).map numT:=rfl;have KC:=Lib.hid (specRingFrom_any _ d.t d.now V3 S.out.tng hf.out.t (by omega));rw [hrt] at hpos htx hln;replace hrt:=Lib.hid hrt;replace hlq:=Lib.hid hlq;generalize ringF (lettersOf d.t) d.now=q at *;generalize okF (lettersOf d.t) d.now=bb at *;have hat:=Lib.hid (at_le (l:=q.map numT) (B:=6) (fun y hy=>(hpos.out y hy).2));have hjs:=Lib.hid (joinG_size (sep:=⟨#[44]⟩) (at_le (l:=q.map numT) (B:=6) (fun y hy=>(hpos.out y hy).2)));have hml:(q.map numT).length=q.length:=by simp
       rw [hml] at hln;obtain ⟨L,hL⟩:∃ L,q.length=L:=⟨_,rfl⟩;rw [hL] at hln hml hrp;replace hrp:=Lib.hid hrp;replace hml:=Lib.hid hml;obtain ⟨⟨y0,y1,y2,y3,y4⟩,-⟩:=blk5 S.out.box;obtain ⟨⟨z0,z1,z2,z3,z4⟩,⟨f0,f1,f2,f3,f4⟩⟩:=blk5 S.out.res;obtain ⟨u0,u1,u2,-,-,-⟩:=blk3 S.out.tb;go_upto_region 22 with (fail)
       go_wp2_with (go_at_call 68;refine KC.out.mono ?_;rintro e V4 ⟨AR,cR,rfl,hI,b4⟩;refine Hid.out ?_);replace S:=Lib.hid (S.out.below b4);rw [hL] at hI;replace hL:=Lib.hid hL;replace hI:=Lib.hid hI;clear b4 KC y0 y1 y2 y3 y4 z0 z1 z2 z3 z4 f0 f1 f2 f3 f4 u0 u1 u2;refine Lib.hid ?_;have hlq2:(q.length:Int)=(L:Int):=by rw [hL.out]
       try rw [hL.out]
       go_upto_region 24 with (fail)
       go_wp2
       go_loopw [15,16] (fun s15 s16 wr=>∃ k:Nat,k≤L∧s16=.int .i64 k∧s15=.string (joinG ⟨#[44]⟩ (q.map numT) k)∧Below V4.heap.size V4 wr) (fun _ s16 _=>L - (intOf s16).toNat)
       case atStart=>exact ⟨0,Nat.zero_le _,rfl,rfl,Below.refl _ _⟩
       case round =>
        obtain ⟨k,hk,rfl,rfl,hBr⟩:=hrel;have hIr:=Lib.hid (hI.out.below hBr (Nat.le_refl _));have hS:=S.out.below hBr
        by_cases hlt:k < L
        · have hkq:k < q.length:=by rw [hL.out];exact hlt
          have hbx:=hbd.out _ (getD_memW hkq);have hgt:(q.map numT).getD k ByteArray.empty=numT (q.getD k 0):=by simp [List.getD_eq_getElem?_getD,hkq]
          obtain ⟨b,o,rfl,hbl,hc⟩:=hIr.out.at_ (by omega);have ck:=hc k hlt;have HJ:joinG ⟨#[44]⟩ (q.map numT) (k+1)=(if 0 < k then joinG ⟨#[44]⟩ (q.map numT) k++⟨#[44]⟩ else joinG ⟨#[44]⟩ (q.map numT) k)++(q.map numT).getD k ByteArray.empty:=rfl;have z1:=hjs.out k;have z2:=hat.out k;rw [hgt] at HJ z2;clear hgt;generalize q.getD k 0=x at *;have KN:=Lib.hid (num_int x wr hbx.1 hbx.2);generalize numT x=tx at *;have y1:(⟨#[44]⟩:ByteArray).size=1:=rfl;have z3:(6+(⟨#[44]⟩:ByteArray).size) * k≤7 * 1000:=Nat.mul_le_mul (by omega) (by omega);generalize joinG ⟨#[44]⟩ (q.map numT) k=out at *;have y2:(out++⟨#[44]⟩).size=out.size+1:=by rw [ByteArray.size_append,y1]
          have y3:¬ (9223372036854775807 < out.size+1):=by omega
          have y4:¬ (9223372036854775807 < out.size+1+tx.size):=by omega
          have y5:¬ (9223372036854775807 < out.size+tx.size):=by omega
          replace hS:=Lib.hid hS;replace hBr:=Lib.hid hBr;clear hc z3 z1 hkq
          by_cases h0:0 < k
          · have h0':(0:Int) < (k:Int):=by omega
            rw [if_pos h0] at HJ;replace HJ:=Lib.hid HJ;go_wp2_with (go_at_call 64;refine KN.out.mono ?_;rintro e w5 ⟨rfl,b5⟩;refine Hid.out ?_);have hB5:=Lib.hid (hBr.out.trans (b5.mono hBr.out.size));clear b5 KN;refine Lib.hid ?_;go_wp2
            go_roundw
            case rel=>exact ⟨k+1,by omega,by go_num,by rw [HJ.out],hB5.out⟩
            case measure=>simp [intOf];omega
          · have h0':¬ (0:Int) < (k:Int):=by omega
            rw [if_neg h0] at HJ;replace HJ:=Lib.hid HJ;go_wp2_with (go_at_call 64;refine KN.out.mono ?_;rintro e w5 ⟨rfl,b5⟩;refine Hid.out ?_);have hB5:=Lib.hid (hBr.out.trans (b5.mono hBr.out.size));clear b5 KN;refine Lib.hid ?_;go_wp2
            go_roundw
            case rel=>exact ⟨k+1,by omega,by go_num,by rw [HJ.out],hB5.out⟩
            case measure=>simp [intOf];omega
        · obtain rfl:k=L:=by omega
          replace hS:=Lib.hid hS;replace hBr:=Lib.hid hBr;clear hI hIr;cases bb
          · have hz:orNone ⟨#[44]⟩ (q.map numT)=noneT:=by unfold orNone;rw [if_neg (by have h9:=of_decide_eq_false hrp.out;rw [hml.out];omega)]
            rw [hz] at htx;replace hz:=Lib.hid hz;replace S:=hS;obtain ⟨⟨y0,y1,y2,y3,y4⟩,-⟩:=blk5 S.out.box;obtain ⟨⟨z0,z1,z2,z3,z4⟩,⟨f0,f1,f2,f3,f4⟩⟩:=blk5 S.out.res;obtain ⟨u0,u1,u2,-,-,-⟩:=blk3 S.out.tb;have hfin:=fun u0 u1 u2 u3 u4=>S.out.fin ⟨#[110,111,110,101]⟩ u0 u1 u2 u3 u4
            replace hfin:=Lib.hid hfin;go_wp2;refine bodyPost_ret (v:=.tuple #[.agg #[.slice X1 d.t.us.length k1,.slice X2 d.t.bs.length k2,.slice X3 d.t.ns.length k3,.int .i64 d.now,.slice X5 d.past.length k5],.string ⟨#[110,111,110,101]⟩]) (by simp [results,Tryz.results21,go_sem,z0,z1,z2,z3,z4]) rfl ?_;exact RetML.as (hfin.out _ _ _ _ _) hdR.out htx.out
          · have hz:orNone ⟨#[44]⟩ (q.map numT)=joinG ⟨#[44]⟩ (q.map numT) k:=by unfold orNone;rw [if_pos (by have h9:=of_decide_eq_true hrp.out;rw [hml.out];omega),hml.out]
            rw [hz] at htx;replace hz:=Lib.hid hz;generalize joinG ⟨#[44]⟩ (q.map numT) k=res at *;replace S:=hS;obtain ⟨⟨y0,y1,y2,y3,y4⟩,-⟩:=blk5 S.out.box;obtain ⟨⟨z0,z1,z2,z3,z4⟩,⟨f0,f1,f2,f3,f4⟩⟩:=blk5 S.out.res;obtain ⟨u0,u1,u2,-,-,-⟩:=blk3 S.out.tb;have hfin:=fun u0 u1 u2 u3 u4=>S.out.fin res u0 u1 u2 u3 u4
            replace hfin:=Lib.hid hfin;go_wp2;refine bodyPost_ret (v:=.tuple #[.agg #[.slice X1 d.t.us.length k1,.slice X2 d.t.bs.length k2,.slice X3 d.t.ns.length k3,.int .i64 d.now,.slice X5 d.past.length k5],.string res]) (by simp [results,Tryz.results21,go_sem,z0,z1,z2,z3,z4]) rfl ?_;exact RetML.as (hfin.out _ _ _ _ _) hdR.out htx.out
     have n4:s≠ringW:=h4;clear h4
     by_cases h5:s=turnedW
     · have t0:(s.toList==[110,117,109,98,101,114])=false:=test_no n0 rfl;have t1:(s.toList==[110,97,109,101])=false:=test_no n1 rfl;have t2:(s.toList==[119,111,114,100,115])=false:=test_no n2 rfl;have t3:(s.toList==[99,111,117,110,116])=false:=test_no n3 rfl;have t4:(s.toList==[114,105,110,103])=false:=test_no n4 rfl;have t5:(s.toList==[116,117,114,110,101,100])=true:=test_yes h5 rfl;have hp:=ask_place 5 (by decide) h5;have htx:orNone ⟨#[32]⟩ (turnedOf d.t d.now andW)=tR:=by rw [← htR.out];unfold ansL;rw [hp];rfl
       replace htx:=Lib.hid htx;replace hp:=Lib.hid hp;replace h5:=Lib.hid h5;replace n0:=Lib.hid n0;replace n1:=Lib.hid n1;replace n2:=Lib.hid n2;replace n3:=Lib.hid n3;replace n4:=Lib.hid n4;have hbb:(turnedB d.t d.now andW)=decide (0 < (turnedOf d.t d.now andW).length):=rfl;have hln:(turnedOf d.t d.now andW).length≤1000:=by have:=turned_len d.t d.now andW;omega
       have hsz:∀ y ∈ turnedOf d.t d.now andW,y.size≤3000:=fun y hy=>by have:=turned_size _ y hy;omega
       have KC:∀ W2,SL w (w.heap.size+1) q6 q11 d #[.slice X1 d.t.us.length k1,.slice X2 d.t.bs.length k2,.slice X3 d.t.ns.length k3,.int .i64 d.now,.slice X5 d.past.length k5] #[.slice A1 d.t.us.length c1,.slice A2 d.t.bs.length c2,.slice A3 d.t.ns.length c3] W2→Calls Tryz.prog 70 #[.agg #[.slice A1 d.t.us.length c1,.slice A2 d.t.bs.length c2,.slice A3 d.t.ns.length c3],.int .i64 d.now,.string andW] W2 (fun e V=>∃ A c,e=.returned (.tuple #[.slice A (turnedOf d.t d.now andW).length c,.bool (turnedB d.t d.now andW)])∧Strs V A (turnedOf d.t d.now andW).length c (turnedOf d.t d.now andW)∧SL w (w.heap.size+1) q6 q11 d #[.slice X1 d.t.us.length k1,.slice X2 d.t.bs.length k2,.slice X3 d.t.ns.length k3,.int .i64 d.now,.slice X5 d.past.length k5] #[.slice A1 d.t.us.length c1,.slice A2 d.t.bs.length c2,.slice A3 d.t.ns.length c3] V):=fun W2 S2=>by
        refine (specTurnedName_any _ d.t d.now andW W2 S2.tng hf.out.t (by omega) (by decide)).mono ?_;rintro e V ⟨v1,rfl,o1,hb⟩;obtain ⟨A,c,rfl,hst⟩:=o1.strs;exact ⟨A,c,rfl,hst,S2.below hb⟩
       replace KC:=Lib.hid KC;generalize turnedB d.t d.now andW=bb at *;generalize turnedOf d.t d.now andW=xs at *
       have KD:∀ A c W2,SL w (w.heap.size+1) q6 q11 d #[.slice X1 d.t.us.length k1,.slice X2 d.t.bs.length k2,.slice X3 d.t.ns.length k3,.int .i64 d.now,.slice X5 d.past.length k5] #[.slice A1 d.t.us.length c1,.slice A2 d.t.bs.length c2,.slice A3 d.t.ns.length c3] W2→Strs W2 A xs.length c xs→Calls Tryz.prog 69 #[.slice A xs.length c,.bool bb] W2 (fun e V=>e=.returned (.string (orNone ⟨#[32]⟩ xs))∧SL w (w.heap.size+1) q6 q11 d #[.slice X1 d.t.us.length k1,.slice X2 d.t.bs.length k2,.slice X3 d.t.ns.length k3,.int .i64 d.now,.slice X5 d.past.length k5] #[.slice A1 d.t.us.length c1,.slice A2 d.t.bs.length c2,.slice A3 d.t.ns.length c3] V):=fun A c W2 S2 hst=>by
        refine (specJoined_any A c xs bb W2 hst hln hsz hbb).mono ?_;rintro e V ⟨rfl,rfl⟩;exact ⟨rfl,S2⟩
       replace KD:=Lib.hid KD;generalize orNone ⟨#[32]⟩ xs=tx at *;replace hbb:=Lib.hid hbb;replace hsz:=Lib.hid hsz;replace hln:=Lib.hid hln;obtain ⟨⟨y0,y1,y2,y3,y4⟩,-⟩:=blk5 S.out.box;obtain ⟨⟨z0,z1,z2,z3,z4⟩,⟨f0,f1,f2,f3,f4⟩⟩:=blk5 S.out.res;obtain ⟨u0,u1,u2,-,-,-⟩:=blk3 S.out.tb;go_upto_region 34 with (fail)
       go_region_with (first | (go_at_call 69;refine (KD.out _ _ _ (by repeat (first | exact E4.out | refine SL.drew ?_)) (by repeat (first | exact hst.out | refine strs_drew9 ?_))).mono ?_;rintro e V5 ⟨rfl,E5⟩;obtain ⟨⟨y0,y1,y2,y3,y4⟩,-⟩:=blk5 E5.box;obtain ⟨⟨z0,z1,z2,z3,z4⟩,⟨f0,f1,f2,f3,f4⟩⟩:=blk5 E5.res;obtain ⟨u0,u1,u2,-,-,-⟩:=blk3 E5.tb;replace E5:=Lib.hid E5;go_simp) | (go_at_call 70;refine (KC.out _ (by repeat (first | exact S.out | refine SL.drew ?_))).mono ?_;rintro e V4 ⟨A,c,rfl,hst,E4⟩;obtain ⟨⟨y0,y1,y2,y3,y4⟩,-⟩:=blk5 E4.box;obtain ⟨⟨z0,z1,z2,z3,z4⟩,⟨f0,f1,f2,f3,f4⟩⟩:=blk5 E4.res;obtain ⟨u0,u1,u2,-,-,-⟩:=blk3 E4.tb;replace E4:=Lib.hid E4;replace hst:=Lib.hid hst;go_simp))
       all_goals
        go_wp2;refine bodyPost_ret (v:=.tuple #[.agg #[.slice X1 d.t.us.length k1,.slice X2 d.t.bs.length k2,.slice X3 d.t.ns.length k3,.int .i64 d.now,.slice X5 d.past.length k5],.string tx]) (by simp [results,Tryz.results21,go_sem,z0,z1,z2,z3,z4]) rfl ?_;exact RetML.as (by first | exact E5.out.fin _ _ _ _ _ _ | exact E5.out.drew.fin _ _ _ _ _ _ | exact RetML.drew (E5.out.fin _ _ _ _ _ _)) hdR.out htx.out
     have n5:s≠turnedW:=h5;clear h5
     by_cases h6:s=awayW
     · have t0:(s.toList==[110,117,109,98,101,114])=false:=test_no n0 rfl;have t1:(s.toList==[110,97,109,101])=false:=test_no n1 rfl;have t2:(s.toList==[119,111,114,100,115])=false:=test_no n2 rfl;have t3:(s.toList==[99,111,117,110,116])=false:=test_no n3 rfl;have t4:(s.toList==[114,105,110,103])=false:=test_no n4 rfl;have t5:(s.toList==[116,117,114,110,101,100])=false:=test_no n5 rfl;have t6:(s.toList==[97,119,97,121])=true:=test_yes h6 rfl;have hp:=ask_place 6 (by decide) h6;have htx:orNone ⟨#[32]⟩ (shortOf d.t d.now fromW 3)=tR:=by rw [← htR.out];unfold ansL;rw [hp];rfl
       replace htx:=Lib.hid htx;replace hp:=Lib.hid hp;replace h6:=Lib.hid h6;replace n0:=Lib.hid n0;replace n1:=Lib.hid n1;replace n2:=Lib.hid n2;replace n3:=Lib.hid n3;replace n4:=Lib.hid n4;replace n5:=Lib.hid n5;have hbb:(shortB d.t d.now fromW 3)=decide (0 < (shortOf d.t d.now fromW 3).length):=rfl;have hln:(shortOf d.t d.now fromW 3).length≤1000:=by have:=short_len d.t d.now fromW 3;omega
       have hsz:∀ y ∈ shortOf d.t d.now fromW 3,y.size≤3000:=fun y hy=>by have:=short_size _ _ _ _ y hy;omega
       have KC:∀ W2,SL w (w.heap.size+1) q6 q11 d #[.slice X1 d.t.us.length k1,.slice X2 d.t.bs.length k2,.slice X3 d.t.ns.length k3,.int .i64 d.now,.slice X5 d.past.length k5] #[.slice A1 d.t.us.length c1,.slice A2 d.t.bs.length c2,.slice A3 d.t.ns.length c3] W2→Calls Tryz.prog 71 #[.agg #[.slice A1 d.t.us.length c1,.slice A2 d.t.bs.length c2,.slice A3 d.t.ns.length c3],.int .i64 d.now,.string fromW,.int .i64 3] W2 (fun e V=>∃ A c,e=.returned (.tuple #[.slice A (shortOf d.t d.now fromW 3).length c,.bool (shortB d.t d.now fromW 3)])∧Strs V A (shortOf d.t d.now fromW 3).length c (shortOf d.t d.now fromW 3)∧SL w (w.heap.size+1) q6 q11 d #[.slice X1 d.t.us.length k1,.slice X2 d.t.bs.length k2,.slice X3 d.t.ns.length k3,.int .i64 d.now,.slice X5 d.past.length k5] #[.slice A1 d.t.us.length c1,.slice A2 d.t.bs.length c2,.slice A3 d.t.ns.length c3] V):=fun W2 S2=>by
        refine (specShorterName_any _ d.t d.now fromW 3 W2 S2.tng hf.out.t (by omega) (by decide) (by omega)).mono ?_;rintro e V ⟨v1,rfl,o1,hb⟩;obtain ⟨A,c,rfl,hst⟩:=o1.strs;exact ⟨A,c,rfl,hst,S2.below hb⟩
       replace KC:=Lib.hid KC;generalize shortB d.t d.now fromW 3=bb at *;generalize shortOf d.t d.now fromW 3=xs at *
       have KD:∀ A c W2,SL w (w.heap.size+1) q6 q11 d #[.slice X1 d.t.us.length k1,.slice X2 d.t.bs.length k2,.slice X3 d.t.ns.length k3,.int .i64 d.now,.slice X5 d.past.length k5] #[.slice A1 d.t.us.length c1,.slice A2 d.t.bs.length c2,.slice A3 d.t.ns.length c3] W2→Strs W2 A xs.length c xs→Calls Tryz.prog 69 #[.slice A xs.length c,.bool bb] W2 (fun e V=>e=.returned (.string (orNone ⟨#[32]⟩ xs))∧SL w (w.heap.size+1) q6 q11 d #[.slice X1 d.t.us.length k1,.slice X2 d.t.bs.length k2,.slice X3 d.t.ns.length k3,.int .i64 d.now,.slice X5 d.past.length k5] #[.slice A1 d.t.us.length c1,.slice A2 d.t.bs.length c2,.slice A3 d.t.ns.length c3] V):=fun A c W2 S2 hst=>by
        refine (specJoined_any A c xs bb W2 hst hln hsz hbb).mono ?_;rintro e V ⟨rfl,rfl⟩;exact ⟨rfl,S2⟩
       replace KD:=Lib.hid KD;generalize orNone ⟨#[32]⟩ xs=tx at *;replace hbb:=Lib.hid hbb;replace hsz:=Lib.hid hsz;replace hln:=Lib.hid hln;obtain ⟨⟨y0,y1,y2,y3,y4⟩,-⟩:=blk5 S.out.box;obtain ⟨⟨z0,z1,z2,z3,z4⟩,⟨f0,f1,f2,f3,f4⟩⟩:=blk5 S.out.res;obtain ⟨u0,u1,u2,-,-,-⟩:=blk3 S.out.tb;go_upto_region 36 with (fail)
       go_region_with (first | (go_at_call 69;refine (KD.out _ _ _ (by repeat (first | exact E4.out | refine SL.drew ?_)) (by repeat (first | exact hst.out | refine strs_drew9 ?_))).mono ?_;rintro e V5 ⟨rfl,E5⟩;obtain ⟨⟨y0,y1,y2,y3,y4⟩,-⟩:=blk5 E5.box;obtain ⟨⟨z0,z1,z2,z3,z4⟩,⟨f0,f1,f2,f3,f4⟩⟩:=blk5 E5.res;obtain ⟨u0,u1,u2,-,-,-⟩:=blk3 E5.tb;replace E5:=Lib.hid E5;go_simp) | (go_at_call 71;refine (KC.out _ (by repeat (first | exact S.out | refine SL.drew ?_))).mono ?_;rintro e V4 ⟨A,c,rfl,hst,E4⟩;obtain ⟨⟨y0,y1,y2,y3,y4⟩,-⟩:=blk5 E4.box;obtain ⟨⟨z0,z1,z2,z3,z4⟩,⟨f0,f1,f2,f3,f4⟩⟩:=blk5 E4.res;obtain ⟨u0,u1,u2,-,-,-⟩:=blk3 E4.tb;replace E4:=Lib.hid E4;replace hst:=Lib.hid hst;go_simp))
       all_goals
        go_wp2;refine bodyPost_ret (v:=.tuple #[.agg #[.slice X1 d.t.us.length k1,.slice X2 d.t.bs.length k2,.slice X3 d.t.ns.length k3,.int .i64 d.now,.slice X5 d.past.length k5],.string tx]) (by simp [results,Tryz.results21,go_sem,z0,z1,z2,z3,z4]) rfl ?_;exact RetML.as (by first | exact E5.out.fin _ _ _ _ _ _ | exact E5.out.drew.fin _ _ _ _ _ _ | exact RetML.drew (E5.out.fin _ _ _ _ _ _)) hdR.out htx.out
     have n6:s≠awayW:=h6;clear h6;have t0:(s.toList==[110,117,109,98,101,114])=false:=test_no n0 rfl;have t1:(s.toList==[110,97,109,101])=false:=test_no n1 rfl;have t2:(s.toList==[119,111,114,100,115])=false:=test_no n2 rfl;have t3:(s.toList==[99,111,117,110,116])=false:=test_no n3 rfl;have t4:(s.toList==[114,105,110,103])=false:=test_no n4 rfl;have t5:(s.toList==[116,117,114,110,101,100])=false:=test_no n5 rfl;have t6:(s.toList==[97,119,97,121])=false:=test_no n6 rfl;have hp:=ask_none (s:=s) (fun k hk=>match k,hk with | 0,_=>n0 | 1,_=>n1 | 2,_=>n2 | 3,_=>n3 | 4,_=>n4 | 5,_=>n5 | 6,_=>n6);have hA:ansL d s=if tailB readW s=true then tellR d (tailT readW s) else if tailB spokenW s=true then tellS d (tailT spokenW s) else whatT:=by unfold ansL;rw [if_neg hp]
     rw [hA] at htR;clear hA;replace n0:=Lib.hid n0;replace n1:=Lib.hid n1;replace n2:=Lib.hid n2;replace n3:=Lib.hid n3;replace n4:=Lib.hid n4;replace n5:=Lib.hid n5;replace n6:=Lib.hid n6;replace hp:=Lib.hid hp;have hz1:(tailT readW s).size≤1048576:=by have:=tail_size9 readW s;omega
     have hz2:(tailT spokenW s).size≤1048576:=by have:=tail_size9 spokenW s;omega
     cases hb1:tailB readW s
     · have KT:=specTail_any s readW V3 hs (by decide);rw [hb1,if_neg Bool.false_ne_true] at KT htR;replace KT:=Lib.hid KT;replace hb1:=Lib.hid hb1;go_upto_region 37 with (fail)
       go_wp2_with (go_at_call 72;refine KT.out.mono ?_;rintro e V4 ⟨rfl,hV4⟩;refine Hid.out ?_);subst hV4;clear KT;refine Lib.hid ?_;cases hb2:tailB spokenW s
       · have KT:=specTail_any s spokenW V3 hs (by decide);rw [hb2,if_neg Bool.false_ne_true] at KT htR;replace KT:=Lib.hid KT;replace hb2:=Lib.hid hb2;have htx:=htR;go_upto_region 43 with (fail)
         go_wp2_with (go_at_call 72;refine KT.out.mono ?_;rintro e V4 ⟨rfl,hV4⟩;refine Hid.out ?_);subst hV4;clear KT;refine Lib.hid ?_;obtain ⟨⟨y0,y1,y2,y3,y4⟩,-⟩:=blk5 S.out.box;obtain ⟨⟨z0,z1,z2,z3,z4⟩,⟨f0,f1,f2,f3,f4⟩⟩:=blk5 S.out.res;obtain ⟨u0,u1,u2,-,-,-⟩:=blk3 S.out.tb;have hfin:=fun u0 u1 u2 u3 u4=>S.out.fin ⟨#[119,104,97,116]⟩ u0 u1 u2 u3 u4
         replace hfin:=Lib.hid hfin;go_wp2;refine bodyPost_ret (v:=.tuple #[.agg #[.slice X1 d.t.us.length k1,.slice X2 d.t.bs.length k2,.slice X3 d.t.ns.length k3,.int .i64 d.now,.slice X5 d.past.length k5],.string ⟨#[119,104,97,116]⟩]) (by simp [results,Tryz.results21,go_sem,z0,z1,z2,z3,z4]) rfl ?_;exact RetML.as (hfin.out _ _ _ _ _) hdR.out htx.out
       · have KT:=specTail_any s spokenW V3 hs (by decide);rw [hb2,if_pos rfl] at KT htR;replace KT:=Lib.hid KT;replace hb2:=Lib.hid hb2;have htx:=htR;go_upto_region 43 with (fail)
         go_wp2_with (go_at_call 72;refine KT.out.mono ?_;rintro e V4 ⟨rfl,hV4⟩;refine Hid.out ?_);subst hV4;clear KT;refine Lib.hid ?_;generalize tailT spokenW s=x at *;have KS:=Lib.hid (specSpokenOf_any _ d.t x V3 S.out.tng hf.out.t (by omega));have htx2:orNone ⟨#[44]⟩ (spokenL d.t (tl x))=tR:=htx.out;replace htx:=Lib.hid htx2;clear htx2;have hpos:∀ y ∈ spokenL d.t (tl x),1≤y.size∧y.size≤3000:=fun y hy=>by have:=spoken_pos _ _ y hy;omega
         have hln:(spokenL d.t (tl x)).length≤1000:=by have:=spokenL_len d.t (tl x);omega
         generalize spokenL d.t (tl x)=xs at *;have hat:=Lib.hid (at_le (fun y hy=>(hpos y hy).2));have hjs:=Lib.hid (joinG_size (sep:=⟨#[44]⟩) (at_le (fun y hy=>(hpos y hy).2)));replace hpos:=Lib.hid hpos;obtain ⟨u0,u1,u2,-,-,-⟩:=blk3 S.out.tb;go_upto_region 47 with (fail)
         go_wp2_with (go_at_call 74;refine KS.out.mono ?_;rintro e V4 ⟨v1,rfl,o1,b4⟩;refine Hid.out ?_);obtain ⟨A,c,rfl,hst⟩:=o1.strs;replace S:=Lib.hid (S.out.below b4);clear b4 KS o1 u0 u1 u2;refine Lib.hid ?_;generalize hL:xs.length=L at *;replace hL:=Lib.hid hL;go_upto_region 48 with (fail)
         go_wp2
         go_loop [22,24] (fun s22 s24=>∃ k:Nat,k≤L∧s24=.int .i64 k∧s22=.string (joinG ⟨#[44]⟩ xs k)) (fun _ i=>L - (intOf i).toNat)
         case atStart=>exact ⟨0,Nat.zero_le _,rfl,rfl⟩
         case round =>
          obtain ⟨k,hk,rfl,rfl⟩:=hrel
          by_cases hlt:k < L
          · obtain ⟨b,o,rfl,-,hc⟩:=hst.at_ (by omega);have ck:=hc k hlt;have HJ:joinG ⟨#[44]⟩ xs (k+1)=(if 0 < k then joinG ⟨#[44]⟩ xs k++⟨#[44]⟩ else joinG ⟨#[44]⟩ xs k)++xs.getD k ByteArray.empty:=rfl;have z1:=hjs.out k;have z2:=hat.out k;have y1:(⟨#[44]⟩:ByteArray).size=1:=rfl;have z3:(3000+(⟨#[44]⟩:ByteArray).size) * k≤3001 * 1000:=Nat.mul_le_mul (by omega) (by omega);generalize xs.getD k ByteArray.empty=tx at *;generalize joinG ⟨#[44]⟩ xs k=out at *;have y2:(out++⟨#[44]⟩).size=out.size+1:=by rw [ByteArray.size_append,y1]
            have y3:¬ (9223372036854775807 < out.size+1):=by omega
            have y4:¬ (9223372036854775807 < out.size+1+tx.size):=by omega
            have y5:¬ (9223372036854775807 < out.size+tx.size):=by omega
            clear hc z3 z1
            by_cases h0:0 < k
            · have h0':(0:Int) < (k:Int):=by omega
              rw [if_pos h0] at HJ;replace HJ:=Lib.hid HJ;go_wp2
              go_round
              case rel=>exact ⟨k+1,by omega,by go_num,by rw [HJ.out]⟩
              case measure=>simp [intOf];omega
            · have h0':¬ (0:Int) < (k:Int):=by omega
              rw [if_neg h0] at HJ;replace HJ:=Lib.hid HJ;go_wp2
              go_round
              case rel=>exact ⟨k+1,by omega,by go_num,by rw [HJ.out]⟩
              case measure=>simp [intOf];omega
          · obtain rfl:k=L:=by omega
            clear hst
            by_cases h0:0 < k
            · have hz:orNone ⟨#[44]⟩ xs=joinG ⟨#[44]⟩ xs k:=by unfold orNone;rw [if_pos (by rw [hL.out];exact h0),hL.out]
              have hq:=joinG_pos (sep:=⟨#[44]⟩) (k:=k) (fun y hy=>(hpos.out y hy).1) h0 (by rw [hL.out];exact Nat.le_refl _);rw [hz] at htx;replace hz:=Lib.hid hz;generalize joinG ⟨#[44]⟩ xs k=res at *;have hre:res.toList.isEmpty=false:=by rw [emp_iff];exact decide_eq_false (by rintro rfl;exact absurd hq (by decide))
              replace hq:=Lib.hid hq;obtain ⟨⟨y0,y1,y2,y3,y4⟩,-⟩:=blk5 S.out.box;obtain ⟨⟨z0,z1,z2,z3,z4⟩,⟨f0,f1,f2,f3,f4⟩⟩:=blk5 S.out.res;obtain ⟨u0,u1,u2,-,-,-⟩:=blk3 S.out.tb;have hfin:=fun u0 u1 u2 u3 u4=>S.out.fin res u0 u1 u2 u3 u4
              replace hfin:=Lib.hid hfin;go_wp2;refine bodyPost_ret (v:=.tuple #[.agg #[.slice X1 d.t.us.length k1,.slice X2 d.t.bs.length k2,.slice X3 d.t.ns.length k3,.int .i64 d.now,.slice X5 d.past.length k5],.string res]) (by simp [results,Tryz.results21,go_sem,z0,z1,z2,z3,z4]) rfl ?_;exact RetML.as (hfin.out _ _ _ _ _) hdR.out htx.out
            · obtain rfl:k=0:=by omega
              have hz:orNone ⟨#[44]⟩ xs=noneT:=by unfold orNone;rw [if_neg (by rw [hL.out];exact h0)]
              rw [hz] at htx;replace hz:=Lib.hid hz;have hre:(joinG ⟨#[44]⟩ xs 0).toList.isEmpty=true:=by rw [emp_iff];exact decide_eq_true rfl
              generalize joinG ⟨#[44]⟩ xs 0=res at *;obtain ⟨⟨y0,y1,y2,y3,y4⟩,-⟩:=blk5 S.out.box;obtain ⟨⟨z0,z1,z2,z3,z4⟩,⟨f0,f1,f2,f3,f4⟩⟩:=blk5 S.out.res;obtain ⟨u0,u1,u2,-,-,-⟩:=blk3 S.out.tb;have hfin:=fun u0 u1 u2 u3 u4=>S.out.fin ⟨#[110,111,110,101]⟩ u0 u1 u2 u3 u4
              replace hfin:=Lib.hid hfin;go_wp2;refine bodyPost_ret (v:=.tuple #[.agg #[.slice X1 d.t.us.length k1,.slice X2 d.t.bs.length k2,.slice X3 d.t.ns.length k3,.int .i64 d.now,.slice X5 d.past.length k5],.string ⟨#[110,111,110,101]⟩]) (by simp [results,Tryz.results21,go_sem,z0,z1,z2,z3,z4]) rfl ?_;exact RetML.as (hfin.out _ _ _ _ _) hdR.out htx.out
     · have KT:=specTail_any s readW V3 hs (by decide);rw [hb1,if_pos rfl] at KT htR;replace KT:=Lib.hid KT;replace hb1:=Lib.hid hb1;have htx:=htR;go_upto_region 37 with (fail)
       go_wp2_with (go_at_call 72;refine KT.out.mono ?_;rintro e V4 ⟨rfl,hV4⟩;refine Hid.out ?_);subst hV4;clear KT;refine Lib.hid ?_;generalize tailT readW s=x at *;have KR:=Lib.hid (specReadText_any _ d.t x V3 S.out.tng hf.out.t (by omega));have htx2:(if readTB d.t x=true then numT (readTV d.t x) else noneT)=tR:=htx.out;replace htx:=htx2;clear htx2;have hbd:=fun (hb:readTB d.t x=true)=>read_bdA hb
       generalize readTB d.t x=bb at *;generalize readTV d.t x=bv at *;replace hbd:=Lib.hid hbd;replace htx:=Lib.hid htx;obtain ⟨u0,u1,u2,-,-,-⟩:=blk3 S.out.tb;go_upto_region 39 with (fail)
       go_wp2_with (go_at_call 73;refine KR.out.mono ?_;rintro e V4 ⟨rfl,b4⟩;refine Hid.out ?_);replace S:=Lib.hid (S.out.below b4);clear b4 KR u0 u1 u2;refine Lib.hid ?_;cases bb
       · have htx2:noneT=tR:=by rw [← htx.out];rfl
         replace htx:=Lib.hid htx2;clear htx2;obtain ⟨⟨y0,y1,y2,y3,y4⟩,-⟩:=blk5 S.out.box;obtain ⟨⟨z0,z1,z2,z3,z4⟩,⟨f0,f1,f2,f3,f4⟩⟩:=blk5 S.out.res;obtain ⟨u0,u1,u2,-,-,-⟩:=blk3 S.out.tb;have hfin:=fun u0 u1 u2 u3 u4=>S.out.fin ⟨#[110,111,110,101]⟩ u0 u1 u2 u3 u4
         replace hfin:=Lib.hid hfin;go_wp2;refine bodyPost_ret (v:=.tuple #[.agg #[.slice X1 d.t.us.length k1,.slice X2 d.t.bs.length k2,.slice X3 d.t.ns.length k3,.int .i64 d.now,.slice X5 d.past.length k5],.string ⟨#[110,111,110,101]⟩]) (by simp [results,Tryz.results21,go_sem,z0,z1,z2,z3,z4]) rfl ?_;exact RetML.as (hfin.out _ _ _ _ _) hdR.out htx.out
       · have htx2:numT bv=tR:=by rw [← htx.out];rfl
         replace htx:=Lib.hid htx2;clear htx2;have hbv:=hbd.out rfl
         have KC:∀ W2,SL w (w.heap.size+1) q6 q11 d #[.slice X1 d.t.us.length k1,.slice X2 d.t.bs.length k2,.slice X3 d.t.ns.length k3,.int .i64 d.now,.slice X5 d.past.length k5] #[.slice A1 d.t.us.length c1,.slice A2 d.t.bs.length c2,.slice A3 d.t.ns.length c3] W2→Calls Tryz.prog 64 #[.int .i64 bv] W2 (fun e V=>e=.returned (.string (numT bv))∧SL w (w.heap.size+1) q6 q11 d #[.slice X1 d.t.us.length k1,.slice X2 d.t.bs.length k2,.slice X3 d.t.ns.length k3,.int .i64 d.now,.slice X5 d.past.length k5] #[.slice A1 d.t.us.length c1,.slice A2 d.t.bs.length c2,.slice A3 d.t.ns.length c3] V):=fun W2 S2=>by
          refine (num_int bv W2 (by omega) (by omega)).mono ?_;rintro e V ⟨rfl,hb⟩;exact ⟨rfl,S2.below hb⟩
         replace KC:=Lib.hid KC;generalize numT bv=tx at *;obtain ⟨⟨y0,y1,y2,y3,y4⟩,-⟩:=blk5 S.out.box;obtain ⟨⟨z0,z1,z2,z3,z4⟩,⟨f0,f1,f2,f3,f4⟩⟩:=blk5 S.out.res;obtain ⟨u0,u1,u2,-,-,-⟩:=blk3 S.out.tb;go_upto_region 42 with (fail)
         go_region_with (go_at_call 64;refine (KC.out _ (by repeat (first | exact S.out | refine SL.drew ?_))).mono ?_;rintro e V4 ⟨rfl,E4⟩;obtain ⟨⟨y0,y1,y2,y3,y4⟩,-⟩:=blk5 E4.box;obtain ⟨⟨z0,z1,z2,z3,z4⟩,⟨f0,f1,f2,f3,f4⟩⟩:=blk5 E4.res;obtain ⟨u0,u1,u2,-,-,-⟩:=blk3 E4.tb;replace E4:=Lib.hid E4;go_simp)
         all_goals
          go_wp2;refine bodyPost_ret (v:=.tuple #[.agg #[.slice X1 d.t.us.length k1,.slice X2 d.t.bs.length k2,.slice X3 d.t.ns.length k3,.int .i64 d.now,.slice X5 d.past.length k5],.string tx]) (by simp [results,Tryz.results21,go_sem,z0,z1,z2,z3,z4]) rfl ?_;exact RetML.as (by first | exact E4.out.fin _ _ _ _ _ _ | exact E4.out.drew.fin _ _ _ _ _ _ | exact RetML.drew (E4.out.fin _ _ _ _ _ _)) hdR.out htx.out
   · have hg:=hPdo.out hok.out hr;have r1:(dkDo d (rdV (tl s))).1=dR:=by rw [← hdR.out,hg]
     have r2:doneT (dkDo d (rdV (tl s))).2=tR:=by rw [← htR.out,hg]
     clear hg hPas hPdo;rw [hr] at KR;replace hr:=Lib.hid hr;generalize rdV (tl s)=a at *;obtain ⟨xk,xn⟩:=a
     dsimp only at KR
     replace KR:=Lib.hid KR;have K3:=Lib.hid (fun v9 W2 (hD:Dsk W2 v9 d)=>specDeskDo_any v9 d ⟨xk,xn⟩ W2 hD hf.out);generalize dkDo d ⟨xk,xn⟩=r at *;obtain ⟨du,ru⟩:=r
     dsimp only at r1 r2 K3
     replace hdR:=Lib.hid r1;replace htR:=Lib.hid r2;clear r1 r2;go_wp2_with (go_at_call 46;refine KR.out.mono ?_;rintro e w3 ⟨rfl,b3⟩;refine Hid.out ?_);have hal:=(Below.refl w3.heap.size w3).alloc (Nat.le_refl _) (.cells #[.int .i64 xk,.int .i64 xn] 41);have hba:=b3.trans (hal.mono b3.size);have XB:=Lib.hid (XA.out.below hba XA.out.lt);have ZB:=Lib.hid (ZA.out.below hba ZA.out.lt);have BB:=Lib.hid (BA.out.trans (hba.mono BA.out.size));have HDB:=Lib.hid (HDV.out.below hba (Nat.le_refl _));have HY:=Lib.hid (Blk.new w3 41 #[.int .i64 xk,.int .i64 xn]);clear hal hba b3 KR XA ZA BA HDV OA QA;refine Lib.hid ?_;go_upto_region 6 with (fail)
     generalize w3.alloc (.cells #[.int .i64 xk,.int .i64 xn] 41)=V2 at *;generalize w3.heap.size=q7 at *;obtain ⟨⟨x0,x1,x2,x3,x4⟩,-⟩:=blk5 XB.out;have y0:V2.cell? ⟨q7,0,none⟩=some (.int .i64 xk):=HY.out.cell 0;have y1:V2.cell? ⟨q7,1,none⟩=some (.int .i64 xn):=HY.out.cell 1;replace K3:=Lib.hid (K3.out _ V2 HDB.out);go_wp2_with (go_at_call 63;refine K3.out.mono ?_;rintro e w4 ⟨v4,rfl,o4,-,b4⟩;obtain ⟨U1,j1,U2,j2,U3,j3,U5,j5,rfl,-⟩:=o4.dsk.ex;refine Hid.out ?_);have hbb:=b4.alloc b4.size (.cells #[.slice U1 du.t.us.length j1,.slice U2 du.t.bs.length j2,.slice U3 du.t.ns.length j3,.int .i64 du.now,.slice U5 du.past.length j5] 33);have o4':=Lib.hid ((o4.mono (B':=w.heap.size) BB.out.size).below ((Below.refl w4.heap.size w4).alloc (Nat.le_refl _) (.cells #[.slice U1 du.t.us.length j1,.slice U2 du.t.bs.length j2,.slice U3 du.t.ns.length j3,.int .i64 du.now,.slice U5 du.past.length j5] 33)) (Nat.le_refl _));have Q3:=Lib.hid (Blk.new w4 33 #[.slice U1 du.t.us.length j1,.slice U2 du.t.bs.length j2,.slice U3 du.t.ns.length j3,.int .i64 du.now,.slice U5 du.past.length j5]);replace BB:=Lib.hid (BB.out.trans (hbb.mono BB.out.size));replace ZB:=Lib.hid (ZB.out.below hbb ZB.out.lt);clear o4 b4 hbb y0 y1 x0 x1 x2 x3 x4 XB HDB HY K3;refine Lib.hid ?_;go_upto_region 7 with (fail)
     generalize w4.alloc (.cells #[.slice U1 du.t.us.length j1,.slice U2 du.t.bs.length j2,.slice U3 du.t.ns.length j3,.int .i64 du.now,.slice U5 du.past.length j5] 33)=W3 at *;generalize w4.heap.size=q3 at *;obtain ⟨⟨x0,x1,x2,x3,x4⟩,-⟩:=blk5 Q3.out;obtain ⟨⟨z0,z1,z2,z3,z4⟩,⟨e0,e1,e2,e3,e4⟩⟩:=blk5 ZB.out;have hfin:∀ b (u0 u1 u2 u3 u4:Value),RetML w du b (.returned (.tuple #[.agg #[.slice U1 du.t.us.length j1,.slice U2 du.t.bs.length j2,.slice U3 du.t.ns.length j3,.int .i64 du.now,.slice U5 du.past.length j5],.string b])) (((((W3.setCell ⟨w.heap.size+1,0,none⟩ u0).setCell ⟨w.heap.size+1,1,none⟩ u1).setCell ⟨w.heap.size+1,2,none⟩ u2).setCell ⟨w.heap.size+1,3,none⟩ u3).setCell ⟨w.heap.size+1,4,none⟩ u4):=fun b u0 u1 u2 u3 u4=>⟨_,rfl,own_md5 o4'.out ZB.out,below_dk5 BB.out (by omega)⟩
     replace hfin:=Lib.hid hfin;clear o4' Q3 ZB BB;cases ru
     · go_wp2;refine bodyPost_ret (v:=.tuple #[.agg #[.slice U1 du.t.us.length j1,.slice U2 du.t.bs.length j2,.slice U3 du.t.ns.length j3,.int .i64 du.now,.slice U5 du.past.length j5],.string ⟨#[110,111,116]⟩]) (by simp [results,Tryz.results21,go_sem,z0,z1,z2,z3,z4]) rfl ?_;exact RetML.as (hfin.out _ _ _ _ _ _) hdR.out htR.out
     · go_wp2;refine bodyPost_ret (v:=.tuple #[.agg #[.slice U1 du.t.us.length j1,.slice U2 du.t.bs.length j2,.slice U3 du.t.ns.length j3,.int .i64 du.now,.slice U5 du.past.length j5],.string ⟨#[111,107]⟩]) (by simp [results,Tryz.results21,go_sem,z0,z1,z2,z3,z4]) rfl ?_;exact RetML.as (hfin.out _ _ _ _ _ _) hdR.out htR.out
end Go.Proofs.YtmhgpbfogdoaeaaGreatDoor
