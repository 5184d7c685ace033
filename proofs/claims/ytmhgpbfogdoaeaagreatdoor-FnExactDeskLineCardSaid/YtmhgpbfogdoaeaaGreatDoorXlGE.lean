/-
  GE: DMark DHo DHp OpenD ExD.
-/
import Derived.Test.YtmhgpbfogdoaeaaGreatDoorXlGK
import Derived.Test.YtmhgpbfogdoaeaaGreatDoorXlGA
import Derived.Test.YtmhgpbfogdoaeaaGreatDoorXlGT
import Derived.Test.YtmhgpbfogdoaeaaGreatDoorXlHeldT
import Derived.Test.YtmhgpbfogdoaeaaGreatDoorXlOpenI
namespace Go.Proofs.YtmhgpbfogdoaeaaGreatDoor
section
open Go.RowKit
set_option maxHeartbeats 1000000 in
theorem markTail_any (B:Nat) (v:Value) (xs:List Int) (k:Int) (w:World) (h:TailI w B v xs) (hn:xs.length≤1048576) (hk:0≤k∧k≤5000000) :
 Calls Tryz.prog 83 #[v,.int .i64 k] w fun e w'=>e=.returned (.int .i64 (k+xs.length))∧TailI w' B v (marks k xs.length)∧w.grownBy w' v.ownBlock∧w'.heap.size=w.heap.size:=by
 rcases h.ex with h | ⟨z,g,cap,h1,rfl⟩
 · refine (markIntS_any B v xs.length xs k w h hn hk).mono ?_;rintro e w' ⟨he,ho,hg,hs⟩;exact ⟨he,⟨.inl (by unfold OwnI;rw [marks_length];exact ho)⟩,hg,hs⟩
 · generalize hnx:xs.length=n at *;have h0:w.ownsRow B 3 1 (.slice (some ⟨g,0,none⟩) (n+1) (cap+1)) (n+1) ((z :: xs).map (Value.int .i64)):=by unfold OwnI at h1;rw [List.length_cons,hnx] at h1;exact h1
   replace hnx:=Lib.hid hnx;clear h h1;go_enter Tryz.func83,Tryz.ntmps83;go_wp2
   go_loopw [1,5] (fun kk i wr=>∃ (j:Nat) (zs:List Int),j≤n∧i=.int .i64 j∧kk=.int .i64 (k+j)∧wr.ownsRow B 3 1 (.slice (some ⟨g,0,none⟩) (n+1) (cap+1)) (n+1) ((z :: zs).map (Value.int .i64))∧(∀ i,i < j→zs.getD i 0=k+i)∧w.grownBy wr (some g)∧wr.heap.size=w.heap.size) (fun _ i _=>n - (intOf i).toNat)
   case atStart=>exact ⟨0,xs,Nat.zero_le _,rfl,by simp,h0,fun i hi=>by omega,World.grownBy.refl w _,rfl⟩
   case round =>
    obtain ⟨j,zs,hj,rfl,rfl,ho,hz,hg,hs⟩:=hrel;have hzl:zs.length=n:=by have:=ho.1;simpa using this
    by_cases hlt2:j < n
    · have c1:wr.cell? ⟨g,1+j,none⟩=some (.int .i64 (zs.getD j 0)):=by
       rw [ho.cellAt (1+j) (by omega),Nat.add_comm 1 j]
       simp [List.getElem?_eq_getElem (show j < zs.length by omega)]
      have f1:=ho.frozenAt (1+j);have hst:=ho.stored (1+j) (.int .i64 (k+j))
      have HZ:∀ i,i < j+1→(zs.set j (k+j)).getD i 0=k+i:=fun i hi=>by
       by_cases e:j=i
       · subst e;simp [List.getD_eq_getElem?_getD,show j < zs.length by omega]
       · have:=hz i (by omega)
         simpa [List.getD_eq_getElem?_getD,List.getElem?_set,e] using this
      have HG:=hg.trans hst.2;have HS:(wr.setCell ⟨g,1+j,none⟩ (.int .i64 (k+j))).heap.size=w.heap.size:=by simpa [World.setCell] using hs
      have HO:(wr.setCell ⟨g,1+j,none⟩ (.int .i64 (k+j))).ownsRow B 3 1 (.slice (some ⟨g,0,none⟩) (n+1) (cap+1)) (n+1) ((z :: zs.set j (k+j)).map (Value.int .i64)):=by
       have:=hst.1;rw [Nat.add_comm 1 j,List.map_cons,List.set_cons_succ] at this;rw [Nat.add_comm 1 j,List.map_cons,List.map_set];exact this
      generalize zs.getD j 0=zz at *;replace HZ:=Lib.hid HZ;replace HG:=Lib.hid HG;replace HS:=Lib.hid HS;replace HO:=Lib.hid HO;clear hst ho hz hg hs hzl h0;go_wp2
      go_roundw
      case rel=>exact ⟨j+1,_,by omega,by go_num,by simp;omega,HO.out,HZ.out,HG.out,HS.out⟩
      case measure=>simp [intOf];omega
    · obtain rfl:j=n:=by omega
      have hm:zs=marks k j:=by
       apply List.ext_getElem (by rw [marks_length];exact hzl);intro i h1 h2;have h3:=hz i (by omega);have h4:=marks_at k (n:=j) (j:=i) (by omega);simp only [List.getD_eq_getElem?_getD,List.getElem?_eq_getElem h1,Option.getD_some] at h3;simp only [List.getD_eq_getElem?_getD,List.getElem?_eq_getElem h2,Option.getD_some] at h4;rw [h3,h4]
      rw [hm] at ho;have HT:TailI wr B (.slice (some ⟨g,1,none⟩) j cap) (marks k j):=⟨.inr ⟨z,g,cap,by unfold OwnI;rw [List.length_cons,marks_length];exact ho,by rw [marks_length]⟩⟩;replace HT:=Lib.hid HT;replace hg:=Lib.hid hg;replace hs:=Lib.hid hs;clear hz hm hzl h0 ho;go_wp2;go_ret;exact ⟨rfl,HT.out,hg.out,hs.out⟩
end
section
open Go.RowKit
structure DskIn (w:World) (v:Value) (d:Dk):Prop where
 ex:∃ A1 c1 A2 c2 A3 c3 A5 c5,v=.agg #[.slice A1 d.t.us.length c1,.slice A2 d.t.bs.length c2,.slice A3 d.t.ns.length c3,.int .i64 d.now,.slice A5 d.past.length c5]∧TngIn w (.agg #[.slice A1 d.t.us.length c1,.slice A2 d.t.bs.length c2,.slice A3 d.t.ns.length c3]) d.t∧Ints w .i64 A5 d.past.length c5 d.past∧c5≤maxLen
 wf:∀ x ∈ d.past,(Lit.int .i64 x).wf=true
 now:-9223372036854775808≤d.now∧d.now≤9223372036854775807
theorem DskIn.dsk {w:World} {v:Value} {d:Dk} (h:DskIn w v d):Dsk w v d:=by
 obtain ⟨A1,c1,A2,c2,A3,c3,A5,c5,rfl,ht,h5,-⟩:=h.ex;obtain ⟨B1,e1,B2,e2,B3,e3,e,h1,h2,h3,-⟩:=ht.ex;cases e;exact ⟨_,_,_,_,_,_,_,_,rfl,h1,h2,h3,h5⟩
theorem DskIn.below {w w':World} {B:Nat} {v:Value} {d:Dk} (h:DskIn w v d) (hb:Below B w w') (hB:w.heap.size≤B):DskIn w' v d:=by
 obtain ⟨A1,c1,A2,c2,A3,c3,A5,c5,e,ht,h5,m⟩:=h.ex;exact ⟨⟨A1,c1,A2,c2,A3,c3,A5,c5,e,ht.below hb hB,h5.below hb hB,m⟩,h.wf,h.now⟩
def RetSizeD (w:World) (d:Dk) (e:Ending) (w':World):Prop:=∃ r,e=.returned (.int .i64 r)∧(r=-1∨(0≤r∧r≤1048576∧d.Fine))∧Below w.heap.size w w'
set_option maxRecDepth 100000 in
set_option maxHeartbeats 1000000 in
theorem szDesk_any (v:Value) (d:Dk) (w:World) (h:DskIn w v d) :
 Calls Tryz.prog 28 #[v,.int .i64 1048576] w (RetSizeD w d):=by
 obtain ⟨A1,c1,A2,c2,A3,c3,A5,c5,rfl,ht,h5,m⟩:=h.ex;have hB:=(Below.refl w.heap.size w).alloc (Nat.le_refl _) (.cells #[.slice A1 d.t.us.length c1,.slice A2 d.t.bs.length c2,.slice A3 d.t.ns.length c3,.int .i64 d.now,.slice A5 d.past.length c5] 56);have HX:=Blk.new w 56 #[.slice A1 d.t.us.length c1,.slice A2 d.t.bs.length c2,.slice A3 d.t.ns.length c3,.int .i64 d.now,.slice A5 d.past.length c5];have K1:=Lib.hid (szTongue_bd _ d.t _ (ht.below hB (Nat.le_refl _)));have hpl:d.past.length≤9223372036854775807:=by have:=h5.le;unfold maxLen at m;omega
 have hfi:=Lib.hid (Fits.of_wf h.wf);have hnow:=Lib.hid h.now;replace hB:=Lib.hid hB;replace HX:=Lib.hid HX;clear h ht h5 m;go_enter Tryz.func28,Tryz.ntmps28;go_upto_region 1 with (fail)
 generalize w.alloc (.cells #[.slice A1 d.t.us.length c1,.slice A2 d.t.bs.length c2,.slice A3 d.t.ns.length c3,.int .i64 d.now,.slice A5 d.past.length c5] 56)=W at *;obtain ⟨x0,x1,x2,x3,x4⟩:=(blk5 HX.out).1;go_wp2_with (fail);refine K1.out.mono ?_;rintro e w1 ⟨r1,rfl,hr1,b1⟩;have hB1:=Lib.hid (hB.out.trans (b1.mono hB.out.size));have HX1:=HX.out.below b1 HX.out.lt;clear x0 x1 x2 x3 x4 b1 K1 HX hB;obtain ⟨x0,x1,x2,x3,x4⟩:=(blk5 HX1).1;clear HX1;rcases hr1 with rfl | ⟨a1,e1,hft⟩
 · go_wp2;go_ret;exact ⟨-1,rfl,.inl rfl,hB1.out⟩
 · have g1:¬ r1 < 0:=by omega
   replace hft:=Lib.hid hft;go_wp2_with (fail);refine (szIntS_any A5 d.past.length c5 r1 w1 hpl a1 e1).mono ?_;rintro e _ ⟨r2,rfl,hl2,rfl⟩;rcases hl2 with rfl | ⟨a2,e2,d2,-⟩
   · go_wp2;go_ret;exact ⟨-1,rfl,.inl rfl,hB1.out⟩
   · have g2:¬ r2 < 0:=by omega
     have hfine:=Lib.hid (⟨hft.out,hnow.out,by omega,hfi.out⟩:d.Fine);go_wp2;go_ret;exact ⟨r2,rfl,.inr ⟨a2,by omega,hfine.out⟩,hB1.out⟩
set_option maxRecDepth 100000 in
set_option maxHeartbeats 4000000 in
theorem toDesk_any (v:Value) (d:Dk) (w:World) (h:Dsk w v d) (hf:d.Fine) :
 Calls Tryz.prog 29 #[v] w (RetDkW w d):=by
 obtain ⟨A1,c1,A2,c2,A3,c3,A5,c5,rfl,h1,h2,h3,h5⟩:=h.ex;have hp:=hf.past;have hB:=(((Below.refl w.heap.size w).alloc (Nat.le_refl _) (.cells #[.slice A1 d.t.us.length c1,.slice A2 d.t.bs.length c2,.slice A3 d.t.ns.length c3,.int .i64 d.now,.slice A5 d.past.length c5] 56)).alloc (by simp) (.cells #[.slice none 0 0,.slice none 0 0,.slice none 0 0,.int .i64 0,.slice none 0 0] 33)).alloc (by simp;omega) (.cells #[.slice none 0 0,.slice none 0 0,.slice none 0 0,.int .i64 0,.slice none 0 0] 33);have HX:=((Blk.new w 56 #[.slice A1 d.t.us.length c1,.slice A2 d.t.bs.length c2,.slice A3 d.t.ns.length c3,.int .i64 d.now,.slice A5 d.past.length c5]).alloc (.cells #[.slice none 0 0,.slice none 0 0,.slice none 0 0,.int .i64 0,.slice none 0 0] 33)).alloc (.cells #[.slice none 0 0,.slice none 0 0,.slice none 0 0,.int .i64 0,.slice none 0 0] 33);have HZ:Blk (((w.alloc (.cells #[.slice A1 d.t.us.length c1,.slice A2 d.t.bs.length c2,.slice A3 d.t.ns.length c3,.int .i64 d.now,.slice A5 d.past.length c5] 56)).alloc (.cells #[.slice none 0 0,.slice none 0 0,.slice none 0 0,.int .i64 0,.slice none 0 0] 33)).alloc (.cells #[.slice none 0 0,.slice none 0 0,.slice none 0 0,.int .i64 0,.slice none 0 0] 33)) (w.heap.size+1) 33 #[.slice none 0 0,.slice none 0 0,.slice none 0 0,.int .i64 0,.slice none 0 0]:=(blk_new_at _ (by simp)).alloc _
 have HO:Blk (((w.alloc (.cells #[.slice A1 d.t.us.length c1,.slice A2 d.t.bs.length c2,.slice A3 d.t.ns.length c3,.int .i64 d.now,.slice A5 d.past.length c5] 56)).alloc (.cells #[.slice none 0 0,.slice none 0 0,.slice none 0 0,.int .i64 0,.slice none 0 0] 33)).alloc (.cells #[.slice none 0 0,.slice none 0 0,.slice none 0 0,.int .i64 0,.slice none 0 0] 33)) (w.heap.size+2) 33 #[.slice none 0 0,.slice none 0 0,.slice none 0 0,.int .i64 0,.slice none 0 0]:=blk_new_at _ (by simp);have HT:Tng (((w.alloc (.cells #[.slice A1 d.t.us.length c1,.slice A2 d.t.bs.length c2,.slice A3 d.t.ns.length c3,.int .i64 d.now,.slice A5 d.past.length c5] 56)).alloc (.cells #[.slice none 0 0,.slice none 0 0,.slice none 0 0,.int .i64 0,.slice none 0 0] 33)).alloc (.cells #[.slice none 0 0,.slice none 0 0,.slice none 0 0,.int .i64 0,.slice none 0 0] 33)) (.agg #[.slice A1 d.t.us.length c1,.slice A2 d.t.bs.length c2,.slice A3 d.t.ns.length c3]) d.t:=⟨A1,c1,A2,c2,A3,c3,rfl,h1.below hB (Nat.le_refl _),h2.below hB (Nat.le_refl _),h3.below hB (Nat.le_refl _)⟩;have H5:=h5.below hB (Nat.le_refl _)
 have hne5:Hid (∀ b o,A5=some ⟨b,o,none⟩→0 < d.past.length→b≠w.heap.size+2):=fun b o e hn=>by
  obtain ⟨b',o',e',hlt,-⟩:=h5.at_ hn;rw [e] at e';cases e';omega
 have K1:=Lib.hid (toTongue_any _ d.t _ HT hf.t);replace hB:=Lib.hid hB;replace HX:=Lib.hid HX;replace HZ:=Lib.hid HZ;replace HO:=Lib.hid HO;replace H5:=Lib.hid H5;clear h h1 h2 h3 h5 hf HT;go_enter Tryz.func29,Tryz.ntmps29;go_upto_region 2 with (fail)
 generalize ((w.alloc (.cells #[.slice A1 d.t.us.length c1,.slice A2 d.t.bs.length c2,.slice A3 d.t.ns.length c3,.int .i64 d.now,.slice A5 d.past.length c5] 56)).alloc (.cells #[.slice none 0 0,.slice none 0 0,.slice none 0 0,.int .i64 0,.slice none 0 0] 33)).alloc (.cells #[.slice none 0 0,.slice none 0 0,.slice none 0 0,.int .i64 0,.slice none 0 0] 33)=W at *;obtain ⟨x0,x1,x2,x3,x4⟩:=(blk5 HX.out).1;go_wp2_with (go_at_call 78;refine K1.out.mono ?_;rintro e w1 ⟨v1,rfl,o1,b1⟩;obtain ⟨X1,k1,X2,k2,X3,k3,rfl⟩:=o1.shape;refine Hid.out ?_);have HX1:=HX.out.below b1 HX.out.lt;have HZ1:=HZ.out.below b1 HZ.out.lt;have HO1:=HO.out.below b1 HO.out.lt;have hB1:=hB.out.trans (b1.mono hB.out.size);have H51:=H5.out.below b1 (Nat.le_refl _);have hWs:=HO.out.lt;have hs1:=b1.size;have XA:=(((HX1.far (p:=⟨w.heap.size+2,0,none⟩) (by simp) (.slice X1 d.t.us.length k1)).far (p:=⟨w.heap.size+2,1,none⟩) (by simp) (.slice X2 d.t.bs.length k2)).far (p:=⟨w.heap.size+2,2,none⟩) (by simp) (.slice X3 d.t.ns.length k3)).far (p:=⟨w.heap.size+2,3,none⟩) (by simp) (.int .i64 d.now);have ZA:=(((HZ1.far (p:=⟨w.heap.size+2,0,none⟩) (by simp) (.slice X1 d.t.us.length k1)).far (p:=⟨w.heap.size+2,1,none⟩) (by simp) (.slice X2 d.t.bs.length k2)).far (p:=⟨w.heap.size+2,2,none⟩) (by simp) (.slice X3 d.t.ns.length k3)).far (p:=⟨w.heap.size+2,3,none⟩) (by simp) (.int .i64 d.now)
 have OA:=(((HO1.set_ 0 (.slice X1 d.t.us.length k1)).set_ 1 (.slice X2 d.t.bs.length k2)).set_ 2 (.slice X3 d.t.ns.length k3)).set_ 3 (.int .i64 d.now);simp at OA;have BA:=(((hB1.setCell (p:=⟨w.heap.size+2,0,none⟩) (by simp) (.slice X1 d.t.us.length k1)).setCell (p:=⟨w.heap.size+2,1,none⟩) (by simp) (.slice X2 d.t.bs.length k2)).setCell (p:=⟨w.heap.size+2,2,none⟩) (by simp) (.slice X3 d.t.ns.length k3)).setCell (p:=⟨w.heap.size+2,3,none⟩) (by simp) (.int .i64 d.now);have T1:=(own_tngD (u0:=.slice X1 d.t.us.length k1) (u1:=.slice X2 d.t.bs.length k2) (u2:=.slice X3 d.t.ns.length k3) (u3:=.int .i64 d.now) o1 HO1);have I1:Ints ((((w1.setCell ⟨w.heap.size+2,0,none⟩ (.slice X1 d.t.us.length k1)).setCell ⟨w.heap.size+2,1,none⟩ (.slice X2 d.t.bs.length k2)).setCell ⟨w.heap.size+2,2,none⟩ (.slice X3 d.t.ns.length k3)).setCell ⟨w.heap.size+2,3,none⟩ (.int .i64 d.now)) .i64 A5 d.past.length c5 d.past:=ints_offD HO1 H51 hne5.out;replace XA:=Lib.hid XA;replace ZA:=Lib.hid ZA;replace OA:=Lib.hid OA;replace BA:=Lib.hid BA;replace T1:=Lib.hid T1;replace I1:=Lib.hid I1;clear x0 x1 x2 x3 x4;obtain ⟨x0,x1,x2,x3,x4⟩:=(blk5 HX1).1;obtain ⟨⟨y0,y1,y2,y3,y4⟩,⟨f0,f1,f2,f3,f4⟩⟩:=blk5 HO1;clear o1 b1 HX1 HZ1 HO1 hB1 H51 K1 HX HZ HO hB H5
 have hs2:W.heap.size≤((((w1.setCell ⟨w.heap.size+2,0,none⟩ (.slice X1 d.t.us.length k1)).setCell ⟨w.heap.size+2,1,none⟩ (.slice X2 d.t.bs.length k2)).setCell ⟨w.heap.size+2,2,none⟩ (.slice X3 d.t.ns.length k3)).setCell ⟨w.heap.size+2,3,none⟩ (.int .i64 d.now)).heap.size:=by simpa using hs1
 replace hs2:=Lib.hid hs2;refine Lib.hid ?_;go_upto_region 4 with (fail)
 generalize (((w1.setCell ⟨w.heap.size+2,0,none⟩ (.slice X1 d.t.us.length k1)).setCell ⟨w.heap.size+2,1,none⟩ (.slice X2 d.t.bs.length k2)).setCell ⟨w.heap.size+2,2,none⟩ (.slice X3 d.t.ns.length k3)).setCell ⟨w.heap.size+2,3,none⟩ (.int .i64 d.now)=V at *;clear x0 x1 x2 x3 x4 y0 y1 y2 y3 y4 f0 f1 f2 f3 f4;obtain ⟨x0,x1,x2,x3,x4⟩:=(blk5 XA.out).1;go_wp2_with (go_at_call 79;refine (toIntS_any A5 _ c5 d.past V I1.out hp).mono ?_;rintro e w2 ⟨gi,rfl,o2,b2⟩;refine Hid.out ?_);have o2r:OwnI w2 V.heap.size (.slice (some ⟨gi,0,none⟩) d.past.length d.past.length) d.past:=o2.row hp;have ZB:=ZA.out.below b2 ZA.out.lt;have OB:=OA.out.below b2 OA.out.lt;have BB:=BA.out.trans (b2.mono BA.out.size);have TB:=T1.out.below b2 (Nat.le_refl _);have hs3:=hs2.out;have QB:=OB.set_ 4 (.slice (some ⟨gi,0,none⟩) d.past.length d.past.length);simp at QB;have ZC:=ZB.far (p:=⟨w.heap.size+2,4,none⟩) (by simp) (.slice (some ⟨gi,0,none⟩) d.past.length d.past.length);have PC:OwnI (w2.setCell ⟨w.heap.size+2,4,none⟩ (.slice (some ⟨gi,0,none⟩) d.past.length d.past.length)) V.heap.size (.slice (some ⟨gi,0,none⟩) d.past.length d.past.length) d.past:=own_set o2r (own_blk_ne o2r OB (by decide));have TC:=(own_tngD1 (i:=4) (u:=.slice (some ⟨gi,0,none⟩) d.past.length d.past.length) TB OB);have BC:=BB.setCell (p:=⟨w.heap.size+2,4,none⟩) (by simp) (.slice (some ⟨gi,0,none⟩) d.past.length d.past.length)
 have ap:∀ k,(Value.slice X2 d.t.bs.length k2).ownBlock=some k→(Value.slice (some ⟨gi,0,none⟩) d.past.length d.past.length).ownBlock≠some k:=fun k hk he=>by
  obtain ⟨y1,y2,y3,ee,-,q2,-,-⟩:=T1.out.ex;cases ee;have e1:=(World.ownsRow.lt q2 k hk).2;have e2:=(World.ownsRow.lt o2r k he).1;omega
 obtain ⟨⟨y0,y1,y2,y3,y4⟩,⟨f0,f1,f2,f3,f4⟩⟩:=blk5 OB;replace QB:=Lib.hid QB;replace ZC:=Lib.hid ZC;replace PC:=Lib.hid PC;replace TC:=Lib.hid TC;replace BC:=Lib.hid BC;replace ap:=Lib.hid ap;clear x0 x1 x2 x3 x4 o2 o2r b2 ZB OB BB TB XA ZA OA BA T1 I1;refine Lib.hid ?_;go_upto_region 5 with (fail)
 generalize w2.setCell ⟨w.heap.size+2,4,none⟩ (.slice (some ⟨gi,0,none⟩) d.past.length d.past.length)=V9 at *;clear y0 y1 y2 y3 y4 f0 f1 f2 f3 f4;obtain ⟨x0,x1,x2,x3,x4⟩:=(blk5 QB.out).1;obtain ⟨⟨z0,z1,z2,z3,z4⟩,⟨e0,e1,e2,e3,e4⟩⟩:=blk5 ZC.out;have HF:=fun u0 u1 u2 u3 u4=>(own_dk5 (u0:=u0) (u1:=u1) (u2:=u2) (u3:=u3) (u4:=u4) (now:=d.now) (d:=d) rfl TC.out (PC.out.mono (B':=W.heap.size) hs3) ap.out ZC.out).mono (B':=w.heap.size) (by omega)
 have HG:=fun u0 u1 u2 u3 u4=>below_dk5 (u0:=u0) (u1:=u1) (u2:=u2) (u3:=u3) (u4:=u4) (g:=w.heap.size+1) BC.out (by omega)
 replace HF:=Lib.hid HF;replace HG:=Lib.hid HG;clear QB ZC PC TC BC;go_wp2;refine bodyPost_ret (v:=.agg #[.slice X1 d.t.us.length k1,.slice X2 d.t.bs.length k2,.slice X3 d.t.ns.length k3,.int .i64 d.now,.slice (some ⟨gi,0,none⟩) d.past.length d.past.length]) (by simp [results,Tryz.results29,go_sem,z0,z1,z2,z3,z4]) rfl ?_;exact ⟨_,rfl,HF.out _ _ _ _ _,HG.out _ _ _ _ _⟩
set_option maxRecDepth 100000 in
set_option maxHeartbeats 2000000 in
theorem eqDesk_same (v v':Value) (d:Dk) (w:World) (h:Dsk w v d) (h':Dsk w v' d) (hf:d.Fine) :
 Calls Tryz.prog 30 #[v,v'] w fun e w'=>e=.returned (.bool true)∧Below w.heap.size w w':=by
 obtain ⟨A1,c1,A2,c2,A3,c3,A5,c5,rfl,h1,h2,h3,h5⟩:=h.ex;obtain ⟨B1,d1,B2,d2,B3,d3,B5,d5,rfl,k1,k2,k3,k5⟩:=h'.ex;have hp:=hf.past;have hB:=((Below.refl w.heap.size w).alloc (Nat.le_refl _) (.cells #[.slice A1 d.t.us.length c1,.slice A2 d.t.bs.length c2,.slice A3 d.t.ns.length c3,.int .i64 d.now,.slice A5 d.past.length c5] 33)).alloc (by simp) (.cells #[.slice B1 d.t.us.length d1,.slice B2 d.t.bs.length d2,.slice B3 d.t.ns.length d3,.int .i64 d.now,.slice B5 d.past.length d5] 33);have HX:=(Blk.new w 33 #[.slice A1 d.t.us.length c1,.slice A2 d.t.bs.length c2,.slice A3 d.t.ns.length c3,.int .i64 d.now,.slice A5 d.past.length c5]).alloc (.cells #[.slice B1 d.t.us.length d1,.slice B2 d.t.bs.length d2,.slice B3 d.t.ns.length d3,.int .i64 d.now,.slice B5 d.past.length d5] 33);have HY:Blk ((w.alloc (.cells #[.slice A1 d.t.us.length c1,.slice A2 d.t.bs.length c2,.slice A3 d.t.ns.length c3,.int .i64 d.now,.slice A5 d.past.length c5] 33)).alloc (.cells #[.slice B1 d.t.us.length d1,.slice B2 d.t.bs.length d2,.slice B3 d.t.ns.length d3,.int .i64 d.now,.slice B5 d.past.length d5] 33)) (w.heap.size+1) 33 #[.slice B1 d.t.us.length d1,.slice B2 d.t.bs.length d2,.slice B3 d.t.ns.length d3,.int .i64 d.now,.slice B5 d.past.length d5]:=blk_new_at _ (by simp);have T1:Tng w (.agg #[.slice A1 d.t.us.length c1,.slice A2 d.t.bs.length c2,.slice A3 d.t.ns.length c3]) d.t:=⟨A1,c1,A2,c2,A3,c3,rfl,h1,h2,h3⟩
 have T2:Tng w (.agg #[.slice B1 d.t.us.length d1,.slice B2 d.t.bs.length d2,.slice B3 d.t.ns.length d3]) d.t:=⟨B1,d1,B2,d2,B3,d3,rfl,k1,k2,k3⟩;have K1:=Lib.hid (eqTongue_same _ _ d.t _ (T1.below hB (Nat.le_refl _)) (T2.below hB (Nat.le_refl _)) hf.t);have K2:=Lib.hid (fun W (hb:Below w.heap.size w W)=>by have hh:=eqIntS_any A5 B5 d.past.length c5 d.past.length d5 d.past d.past W (h5.below hb (Nat.le_refl _)) (k5.below hb (Nat.le_refl _)) hp hp;rw [decide_eq_true rfl] at hh;exact hh);have hq:(d.now != d.now)=false:=by simp
 replace hB:=Lib.hid hB;replace HX:=Lib.hid HX;replace HY:=Lib.hid HY;clear h h' h1 h2 h3 h5 k1 k2 k3 k5 hf T1 T2;go_enter Tryz.func30,Tryz.ntmps30;go_upto_region 1 with (fail)
 generalize (w.alloc (.cells #[.slice A1 d.t.us.length c1,.slice A2 d.t.bs.length c2,.slice A3 d.t.ns.length c3,.int .i64 d.now,.slice A5 d.past.length c5] 33)).alloc (.cells #[.slice B1 d.t.us.length d1,.slice B2 d.t.bs.length d2,.slice B3 d.t.ns.length d3,.int .i64 d.now,.slice B5 d.past.length d5] 33)=W at *;obtain ⟨x0,x1,x2,x3,x4⟩:=(blk5 HX.out).1;obtain ⟨y0,y1,y2,y3,y4⟩:=(blk5 HY.out).1;go_wp2_with (fail);refine K1.out.mono ?_;rintro e w1 ⟨rfl,b1⟩;have hB1:=Lib.hid (hB.out.trans (b1.mono hB.out.size));have HX1:=HX.out.below b1 HX.out.lt;have HY1:=HY.out.below b1 HY.out.lt;clear x0 x1 x2 x3 x4 y0 y1 y2 y3 y4 b1 K1 HX HY hB;obtain ⟨x0,x1,x2,x3,x4⟩:=(blk5 HX1).1;obtain ⟨y0,y1,y2,y3,y4⟩:=(blk5 HY1).1;have K3:=Lib.hid (K2.out _ hB1.out);clear HX1 HY1 K2;go_wp2_with (fail);refine K3.out.mono ?_;rintro e _ ⟨rfl,m1,rfl⟩;go_wp2;go_ret;exact ⟨rfl,below_drewN hB1.out _⟩
end
section
open Go.RowKit
def mkDk (d:Dk):Dk:=⟨mkTg 1 d.t,d.now,marks (1+d.t.us.length+d.t.bs.length+d.t.ns.length) d.past.length⟩
def OffDk (v u:Value):Prop:=∃ v1 v2 v3 x v5,v=.agg #[v1,v2,v3,x,v5]∧∀ k,u.ownBlock=some k→v1.ownBlock≠some k∧v2.ownBlock≠some k∧v3.ownBlock≠some k∧v5.ownBlock≠some k
def LeavesD (v:Value) (w w':World):Prop:=∀ (u:Value) (B2 n2:Nat) (e2:TypeId) (xs2:List Value),OffDk v u→w.ownsRow B2 e2 1 u n2 xs2→w'.ownsRow B2 e2 1 u n2 xs2
def cntDk (d:Dk):Int:=1+d.t.us.length+d.t.bs.length+d.t.ns.length+d.past.length
def RetMarkedD (w:World) (B:Nat) (v:Value) (d:Dk) (e:Ending) (w':World):Prop :=
 e=.returned (.int .i64 (cntDk d))∧OwnDk w' B v (mkDk d)∧Below B w w'∧LeavesD v w w'
theorem mkDk_past (d:Dk):(mkDk d).past.length=d.past.length:=marks_length _ _
set_option maxRecDepth 100000 in
set_option maxHeartbeats 2000000 in
theorem markDesk_any (v:Value) (d:Dk) (B:Nat) (w:World) (h:OwnDk w B v d) (hf:d.Fine) (hBw:B≤w.heap.size) :
 Calls Tryz.prog 31 #[v,.int .i64 1] w (RetMarkedD w B v d):=by
 obtain ⟨v1,v2,v3,v5,rfl,ht,h5,ap⟩:=h.ex;obtain ⟨A1,c1,A2,c2,A3,c3,e⟩:=ht.shape;cases e;obtain ⟨A5,c5,rfl,-⟩:=h5.ints;have hu:=hf.t.us;have hb:=hf.t.bs;have hn:=hf.t.ns;have hp:=hf.past;have hA:=(Below.refl w.heap.size w).alloc (Nat.le_refl _) (.cells #[.slice A1 d.t.us.length c1,.slice A2 d.t.bs.length c2,.slice A3 d.t.ns.length c3,.int .i64 d.now,.slice A5 d.past.length c5] 33);have HX:=Blk.new w 33 #[.slice A1 d.t.us.length c1,.slice A2 d.t.bs.length c2,.slice A3 d.t.ns.length c3,.int .i64 d.now,.slice A5 d.past.length c5];have HT:=ht.below hA (Nat.le_refl _);have H5:=h5.below hA (Nat.le_refl _);have hBel:Below B w (w.alloc (.cells #[.slice A1 d.t.us.length c1,.slice A2 d.t.bs.length c2,.slice A3 d.t.ns.length c3,.int .i64 d.now,.slice A5 d.past.length c5] 33)):=hA.mono hBw;have hOff:∀ (u:Value) (B2 n2:Nat) (e2:TypeId) (xs2:List Value),w.ownsRow B2 e2 1 u n2 xs2→(w.alloc (.cells #[.slice A1 d.t.us.length c1,.slice A2 d.t.bs.length c2,.slice A3 d.t.ns.length c3,.int .i64 d.now,.slice A5 d.past.length c5] 33)).ownsRow B2 e2 1 u n2 xs2:=fun u B2 n2 e2 xs2 hr=>World.ownsRow.alloc hr _
 have K1:=Lib.hid (markTongue_any _ d.t B 1 _ HT hf.t (by simp;omega) rfl);replace HX:=Lib.hid HX;replace HT:=Lib.hid HT;replace H5:=Lib.hid H5;replace hBel:=Lib.hid hBel;replace hOff:=Lib.hid hOff;replace ap:=Lib.hid ap;have hcnt:=Lib.hid (show cntDk d=1+d.t.us.length+d.t.bs.length+d.t.ns.length+d.past.length from rfl);clear h ht h5 hf hA;go_enter Tryz.func31,Tryz.ntmps31;go_upto_region 1 with (fail)
 generalize w.alloc (.cells #[.slice A1 d.t.us.length c1,.slice A2 d.t.bs.length c2,.slice A3 d.t.ns.length c3,.int .i64 d.now,.slice A5 d.past.length c5] 33)=W at *;obtain ⟨x0,x1,x2,x3,x4⟩:=(blk5 HX.out).1;have hszW:=hBel.out.size;go_wp2_with (fail);refine K1.out.mono ?_;rintro e w1 ⟨rfl,o1,b1,q1⟩;have hBel1:=hBel.out.trans b1
 have hoffX:OffTng (.agg #[.slice A1 d.t.us.length c1,.slice A2 d.t.bs.length c2,.slice A3 d.t.ns.length c3]) (.slice (some ⟨w.heap.size,0,none⟩) 5 5):=by
  obtain ⟨y1,y2,y3,ee,p1,p2,p3,-⟩:=HT.out.ex;cases ee;refine ⟨_,_,_,rfl,fun k hk=>?_⟩;have hk':w.heap.size=k:=by simpa [Value.ownBlock] using hk
  subst hk';exact ⟨own_blk_ne p1 HX.out (by decide),own_blk_ne p2 HX.out (by decide),own_blk_ne p3 HX.out (by decide)⟩
 have hX1:=q1 _ w.heap.size 5 33 _ hoffX (owns_blk (B:=w.heap.size) (n:=5) HX.out rfl (Nat.le_refl _) (by unfold maxLen;omega))
 have hoff5:∀ {u:Value},u.ownBlock=(Value.slice A5 d.past.length c5).ownBlock→∀ {n:Nat} {ys:List Value},W.ownsRow B 3 1 u n ys→w1.ownsRow B 3 1 u n ys:=fun {u} e {n ys} ho=>by
  refine q1 u B n 3 ys ?_ ho;obtain ⟨y1,y2,y3,ee,p1,p2,p3,-⟩:=HT.out.ex;cases ee;refine ⟨_,_,_,rfl,fun k hk=>⟨fun h1=>?_,fun h1=>?_,fun h1=>?_⟩⟩
  · exact own_type_ne p1 ho (by decide) k h1 hk
  · exact ap.out k h1 (by rw [← e];exact hk)
  · exact own_type_ne p3 ho (by decide) k h1 hk
 have H51:TailI w1 B (.slice A5 d.past.length c5) d.past:=by
  rcases H5.out.ex with ho | ⟨z,g,cap,ho,e⟩
  · exact ⟨.inl (hoff5 rfl ho)⟩
  · cases e;exact ⟨.inr ⟨z,_,_,hoff5 (u:=.slice (some ⟨_,0,none⟩) (d.past.length+1) (c5+1)) rfl ho,rfl⟩⟩
 have K2:=Lib.hid (markTail_any B _ d.past (1+d.t.us.length+d.t.bs.length+d.t.ns.length) w1 H51 hp (by omega));have y0:w1.cell? ⟨w.heap.size,0,none⟩=some (.slice A1 d.t.us.length c1):=World.ownsRow.cellAt hX1 0 (by omega);have y4:w1.cell? ⟨w.heap.size,4,none⟩=some (.slice A5 d.past.length c5):=World.ownsRow.cellAt hX1 4 (by omega);replace o1:=Lib.hid o1;replace q1:=Lib.hid q1;replace hBel1:=Lib.hid hBel1;replace H51:=Lib.hid H51;have hBw1:=hBel1.out.size;clear b1 x0 x1 x2 x3 x4 hoffX hX1 hoff5 K1;go_wp2_with (fail);refine K2.out.mono ?_;rintro e w2 ⟨rfl,o5,g5,hs5⟩
 have hOT:OwnTng w2 B (.agg #[.slice A1 d.t.us.length c1,.slice A2 d.t.bs.length c2,.slice A3 d.t.ns.length c3]) (mkTg 1 d.t):=by
  obtain ⟨y1,y2,y3,ee,p1,p2,p3,a13⟩:=o1.out.ex;cases ee
  have hr5:∃ n ys,w1.ownsRow B 3 1 (.slice A5 d.past.length c5) n ys∨∃ g cap,A5=some ⟨g,1,none⟩∧w1.ownsRow B 3 1 (.slice (some ⟨g,0,none⟩) n cap) n ys:=by
   rcases H51.out.ex with ho | ⟨z,g,cap,ho,e⟩
   · exact ⟨_,_,.inl ho⟩
   · cases e;exact ⟨_,_,.inr ⟨_,_,rfl,ho⟩⟩
  have hty:∀ {u:Value} {n:Nat} {ys:List Value},w1.ownsRow B 9 1 u n ys→∀ k,u.ownBlock=some k→(Value.slice A5 d.past.length c5).ownBlock≠some k:=fun {u n ys} hu k hk he=>by
   obtain ⟨n5,ys5,h | ⟨g,cap,rfl,h⟩⟩:=hr5
   · exact own_type_ne hu h (by decide) k hk he
   · exact own_type_ne hu h (by decide) k hk he
  exact ⟨_,_,_,rfl,own_off p1 g5 (hty p1),own_off p2 g5 (fun k hk e=>ap.out k hk e),own_off p3 g5 (hty p3),a13⟩
 have hBel2:Below B w w2:=by
  refine ⟨g5.os.trans hBel1.out.os,g5.tape.trans hBel1.out.tape,g5.output.trans hBel1.out.output,Nat.le_trans hBel1.out.size g5.size,fun k hk=>?_⟩;refine (g5.block k (Nat.lt_of_lt_of_le hk (by omega)) (fun e=>?_)).trans (hBel1.out.block k hk);have:=(H51.out.lt k e.symm).1;omega
 have hLv:LeavesD (.agg #[.slice A1 d.t.us.length c1,.slice A2 d.t.bs.length c2,.slice A3 d.t.ns.length c3,.int .i64 d.now,.slice A5 d.past.length c5]) w w2:=fun u B2 n2 e2 xs2 ho hr=>by
  obtain ⟨u1,u2,u3,x,u5,e,ho⟩:=ho;cases e;exact own_off (q1.out u B2 n2 e2 xs2 ⟨_,_,_,rfl,fun k hk=>⟨(ho k hk).1,(ho k hk).2.1,(ho k hk).2.2.1⟩⟩ (hOff.out u B2 n2 e2 xs2 hr)) g5 (fun k hk=>(ho k hk).2.2.2)
 have hO:OwnDk w2 B (.agg #[.slice A1 d.t.us.length c1,.slice A2 d.t.bs.length c2,.slice A3 d.t.ns.length c3,.int .i64 d.now,.slice A5 d.past.length c5]) (mkDk d):=⟨_,_,_,_,rfl,hOT,o5,ap.out⟩;replace hBel2:=Lib.hid hBel2;replace hLv:=Lib.hid hLv;replace hO:=Lib.hid hO;clear hOT g5 o5 y0 y4;go_wp2;go_ret;exact ⟨rfl,hO.out,hBel2.out,hLv.out⟩
set_option maxRecDepth 100000 in
set_option maxHeartbeats 2000000 in
theorem heldDesk_any (v:Value) (d:Dk) (w:World) (h:Dsk w v (mkDk d)) (hf:d.Fine) :
 Calls Tryz.prog 32 #[v,.int .i64 1] w fun e w'=>e=.returned (.int .i64 (cntDk d))∧Below w.heap.size w w':=by
 obtain ⟨A1,c1,A2,c2,A3,c3,A5,c5,rfl,h1,h2,h3,h5⟩:=h.ex;have hu:=hf.t.us;have hb:=hf.t.bs;have hn:=hf.t.ns;have hp:=hf.past;have hA:=(Below.refl w.heap.size w).alloc (Nat.le_refl _) (.cells #[.slice A1 (mkDk d).t.us.length c1,.slice A2 (mkDk d).t.bs.length c2,.slice A3 (mkDk d).t.ns.length c3,.int .i64 (mkDk d).now,.slice A5 (mkDk d).past.length c5] 33);have HX:=Blk.new w 33 #[.slice A1 (mkDk d).t.us.length c1,.slice A2 (mkDk d).t.bs.length c2,.slice A3 (mkDk d).t.ns.length c3,.int .i64 (mkDk d).now,.slice A5 (mkDk d).past.length c5];have HT:Tng (w.alloc (.cells #[.slice A1 (mkDk d).t.us.length c1,.slice A2 (mkDk d).t.bs.length c2,.slice A3 (mkDk d).t.ns.length c3,.int .i64 (mkDk d).now,.slice A5 (mkDk d).past.length c5] 33)) (.agg #[.slice A1 (mkDk d).t.us.length c1,.slice A2 (mkDk d).t.bs.length c2,.slice A3 (mkDk d).t.ns.length c3]) (mkTg 1 d.t):=⟨A1,c1,A2,c2,A3,c3,rfl,h1.below hA (Nat.le_refl _),h2.below hA (Nat.le_refl _),h3.below hA (Nat.le_refl _)⟩;have K1:=Lib.hid (heldTongue_any _ d.t _ HT hf.t);have K2:=Lib.hid (fun W (hb:Below w.heap.size w W)=>heldIntS_any A5 d.past.length c5 (1+d.t.us.length+d.t.bs.length+d.t.ns.length) W (by have hh:=h5.below hb (Nat.le_refl _);rw [mkDk_past] at hh;exact hh) hp (by omega));have e5:=mkDk_past d;rw [e5] at HX hA K1;generalize (mkDk d).t.us.length=l1 at *;generalize (mkDk d).t.bs.length=l2 at *;generalize (mkDk d).t.ns.length=l3 at *
 generalize (mkDk d).now=l4 at *;rw [e5];replace hA:=Lib.hid hA;replace HX:=Lib.hid HX;clear h h1 h2 h3 h5 hf HT e5;have hcnt:cntDk d=1+d.t.us.length+d.t.bs.length+d.t.ns.length+d.past.length:=rfl;generalize cntDk d=cd at *;replace hcnt:=Lib.hid hcnt;go_enter Tryz.func32,Tryz.ntmps32;go_upto_region 1 with (fail)
 generalize w.alloc (.cells #[.slice A1 l1 c1,.slice A2 l2 c2,.slice A3 l3 c3,.int .i64 l4,.slice A5 d.past.length c5] 33)=W at *;obtain ⟨x0,x1,x2,x3,x4⟩:=(blk5 HX.out).1;go_wp2_with (fail);refine K1.out.mono ?_;rintro e w1 ⟨rfl,b1⟩;have hB1:=Lib.hid (hA.out.trans (b1.mono hA.out.size));have HX1:=HX.out.below b1 HX.out.lt;clear x0 x1 x2 x3 x4 b1 K1 HX hA;obtain ⟨x0,x1,x2,x3,x4⟩:=(blk5 HX1).1;have g1:¬ (1+(d.t.us.length:Int)+(d.t.bs.length:Int)+(d.t.ns.length:Int) < 0):=by omega
 have g2:¬ (1+(d.t.us.length:Int)+(d.t.bs.length:Int)+(d.t.ns.length:Int)+(d.past.length:Int) < 0):=by omega
 have K3:=Lib.hid (K2.out _ hB1.out);clear HX1 K2;go_wp2_with (fail);refine K3.out.mono ?_;rintro e _ ⟨rfl,rfl⟩;go_wp2;go_ret;exact ⟨ret_int hcnt.out.symm,hB1.out⟩
end
section
open Go.ChangeShapes Go.WideShapes Go.RowKit Go.Joins Go.Deep
theorem array5 {α:Type} {cs:Array α} (h:cs.size=5):∃ c0 c1 c2 c3 c4,cs=#[c0,c1,c2,c3,c4]:=by
 obtain ⟨l⟩:=cs
 match l,h with
 | [a,b,c,d,e],_=>exact ⟨a,b,c,d,e,rfl⟩
set_option maxRecDepth 100000 in
theorem open_desk {H:Type} {enc:TypeId × Value→H} {W:World} {v:Value} {d:DataW H} {p:List MemPlace} (hv:Value.okWide Tryz.prog W .any 0 56 v) (h:DataW.Trod enc Tryz.prog W 0 (fun _=>true) true 56 v d p):∃ d,DskIn W v d:=by
 obtain ⟨cs,rfl,hsz⟩:=okWide_struct Tryz.underlying56 hv;obtain ⟨c0,c1,c2,c3,c4,rfl⟩:=array5 (hsz.trans (by kernel_rfl));obtain ⟨fuel,hf⟩:=h;obtain ⟨y0,y1,y2,n,-,-,h0,h1,h2⟩:=trod_struct3 Tryz.underlying56 hf;have k0:Tryz.prog.cellsOf 54=3:=by kernel_rfl
 have k1:Tryz.prog.cellsOf 3=1:=by kernel_rfl
 have k2:Tryz.prog.cellsOf 29=1:=by kernel_rfl
 have g0:DataW.trod enc Tryz.prog W 0 (fun _=>true) true n 54 [c0,c1,c2]=some y0:=by simpa [Value.cells,k0] using h0
 have g1:DataW.trod enc Tryz.prog W 0 (fun _=>true) true n 3 [c3]=some y1:=by simpa [Value.cells,k1] using h1
 have g2:DataW.trod enc Tryz.prog W 0 (fun _=>true) true n 29 [c4]=some y2:=by simpa [Value.cells,k2] using h2
 obtain ⟨z0,z1,z2,m,-,-,t0,t1,t2⟩:=trod_struct3 Tryz.underlying54 g0;have k3:Tryz.prog.cellsOf 28=1:=by kernel_rfl
 have s0:DataW.trod enc Tryz.prog W 0 (fun _=>true) true m 28 [c0]=some z0:=by simpa [k3] using t0
 have s1:DataW.trod enc Tryz.prog W 0 (fun _=>true) true m 29 [c1]=some z1:=by simpa [k2] using t1
 have s2:DataW.trod enc Tryz.prog W 0 (fun _=>true) true m 28 [c2]=some z2:=by simpa [k3] using t2
 obtain ⟨A1,c1',us,rfl,q1,m1,w1⟩:=in_strs s0;obtain ⟨A2,c2',bs,rfl,q2,m2,w2⟩:=in_ints s1;obtain ⟨A3,c3',ns,rfl,q3,m3,w3⟩:=in_strs s2;obtain ⟨x,rfl,hx⟩:=in_int g1;obtain ⟨A5,c5',ps,rfl,q5,m5,w5⟩:=in_ints g2
 exact ⟨⟨⟨us,bs,ns⟩,x,ps⟩,⟨A1,c1',A2,c2',A3,c3',A5,c5',rfl,⟨⟨A1,c1',A2,c2',A3,c3',rfl,q1,q2,q3,m1,m2,m3⟩,w2,fun x hx=>by
  rcases List.mem_append.1 hx with h | h
  · exact w1 x h
  · exact w3 x h⟩,q5,m5⟩,w5,wfI_bd hx⟩
end
section
open Go.RowKit
def Row5 (w:World) (g:Nat) (c0 c1 c2 c3 c4:Value):Prop:=w.ownsRow g 33 1 (.slice (some ⟨g,0,none⟩) 5 5) 5 [c0,c1,c2,c3,c4]
theorem Row5.of_blk {w:World} {g:Nat} {c0 c1 c2 c3 c4:Value} (h:Blk w g 33 #[c0,c1,c2,c3,c4]):Row5 w g c0 c1 c2 c3 c4:=owns_blk h rfl (Nat.le_refl _) (by unfold maxLen;omega)
theorem Row5.cells {w:World} {g:Nat} {c0 c1 c2 c3 c4:Value} (h:Row5 w g c0 c1 c2 c3 c4):w.cell? ⟨g,0,none⟩=some c0∧w.cell? ⟨g,1,none⟩=some c1∧w.cell? ⟨g,2,none⟩=some c2∧w.cell? ⟨g,3,none⟩=some c3∧w.cell? ⟨g,4,none⟩=some c4 :=
 ⟨World.ownsRow.cellAt h 0 (by omega),World.ownsRow.cellAt h 1 (by omega),World.ownsRow.cellAt h 2 (by omega),World.ownsRow.cellAt h 3 (by omega),World.ownsRow.cellAt h 4 (by omega)⟩
theorem Row5.below {w w':World} {S g:Nat} {c0 c1 c2 c3 c4:Value} (h:Row5 w g c0 c1 c2 c3 c4) (hb:Below S w w') (hS:w.heap.size≤S):Row5 w' g c0 c1 c2 c3 c4:=own_below h hb hS
def KeepsX (w w':World) (C:Nat):Prop:=∀ (u:Value) (B2 n2:Nat) (e2:TypeId) (xs2:List Value),(∀ k,u.ownBlock=some k→C≤k)→w.ownsRow B2 e2 1 u n2 xs2→w'.ownsRow B2 e2 1 u n2 xs2
theorem keeps_dk {w0 w w':World} {B:Nat} {v:Value} {d:Dk} (h:OwnDk w0 B v d) (hl:LeavesD v w w'):KeepsX w w' w0.heap.size:=fun u B2 n2 e2 xs2 hu hr=>by
 obtain ⟨v1,v2,v3,v5,e,ht,h5,-⟩:=h.ex;obtain ⟨u1,u2,u3,e0,e1,e2',e3,-⟩:=ht.ex;cases e0;subst e;refine hl u B2 n2 e2 xs2 ⟨_,_,_,_,_,rfl,fun k hk=>⟨fun h=>?_,fun h=>?_,fun h=>?_,fun h=>?_⟩⟩ hr
 · have:=(World.ownsRow.lt e1 k h).2;have:=hu k hk;omega
 · have:=(World.ownsRow.lt e2' k h).2;have:=hu k hk;omega
 · have:=(World.ownsRow.lt e3 k h).2;have:=hu k hk;omega
 · have:=(h5.lt k h).2;have:=hu k hk;omega
theorem OwnDk.keeps {w w':World} {B C:Nat} {u:Value} {d:Dk} (h:OwnDk w B u d) (hl:KeepsX w w' C) (hC:C≤B):OwnDk w' B u d:=by
 obtain ⟨v1,v2,v3,v5,e,ht,h5,ap⟩:=h.ex;obtain ⟨u1,u2,u3,e0,o1,o2,o3,a13⟩:=ht.ex;cases e0;refine ⟨_,_,_,_,e,⟨_,_,_,rfl,hl _ _ _ _ _ (fun k hk=>?_) o1,hl _ _ _ _ _ (fun k hk=>?_) o2,hl _ _ _ _ _ (fun k hk=>?_) o3,a13⟩,?_,ap⟩
 · have:=(World.ownsRow.lt o1 k hk).1;omega
 · have:=(World.ownsRow.lt o2 k hk).1;omega
 · have:=(World.ownsRow.lt o3 k hk).1;omega
 · rcases h5.ex with ho | ⟨z,g,cap,ho,rfl⟩
   · exact ⟨.inl (hl _ _ _ _ _ (fun k hk=>by have:=(World.ownsRow.lt ho k hk).1;omega) ho)⟩
   · exact ⟨.inr ⟨z,g,cap,hl _ _ _ _ _ (fun k hk=>by have:=(World.ownsRow.lt ho k hk).1;omega) ho,rfl⟩⟩
theorem Row5.keeps {w w':World} {g C:Nat} {c0 c1 c2 c3 c4:Value} (h:Row5 w g c0 c1 c2 c3 c4) (hl:KeepsX w w' C) (hC:C≤g):Row5 w' g c0 c1 c2 c3 c4 :=
 hl _ _ _ _ _ (fun k hk=>by simp [Value.ownBlock] at hk;omega) h
theorem OwnDk.shape {w:World} {B:Nat} {v:Value} {u:Dk} (h:OwnDk w B v u):∃ A1 c1 A2 c2 A3 c3 A5 c5,v=.agg #[.slice A1 u.t.us.length c1,.slice A2 u.t.bs.length c2,.slice A3 u.t.ns.length c3,.int .i64 u.now,.slice A5 u.past.length c5]:=by
 obtain ⟨A1,c1,A2,c2,A3,c3,A5,c5,e,-⟩:=h.dsk.ex;exact ⟨A1,c1,A2,c2,A3,c3,A5,c5,e⟩
end
end Go.Proofs.YtmhgpbfogdoaeaaGreatDoor
