/-
  GT: THoldB THoldC OpenS OpenT TMark TMarkB TMarkC.
-/
import Derived.Test.YtmhgpbfogdoaeaaGreatDoorXlGN
import Derived.Test.YtmhgpbfogdoaeaaGreatDoorXlGB
import Derived.Test.YtmhgpbfogdoaeaaGreatDoorXlGA
import Derived.Test.YtmhgpbfogdoaeaaGreatDoorChecked
import Derived.Lib.SmallJoins
import Derived.Deep.Strs
import Derived.OpenShut
import Derived.KernelRfl
import Derived.Laws.IdiomStrings
import Derived.IntWalk
import Derived.Deep.RegionHeld3
import Derived.Test.YtmhgpbfogdoaeaaGreatDoorXlGC
namespace Go.Proofs.YtmhgpbfogdoaeaaGreatDoor
section
open Go.RowKit
abbrev zeroT:Obj:=.cells #[.slice none 0 0,.slice none 0 0,.slice none 0 0] 31
structure TngIn (w:World) (v:Value) (t:Tg):Prop where
 ex:∃ A1 c1 A2 c2 A3 c3,v=.agg #[.slice A1 t.us.length c1,.slice A2 t.bs.length c2,.slice A3 t.ns.length c3]∧Strs w A1 t.us.length c1 t.us∧Ints w .i64 A2 t.bs.length c2 t.bs∧Strs w A3 t.ns.length c3 t.ns∧c1≤maxLen∧c2≤maxLen∧c3≤maxLen
 wf:∀ x ∈ t.bs,(Lit.int .i64 x).wf=true
 size:∀ x ∈ t.us++t.ns,x.size≤maxLen
theorem TngIn.below {w w':World} {B:Nat} {v:Value} {t:Tg} (h:TngIn w v t) (hb:Below B w w') (hB:w.heap.size≤B):TngIn w' v t:=by
 obtain ⟨A1,c1,A2,c2,A3,c3,e,h1,h2,h3,h4⟩:=h.ex;exact ⟨⟨A1,c1,A2,c2,A3,c3,e,h1.below hb hB,h2.below hb hB,h3.below hb hB,h4⟩,h.wf,h.size⟩
def RetSizeB (w:World) (t:Tg) (e:Ending) (w':World):Prop:=∃ r,e=.returned (.int .i64 r)∧(r=-1∨(0≤r∧r≤1048576∧t.Fine))∧Below w.heap.size w w'
set_option maxHeartbeats 1000000 in
theorem szTongue_bd (v:Value) (t:Tg) (w:World) (h:TngIn w v t) :
 Calls Tryz.prog 76 #[v,.int .i64 1048576] w (RetSizeB w t):=by
 obtain ⟨A1,c1,A2,c2,A3,c3,rfl,h1,h2,h3,m1,m2,m3⟩:=h.ex;have hbl:t.bs.length≤9223372036854775807:=by have:=h2.le;unfold maxLen at m2;omega
 have hB:Below w.heap.size w (w.alloc (.cells #[.slice A1 t.us.length c1,.slice A2 t.bs.length c2,.slice A3 t.ns.length c3] 54)):=(Below.refl _ _).alloc (Nat.le_refl _) _;have K1:=Lib.hid (szStringS_any A1 _ c1 t.us 1048576 _ (h1.below hB (Nat.le_refl _)) m1 (fun x hx=>h.size x (List.mem_append.2 (.inl hx))) (by omega) (by omega));have K2:=Lib.hid (fun left h0 h1=>szIntS_any A2 t.bs.length c2 left (w.alloc (.cells #[.slice A1 t.us.length c1,.slice A2 t.bs.length c2,.slice A3 t.ns.length c3] 54)) hbl h0 h1);have K3:=Lib.hid (fun left h0 h1=>szStringS_any A3 _ c3 t.ns left _ (h3.below hB (Nat.le_refl _)) m3 (fun x hx=>h.size x (List.mem_append.2 (.inr hx))) h0 h1);have HF:=Lib.hid (Fits.of_wf h.wf);replace hB:=Lib.hid hB;clear h h1 h2 h3 m1 m2 m3 hbl;go_enter Tryz.func76,Tryz.ntmps76;go_wp2_with (fail);refine K1.out.mono ?_;rintro e _ ⟨r1,rfl,hl1,rfl⟩;rcases hl1 with rfl | ⟨a1,b1,d1,s1⟩
 · go_wp2;go_ret;exact ⟨-1,rfl,.inl rfl,hB.out⟩
 · have g1:¬ r1 < 0:=by omega
   go_wp2_with (fail);refine (K2.out r1 a1 (by omega)).mono ?_;rintro e _ ⟨r2,rfl,hl2,rfl⟩;rcases hl2 with rfl | ⟨a2,b2,d2,-⟩
   · go_wp2;go_ret;exact ⟨-1,rfl,.inl rfl,hB.out⟩
   · have g2:¬ r2 < 0:=by omega
     go_wp2_with (fail);refine (K3.out r2 a2 (by omega)).mono ?_;rintro e _ ⟨r3,rfl,hl3,rfl⟩;rcases hl3 with rfl | ⟨a3,b3,d3,s3⟩
     · go_wp2;go_ret;exact ⟨-1,rfl,.inl rfl,hB.out⟩
     · have g3:¬ r3 < 0:=by omega
       have hfine:t.Fine:=⟨by omega,by omega,by omega,HF.out,fun x hx=>by
        rcases List.mem_append.1 hx with h | h
        · have:=s1 x h;omega
        · have:=s3 x h;omega⟩
       replace hfine:=Lib.hid hfine;clear s1 s3;go_wp2;go_ret;exact ⟨r3,rfl,.inr ⟨a3,by omega,hfine.out⟩,hB.out⟩
set_option maxRecDepth 100000 in
set_option maxHeartbeats 4000000 in
theorem toTongue_any (v:Value) (t:Tg) (w:World) (h:Tng w v t) (hf:t.Fine) :
 Calls Tryz.prog 78 #[v] w (RetTng w t):=by
 obtain ⟨A1,c1,A2,c2,A3,c3,rfl,h1,h2,h3⟩:=h.ex;have H1:=Lib.hid h1;have H2:=Lib.hid h2;have H3:=Lib.hid h3;have hu:=hf.us;have hb:=hf.bs;have hn:=hf.ns;have hW:Below w.heap.size w (((w.alloc (.cells #[.slice A1 t.us.length c1,.slice A2 t.bs.length c2,.slice A3 t.ns.length c3] 54)).alloc zeroT).alloc zeroT):=(((Below.refl _ _).alloc (Nat.le_refl _) _).alloc (by simp) _).alloc (by simp;omega) _;have HB1:Blk (((w.alloc (.cells #[.slice A1 t.us.length c1,.slice A2 t.bs.length c2,.slice A3 t.ns.length c3] 54)).alloc zeroT).alloc zeroT) w.heap.size 54 #[.slice A1 t.us.length c1,.slice A2 t.bs.length c2,.slice A3 t.ns.length c3]:=((Blk.new _ _ _).alloc _).alloc _;have HB2:Blk (((w.alloc (.cells #[.slice A1 t.us.length c1,.slice A2 t.bs.length c2,.slice A3 t.ns.length c3] 54)).alloc zeroT).alloc zeroT) (w.heap.size+1) 31 #[.slice none 0 0,.slice none 0 0,.slice none 0 0]:=(blk_new_at _ (by simp)).alloc _;have HB3:Blk (((w.alloc (.cells #[.slice A1 t.us.length c1,.slice A2 t.bs.length c2,.slice A3 t.ns.length c3] 54)).alloc zeroT).alloc zeroT) (w.heap.size+2) 31 #[.slice none 0 0,.slice none 0 0,.slice none 0 0]:=blk_new_at _ (by simp);have hsz:(((w.alloc (.cells #[.slice A1 t.us.length c1,.slice A2 t.bs.length c2,.slice A3 t.ns.length c3] 54)).alloc zeroT).alloc zeroT).heap.size=w.heap.size+3:=by simp
 replace hW:=Lib.hid hW;replace HB1:=Lib.hid HB1;replace HB2:=Lib.hid HB2;replace HB3:=Lib.hid HB3;replace hsz:=Lib.hid hsz;clear h h1 h2 h3 hf;go_enter Tryz.func78,Tryz.ntmps78;go_upto_region 2 with (fail)
 generalize ((w.alloc (.cells #[.slice A1 t.us.length c1,.slice A2 t.bs.length c2,.slice A3 t.ns.length c3] 54)).alloc zeroT).alloc zeroT=W at *;obtain ⟨x0,x1,x2,-,-,-⟩:=blk3 HB1.out;have hszW:=hsz.out;replace hszW:=Lib.hid hszW;go_wp2_with (fail);refine (toStringS_any A1 _ c1 t.us W (H1.out.below hW.out (Nat.le_refl _)) hu).mono ?_;rintro e w1 ⟨rfl,o1,b1⟩;have hl3:w.heap.size+2 < W.heap.size:=by rw [hsz.out];omega
 have hX1:=HB1.out.below b1 HB1.out.lt;have hX2:=HB2.out.below b1 HB2.out.lt;have hX3:=HB3.out.below b1 HB3.out.lt;have hWx:=hW.out.trans (b1.mono hW.out.size);have hs1:=b1.size;have hz1:W.heap.size < w1.heap.size:=(o1.lt _ rfl).2;obtain ⟨y0,y1,y2,g0,g1,g2⟩:=blk3 hX3;have o1':=own_far o1 (g:=w.heap.size+2) (i:=0) (by omega) (.slice (some ⟨W.heap.size,0,none⟩) t.us.length t.us.length);have e3:=hX3.set_ 0 (.slice (some ⟨W.heap.size,0,none⟩) t.us.length t.us.length);have e1:=hX1.far (p:=⟨w.heap.size+2,0,none⟩) (by simp) (.slice (some ⟨W.heap.size,0,none⟩) t.us.length t.us.length);have e2:=hX2.far (p:=⟨w.heap.size+2,0,none⟩) (by simp) (.slice (some ⟨W.heap.size,0,none⟩) t.us.length t.us.length);have eW:=hWx.setCell (p:=⟨w.heap.size+2,0,none⟩) (by simp) (.slice (some ⟨W.heap.size,0,none⟩) t.us.length t.us.length);simp at e3;clear x0 x1 x2 hX1 hX2 hX3 b1 o1;replace o1':=Lib.hid o1';replace e1:=Lib.hid e1;replace e2:=Lib.hid e2;replace e3:=Lib.hid e3;replace eW:=Lib.hid eW;replace hWx:=Lib.hid hWx;go_upto_region 3 with (fail)
 generalize w1.setCell ⟨w.heap.size+1+1,0,none⟩ (.slice (some ⟨W.heap.size,0,none⟩) t.us.length t.us.length)=W1 at *;clear y0 y1 y2 g0 g1 g2;obtain ⟨x0,x1,x2,-,-,-⟩:=blk3 e1.out;have hzW1:W.heap.size < W1.heap.size:=(o1'.out.lt _ rfl).2;go_wp2_with (fail);refine (toIntS_any A2 _ c2 t.bs W1 (H2.out.below eW.out (Nat.le_refl _)) hb).mono ?_;rintro e w2 ⟨gi,rfl,o2,b2⟩;have o2r:=o2.row hb;have hX1:=e1.out.below b2 e1.out.lt;have hX2:=e2.out.below b2 e2.out.lt;have hX3:=e3.out.below b2 e3.out.lt;have hWx2:=eW.out.trans (b2.mono eW.out.size);have o1w:=own_below o1'.out b2 (Nat.le_refl _);have hz2:=o2r.lt gi rfl;obtain ⟨y0,y1,y2,g0,g1,g2⟩:=blk3 hX3;have o1'':=own_far o1w (g:=w.heap.size+2) (i:=1) (by omega) (.slice (some ⟨gi,0,none⟩) t.bs.length t.bs.length);have o2'':=own_far o2r (g:=w.heap.size+2) (i:=1) (by omega) (.slice (some ⟨gi,0,none⟩) t.bs.length t.bs.length);have d3:=hX3.set_ 1 (.slice (some ⟨gi,0,none⟩) t.bs.length t.bs.length);have d1:=hX1.far (p:=⟨w.heap.size+2,1,none⟩) (by simp) (.slice (some ⟨gi,0,none⟩) t.bs.length t.bs.length);have d2:=hX2.far (p:=⟨w.heap.size+2,1,none⟩) (by simp) (.slice (some ⟨gi,0,none⟩) t.bs.length t.bs.length);have dW:=hWx2.setCell (p:=⟨w.heap.size+2,1,none⟩) (by simp) (.slice (some ⟨gi,0,none⟩) t.bs.length t.bs.length);simp at d3;clear x0 x1 x2 hX1 hX2 hX3 b2 o2 o2r o1w e1 e2 e3 eW o1' hWx2;replace o1'':=Lib.hid o1''
 replace o2'':=Lib.hid o2'';replace d1:=Lib.hid d1;replace d2:=Lib.hid d2;replace d3:=Lib.hid d3;replace dW:=Lib.hid dW;go_upto_region 4 with (fail)
 generalize w2.setCell ⟨w.heap.size+1+1,1,none⟩ (.slice (some ⟨gi,0,none⟩) t.bs.length t.bs.length)=W2 at *;clear y0 y1 y2 g0 g1 g2;obtain ⟨x0,x1,x2,-,-,-⟩:=blk3 d1.out;have hzW2:gi < W2.heap.size:=(o2''.out.lt _ rfl).2;have hzW2':W.heap.size < W2.heap.size:=(o1''.out.lt _ rfl).2;go_wp2_with (fail);refine (toStringS_any A3 _ c3 t.ns W2 (H3.out.below dW.out (Nat.le_refl _)) hn).mono ?_;rintro e w3 ⟨rfl,o3,b3⟩;have hX2:=d2.out.below b3 d2.out.lt;have hX3:=d3.out.below b3 d3.out.lt;have hWx3:=dW.out.trans (b3.mono dW.out.size);have p1:=own_below o1''.out b3 (Nat.le_refl _);have p2:=own_below o2''.out b3 (Nat.le_refl _);obtain ⟨y0,y1,y2,g0,g1,g2⟩:=blk3 hX3;have q1:=own_far p1 (g:=w.heap.size+2) (i:=2) (by omega) (.slice (some ⟨W2.heap.size,0,none⟩) t.ns.length t.ns.length);have q2:=own_far p2 (g:=w.heap.size+2) (i:=2) (by omega) (.slice (some ⟨W2.heap.size,0,none⟩) t.ns.length t.ns.length);have q3:=own_far o3 (g:=w.heap.size+2) (i:=2) (by omega) (.slice (some ⟨W2.heap.size,0,none⟩) t.ns.length t.ns.length);have c3':=hX3.set_ 2 (.slice (some ⟨W2.heap.size,0,none⟩) t.ns.length t.ns.length);have c2':=hX2.far (p:=⟨w.heap.size+2,2,none⟩) (by simp) (.slice (some ⟨W2.heap.size,0,none⟩) t.ns.length t.ns.length);have cW:=hWx3.setCell (p:=⟨w.heap.size+2,2,none⟩) (by simp) (.slice (some ⟨W2.heap.size,0,none⟩) t.ns.length t.ns.length);simp at c3'
 clear x0 x1 x2 hX2 hX3 b3 o3 p1 p2 d1 d2 d3 dW o1'' o2'' hWx3;replace q1:=Lib.hid q1;replace q2:=Lib.hid q2;replace q3:=Lib.hid q3;replace c2':=Lib.hid c2';replace c3':=Lib.hid c3';replace cW:=Lib.hid cW;go_upto_region 5 with (fail)
 generalize w3.setCell ⟨w.heap.size+1+1,2,none⟩ (.slice (some ⟨W2.heap.size,0,none⟩) t.ns.length t.ns.length)=W3 at *;clear y0 y1 y2 g0 g1 g2;obtain ⟨x0,x1,x2,-,-,-⟩:=blk3 c3'.out;obtain ⟨r0,r1,r2,g0,g1,g2⟩:=blk3 c2'.out;go_wp2;refine bodyPost_ret (v:=.agg #[.slice (some ⟨W.heap.size,0,none⟩) t.us.length t.us.length,.slice (some ⟨gi,0,none⟩) t.bs.length t.bs.length,.slice (some ⟨W2.heap.size,0,none⟩) t.ns.length t.ns.length]) (by simp [results,Tryz.results78,go_sem,r0,r1,r2]) rfl ?_;have hB:=below_tng3 (g:=w.heap.size+1) (u0:=.slice (some ⟨W.heap.size,0,none⟩) t.us.length t.us.length) (u1:=.slice (some ⟨gi,0,none⟩) t.bs.length t.bs.length) (u2:=.slice (some ⟨W2.heap.size,0,none⟩) t.ns.length t.ns.length) cW.out (by omega);exact ⟨_,rfl,own_tng3 (B:=w.heap.size+2) (own_mono q1.out (by omega)) (own_mono q2.out (by omega)) (own_mono q3.out (by omega)) (fun k hk he=>by simp [Value.ownBlock] at hk he;omega) (by omega) (by omega),hB⟩
end
section
open Go.RowKit
set_option maxRecDepth 100000 in
set_option maxHeartbeats 2000000 in
theorem eqTongue_same (v v':Value) (t:Tg) (w:World) (h:Tng w v t) (h':Tng w v' t) (hf:t.Fine) :
 Calls Tryz.prog 80 #[v,v'] w fun e w'=>e=.returned (.bool true)∧Below w.heap.size w w':=by
 obtain ⟨A1,c1,A2,c2,A3,c3,rfl,h1,h2,h3⟩:=h.ex;obtain ⟨B1,d1,B2,d2,B3,d3,rfl,k1,k2,k3⟩:=h'.ex;have hu:=hf.us;have hb:=hf.bs;have hn:=hf.ns;have hW:Below w.heap.size w ((w.alloc (.cells #[.slice A1 t.us.length c1,.slice A2 t.bs.length c2,.slice A3 t.ns.length c3] 31)).alloc (.cells #[.slice B1 t.us.length d1,.slice B2 t.bs.length d2,.slice B3 t.ns.length d3] 31)):=((Below.refl _ _).alloc (Nat.le_refl _) _).alloc (by simp) _;have HB1:Blk ((w.alloc (.cells #[.slice A1 t.us.length c1,.slice A2 t.bs.length c2,.slice A3 t.ns.length c3] 31)).alloc (.cells #[.slice B1 t.us.length d1,.slice B2 t.bs.length d2,.slice B3 t.ns.length d3] 31)) w.heap.size 31 #[.slice A1 t.us.length c1,.slice A2 t.bs.length c2,.slice A3 t.ns.length c3]:=(Blk.new _ _ _).alloc _;have HB2:Blk ((w.alloc (.cells #[.slice A1 t.us.length c1,.slice A2 t.bs.length c2,.slice A3 t.ns.length c3] 31)).alloc (.cells #[.slice B1 t.us.length d1,.slice B2 t.bs.length d2,.slice B3 t.ns.length d3] 31)) (w.heap.size+1) 31 #[.slice B1 t.us.length d1,.slice B2 t.bs.length d2,.slice B3 t.ns.length d3]:=blk_new_at _ (by simp);have K1:=Lib.hid (fun m=>by have hh:=eqStringS_any A1 B1 _ c1 _ d1 t.us t.us _ ((h1.below hW (Nat.le_refl _)).drewN m) ((k1.below hW (Nat.le_refl _)).drewN m) (by omega) (by omega);rw [decide_eq_true rfl] at hh;exact hh)
 have K2:=Lib.hid (fun m=>by have hh:=eqIntS_any A2 B2 _ c2 _ d2 t.bs t.bs _ ((h2.below hW (Nat.le_refl _)).drewN m) ((k2.below hW (Nat.le_refl _)).drewN m) hb hb;rw [decide_eq_true rfl] at hh;exact hh);have K3:=Lib.hid (fun m=>by have hh:=eqStringS_any A3 B3 _ c3 _ d3 t.ns t.ns _ ((h3.below hW (Nat.le_refl _)).drewN m) ((k3.below hW (Nat.le_refl _)).drewN m) (by omega) (by omega);rw [decide_eq_true rfl] at hh;exact hh);replace hW:=Lib.hid hW;replace HB1:=Lib.hid HB1;replace HB2:=Lib.hid HB2;clear h h' h1 h2 h3 k1 k2 k3 hf;go_enter Tryz.func80,Tryz.ntmps80;go_upto_region 1 with (fail)
 generalize (w.alloc (.cells #[.slice A1 t.us.length c1,.slice A2 t.bs.length c2,.slice A3 t.ns.length c3] 31)).alloc (.cells #[.slice B1 t.us.length d1,.slice B2 t.bs.length d2,.slice B3 t.ns.length d3] 31)=W at *;obtain ⟨x0,x1,x2,-,-,-⟩:=blk3 HB1.out;obtain ⟨y0,y1,y2,-,-,-⟩:=blk3 HB2.out;have J1:=Lib.hid (K1.out 0);rw [World.drewN_zero] at J1;go_wp2_with (fail);refine J1.out.mono ?_;rintro e _ ⟨rfl,m1,rfl⟩;have J2:=Lib.hid (K2.out m1);go_wp2_with (fail);refine J2.out.mono ?_;rintro e _ ⟨rfl,m2,rfl⟩;have J3:=Lib.hid (K3.out (m1+m2));rw [← World.drewN_drewN] at J3;go_wp2_with (fail)
 first
  | refine J3.out.mono ?_
  | (rw [World.drewN_drewN] at J3;refine J3.out.mono ?_)
 rintro e _ ⟨rfl,m3,rfl⟩;go_wp2;go_ret;exact ⟨rfl,by first | exact below_drewN (below_drewN (below_drewN hW.out _) _) _ | exact below_drewN (below_drewN hW.out _) _ | exact below_drewN hW.out _⟩
end
section
open Go.ChangeShapes Go.WideShapes Go.RowKit Go.Joins Go.Deep
theorem in_strs {H:Type} {enc:TypeId × Value→H} {W:World} {v:Value} {n:Nat} {y:DataW H × List MemPlace} (h:DataW.trod enc Tryz.prog W 0 (fun _=>true) true n 28 [v]=some y) :
 ∃ A c xs,v=.slice A (List.length xs) c∧Strs W A xs.length c xs∧c≤maxLen∧∀ x ∈ xs,x.size≤maxLen:=by
 rcases open_strs Tryz.underlying28 Tryz.underlying9 (by kernel_rfl) h with ⟨hcs,_⟩ | ⟨a,len,cap,m,Sx,hcs,_,hl,hm,hmm,_,hx⟩
 · simp at hcs;subst hcs;exact ⟨none,0,[],rfl,Strs.none_,Nat.zero_le _,by simp⟩
 · simp at hcs;subst hcs;have hmc:m=cap:=by simpa using hmm
   have hs:=strs_of_cells (w:=W) (x:=a) (Sx:=Sx) (m:=m) (n:=len) (c:=cap) hl (by omega) (fun i hi=>(hx i hi).1);have hlen:((List.range len).map Sx).length=len:=by simp
   refine ⟨some a,cap,(List.range len).map Sx,by rw [hlen],by rw [hlen];exact hs,hm,fun x hxm=>?_⟩;obtain ⟨i,hi,rfl⟩:=List.mem_map.1 hxm;exact (hx i (by have:=List.mem_range.1 hi;omega)).2
end
section
open Go.ChangeShapes Go.WideShapes Go.RowKit Go.Joins Go.Deep
theorem in_ints {H:Type} {enc:TypeId × Value→H} {W:World} {v:Value} {n:Nat} {y:DataW H × List MemPlace} (h:DataW.trod enc Tryz.prog W 0 (fun _=>true) true n 29 [v]=some y) :
 ∃ A c xs,v=.slice A (List.length xs) c∧Ints W .i64 A xs.length c xs∧c≤maxLen∧∀ x ∈ xs,(Lit.int .i64 x).wf=true:=by
 rcases open_ints Tryz.underlying29 Tryz.underlying3 (by kernel_rfl) h with ⟨hcs,_⟩ | ⟨x,l,c,zs,hcs,_,hl,hm,hz,_,hcell,hwz⟩
 · simp at hcs;subst hcs;exact ⟨none,0,[],rfl,Ints.none_,Nat.zero_le _,by simp⟩
 · simp at hcs;subst hcs;have hzl:zs.length=c:=by simpa using hz
   have hlen:(zs.take l).length=l:=by simp;omega
   exact ⟨some x,c,zs.take l,by rw [hlen],by rw [hlen];exact Ints.of_row hl hzl hcell,hm,fun n hn=>hwz n (List.mem_of_mem_take hn)⟩
end
section
open Go.RowKit
def mkLoop (k:Nat) (out:ByteArray):ByteArray:=if _h:k=0 then out else mkLoop (k / 10) (⟨#[UInt8.ofNat (48+k % 10)]⟩++out)
termination_by k
decreasing_by omega
theorem mkLoop_zero (out:ByteArray):mkLoop 0 out=out:=by rw [mkLoop];simp
theorem mkLoop_step {k:Nat} (h:k≠0) (out:ByteArray):mkLoop k out=mkLoop (k / 10) (⟨#[UInt8.ofNat (48+k % 10)]⟩++out):=by
 rw [mkLoop];simp [h]
def mkText (k:Int):ByteArray:=if k≤0 then ⟨#[109,48]⟩ else ⟨#[109]⟩++mkLoop k.toNat ⟨#[]⟩
set_option maxRecDepth 100000 in
set_option maxHeartbeats 1000000 in
theorem markText_any (k:Int) (w:World) (hk:1≤k) (hk':k≤10000000) :
 Calls Tryz.prog 86 #[.int .i64 k] w fun e w'=>e=.returned (.string (mkText k))∧Below w.heap.size w w':=by
 obtain ⟨n,rfl⟩:∃ n:Nat,k=n:=⟨k.toNat,by omega⟩;have HT:mkText n=⟨#[109]⟩++mkLoop n ⟨#[]⟩:=by unfold mkText;rw [if_neg (by omega)];rfl
 rw [HT];clear HT;generalize hm:mkLoop n ⟨#[]⟩=m at *;have hm':=Lib.hid hm;clear hm;have hn0:¬ n=0:=by omega
 go_enter Tryz.func86,Tryz.ntmps86;go_wp2
 go_loopw [0,3] (fun s0 s3 wr=>∃ (j:Nat) (out:ByteArray),j≤n∧s0=.int .i64 j∧s3=.string out∧mkLoop j out=m∧out.size+j≤n∧Below w.heap.size w wr) (fun s0 _ _=>(intOf s0).toNat)
 case atStart=>exact ⟨n,⟨#[]⟩,Nat.le_refl _,rfl,rfl,hm'.out,by show 0+n≤n;omega,Below.refl _ _⟩
 case round =>
  obtain ⟨j,out,hj,rfl,rfl,hl,hs,hB⟩:=hrel
  by_cases h0:j=0
  · subst h0;rw [mkLoop_zero] at hl;subst hl;have hcat:¬ (9223372036854775807 < 1+out.size):=by omega
    replace hB:=Lib.hid hB;go_wp2;go_ret;exact ⟨rfl,hB.out⟩
  · have HL:=Lib.hid ((mkLoop_step h0 out).symm.trans hl);clear hl;have h1:0 < (j:Int):=by omega
    have hbn:(UInt8.ofNat (48+j % 10)).toNat=48+j % 10:=by
     show (48+j % 10) % 256=_;omega
    have hbi:((UInt8.ofNat (48+j % 10)).toNat:Int)=48+(j:Int) % 10:=by rw [hbn];omega
    have hcv:(convert 22 9 (.slice (some ⟨wr.heap.size,0,none⟩) 1 1)).run Tryz.prog (wr.alloc (.cells #[.int .u8 (48+(j:Int) % 10)] 5))=.ok (.string ⟨#[UInt8.ofNat (48+j % 10)]⟩) (wr.alloc (.cells #[.int .u8 (48+(j:Int) % 10)] 5)) :=
     run_convert_bytes_back _ _ _ 5 ⟨wr.heap.size,0,none⟩ 1 [UInt8.ofNat (48+j % 10)] Tryz.underlying22 Tryz.underlying5 Tryz.underlying9 (fun i hi=>by
      obtain rfl:i=0:=by simpa using hi
      rw [add_plain',(Blk.new wr _ _).cell]
      show some (Value.int .u8 (48+(j:Int) % 10))=some (Value.int .u8 ((UInt8.ofNat (48+j % 10)).toNat:Int))
      rw [hbi])
    have hB2:=Lib.hid (hB.alloc hB.size (.cells #[.int .u8 (48+(j:Int) % 10)] 5));have hq:((j:Int) / 10)=((j / 10:Nat):Int):=by omega
    have hcat:¬ (9223372036854775807 < (⟨#[UInt8.ofNat (48+j % 10)]⟩:ByteArray).size+out.size):=by show ¬ (9223372036854775807 < 1+out.size);omega
    have hsz1:((⟨#[UInt8.ofNat (48+j % 10)]⟩:ByteArray)++out).size=1+out.size:=by rw [ByteArray.size_append];rfl
    replace hq:=Lib.hid hq;replace hsz1:=Lib.hid hsz1;clear hbn hbi hB;generalize (⟨#[UInt8.ofNat (48+j % 10)]⟩:ByteArray)=dg at *;go_wp2
    go_roundw
    case rel=>exact ⟨j / 10,dg++out,by omega,by rw [← hq.out],rfl,HL.out,by rw [hsz1.out];omega,hB2.out⟩
    case measure=>simp [intOf];omega
end
section
open Go.RowKit
def marksS (k:Int) (n:Nat):List ByteArray:=(List.range n).map (fun i:Nat=>mkText (k+(i:Int)))
theorem marksS_length (k:Int) (n:Nat):(marksS k n).length=n:=by simp [marksS]
theorem marksS_at (k:Int) {n j:Nat} (hj:j < n):(marksS k n).getD j ByteArray.empty=mkText (k+j):=by simp [marksS,List.getD_eq_getElem?_getD,hj]
set_option maxHeartbeats 1000000 in
theorem markStringS_any (B:Nat) (v:Value) (n:Nat) (xs:List ByteArray) (k:Int) (w:World) (h:w.ownsRow B 9 1 v n (xs.map Value.string)) (hn:n≤1048576) (hk:1≤k∧k≤5000000) :
 Calls Tryz.prog 36 #[v,.int .i64 k] w fun e w'=>e=.returned (.int .i64 (k+n))∧w'.ownsRow B 9 1 v n ((marksS k n).map Value.string)∧w.grownBy w' v.ownBlock:=by
 have hl:xs.length=n:=by have:=h.1;simpa using this
 by_cases hn0:0 < n
 · obtain ⟨g,cap,rfl,hB,hlt⟩:=h.form hn0;replace hl:=Lib.hid hl;go_enter Tryz.func36,Tryz.ntmps36;go_wp2
   go_loopw [1,5] (fun kk i wr=>∃ (j:Nat) (zs:List ByteArray),j≤n∧i=.int .i64 j∧kk=.int .i64 (k+j)∧wr.ownsRow B 9 1 (.slice (some ⟨g,0,none⟩) n cap) n (zs.map Value.string)∧(∀ i,i < j→zs.getD i ByteArray.empty=mkText (k+i))∧w.grownBy wr (some g)) (fun _ i _=>n - (intOf i).toNat)
   case atStart=>exact ⟨0,xs,Nat.zero_le _,rfl,by simp,h,fun i hi=>by omega,World.grownBy.refl w _⟩
   case round =>
    obtain ⟨j,zs,hj,rfl,rfl,ho,hz,hg⟩:=hrel;have hzl:zs.length=n:=by have:=ho.1;simpa using this
    by_cases hlt2:j < n
    · have hM:=markText_any (k+j) wr (by omega) (by omega);replace ho:=Lib.hid ho;replace hz:=Lib.hid hz;replace hg:=Lib.hid hg;replace hzl:=Lib.hid hzl;clear h;go_wp2_with (fail);refine hM.mono ?_;rintro e w1 ⟨rfl,hb⟩;have ho1:=own_below ho.out hb (Nat.le_refl _)
      have c1:w1.cell? ⟨g,j,none⟩=some (.string (zs.getD j ByteArray.empty)):=by
       have hjl:j < zs.length:=by rw [hzl.out];exact hlt2
       rw [ho1.cellAt j (by omega)]
       simp [List.getD_eq_getElem?_getD,hjl]
      have f1:=ho1.frozenAt j;have hst:=ho1.stored j (.string (mkText (k+j)))
      have HZ:∀ i,i < j+1→(zs.set j (mkText (k+j))).getD i ByteArray.empty=mkText (k+i):=fun i hi=>by
       have hjl:j < zs.length:=by rw [hzl.out];exact hlt2
       by_cases e:j=i
       · subst e;simp [List.getD_eq_getElem?_getD,hjl]
       · have:=hz.out i (by omega)
         simpa [List.getD_eq_getElem?_getD,List.getElem?_set,e] using this
      have HG:=(hg.out.trans (grown_of_below (some g) hb)).trans hst.2;have HO:(w1.setCell ⟨g,j,none⟩ (.string (mkText (k+j)))).ownsRow B 9 1 (.slice (some ⟨g,0,none⟩) n cap) n ((zs.set j (mkText (k+j))).map Value.string):=by rw [List.map_set];exact hst.1
      generalize zs.getD j ByteArray.empty=z at *;replace HZ:=Lib.hid HZ;replace HG:=Lib.hid HG;replace HO:=Lib.hid HO;clear hst ho hz hg hzl hM hb ho1;generalize mkText (k+j)=mt at *;go_wp2
      go_roundw
      case rel=>exact ⟨j+1,_,by omega,by go_num,by simp;omega,HO.out,HZ.out,HG.out⟩
      case measure=>simp [intOf];omega
    · obtain rfl:j=n:=by omega
      have hm:zs=marksS k j:=by
       apply List.ext_getElem (by rw [marksS_length];exact hzl);intro i h1 h2;have h3:=hz i (by omega);have h4:=marksS_at k (n:=j) (j:=i) (by omega);simp only [List.getD_eq_getElem?_getD,List.getElem?_eq_getElem h1,Option.getD_some] at h3;simp only [List.getD_eq_getElem?_getD,List.getElem?_eq_getElem h2,Option.getD_some] at h4;rw [h3,h4]
      rw [hm] at ho;replace ho:=Lib.hid ho;replace hg:=Lib.hid hg;clear hz hm hzl h;go_wp2;go_ret;exact ⟨rfl,ho.out,hg.out⟩
 · obtain rfl:n=0:=by omega
   obtain ⟨A,c,rfl⟩:=ownsRow_nil_n h;have hx:xs=[]:=List.eq_nil_of_length_eq_zero hl;subst hx;replace h:=Lib.hid h;go_enter Tryz.func36,Tryz.ntmps36;go_wp2;refine wp_loop_rounds 1 ?_;rw [rounds_succ];go_wp2;go_ret;exact ⟨by simp,by simpa [marksS] using h.out,World.grownBy.refl w _⟩
set_option maxHeartbeats 1000000 in
theorem heldStringS_any (A:Option Addr) (n c:Nat) (k:Int) (w:World) (h:Strs w A n c (marksS k n)) (hn:n≤1048576) (hk:1≤k∧k≤5000000) :
 Calls Tryz.prog 37 #[.slice A n c,.int .i64 k] w fun e w'=>e=.returned (.int .i64 (k+n))∧Below w.heap.size w w':=by
 obtain ⟨-,hcap,h⟩:=h;go_enter Tryz.func37,Tryz.ntmps37;go_wp2
 go_loopw [1,5] (fun kk i wr=>∃ (j:Nat),j≤n∧i=.int .i64 j∧kk=.int .i64 (k+j)∧Below w.heap.size w wr) (fun _ i _=>n - (intOf i).toNat)
 case atStart=>exact ⟨0,Nat.zero_le _,rfl,by simp,Below.refl _ _⟩
 case round =>
  obtain ⟨j,hj,rfl,rfl,hB⟩:=hrel
  by_cases hlt2:j < n
  · obtain ⟨b,o,rfl,hbo,h⟩:=h (by omega);have c0:=h j hlt2;rw [marksS_at k hlt2] at c0;have c1:=(hB.cell (p:=⟨b,o+j,none⟩) hbo).trans c0;have hM:=Lib.hid (fun W=>markText_any (k+j) W (by omega) (by omega));have hbr:b < wr.heap.size:=Nat.lt_of_lt_of_le hbo hB.size;generalize mkText (k+j)=mt at *;have heq:(mt.toList != mt.toList)=false:=by simp
    replace hB:=Lib.hid hB;clear h c0;go_wp2
    go_region_held3 (fun w'=>w'.cell? ⟨b,o+j,none⟩=some (.string mt)) (first | go_keep | exact c2)
     (first
      | (go_at_call 86;refine (hM.out _).mono ?_;rintro e w1 ⟨rfl,hb1⟩;have hb2:Below wr.heap.size wr w1:=⟨hb1.os,hb1.tape,hb1.output,hb1.size,hb1.block⟩;have c2:=(hb2.cell (p:=⟨b,o+j,none⟩) hbr).trans c1;have HB:=Lib.hid (hB.out.trans (hb2.mono hB.out.size));clear hb1 hb2))
    all_goals
     go_wp2
     go_roundw
     case rel=>exact ⟨j+1,by omega,by go_num,by simp;omega,HB.out⟩
     case measure=>simp [intOf];omega
  · obtain rfl:j=n:=by omega
    replace hB:=Lib.hid hB;clear h;go_wp2;go_ret;exact ⟨rfl,hB.out⟩
end
section
open Go.RowKit
def mkTg (k:Int) (t:Tg):Tg:=⟨marksS k t.us.length,marks (k+t.us.length) t.bs.length,marksS (k+t.us.length+t.bs.length) t.ns.length⟩
def OffTng (v u:Value):Prop:=∃ v1 v2 v3,v=.agg #[v1,v2,v3]∧∀ k,u.ownBlock=some k→v1.ownBlock≠some k∧v2.ownBlock≠some k∧v3.ownBlock≠some k
def RetMarked (w:World) (B:Nat) (v:Value) (k:Int) (t:Tg) (e:Ending) (w':World):Prop :=
 e=.returned (.int .i64 (k+t.us.length+t.bs.length+t.ns.length))∧OwnTng w' B v (mkTg k t)∧Below B w w' ∧
  ∀ (u:Value) (B2 n2:Nat) (e2:TypeId) (xs2:List Value),OffTng v u→w.ownsRow B2 e2 1 u n2 xs2→w'.ownsRow B2 e2 1 u n2 xs2
theorem own_off {a b:World} {B n:Nat} {e:TypeId} {u:Value} {xs:List Value} {row:Option Nat} (h:a.ownsRow B e 1 u n xs) (hg:a.grownBy b row) (hne:∀ k,u.ownBlock=some k→row≠some k):b.ownsRow B e 1 u n xs:=by
 refine h.kept hg ?_;cases hv:u.ownBlock with
 | none=>exact .inl rfl
 | some k=>exact .inr fun e=>hne k hv e.symm
set_option maxRecDepth 100000 in
set_option maxHeartbeats 2000000 in
theorem markTongue_any (v:Value) (t:Tg) (B:Nat) (k:Int) (w:World) (h:OwnTng w B v t) (hf:t.Fine) (hBw:B≤w.heap.size) (hk:k=1) :
 Calls Tryz.prog 82 #[v,.int .i64 k] w (RetMarked w B v k t):=by
 subst hk;obtain ⟨v1,v2,v3,rfl,o1,o2,o3,ap⟩:=h.ex;obtain ⟨A1,c1,rfl,-⟩:=o1.strs;obtain ⟨A2,c2,rfl,-⟩:=o2.ints;obtain ⟨A3,c3,rfl,-⟩:=o3.strs;have t12:=own_type_ne o1 o2 ne_string_int;have t32:=own_type_ne o3 o2 ne_string_int;have hu:=hf.us;have hb:=hf.bs;have hn:=hf.ns;have hB0:=(Below.refl w.heap.size w).alloc (Nat.le_refl _) (.cells #[.slice A1 t.us.length c1,.slice A2 t.bs.length c2,.slice A3 t.ns.length c3] 31);have p1:World.ownsRow _ _ _ _ _ _ _:=World.ownsRow.alloc o1 (.cells #[.slice A1 t.us.length c1,.slice A2 t.bs.length c2,.slice A3 t.ns.length c3] 31);have p2:World.ownsRow _ _ _ _ _ _ _:=World.ownsRow.alloc o2 (.cells #[.slice A1 t.us.length c1,.slice A2 t.bs.length c2,.slice A3 t.ns.length c3] 31);have p3:World.ownsRow _ _ _ _ _ _ _:=World.ownsRow.alloc o3 (.cells #[.slice A1 t.us.length c1,.slice A2 t.bs.length c2,.slice A3 t.ns.length c3] 31);have HX:=Blk.new w 31 #[.slice A1 t.us.length c1,.slice A2 t.bs.length c2,.slice A3 t.ns.length c3];have hOff:∀ (u:Value) (B2 n2:Nat) (e2:TypeId) (xs2:List Value),w.ownsRow B2 e2 1 u n2 xs2→(w.alloc (.cells #[.slice A1 t.us.length c1,.slice A2 t.bs.length c2,.slice A3 t.ns.length c3] 31)).ownsRow B2 e2 1 u n2 xs2:=fun u B2 n2 e2 xs2 hr=>World.ownsRow.alloc hr _
 have hBel:Below B w (w.alloc (.cells #[.slice A1 t.us.length c1,.slice A2 t.bs.length c2,.slice A3 t.ns.length c3] 31)):=hB0.mono hBw;have K1:=Lib.hid (markStringS_any B _ _ t.us 1 _ p1 hu (by omega));replace p1:=Lib.hid p1;replace p2:=Lib.hid p2;replace p3:=Lib.hid p3;replace HX:=Lib.hid HX;replace hOff:=Lib.hid hOff;replace hBel:=Lib.hid hBel;replace t12:=Lib.hid t12;replace t32:=Lib.hid t32;replace ap:=Lib.hid ap;clear h hB0 o1 o2 o3 hf;go_enter Tryz.func82,Tryz.ntmps82;go_upto_region 1 with (fail)
 generalize w.alloc (.cells #[.slice A1 t.us.length c1,.slice A2 t.bs.length c2,.slice A3 t.ns.length c3] 31)=W at *;obtain ⟨x0,x1,x2,-,-,-⟩:=blk3 HX.out;have hszW:=hBel.out.size;go_wp2_with (fail);refine K1.out.mono ?_;rintro e w1 ⟨rfl,q1,g1⟩;have b1:Below B w w1:=below_own hBel.out p1.out g1 (by omega) (Nat.le_refl _);have X1:=HX.out.grown g1 (fun e=>own_blk_ne p1.out HX.out ne_string_tongue e.symm);have q2:=own_off p2.out g1 (fun k hk e=>t12.out k e hk);have q3:=own_off p3.out g1 (fun k hk e=>ap.out k e hk);have K2:=Lib.hid (markIntS_any B _ _ t.bs (1+t.us.length) _ q2 hb (by omega));have hs1:=g1.size;replace q1:=Lib.hid q1;replace g1:=Lib.hid g1;replace b1:=Lib.hid b1;replace q2:=Lib.hid q2;replace q3:=Lib.hid q3;clear x0 x1 x2 K1;obtain ⟨x0,x1,x2,-,-,-⟩:=blk3 X1;replace X1:=Lib.hid X1;go_wp2_with (fail);refine K2.out.mono ?_;rintro e w2 ⟨rfl,r2,g2,-⟩;have b2:Below B w w2:=below_own b1.out q2.out g2 (by omega) (Nat.le_refl _);have X2:=X1.out.grown g2 (fun e=>own_blk_ne q2.out X1.out ne_int_tongue e.symm);have r1:=own_off q1.out g2 (fun k hk e=>t12.out k hk e);have r3:=own_off q3.out g2 (fun k hk e=>t32.out k hk e);have K3:=Lib.hid (markStringS_any B _ _ t.ns (1+t.us.length+t.bs.length) _ r3 hn (by omega));have hs2:=g2.size;replace r1:=Lib.hid r1;replace r2:=Lib.hid r2;replace r3:=Lib.hid r3;replace g2:=Lib.hid g2;replace b2:=Lib.hid b2;clear x0 x1 x2 K2
 obtain ⟨x0,x1,x2,-,-,-⟩:=blk3 X2;clear X2;go_wp2_with (fail);refine K3.out.mono ?_;rintro e w3 ⟨rfl,s3,g3⟩;have b3:Below B w w3:=below_own b2.out r3.out g3 (by omega) (Nat.le_refl _);have s1:=own_off r1.out g3 (fun k hk e=>ap.out k hk e);have s2:=own_off r2.out g3 (fun k hk e=>t32.out k e hk)
 have HO:OwnTng w3 B (.agg #[.slice A1 t.us.length c1,.slice A2 t.bs.length c2,.slice A3 t.ns.length c3]) (mkTg 1 t):=by
  refine ⟨_,_,_,rfl,?_,?_,?_,ap.out⟩
  · show World.ownsRow _ _ _ _ _ _ _;rw [show (mkTg 1 t).us.length=t.us.length from marksS_length _ _];exact s1
  · show World.ownsRow _ _ _ _ _ _ _;rw [show (mkTg 1 t).bs.length=t.bs.length from marks_length _ _];exact s2
  · show World.ownsRow _ _ _ _ _ _ _;rw [show (mkTg 1 t).ns.length=t.ns.length from marksS_length _ _];exact s3
 have HQ:∀ (u:Value) (B2 n2:Nat) (e2:TypeId) (xs2:List Value),OffTng (.agg #[.slice A1 t.us.length c1,.slice A2 t.bs.length c2,.slice A3 t.ns.length c3]) u→w.ownsRow B2 e2 1 u n2 xs2→w3.ownsRow B2 e2 1 u n2 xs2:=fun u B2 n2 e2 xs2 ho hr=>by
  obtain ⟨u1,u2,u3,e,ho⟩:=ho;cases e;exact own_off (own_off (own_off (hOff.out u B2 n2 e2 xs2 hr) g1.out (fun k hk=>(ho k hk).1)) g2.out (fun k hk=>(ho k hk).2.1)) g3 (fun k hk=>(ho k hk).2.2)
 replace HO:=Lib.hid HO;replace HQ:=Lib.hid HQ;replace b3:=Lib.hid b3;clear s1 s2 s3 g3 x0 x1 x2;go_wp2;go_ret;exact ⟨rfl,HO.out,b3.out,HQ.out⟩
end
end Go.Proofs.YtmhgpbfogdoaeaaGreatDoor
