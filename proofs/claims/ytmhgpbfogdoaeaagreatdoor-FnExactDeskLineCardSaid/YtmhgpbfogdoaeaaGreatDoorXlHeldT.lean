/-
  The contract of the marks' look in whole tongues.
-/
import Derived.Test.YtmhgpbfogdoaeaaGreatDoorXlGT
namespace Go.Proofs.YtmhgpbfogdoaeaaGreatDoor
open Go.RowKit
theorem mkTg_us (k:Int) (t:Tg):(mkTg k t).us.length=t.us.length:=marksS_length _ _
theorem mkTg_bs (k:Int) (t:Tg):(mkTg k t).bs.length=t.bs.length:=marks_length _ _
theorem mkTg_ns (k:Int) (t:Tg):(mkTg k t).ns.length=t.ns.length:=marksS_length _ _
set_option maxRecDepth 100000 in
set_option maxHeartbeats 2000000 in
theorem heldTongue_any (v:Value) (t:Tg) (w:World) (h:Tng w v (mkTg 1 t)) (hf:t.Fine) :
 Calls Tryz.prog 84 #[v,.int .i64 1] w fun e w'=>e=.returned (.int .i64 (1+t.us.length+t.bs.length+t.ns.length))∧Below w.heap.size w w':=by
 obtain ⟨A1,c1,A2,c2,A3,c3,rfl,h1,h2,h3⟩:=h.ex;rw [mkTg_us] at h1 ⊢;rw [mkTg_bs] at h2 ⊢;rw [mkTg_ns] at h3 ⊢;have hu:=hf.us;have hb:=hf.bs;have hn:=hf.ns;have hB0:=(Below.refl w.heap.size w).alloc (Nat.le_refl _) (.cells #[.slice A1 t.us.length c1,.slice A2 t.bs.length c2,.slice A3 t.ns.length c3] 31);have HX:=Blk.new w 31 #[.slice A1 t.us.length c1,.slice A2 t.bs.length c2,.slice A3 t.ns.length c3];have p1:=h1.below hB0 (Nat.le_refl _);have p2:=h2.below hB0 (Nat.le_refl _);have p3:=h3.below hB0 (Nat.le_refl _);have K1:=Lib.hid (heldStringS_any A1 t.us.length c1 1 _ p1 hu (by omega));replace p1:=Lib.hid p1;replace p2:=Lib.hid p2;replace p3:=Lib.hid p3;replace HX:=Lib.hid HX;replace hB0:=Lib.hid hB0;clear h h1 h2 h3 hf;go_enter Tryz.func84,Tryz.ntmps84;go_upto_region 1 with (fail)
 generalize w.alloc (.cells #[.slice A1 t.us.length c1,.slice A2 t.bs.length c2,.slice A3 t.ns.length c3] 31)=W at *;obtain ⟨x0,x1,x2,-,-,-⟩:=blk3 HX.out;go_wp2_with (fail);refine K1.out.mono ?_;rintro e w1 ⟨rfl,b1⟩;have B1:=hB0.out.trans (b1.mono hB0.out.size);have X1:=HX.out.below b1 HX.out.lt;have q2:=p2.out.below b1 (Nat.le_refl _);have q3:=p3.out.below b1 (Nat.le_refl _);have K2:=Lib.hid (heldIntS_any A2 t.bs.length c2 (1+t.us.length) w1 q2 hb (by omega));replace B1:=Lib.hid B1;replace q3:=Lib.hid q3;clear x0 x1 x2 K1 b1 q2;obtain ⟨x0,x1,x2,-,-,-⟩:=blk3 X1;replace X1:=Lib.hid X1;have g1:¬ (1+(t.us.length:Int) < 0):=by omega
 go_wp2_with (fail);refine K2.out.mono ?_;rintro e _ ⟨rfl,rfl⟩;have K3:=Lib.hid (heldStringS_any A3 t.ns.length c3 (1+t.us.length+t.bs.length) w1 q3.out hn (by omega));have g2:¬ (1+(t.us.length:Int)+(t.bs.length:Int) < 0):=by omega
 go_wp2_with (fail);refine K3.out.mono ?_;rintro e w3 ⟨rfl,b3⟩;have B3:=Lib.hid (B1.out.trans (b3.mono B1.out.size));have g3:¬ (1+(t.us.length:Int)+(t.bs.length:Int)+(t.ns.length:Int) < 0):=by omega
 clear b3 K2 K3 x0 x1 x2 B1 q3;go_wp2;go_ret;exact ⟨rfl,B3.out⟩
end Go.Proofs.YtmhgpbfogdoaeaaGreatDoor
