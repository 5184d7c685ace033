/-
  Contracts of the exact laws' marks in whole tongues.
-/
import Derived.Test.YteemgkabhkdeaaaTMarkB
import Derived.Test.YteemgkabhkdeaaaDSt
import Derived.Test.YteemgkabhkdeaaaOwnT
namespace Go.Proofs.Yteemgkabhkdeaaa
open Go.RowKit

def mkTg (k : Int) (t : Tg) : Tg := ⟨marksS k t.us.length, marks (k + t.us.length) t.bs.length, marksS (k + t.us.length + t.bs.length) t.ns.length⟩
/-- A row that is none of the three. -/
def OffTng (v u : Value) : Prop := ∃ v1 v2 v3, v = .agg #[v1, v2, v3] ∧ ∀ k, u.ownBlock = some k → v1.ownBlock ≠ some k ∧ v2.ownBlock ≠ some k ∧ v3.ownBlock ≠ some k
/-- What marking a tongue of the call's own leaves. -/
def RetMarked (w : World) (B : Nat) (v : Value) (k : Int) (t : Tg) (e : Ending) (w' : World) : Prop :=
  e = .returned (.int .i64 (k + t.us.length + t.bs.length + t.ns.length)) ∧ OwnTng w' B v (mkTg k t) ∧ Below B w w' ∧
    ∀ (u : Value) (B2 n2 : Nat) (e2 : TypeId) (xs2 : List Value), OffTng v u → w.ownsRow B2 e2 1 u n2 xs2 → w'.ownsRow B2 e2 1 u n2 xs2

theorem own_off {a b : World} {B n : Nat} {e : TypeId} {u : Value} {xs : List Value} {row : Option Nat} (h : a.ownsRow B e 1 u n xs) (hg : a.grownBy b row) (hne : ∀ k, u.ownBlock = some k → row ≠ some k) : b.ownsRow B e 1 u n xs := by
  refine h.kept hg ?_
  cases hv : u.ownBlock with
  | none => exact .inl rfl
  | some k => exact .inr fun e => hne k hv e.symm

set_option maxRecDepth 100000 in
set_option maxHeartbeats 2000000 in
theorem markTongue_any (v : Value) (t : Tg) (B : Nat) (k : Int) (w : World) (h : OwnTng w B v t) (hf : t.Fine) (hBw : B ≤ w.heap.size) (hk : k = 1) :
    Calls Try.prog 25 #[v, .int .i64 k] w (RetMarked w B v k t) := by
  subst hk
  obtain ⟨v1, v2, v3, rfl, o1, o2, o3, ap⟩ := h.ex
  obtain ⟨A1, c1, rfl, -⟩ := o1.strs
  obtain ⟨A2, c2, rfl, -⟩ := o2.ints
  obtain ⟨A3, c3, rfl, -⟩ := o3.strs
  have t12 := own_type_ne o1 o2 ne_string_int
  have t32 := own_type_ne o3 o2 ne_string_int
  have hu := hf.us
  have hb := hf.bs
  have hn := hf.ns
  have hB0 := (Below.refl w.heap.size w).alloc (Nat.le_refl _) (.cells #[.slice A1 t.us.length c1, .slice A2 t.bs.length c2, .slice A3 t.ns.length c3] 26)
  have p1 : World.ownsRow _ _ _ _ _ _ _ := World.ownsRow.alloc o1 (.cells #[.slice A1 t.us.length c1, .slice A2 t.bs.length c2, .slice A3 t.ns.length c3] 26)
  have p2 : World.ownsRow _ _ _ _ _ _ _ := World.ownsRow.alloc o2 (.cells #[.slice A1 t.us.length c1, .slice A2 t.bs.length c2, .slice A3 t.ns.length c3] 26)
  have p3 : World.ownsRow _ _ _ _ _ _ _ := World.ownsRow.alloc o3 (.cells #[.slice A1 t.us.length c1, .slice A2 t.bs.length c2, .slice A3 t.ns.length c3] 26)
  have HX := Blk.new w 26 #[.slice A1 t.us.length c1, .slice A2 t.bs.length c2, .slice A3 t.ns.length c3]
  have hOff : ∀ (u : Value) (B2 n2 : Nat) (e2 : TypeId) (xs2 : List Value), w.ownsRow B2 e2 1 u n2 xs2 → (w.alloc (.cells #[.slice A1 t.us.length c1, .slice A2 t.bs.length c2, .slice A3 t.ns.length c3] 26)).ownsRow B2 e2 1 u n2 xs2 := fun u B2 n2 e2 xs2 hr => World.ownsRow.alloc hr _
  have hBel : Below B w (w.alloc (.cells #[.slice A1 t.us.length c1, .slice A2 t.bs.length c2, .slice A3 t.ns.length c3] 26)) := hB0.mono hBw
  have K1 := Lib.hid (markStringS_any B _ _ t.us 1 _ p1 hu (by omega))
  replace p1 := Lib.hid p1
  replace p2 := Lib.hid p2
  replace p3 := Lib.hid p3
  replace HX := Lib.hid HX
  replace hOff := Lib.hid hOff
  replace hBel := Lib.hid hBel
  replace t12 := Lib.hid t12
  replace t32 := Lib.hid t32
  replace ap := Lib.hid ap
  clear h hB0 o1 o2 o3 hf
  go_enter Try.func25, Try.ntmps25
  go_upto_region 1 with (fail)
  generalize w.alloc (.cells #[.slice A1 t.us.length c1, .slice A2 t.bs.length c2, .slice A3 t.ns.length c3] 26) = W at *
  obtain ⟨x0, x1, x2, -, -, -⟩ := blk3 HX.out
  have hszW := hBel.out.size
  go_wp2_with (fail)
  refine K1.out.mono ?_
  rintro e w1 ⟨rfl, q1, g1⟩
  have b1 : Below B w w1 := below_own hBel.out p1.out g1 (by omega) (Nat.le_refl _)
  have X1 := HX.out.grown g1 (fun e => own_blk_ne p1.out HX.out ne_string_tongue e.symm)
  have q2 := own_off p2.out g1 (fun k hk e => t12.out k e hk)
  have q3 := own_off p3.out g1 (fun k hk e => ap.out k e hk)
  have K2 := Lib.hid (markIntS_any B _ _ t.bs (1 + t.us.length) _ q2 hb (by omega))
  have hs1 := g1.size
  replace q1 := Lib.hid q1
  replace g1 := Lib.hid g1
  replace b1 := Lib.hid b1
  replace q2 := Lib.hid q2
  replace q3 := Lib.hid q3
  clear x0 x1 x2 K1
  obtain ⟨x0, x1, x2, -, -, -⟩ := blk3 X1
  replace X1 := Lib.hid X1
  go_wp2_with (fail)
  refine K2.out.mono ?_
  rintro e w2 ⟨rfl, r2, g2, -⟩
  have b2 : Below B w w2 := below_own b1.out q2.out g2 (by omega) (Nat.le_refl _)
  have X2 := X1.out.grown g2 (fun e => own_blk_ne q2.out X1.out ne_int_tongue e.symm)
  have r1 := own_off q1.out g2 (fun k hk e => t12.out k hk e)
  have r3 := own_off q3.out g2 (fun k hk e => t32.out k hk e)
  have K3 := Lib.hid (markStringS_any B _ _ t.ns (1 + t.us.length + t.bs.length) _ r3 hn (by omega))
  have hs2 := g2.size
  replace r1 := Lib.hid r1
  replace r2 := Lib.hid r2
  replace r3 := Lib.hid r3
  replace g2 := Lib.hid g2
  replace b2 := Lib.hid b2
  clear x0 x1 x2 K2
  obtain ⟨x0, x1, x2, -, -, -⟩ := blk3 X2
  clear X2
  go_wp2_with (fail)
  refine K3.out.mono ?_
  rintro e w3 ⟨rfl, s3, g3⟩
  have b3 : Below B w w3 := below_own b2.out r3.out g3 (by omega) (Nat.le_refl _)
  have s1 := own_off r1.out g3 (fun k hk e => ap.out k hk e)
  have s2 := own_off r2.out g3 (fun k hk e => t32.out k e hk)
  have HO : OwnTng w3 B (.agg #[.slice A1 t.us.length c1, .slice A2 t.bs.length c2, .slice A3 t.ns.length c3]) (mkTg 1 t) := by
    refine ⟨_, _, _, rfl, ?_, ?_, ?_, ap.out⟩
    · show World.ownsRow _ _ _ _ _ _ _; rw [show (mkTg 1 t).us.length = t.us.length from marksS_length _ _]; exact s1
    · show World.ownsRow _ _ _ _ _ _ _; rw [show (mkTg 1 t).bs.length = t.bs.length from marks_length _ _]; exact s2
    · show World.ownsRow _ _ _ _ _ _ _; rw [show (mkTg 1 t).ns.length = t.ns.length from marksS_length _ _]; exact s3
  have HQ : ∀ (u : Value) (B2 n2 : Nat) (e2 : TypeId) (xs2 : List Value), OffTng (.agg #[.slice A1 t.us.length c1, .slice A2 t.bs.length c2, .slice A3 t.ns.length c3]) u → w.ownsRow B2 e2 1 u n2 xs2 → w3.ownsRow B2 e2 1 u n2 xs2 := fun u B2 n2 e2 xs2 ho hr => by
    obtain ⟨u1, u2, u3, e, ho⟩ := ho
    cases e
    exact own_off (own_off (own_off (hOff.out u B2 n2 e2 xs2 hr) g1.out (fun k hk => (ho k hk).1)) g2.out (fun k hk => (ho k hk).2.1)) g3 (fun k hk => (ho k hk).2.2)
  replace HO := Lib.hid HO
  replace HQ := Lib.hid HQ
  replace b3 := Lib.hid b3
  clear s1 s2 s3 g3 x0 x1 x2
  go_wp2
  go_ret
  exact ⟨rfl, HO.out, b3.out, HQ.out⟩
end Go.Proofs.Yteemgkabhkdeaaa
