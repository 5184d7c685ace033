/-
  FnRingFrom holds for every input: the drawn tongue and number are answered by RingFrom as by its model; each further number of the ring is the letters of the one before, no two are equal, and each leads into the same ring, begun with it. No condition.
-/
import Derived.Test.YtfnpkmlgklameaaRows
import Derived.Test.YtfnpkmlgklameaaDrawL
import Derived.Test.YtfnpkmlgklameaaL2
import Derived.Test.YtfnpkmlgklameaaM6
import Derived.Test.YtfnpkmlgklameaaM1
import Derived.Test.YtfnpkmlgklameaaHas
import Derived.Lib.QuietBelow
import Derived.Deep.RegionLaw
import Derived.Test.YtfnpkmlgklameaaGA
import Derived.Test.YtfnpkmlgklameaaInv
namespace Go.Proofs.Ytfnpkmlgklameaa.fnRingFrom
open Go.ChangeShapes Go.WideShapes Go.ChangeAt Go.RowKit Go.Sort
open Go.ChangeMaps (open_string shut_string)

theorem own : ownKnob Try.prog.godebug = none := by kernel_rfl
theorem laidOut : laidOutB Try.prog = true := by kernel_rfl

section
variable {P : Program} (w : World)
/-- append at a step of a region that draws, where its guard wants it. -/
theorem step_app_g {ops : Array Oper} {o : Oper} {a : Act} {K : Act → World → Prop} {Q : Exit → Act → World → Prop} {E : Prop} (hw : Region.wanted o (yielded ops a.tmps) = true) (s x : Operand) (t : TypeId)
    (ho : o.op = .call { callee := .builtin .append, args := #[s, x], argTypes := #[t, t] })
    (base : Nat) (e : TypeId) (i : TypeInfo) (z : Value) (bytes : Nat) (ht : P.underlying t = some (.slice e)) (hi : P.info? e = some i) (hz : i.zero = some z)
    (hsize : i.size = 1) (hby : i.bytes = bytes) (hzs : z.cells.size = 1)
    (v : Value) (n : Nat) (xs : List Value) (hs : a.eval s = v) (hown : w.ownsRow base e 1 v n xs)
    (A : Option Addr) (m c : Nat) (news : List Value) (hx : a.eval x = .slice A m c) (hr : Src w A m news)
    (h63 : n + m ≤ maxLen) (hbytes : (n + m) * bytes ≤ 140737488355328) (hbase : base ≤ w.heap.size)
    (h : ∀ v' w', w'.ownsRow base e 1 v' (n + m) (xs ++ news) → w.grownBy w' v.ownBlock → (v'.ownBlock = v.ownBlock ∨ v'.ownBlock = some w.heap.size) → K (a.put o.dst v') w') :
    if Region.wanted o (yielded ops a.tmps) = true then Oper.wp P o a w K Q else E := by
  rw [if_pos hw]
  exact wp_app w s x t ho base e i z bytes ht hi hz hsize hby hzs v n xs hs hown A m c news hx hr h63 hbytes hbase h
end
/-- What is known of the operations that have come up, while a ring is put together again. -/
structure RF (w7 : World) (rs rot : List Int) (ring other p1 p2 : Value) (kk L : Nat) (l : Array Bool) (w : World) (s94 s95 s96 s97 s98 s99 s100 s101 s102 s103 s104 s105 s106 s107 s108 s109 : Value) : Prop where
  f0 : l.getD 0 false = true → s94 = .bool true
  f1 : l.getD 1 false = true → s95 = .bool false
  f2 : l.getD 2 false = true → s96 = .bool false
  f3 : l.getD 3 false = true → s97 = other
  f5 : l.getD 5 false = true → s99 = ring
  f6 : l.getD 6 false = true → s100 = .int .i64 (kk : Int)
  f7 : l.getD 7 false = true → s101 = p1
  f9 : l.getD 9 false = true → s103 = ring
  f10 : l.getD 10 false = true → s104 = .int .i64 (kk : Int)
  f11 : l.getD 11 false = true → s105 = p2
  f13 : l.getD 13 false = true → s107 = .bool true
  f14 : l.getD 14 false = true → s108 = .bool false
  f15 : l.getD 15 false = true → s109 = .bool false
  c8 : l.getD 8 false = true → l.getD 4 false = true
  c12 : l.getD 12 false = true → l.getD 8 false = true
  bel : Below w7.heap.size w7 w
  g4 : l.getD 4 false = true → l.getD 8 false = false → ∃ g, s98 = .slice (some ⟨g, 0, none⟩) 0 0 ∧ w.ownsRow w7.heap.size 3 1 s98 0 []
  g8 : l.getD 8 false = true → l.getD 12 false = false → w.ownsRow w7.heap.size 3 1 s102 (0 + (L - kk)) ([] ++ (rs.drop kk).map (Value.int .i64))
  g12 : l.getD 12 false = true → ∃ A c, s106 = .slice A L c ∧ Ints w .i64 A L c rot
section
variable {w7 w w' : World} {rs rot : List Int} {ring other p1 p2 : Value} {kk L : Nat} {l : Array Bool} {s94 s95 s96 s97 s98 s99 s100 s101 s102 s103 s104 s105 s106 s107 s108 s109 : Value}
theorem RF.up0 {v : Value} (h : RF w7 rs rot ring other p1 p2 kk L l w s94 s95 s96 s97 s98 s99 s100 s101 s102 s103 s104 s105 s106 s107 s108 s109) (hv : v = .bool true) : RF w7 rs rot ring other p1 p2 kk L (l.setIfInBounds 0 true) w v s95 s96 s97 s98 s99 s100 s101 s102 s103 s104 s105 s106 s107 s108 s109 :=
  ⟨(fun _ => hv), (fun h' => h.f1 (listed_set h' (by decide))), (fun h' => h.f2 (listed_set h' (by decide))), (fun h' => h.f3 (listed_set h' (by decide))), (fun h' => h.f5 (listed_set h' (by decide))), (fun h' => h.f6 (listed_set h' (by decide))), (fun h' => h.f7 (listed_set h' (by decide))), (fun h' => h.f9 (listed_set h' (by decide))), (fun h' => h.f10 (listed_set h' (by decide))), (fun h' => h.f11 (listed_set h' (by decide))), (fun h' => h.f13 (listed_set h' (by decide))), (fun h' => h.f14 (listed_set h' (by decide))), (fun h' => h.f15 (listed_set h' (by decide))), (fun h1 => by rw [listed_same (by decide)] at h1 ⊢; exact h.c8 h1), (fun h1 => by rw [listed_same (by decide)] at h1 ⊢; exact h.c12 h1), h.bel, (fun h1 h2 => by rw [listed_same (by decide)] at h1 h2; exact h.g4 h1 h2), (fun h1 h2 => by rw [listed_same (by decide)] at h1 h2; exact h.g8 h1 h2), (fun h1 => by rw [listed_same (by decide)] at h1; exact h.g12 h1)⟩
theorem RF.up1 {v : Value} (h : RF w7 rs rot ring other p1 p2 kk L l w s94 s95 s96 s97 s98 s99 s100 s101 s102 s103 s104 s105 s106 s107 s108 s109) (hv : v = .bool false) : RF w7 rs rot ring other p1 p2 kk L (l.setIfInBounds 1 true) w s94 v s96 s97 s98 s99 s100 s101 s102 s103 s104 s105 s106 s107 s108 s109 :=
  ⟨(fun h' => h.f0 (listed_set h' (by decide))), (fun _ => hv), (fun h' => h.f2 (listed_set h' (by decide))), (fun h' => h.f3 (listed_set h' (by decide))), (fun h' => h.f5 (listed_set h' (by decide))), (fun h' => h.f6 (listed_set h' (by decide))), (fun h' => h.f7 (listed_set h' (by decide))), (fun h' => h.f9 (listed_set h' (by decide))), (fun h' => h.f10 (listed_set h' (by decide))), (fun h' => h.f11 (listed_set h' (by decide))), (fun h' => h.f13 (listed_set h' (by decide))), (fun h' => h.f14 (listed_set h' (by decide))), (fun h' => h.f15 (listed_set h' (by decide))), (fun h1 => by rw [listed_same (by decide)] at h1 ⊢; exact h.c8 h1), (fun h1 => by rw [listed_same (by decide)] at h1 ⊢; exact h.c12 h1), h.bel, (fun h1 h2 => by rw [listed_same (by decide)] at h1 h2; exact h.g4 h1 h2), (fun h1 h2 => by rw [listed_same (by decide)] at h1 h2; exact h.g8 h1 h2), (fun h1 => by rw [listed_same (by decide)] at h1; exact h.g12 h1)⟩
theorem RF.up2 {v : Value} (h : RF w7 rs rot ring other p1 p2 kk L l w s94 s95 s96 s97 s98 s99 s100 s101 s102 s103 s104 s105 s106 s107 s108 s109) (hv : v = .bool false) : RF w7 rs rot ring other p1 p2 kk L (l.setIfInBounds 2 true) w s94 s95 v s97 s98 s99 s100 s101 s102 s103 s104 s105 s106 s107 s108 s109 :=
  ⟨(fun h' => h.f0 (listed_set h' (by decide))), (fun h' => h.f1 (listed_set h' (by decide))), (fun _ => hv), (fun h' => h.f3 (listed_set h' (by decide))), (fun h' => h.f5 (listed_set h' (by decide))), (fun h' => h.f6 (listed_set h' (by decide))), (fun h' => h.f7 (listed_set h' (by decide))), (fun h' => h.f9 (listed_set h' (by decide))), (fun h' => h.f10 (listed_set h' (by decide))), (fun h' => h.f11 (listed_set h' (by decide))), (fun h' => h.f13 (listed_set h' (by decide))), (fun h' => h.f14 (listed_set h' (by decide))), (fun h' => h.f15 (listed_set h' (by decide))), (fun h1 => by rw [listed_same (by decide)] at h1 ⊢; exact h.c8 h1), (fun h1 => by rw [listed_same (by decide)] at h1 ⊢; exact h.c12 h1), h.bel, (fun h1 h2 => by rw [listed_same (by decide)] at h1 h2; exact h.g4 h1 h2), (fun h1 h2 => by rw [listed_same (by decide)] at h1 h2; exact h.g8 h1 h2), (fun h1 => by rw [listed_same (by decide)] at h1; exact h.g12 h1)⟩
theorem RF.up3 {v : Value} (h : RF w7 rs rot ring other p1 p2 kk L l w s94 s95 s96 s97 s98 s99 s100 s101 s102 s103 s104 s105 s106 s107 s108 s109) (hv : v = other) : RF w7 rs rot ring other p1 p2 kk L (l.setIfInBounds 3 true) w s94 s95 s96 v s98 s99 s100 s101 s102 s103 s104 s105 s106 s107 s108 s109 :=
  ⟨(fun h' => h.f0 (listed_set h' (by decide))), (fun h' => h.f1 (listed_set h' (by decide))), (fun h' => h.f2 (listed_set h' (by decide))), (fun _ => hv), (fun h' => h.f5 (listed_set h' (by decide))), (fun h' => h.f6 (listed_set h' (by decide))), (fun h' => h.f7 (listed_set h' (by decide))), (fun h' => h.f9 (listed_set h' (by decide))), (fun h' => h.f10 (listed_set h' (by decide))), (fun h' => h.f11 (listed_set h' (by decide))), (fun h' => h.f13 (listed_set h' (by decide))), (fun h' => h.f14 (listed_set h' (by decide))), (fun h' => h.f15 (listed_set h' (by decide))), (fun h1 => by rw [listed_same (by decide)] at h1 ⊢; exact h.c8 h1), (fun h1 => by rw [listed_same (by decide)] at h1 ⊢; exact h.c12 h1), h.bel, (fun h1 h2 => by rw [listed_same (by decide)] at h1 h2; exact h.g4 h1 h2), (fun h1 h2 => by rw [listed_same (by decide)] at h1 h2; exact h.g8 h1 h2), (fun h1 => by rw [listed_same (by decide)] at h1; exact h.g12 h1)⟩
theorem RF.up5 {v : Value} (h : RF w7 rs rot ring other p1 p2 kk L l w s94 s95 s96 s97 s98 s99 s100 s101 s102 s103 s104 s105 s106 s107 s108 s109) (hv : v = ring) : RF w7 rs rot ring other p1 p2 kk L (l.setIfInBounds 5 true) w s94 s95 s96 s97 s98 v s100 s101 s102 s103 s104 s105 s106 s107 s108 s109 :=
  ⟨(fun h' => h.f0 (listed_set h' (by decide))), (fun h' => h.f1 (listed_set h' (by decide))), (fun h' => h.f2 (listed_set h' (by decide))), (fun h' => h.f3 (listed_set h' (by decide))), (fun _ => hv), (fun h' => h.f6 (listed_set h' (by decide))), (fun h' => h.f7 (listed_set h' (by decide))), (fun h' => h.f9 (listed_set h' (by decide))), (fun h' => h.f10 (listed_set h' (by decide))), (fun h' => h.f11 (listed_set h' (by decide))), (fun h' => h.f13 (listed_set h' (by decide))), (fun h' => h.f14 (listed_set h' (by decide))), (fun h' => h.f15 (listed_set h' (by decide))), (fun h1 => by rw [listed_same (by decide)] at h1 ⊢; exact h.c8 h1), (fun h1 => by rw [listed_same (by decide)] at h1 ⊢; exact h.c12 h1), h.bel, (fun h1 h2 => by rw [listed_same (by decide)] at h1 h2; exact h.g4 h1 h2), (fun h1 h2 => by rw [listed_same (by decide)] at h1 h2; exact h.g8 h1 h2), (fun h1 => by rw [listed_same (by decide)] at h1; exact h.g12 h1)⟩
theorem RF.up6 {v : Value} (h : RF w7 rs rot ring other p1 p2 kk L l w s94 s95 s96 s97 s98 s99 s100 s101 s102 s103 s104 s105 s106 s107 s108 s109) (hv : v = .int .i64 (kk : Int)) : RF w7 rs rot ring other p1 p2 kk L (l.setIfInBounds 6 true) w s94 s95 s96 s97 s98 s99 v s101 s102 s103 s104 s105 s106 s107 s108 s109 :=
  ⟨(fun h' => h.f0 (listed_set h' (by decide))), (fun h' => h.f1 (listed_set h' (by decide))), (fun h' => h.f2 (listed_set h' (by decide))), (fun h' => h.f3 (listed_set h' (by decide))), (fun h' => h.f5 (listed_set h' (by decide))), (fun _ => hv), (fun h' => h.f7 (listed_set h' (by decide))), (fun h' => h.f9 (listed_set h' (by decide))), (fun h' => h.f10 (listed_set h' (by decide))), (fun h' => h.f11 (listed_set h' (by decide))), (fun h' => h.f13 (listed_set h' (by decide))), (fun h' => h.f14 (listed_set h' (by decide))), (fun h' => h.f15 (listed_set h' (by decide))), (fun h1 => by rw [listed_same (by decide)] at h1 ⊢; exact h.c8 h1), (fun h1 => by rw [listed_same (by decide)] at h1 ⊢; exact h.c12 h1), h.bel, (fun h1 h2 => by rw [listed_same (by decide)] at h1 h2; exact h.g4 h1 h2), (fun h1 h2 => by rw [listed_same (by decide)] at h1 h2; exact h.g8 h1 h2), (fun h1 => by rw [listed_same (by decide)] at h1; exact h.g12 h1)⟩
theorem RF.up7 {v : Value} (h : RF w7 rs rot ring other p1 p2 kk L l w s94 s95 s96 s97 s98 s99 s100 s101 s102 s103 s104 s105 s106 s107 s108 s109) (hv : v = p1) : RF w7 rs rot ring other p1 p2 kk L (l.setIfInBounds 7 true) w s94 s95 s96 s97 s98 s99 s100 v s102 s103 s104 s105 s106 s107 s108 s109 :=
  ⟨(fun h' => h.f0 (listed_set h' (by decide))), (fun h' => h.f1 (listed_set h' (by decide))), (fun h' => h.f2 (listed_set h' (by decide))), (fun h' => h.f3 (listed_set h' (by decide))), (fun h' => h.f5 (listed_set h' (by decide))), (fun h' => h.f6 (listed_set h' (by decide))), (fun _ => hv), (fun h' => h.f9 (listed_set h' (by decide))), (fun h' => h.f10 (listed_set h' (by decide))), (fun h' => h.f11 (listed_set h' (by decide))), (fun h' => h.f13 (listed_set h' (by decide))), (fun h' => h.f14 (listed_set h' (by decide))), (fun h' => h.f15 (listed_set h' (by decide))), (fun h1 => by rw [listed_same (by decide)] at h1 ⊢; exact h.c8 h1), (fun h1 => by rw [listed_same (by decide)] at h1 ⊢; exact h.c12 h1), h.bel, (fun h1 h2 => by rw [listed_same (by decide)] at h1 h2; exact h.g4 h1 h2), (fun h1 h2 => by rw [listed_same (by decide)] at h1 h2; exact h.g8 h1 h2), (fun h1 => by rw [listed_same (by decide)] at h1; exact h.g12 h1)⟩
theorem RF.up9 {v : Value} (h : RF w7 rs rot ring other p1 p2 kk L l w s94 s95 s96 s97 s98 s99 s100 s101 s102 s103 s104 s105 s106 s107 s108 s109) (hv : v = ring) : RF w7 rs rot ring other p1 p2 kk L (l.setIfInBounds 9 true) w s94 s95 s96 s97 s98 s99 s100 s101 s102 v s104 s105 s106 s107 s108 s109 :=
  ⟨(fun h' => h.f0 (listed_set h' (by decide))), (fun h' => h.f1 (listed_set h' (by decide))), (fun h' => h.f2 (listed_set h' (by decide))), (fun h' => h.f3 (listed_set h' (by decide))), (fun h' => h.f5 (listed_set h' (by decide))), (fun h' => h.f6 (listed_set h' (by decide))), (fun h' => h.f7 (listed_set h' (by decide))), (fun _ => hv), (fun h' => h.f10 (listed_set h' (by decide))), (fun h' => h.f11 (listed_set h' (by decide))), (fun h' => h.f13 (listed_set h' (by decide))), (fun h' => h.f14 (listed_set h' (by decide))), (fun h' => h.f15 (listed_set h' (by decide))), (fun h1 => by rw [listed_same (by decide)] at h1 ⊢; exact h.c8 h1), (fun h1 => by rw [listed_same (by decide)] at h1 ⊢; exact h.c12 h1), h.bel, (fun h1 h2 => by rw [listed_same (by decide)] at h1 h2; exact h.g4 h1 h2), (fun h1 h2 => by rw [listed_same (by decide)] at h1 h2; exact h.g8 h1 h2), (fun h1 => by rw [listed_same (by decide)] at h1; exact h.g12 h1)⟩
theorem RF.up10 {v : Value} (h : RF w7 rs rot ring other p1 p2 kk L l w s94 s95 s96 s97 s98 s99 s100 s101 s102 s103 s104 s105 s106 s107 s108 s109) (hv : v = .int .i64 (kk : Int)) : RF w7 rs rot ring other p1 p2 kk L (l.setIfInBounds 10 true) w s94 s95 s96 s97 s98 s99 s100 s101 s102 s103 v s105 s106 s107 s108 s109 :=
  ⟨(fun h' => h.f0 (listed_set h' (by decide))), (fun h' => h.f1 (listed_set h' (by decide))), (fun h' => h.f2 (listed_set h' (by decide))), (fun h' => h.f3 (listed_set h' (by decide))), (fun h' => h.f5 (listed_set h' (by decide))), (fun h' => h.f6 (listed_set h' (by decide))), (fun h' => h.f7 (listed_set h' (by decide))), (fun h' => h.f9 (listed_set h' (by decide))), (fun _ => hv), (fun h' => h.f11 (listed_set h' (by decide))), (fun h' => h.f13 (listed_set h' (by decide))), (fun h' => h.f14 (listed_set h' (by decide))), (fun h' => h.f15 (listed_set h' (by decide))), (fun h1 => by rw [listed_same (by decide)] at h1 ⊢; exact h.c8 h1), (fun h1 => by rw [listed_same (by decide)] at h1 ⊢; exact h.c12 h1), h.bel, (fun h1 h2 => by rw [listed_same (by decide)] at h1 h2; exact h.g4 h1 h2), (fun h1 h2 => by rw [listed_same (by decide)] at h1 h2; exact h.g8 h1 h2), (fun h1 => by rw [listed_same (by decide)] at h1; exact h.g12 h1)⟩
theorem RF.up11 {v : Value} (h : RF w7 rs rot ring other p1 p2 kk L l w s94 s95 s96 s97 s98 s99 s100 s101 s102 s103 s104 s105 s106 s107 s108 s109) (hv : v = p2) : RF w7 rs rot ring other p1 p2 kk L (l.setIfInBounds 11 true) w s94 s95 s96 s97 s98 s99 s100 s101 s102 s103 s104 v s106 s107 s108 s109 :=
  ⟨(fun h' => h.f0 (listed_set h' (by decide))), (fun h' => h.f1 (listed_set h' (by decide))), (fun h' => h.f2 (listed_set h' (by decide))), (fun h' => h.f3 (listed_set h' (by decide))), (fun h' => h.f5 (listed_set h' (by decide))), (fun h' => h.f6 (listed_set h' (by decide))), (fun h' => h.f7 (listed_set h' (by decide))), (fun h' => h.f9 (listed_set h' (by decide))), (fun h' => h.f10 (listed_set h' (by decide))), (fun _ => hv), (fun h' => h.f13 (listed_set h' (by decide))), (fun h' => h.f14 (listed_set h' (by decide))), (fun h' => h.f15 (listed_set h' (by decide))), (fun h1 => by rw [listed_same (by decide)] at h1 ⊢; exact h.c8 h1), (fun h1 => by rw [listed_same (by decide)] at h1 ⊢; exact h.c12 h1), h.bel, (fun h1 h2 => by rw [listed_same (by decide)] at h1 h2; exact h.g4 h1 h2), (fun h1 h2 => by rw [listed_same (by decide)] at h1 h2; exact h.g8 h1 h2), (fun h1 => by rw [listed_same (by decide)] at h1; exact h.g12 h1)⟩
theorem RF.up14 {v : Value} (h : RF w7 rs rot ring other p1 p2 kk L l w s94 s95 s96 s97 s98 s99 s100 s101 s102 s103 s104 s105 s106 s107 s108 s109) (hv : v = .bool false) : RF w7 rs rot ring other p1 p2 kk L (l.setIfInBounds 14 true) w s94 s95 s96 s97 s98 s99 s100 s101 s102 s103 s104 s105 s106 s107 v s109 :=
  ⟨(fun h' => h.f0 (listed_set h' (by decide))), (fun h' => h.f1 (listed_set h' (by decide))), (fun h' => h.f2 (listed_set h' (by decide))), (fun h' => h.f3 (listed_set h' (by decide))), (fun h' => h.f5 (listed_set h' (by decide))), (fun h' => h.f6 (listed_set h' (by decide))), (fun h' => h.f7 (listed_set h' (by decide))), (fun h' => h.f9 (listed_set h' (by decide))), (fun h' => h.f10 (listed_set h' (by decide))), (fun h' => h.f11 (listed_set h' (by decide))), (fun h' => h.f13 (listed_set h' (by decide))), (fun _ => hv), (fun h' => h.f15 (listed_set h' (by decide))), (fun h1 => by rw [listed_same (by decide)] at h1 ⊢; exact h.c8 h1), (fun h1 => by rw [listed_same (by decide)] at h1 ⊢; exact h.c12 h1), h.bel, (fun h1 h2 => by rw [listed_same (by decide)] at h1 h2; exact h.g4 h1 h2), (fun h1 h2 => by rw [listed_same (by decide)] at h1 h2; exact h.g8 h1 h2), (fun h1 => by rw [listed_same (by decide)] at h1; exact h.g12 h1)⟩
theorem RF.up15 {v : Value} (h : RF w7 rs rot ring other p1 p2 kk L l w s94 s95 s96 s97 s98 s99 s100 s101 s102 s103 s104 s105 s106 s107 s108 s109) (hv : v = .bool false) : RF w7 rs rot ring other p1 p2 kk L (l.setIfInBounds 15 true) w s94 s95 s96 s97 s98 s99 s100 s101 s102 s103 s104 s105 s106 s107 s108 v :=
  ⟨(fun h' => h.f0 (listed_set h' (by decide))), (fun h' => h.f1 (listed_set h' (by decide))), (fun h' => h.f2 (listed_set h' (by decide))), (fun h' => h.f3 (listed_set h' (by decide))), (fun h' => h.f5 (listed_set h' (by decide))), (fun h' => h.f6 (listed_set h' (by decide))), (fun h' => h.f7 (listed_set h' (by decide))), (fun h' => h.f9 (listed_set h' (by decide))), (fun h' => h.f10 (listed_set h' (by decide))), (fun h' => h.f11 (listed_set h' (by decide))), (fun h' => h.f13 (listed_set h' (by decide))), (fun h' => h.f14 (listed_set h' (by decide))), (fun _ => hv), (fun h1 => by rw [listed_same (by decide)] at h1 ⊢; exact h.c8 h1), (fun h1 => by rw [listed_same (by decide)] at h1 ⊢; exact h.c12 h1), h.bel, (fun h1 h2 => by rw [listed_same (by decide)] at h1 h2; exact h.g4 h1 h2), (fun h1 h2 => by rw [listed_same (by decide)] at h1 h2; exact h.g8 h1 h2), (fun h1 => by rw [listed_same (by decide)] at h1; exact h.g12 h1)⟩
theorem RF.up13 {v : Value} (h : RF w7 rs rot ring other p1 p2 kk L l w s94 s95 s96 s97 s98 s99 s100 s101 s102 s103 s104 s105 s106 s107 s108 s109) (hv : v = .bool true) (m : Nat) : RF w7 rs rot ring other p1 p2 kk L (l.setIfInBounds 13 true) (w.drewN m) s94 s95 s96 s97 s98 s99 s100 s101 s102 s103 s104 s105 s106 v s108 s109 :=
  ⟨(fun h' => h.f0 (listed_set h' (by decide))), (fun h' => h.f1 (listed_set h' (by decide))), (fun h' => h.f2 (listed_set h' (by decide))), (fun h' => h.f3 (listed_set h' (by decide))), (fun h' => h.f5 (listed_set h' (by decide))), (fun h' => h.f6 (listed_set h' (by decide))), (fun h' => h.f7 (listed_set h' (by decide))), (fun h' => h.f9 (listed_set h' (by decide))), (fun h' => h.f10 (listed_set h' (by decide))), (fun h' => h.f11 (listed_set h' (by decide))), (fun _ => hv), (fun h' => h.f14 (listed_set h' (by decide))), (fun h' => h.f15 (listed_set h' (by decide))), (fun h1 => by rw [listed_same (by decide)] at h1 ⊢; exact h.c8 h1), (fun h1 => by rw [listed_same (by decide)] at h1 ⊢; exact h.c12 h1), below_drewN h.bel m, (fun h1 h2 => by rw [listed_same (by decide)] at h1 h2; exact h.g4 h1 h2), (fun h1 h2 => by rw [listed_same (by decide)] at h1 h2; exact h.g8 h1 h2), (fun h1 => by rw [listed_same (by decide)] at h1; obtain ⟨A, c, e, hi⟩ := h.g12 h1; exact ⟨A, c, e, hi.drewN m⟩)⟩
theorem RF.up4 (h : RF w7 rs rot ring other p1 p2 kk L l w s94 s95 s96 s97 s98 s99 s100 s101 s102 s103 s104 s105 s106 s107 s108 s109) (hun : l.getD 4 false = false) : RF w7 rs rot ring other p1 p2 kk L (l.setIfInBounds 4 true) (w.alloc (.cells #[] 3)) s94 s95 s96 s97 (.slice (some ⟨w.heap.size, 0, none⟩) 0 0) s99 s100 s101 s102 s103 s104 s105 s106 s107 s108 s109 := by
  have h8 : l.getD 8 false = false := by
    cases e : l.getD 8 false
    · rfl
    · have := h.c8 e; rw [hun] at this; cases this
  have h12 : l.getD 12 false = false := by
    cases e : l.getD 12 false
    · rfl
    · have := h.c12 e; rw [h8] at this; cases this
  exact ⟨(fun h' => h.f0 (listed_set h' (by decide))), (fun h' => h.f1 (listed_set h' (by decide))), (fun h' => h.f2 (listed_set h' (by decide))), (fun h' => h.f3 (listed_set h' (by decide))), (fun h' => h.f5 (listed_set h' (by decide))), (fun h' => h.f6 (listed_set h' (by decide))), (fun h' => h.f7 (listed_set h' (by decide))), (fun h' => h.f9 (listed_set h' (by decide))), (fun h' => h.f10 (listed_set h' (by decide))), (fun h' => h.f11 (listed_set h' (by decide))), (fun h' => h.f13 (listed_set h' (by decide))), (fun h' => h.f14 (listed_set h' (by decide))), (fun h' => h.f15 (listed_set h' (by decide))), (fun h1 => by rw [listed_same (by decide), h8] at h1; cases h1), (fun h1 => by rw [listed_same (by decide), h12] at h1; cases h1), h.bel.alloc h.bel.size _, (fun _ _ => ⟨w.heap.size, rfl, owns_empty (Blk.new _ _ _) h.bel.size⟩), (fun h1 _ => by rw [listed_same (by decide), h8] at h1; cases h1), (fun h1 => by rw [listed_same (by decide), h12] at h1; cases h1)⟩
theorem RF.up8 {v : Value} (h : RF w7 rs rot ring other p1 p2 kk L l w s94 s95 s96 s97 s98 s99 s100 s101 s102 s103 s104 s105 s106 s107 s108 s109) (hsz : l.size = 16) (hun : l.getD 8 false = false) (h4 : l.getD 4 false = true) (ho : w'.ownsRow w7.heap.size 3 1 v (0 + (L - kk)) ([] ++ (rs.drop kk).map (Value.int .i64))) (hb : Below w7.heap.size w7 w') : RF w7 rs rot ring other p1 p2 kk L (l.setIfInBounds 8 true) w' s94 s95 s96 s97 s98 s99 s100 s101 v s103 s104 s105 s106 s107 s108 s109 := by
  have h12 : l.getD 12 false = false := by
    cases e : l.getD 12 false
    · rfl
    · have := h.c12 e; rw [hun] at this; cases this
  have h8' : (l.setIfInBounds 8 true).getD 8 false = true := listed_at (by omega)
  exact ⟨(fun h' => h.f0 (listed_set h' (by decide))), (fun h' => h.f1 (listed_set h' (by decide))), (fun h' => h.f2 (listed_set h' (by decide))), (fun h' => h.f3 (listed_set h' (by decide))), (fun h' => h.f5 (listed_set h' (by decide))), (fun h' => h.f6 (listed_set h' (by decide))), (fun h' => h.f7 (listed_set h' (by decide))), (fun h' => h.f9 (listed_set h' (by decide))), (fun h' => h.f10 (listed_set h' (by decide))), (fun h' => h.f11 (listed_set h' (by decide))), (fun h' => h.f13 (listed_set h' (by decide))), (fun h' => h.f14 (listed_set h' (by decide))), (fun h' => h.f15 (listed_set h' (by decide))), (fun _ => by rw [listed_same (by decide)]; exact h4), (fun _ => h8'), hb, (fun _ h2 => by rw [h8'] at h2; cases h2), (fun _ _ => ho), (fun h1 => by rw [listed_same (by decide), h12] at h1; cases h1)⟩
theorem RF.up12 {v : Value} (h : RF w7 rs rot ring other p1 p2 kk L l w s94 s95 s96 s97 s98 s99 s100 s101 s102 s103 s104 s105 s106 s107 s108 s109) (hsz : l.size = 16) (h8 : l.getD 8 false = true) (hv : ∃ A c, v = .slice A L c ∧ Ints w' .i64 A L c rot) (hb : Below w7.heap.size w7 w') : RF w7 rs rot ring other p1 p2 kk L (l.setIfInBounds 12 true) w' s94 s95 s96 s97 s98 s99 s100 s101 s102 s103 s104 s105 v s107 s108 s109 := by
  have h12' : (l.setIfInBounds 12 true).getD 12 false = true := listed_at (by omega)
  exact ⟨(fun h' => h.f0 (listed_set h' (by decide))), (fun h' => h.f1 (listed_set h' (by decide))), (fun h' => h.f2 (listed_set h' (by decide))), (fun h' => h.f3 (listed_set h' (by decide))), (fun h' => h.f5 (listed_set h' (by decide))), (fun h' => h.f6 (listed_set h' (by decide))), (fun h' => h.f7 (listed_set h' (by decide))), (fun h' => h.f9 (listed_set h' (by decide))), (fun h' => h.f10 (listed_set h' (by decide))), (fun h' => h.f11 (listed_set h' (by decide))), (fun h' => h.f13 (listed_set h' (by decide))), (fun h' => h.f14 (listed_set h' (by decide))), (fun h' => h.f15 (listed_set h' (by decide))), (fun h1 => by rw [listed_same (by decide)] at h1 ⊢; exact h.c8 h1), (fun _ => by rw [listed_same (by decide)]; exact h8), hb, (fun h1 h2 => by rw [listed_same (by decide), h8] at h2; cases h2), (fun _ h2 => by rw [h12'] at h2; cases h2), (fun _ => hv)⟩
end

set_option maxRecDepth 100000 in
set_option maxHeartbeats 8000000 in
theorem walk (w : World) (A : Option Addr) (n c : Nat) (xs : List Int) (h : Ints w .u8 A n c xs) (hwf : ∀ x ∈ xs, (Lit.int .u8 x).wf = true) (hc : c ≤ maxLen) :
    Calls Try.prog 5 #[.slice A n c] w fun e w' => e = .returned (.bool true) ∧ Below w.heap.size w w' := by
  have hn : n ≤ 9223372036854775807 := by have := h.le; unfold maxLen at hc; omega
  by_cases hl : n ≤ 1048576
  · have HD := Lib.hid (drawRingFrom_any A n c xs w h hl hwf hc)
    clear h hwf hc
    go_enter Try.func5, Try.ntmps5
    go_wp2_with (fail)
    refine HD.out.mono ?_
    rintro e w1 ⟨v, t, a, rfl, ho, hsm, ha, hb⟩
    obtain ⟨ha1, ha2⟩ := ha
    obtain ⟨A1, c1, A2, c2, A3, c3, rfl⟩ := ho.shape
    have hf := Lib.hid (hsm.fine (by omega))
    have hba := (Below.refl w1.heap.size w1).alloc (Nat.le_refl _) (.cells #[.slice A1 t.us.length c1, .slice A2 t.bs.length c2, .slice A3 t.ns.length c3] 26)
    have S := Lib.hid (⟨hb.trans (hba.mono hb.size), Blk.new w1 26 #[.slice A1 t.us.length c1, .slice A2 t.bs.length c2, .slice A3 t.ns.length c3], ho.tng.below hba (Nat.le_refl _)⟩ : LSt w w1.heap.size #[.slice A1 t.us.length c1, .slice A2 t.bs.length c2, .slice A3 t.ns.length c3] t (w1.alloc (.cells #[.slice A1 t.us.length c1, .slice A2 t.bs.length c2, .slice A3 t.ns.length c3] 26)))
    clear ho hsm hb hba HD
    go_upto_region 4 with (fail)
    generalize w1.alloc (.cells #[.slice A1 t.us.length c1, .slice A2 t.bs.length c2, .slice A3 t.ns.length c3] 26) = W at *
    generalize w1.heap.size = z at *
    obtain ⟨z0, z1, z2, -, -, -⟩ := blk3 S.out.hz
    obtain ⟨i0, hi, hz0, hz1, hz2⟩ := info_parts int_info
    have K1 := Lib.hid (implRingFrom_any _ t a W S.out.ht hf.out (by omega))
    have hbd := Lib.hid (letters_bd t)
    have KR := Lib.hid (fun x W' (hT : Tng W' (.agg #[.slice A1 t.us.length c1, .slice A2 t.bs.length c2, .slice A3 t.ns.length c3]) t) hx => implRingFrom_any _ t x W' hT hf.out hx)
    have KL := Lib.hid (fun x W' (hT : Tng W' (.agg #[.slice A1 t.us.length c1, .slice A2 t.bs.length c2, .slice A3 t.ns.length c3]) t) hx => implLettersOf_any _ t x W' hT hf.out hx)
    have KX := fun W' (hT : Tng W' (.agg #[.slice A1 t.us.length c1, .slice A2 t.bs.length c2, .slice A3 t.ns.length c3]) t) => specRingFrom_any _ t a W' hT hf.out (by omega)
    have hlen := ringF_len (f := lettersOf t) (n := a)
    have hrl := ringF_le (n := a) (letters_bd t)
    have hpos := ringF_pos (n := a) (letters_bd t)
    have htn := Lib.hid (fun (h : okF (lettersOf t) a = true) k (hk : k < lamF (lettersOf t) a) => ring_turn (letters_bd t) (letters_neg t) h hk)
    have hnx := Lib.hid (fun (h : okF (lettersOf t) a = true) k (hk : k < lamF (lettersOf t) a) => ring_next (letters_bd t) h hk)
    have hap := Lib.hid (fun (h : okF (lettersOf t) a = true) j k (hj : j < k) (hk : k < lamF (lettersOf t) a) => ring_apart (letters_bd t) h hj hk)
    have hrb := Lib.hid (ringF_bd (n := a) (letters_bd t) (by omega))
    generalize lettersOf t = f at *
    generalize hrs : ringF f a = rs at *
    generalize hok : okF f a = ok at *
    replace KX := Lib.hid KX
    replace hrs := Lib.hid hrs
    replace hok := Lib.hid hok
    generalize hL : rs.length = L at *
    replace hL := Lib.hid hL
    replace hpos := Lib.hid hpos
    replace hlen := Lib.hid hlen
    go_wp2_with (fail)
    refine K1.out.mono ?_
    rintro e w2 ⟨v2, rfl, o2, b2⟩
    obtain ⟨A5, c5, rfl, i5⟩ := o2.ints
    rw [hL.out] at i5 ⊢
    replace S := Lib.hid (S.out.step b2)
    have K2 := Lib.hid (KX.out w2 S.out.ht)
    clear b2 o2 z0 z1 z2 K1
    obtain ⟨z0, z1, z2, -, -, -⟩ := blk3 S.out.hz
    go_wp2_with (fail)
    refine K2.out.mono ?_
    rintro e w3 ⟨A6, c6, rfl, i6, b3⟩
    rw [hL.out] at i6 ⊢
    replace S := Lib.hid (S.out.step b3)
    have j5 := i5.below b3 (Nat.le_refl _)
    have KS := sameInts_any A5 A6 _ c5 _ c6 rs rs w3 j5 i6 (by omega) (by omega)
    rw [decide_eq_true rfl] at KS
    have hoo : (ok != ok) = false := by simp
    replace KS := Lib.hid KS
    replace j5 := Lib.hid j5
    clear b3 i6 i5 z0 z1 z2 K2
    go_wp2_with (fail)
    refine KS.out.mono ?_
    rintro e _ ⟨rfl, m4, rfl⟩
    have hd := below_drewN (Below.refl w3.heap.size w3) m4
    replace S := Lib.hid (S.out.step hd)
    have i4 := Lib.hid (j5.out.below hd (Nat.le_refl _))
    clear KS j5 hd
    generalize w3.drewN m4 = W4 at *
    cases ok
    · have hl0 : L = 0 := by have := of_decide_eq_false hpos.out; omega
      subst hl0
      clear hlen hpos
      go_wp2_with (fail)
      refine (alive_any W4).mono ?_
      rintro e w9 ⟨rfl, b9⟩
      have hB9 := Lib.hid (S.out.low.trans (b9.mono S.out.low.size))
      clear b9
      go_wp2
      go_ret
      exact ⟨rfl, hB9.out⟩
    · have hl0 : 0 < L := of_decide_eq_true hpos.out
      replace hlen := hlen.out
      rw [if_pos rfl] at hlen
      replace htn := Lib.hid (htn.out rfl)
      replace hnx := Lib.hid (hnx.out rfl)
      replace hap := Lib.hid (hap.out rfl)
      rw [← hlen] at htn hnx hap
      have hgd : decide (0 < L) = true := decide_eq_true hl0
      clear hpos hlen
      go_wp2
      go_loopw [9] (fun s9 wr => ∃ k : Nat, k ≤ L ∧ s9 = .int .i64 k ∧ Below W4.heap.size W4 wr) (fun s9 _ => L - (intOf s9).toNat)
      case atStart => exact ⟨0, Nat.zero_le _, rfl, Below.refl _ _⟩
      case round =>
        obtain ⟨k, hk, rfl, hbr⟩ := hrel
        have Sr := Lib.hid (S.out.step hbr)
        have ir := Lib.hid (i4.out.below hbr (Nat.le_refl _))
        obtain ⟨b5, o5, rfl, hb5, hc⟩ := ir.out.at_ (by omega)
        by_cases hlt : k < L
        · have hmod := Nat.mod_lt (k + 1) hl0
          have ck := hc k hlt
          have cm := hc ((k + 1) % L) hmod
          have hxb := hrb.out _ (mem_getD (l := rs) (k := k) (by rw [hL.out]; exact hlt))
          have hnk := hnx.out k hlt
          obtain ⟨hok2, hrot⟩ := htn.out k hlt
          have hapk := Lib.hid (fun j hj => hap.out j k hj hlt)
          have hck := Lib.hid hc
          generalize hx : rs.getD k 0 = x at *
          generalize rs.getD ((k + 1) % L) 0 = y at *
          subst hnk
          have KLq := fun d os => KL.out x (grow (redrawn wr d) os) (Sr.out.ht.below (below_regrown wr d os) (Nat.le_refl _)) (by omega)
          obtain ⟨z0, z1, z2, -, -, -⟩ := blk3 Sr.out.hz
          have y0 := fun d os => cell_regrown z0 d os
          have y1 := fun d os => cell_regrown z1 d os
          have y2 := fun d os => cell_regrown z2 d os
          have u1 := fun d os => cell_regrown ck d os
          have u2 := fun d os => cell_regrown cm d os
          have e1 : IntKind.i64.wrap ((k : Int) + 1) = (k : Int) + 1 := IntWalk.i64_in _ (by omega)
          have e0 : ¬ (L : Int) = 0 := by omega
          have e00 : ¬ L = 0 := by omega
          have e2 : ((k : Int) + 1).tmod (L : Int) = (((k + 1) % L : Nat) : Int) := by rw [Int.tmod_eq_emod_of_nonneg (by omega)]; rfl
          have hyy : (f x != f x) = false := by simp
          have e3 : (((k + 1) % L : Nat) : Int) < (L : Int) := by omega
          generalize hq : (k + 1) % L = q at *
          replace hq := Lib.hid hq
          replace KLq := Lib.hid KLq
          replace hx := Lib.hid hx
          replace hok2 := Lib.hid hok2
          replace hrot := Lib.hid hrot
          clear hc
          go_upto_region 13 with (fail)
          refine wp_region_quiet_below (by kernel_rfl) (by kernel_rfl) ?_
          repeat (go_big_quiet_step (first | (go_at_call 14; exact Calls.regrown_of (KLq.out _ _))))
          refine wpQuiet_nil ?_
          intro _ hw'
          obtain ⟨pq, hw''⟩ := hw'
          have bq := below_regrown wr pq.d pq.os
          have S5 := Lib.hid (Sr.out.step bq)
          have i5 := Lib.hid (ir.out.below bq (Nat.le_refl _))
          have hb5b := Lib.hid (hbr.trans (bq.mono hbr.size))
          have hck5 : Hid (∀ j, j < L → (grow (redrawn wr pq.d) pq.os).cell? ⟨b5, o5 + j, none⟩ = some (.int .i64 (rs.getD j 0))) := fun j hj => (bq.cell (p := ⟨b5, o5 + j, none⟩) hb5).trans (hck.out j hj)
          have hbl5 := Nat.lt_of_lt_of_le hb5 bq.size
          subst hw''
          clear y0 y1 y2 u1 u2 z0 z1 z2 bq hbr Sr ir ck cm hck hb5 KLq
          generalize grow (redrawn wr pq.d) pq.os = W5 at *
          have ck5 := hck5.out k hlt
          rw [hx.out] at ck5
          go_wp2
          go_loopw [10] (fun s10 wq => ∃ j m : Nat, j ≤ k ∧ s10 = .int .i64 j ∧ wq = W5.drewN m) (fun s10 _ => k - (intOf s10).toNat)
          case atStart => exact ⟨0, 0, Nat.zero_le _, rfl, rfl⟩
          case round =>
            obtain ⟨j, m, hj, rfl, rfl⟩ := hrel
            by_cases hj2 : j < k
            · have cj5 := hck5.out j (by omega)
              have hne := hapk.out j hj2
              generalize rs.getD j 0 = xj at *
              have hnb : (xj == x) = false := by rw [beq_eq_false_iff_ne]; exact hne
              have hjL : j < L := by omega
              clear hne
              go_wp2
              go_quiet (fail)
              go_wp2
              go_roundw
              case rel => exact ⟨j + 1, m + nq, by omega, by go_num, by simp⟩
              case measure => simp [intOf]; omega
            · obtain rfl : j = k := by omega
              have hd6 := below_drewN (Below.refl W5.heap.size W5) m
              have S6 := Lib.hid (S5.out.step hd6)
              have i6 := Lib.hid (i5.out.below hd6 (Nat.le_refl _))
              have hb6 := Lib.hid (hb5b.out.trans (hd6.mono hb5b.out.size))
              have ck6 : (W5.drewN m).cell? ⟨b5, o5 + j, none⟩ = some (.int .i64 x) := ck5
              have hbl6 : b5 < (W5.drewN m).heap.size := hbl5
              clear ck5 hck5 hd6 S5 i5 hb5b hbl5
              generalize W5.drewN m = W6 at *
              have KR6 := Lib.hid (KR.out x W6 S6.out.ht (by omega))
              have KR6d := Lib.hid (KR.out x W6.drew (S6.out.ht.below (Below.refl _ _).drew (Nat.le_refl _)) (by omega))
              rw [hok2.out, hrot.out] at KR6 KR6d
              have hrl2 : (rs.drop j ++ rs.take j).length = L := by rw [List.length_append, List.length_drop, List.length_take, hL.out]; omega
              generalize hrt : rs.drop j ++ rs.take j = rot at *
              obtain ⟨z0, z1, z2, -, -, -⟩ := blk3 S6.out.hz
              replace hrt := Lib.hid hrt
              replace hrl2 := Lib.hid hrl2
              go_upto_region 20 with (fail)
              go_region_held3 (fun w' => (w'.cell? ⟨z, 0, none⟩ = some (.slice A1 t.us.length c1) ∧ w'.cell? ⟨z, 1, none⟩ = some (.slice A2 t.bs.length c2) ∧ w'.cell? ⟨z, 2, none⟩ = some (.slice A3 t.ns.length c3)) ∧ w'.cell? ⟨b5, o5 + j, none⟩ = some (.int .i64 x))
                (first | go_keep | exact hS7)
                (first
                  | (go_at_call 22; first | refine KR6.out.mono ?_ | refine KR6d.out.mono ?_; rintro e w7 ⟨v7, rfl, o7, b7'⟩; have b7 : Below W6.heap.size W6 w7 := ⟨b7'.os, b7'.tape, b7'.output, b7'.size, b7'.block⟩; obtain ⟨y0', y1', y2', -, -, -⟩ := blk3 (S6.out.hz.below b7 S6.out.hz.lt); have ck7 := (b7.cell (p := ⟨b5, o5 + j, none⟩) hbl6).trans ck6; have hS7 := And.intro (And.intro y0' (And.intro y1' y2')) ck7; obtain ⟨A7, c7, e7, i7⟩ := o7.ints; rw [hrl2.out] at e7 i7; cases e7; have i77 := Lib.hid i7; have i67 := Lib.hid (i6.out.below b7 (Nat.le_refl _)); have hb7 := Lib.hid (hb6.out.trans (b7.mono hb6.out.size)); clear b7 b7' o7 i7))
              all_goals
                clear hS7 ck7 y0' y1' y2' z0 z1 z2 KR6 KR6d S6
                have hcap : L ≤ c5 := i67.out.le
                have q1 : (j : Int) ≤ (L : Int) := by omega
                have q2 : j ≤ L := by omega
                have q3 : ¬ j = c5 := by omega
                have q4 : j ≤ c5 := by omega
                have q5 : (j : Int) ≤ (c5 : Int) := by omega
                have d7 := Lib.hid (i67.out.dropI (m := j) q2)
                have t7 := Lib.hid (i67.out.take (m := j) q2)
                have hO0 := Lib.hid (owns_empty (B := w7.heap.size) (t := 3) (Blk.new w7 3 #[]) (Nat.le_refl _))
                have hA0 : Hid (Below w7.heap.size w7 (w7.alloc (.cells #[] 3))) := (Below.refl _ _).alloc (Nat.le_refl _) _
                have m1 := Lib.hid (show 0 + (L - j) ≤ maxLen by unfold maxLen; omega)
                have m2 := Lib.hid (show (0 + (L - j)) * 8 ≤ 140737488355328 by omega)
                have m3 := Lib.hid (show 0 + (L - j) + j ≤ maxLen by unfold maxLen; omega)
                have m4 := Lib.hid (show (0 + (L - j) + j) * 8 ≤ 140737488355328 by omega)
                have hrow : Hid (∀ v w', w'.ownsRow w7.heap.size 3 1 v (0 + (L - j) + j) (([] ++ (rs.drop j).map (Value.int .i64)) ++ (rs.take j).map (Value.int .i64)) → ∃ A c, v = .slice A L c ∧ Ints w' .i64 A L c rot) := fun v w' hh => by
                  have e : 0 + (L - j) + j = L := by omega
                  rw [List.nil_append, ← List.map_append, hrt.out, e] at hh
                  have hh2 : OwnI w' w7.heap.size v rot := by unfold OwnI; rw [hrl2.out]; exact hh
                  obtain ⟨A, c, e1, hi⟩ := hh2.ints
                  rw [hrl2.out] at e1 hi
                  exact ⟨A, c, e1, hi⟩
                go_wp2
                refine wp_region_any (by kernel_rfl) ?_
                refine wpAny_inv (Inv := (fun l a' w' => ∃ s94 s95 s96 s97 s98 s99 s100 s101 s102 s103 s104 s105 s106 s107 s108 s109 : Value, a' = ⟨#[.slice A n c, undef, u2, .pointer (some ⟨z, 0, none⟩), .int .i64 a, .slice (some ⟨b5, o5, none⟩) L c5, .bool true, .slice A6 L c6, .bool true, .int .i64 (j : Int), .int .i64 (j : Int), .slice A7 L c7, .bool true, .slice A n c, .int .i64 (n : Int), .bool (decide ((1048576 : Int) < (n : Int))), .tuple #[.agg #[.slice A1 t.us.length c1, .slice A2 t.bs.length c2, .slice A3 t.ns.length c3], .int .i64 a], .slice A n c, .tuple #[.agg #[.slice A1 t.us.length c1, .slice A2 t.bs.length c2, .slice A3 t.ns.length c3], .int .i64 a], .agg #[.slice A1 t.us.length c1, .slice A2 t.bs.length c2, .slice A3 t.ns.length c3], .int .i64 a, .tuple #[.slice (some ⟨b5, o5, none⟩) L c5, .bool true], .agg #[.slice A1 t.us.length c1, .slice A2 t.bs.length c2, .slice A3 t.ns.length c3], .int .i64 a, .tuple #[.slice (some ⟨b5, o5, none⟩) L c5, .bool true], .slice (some ⟨b5, o5, none⟩) L c5, .bool true, .tuple #[.slice A6 L c6, .bool true], .agg #[.slice A1 t.us.length c1, .slice A2 t.bs.length c2, .slice A3 t.ns.length c3], .int .i64 a, .tuple #[.slice A6 L c6, .bool true], .slice A6 L c6, .bool true, .slice (some ⟨b5, o5, none⟩) L c5, .slice A6 L c6, .bool true, .bool false, .bool false, .bool true, .bool true, .bool false, .bool false, .bool true, .bool false, undef, undef, undef, undef, undef, undef, .int .i64 (j : Int), .slice (some ⟨b5, o5, none⟩) L c5, .int .i64 (L : Int), .bool true, u54, u55, .agg #[.slice A1 t.us.length c1, .slice A2 t.bs.length c2, .slice A3 t.ns.length c3], .slice (some ⟨b5, o5, none⟩) L c5, .int .i64 (j : Int), .pointer (some ⟨b5, o5 + j, none⟩), .int .i64 x, .int .i64 (f x), .slice (some ⟨b5, o5, none⟩) L c5, .int .i64 (j : Int), .int .i64 ((j : Int) + 1), .slice (some ⟨b5, o5, none⟩) L c5, .int .i64 (L : Int), .int .i64 (q : Int), .pointer (some ⟨b5, o5 + q, none⟩), .int .i64 (f x), .bool false, .int .i64 (j : Int), .int .i64 (j : Int), .bool false, u74, u75, u76, u77, u78, u79, u80, u81, u82, u83, u84, .tuple #[.slice A7 L c7, .bool true], .agg #[.slice A1 t.us.length c1, .slice A2 t.bs.length c2, .slice A3 t.ns.length c3], .slice (some ⟨b5, o5, none⟩) L c5, .int .i64 (j : Int), .pointer (some ⟨b5, o5 + j, none⟩), .int .i64 x, .tuple #[.slice A7 L c7, .bool true], .slice A7 L c7, .bool true, s94, s95, s96, s97, s98, s99, s100, s101, s102, s103, s104, s105, s106, s107, s108, s109, undef, undef, undef], []⟩ ∧ RF w7 rs rot (.slice (some ⟨b5, o5, none⟩) L c5) (.slice A7 L c7) (.slice (some ⟨b5, o5 + j, none⟩) (L - j) (c5 - j)) (.slice (some ⟨b5, o5, none⟩) j c5) j L l w' s94 s95 s96 s97 s98 s99 s100 s101 s102 s103 s104 s105 s106 s107 s108 s109)) (ord_spec (by kernel_rfl)) ?_ ?_ _ _ _ _ rfl (by decide) ?_
                · rintro l a' w' ⟨s94, s95, s96, s97, s98, s99, s100, s101, s102, s103, s104, s105, s106, s107, s108, s109, rfl, hF⟩ hsz hl
                  have hl' : ∀ j, j < 16 → l.getD j false = true := hl
                  have e15 := hF.f15 (hl' 15 (by decide))
                  subst e15
                  have hb9 := Lib.hid (hb7.out.trans (hF.bel.mono hb7.out.size))
                  clear hF hl hl'
                  go_wp2
                  go_roundw
                  case rel => exact ⟨j + 1, by omega, by go_num, hb9.out⟩
                  case measure => simp [intOf]; omega
                · rintro l a' w' ⟨s94, s95, s96, s97, s98, s99, s100, s101, s102, s103, s104, s105, s106, s107, s108, s109, rfl, hF⟩ hsz i o hlt' ho hun hall
                  have hlt16 : i < 16 := hlt'
                  refine wpOp_step ho (fun K' hK => ?_)
                  replace hK := Lib.hid hK
                  obtain rfl | rfl | rfl | rfl | rfl | rfl | rfl | rfl | rfl | rfl | rfl | rfl | rfl | rfl | rfl | rfl : i = 0 ∨ i = 1 ∨ i = 2 ∨ i = 3 ∨ i = 4 ∨ i = 5 ∨ i = 6 ∨ i = 7 ∨ i = 8 ∨ i = 9 ∨ i = 10 ∨ i = 11 ∨ i = 12 ∨ i = 13 ∨ i = 14 ∨ i = 15 := by omega
                  · simp only [List.getElem?_toArray, List.getElem?_cons_zero, Option.some.injEq] at ho
                    subst ho
                    replace hF := Lib.hid hF
                    clear hall
                    go_simp
                    refine hK.out _ _ ?_
                    exact ⟨_, _, _, _, _, _, _, _, _, _, _, _, _, _, _, _, rfl, hF.out.up0 rfl⟩
                  · simp only [List.getElem?_toArray, List.getElem?_cons_succ, List.getElem?_cons_zero, Option.some.injEq] at ho
                    subst ho
                    have e0 := hF.f0 (hall ⟨0, Ground.data⟩ (by simp) rfl)
                    subst e0
                    replace hF := Lib.hid hF
                    clear hall
                    go_simp
                    refine hK.out _ _ ?_
                    exact ⟨_, _, _, _, _, _, _, _, _, _, _, _, _, _, _, _, rfl, hF.out.up1 rfl⟩
                  · simp only [List.getElem?_toArray, List.getElem?_cons_succ, List.getElem?_cons_zero, Option.some.injEq] at ho
                    subst ho
                    have e1 := hF.f1 (hall ⟨1, Ground.data⟩ (by simp) rfl)
                    subst e1
                    replace hF := Lib.hid hF
                    clear hall
                    go_simp
                    refine hK.out _ _ ?_
                    exact ⟨_, _, _, _, _, _, _, _, _, _, _, _, _, _, _, _, rfl, hF.out.up2 rfl⟩
                  · simp only [List.getElem?_toArray, List.getElem?_cons_succ, List.getElem?_cons_zero, Option.some.injEq] at ho
                    subst ho
                    have eg := hF.f2 (hall ⟨2, Ground.guard⟩ (by simp) rfl)
                    subst eg
                    replace hF := Lib.hid hF
                    clear hall
                    go_simp
                    refine hK.out _ _ ?_
                    exact ⟨_, _, _, _, _, _, _, _, _, _, _, _, _, _, _, _, rfl, hF.out.up3 rfl⟩
                  · simp only [List.getElem?_toArray, List.getElem?_cons_succ, List.getElem?_cons_zero, Option.some.injEq] at ho
                    subst ho
                    have eg := hF.f2 (hall ⟨2, Ground.guard⟩ (by simp) rfl)
                    subst eg
                    replace hF := Lib.hid hF
                    clear hall
                    go_simp
                    refine hK.out _ _ ?_
                    exact ⟨_, _, _, _, _, _, _, _, _, _, _, _, _, _, _, _, rfl, hF.out.up4 hun⟩
                  · simp only [List.getElem?_toArray, List.getElem?_cons_succ, List.getElem?_cons_zero, Option.some.injEq] at ho
                    subst ho
                    have eg := hF.f2 (hall ⟨2, Ground.guard⟩ (by simp) rfl)
                    subst eg
                    replace hF := Lib.hid hF
                    clear hall
                    go_simp
                    refine hK.out _ _ ?_
                    exact ⟨_, _, _, _, _, _, _, _, _, _, _, _, _, _, _, _, rfl, hF.out.up5 rfl⟩
                  · simp only [List.getElem?_toArray, List.getElem?_cons_succ, List.getElem?_cons_zero, Option.some.injEq] at ho
                    subst ho
                    have eg := hF.f2 (hall ⟨2, Ground.guard⟩ (by simp) rfl)
                    subst eg
                    replace hF := Lib.hid hF
                    clear hall
                    go_simp
                    refine hK.out _ _ ?_
                    exact ⟨_, _, _, _, _, _, _, _, _, _, _, _, _, _, _, _, rfl, hF.out.up6 rfl⟩
                  · simp only [List.getElem?_toArray, List.getElem?_cons_succ, List.getElem?_cons_zero, Option.some.injEq] at ho
                    subst ho
                    have eg := hF.f2 (hall ⟨2, Ground.guard⟩ (by simp) rfl)
                    subst eg
                    have e5 := hF.f5 (hall ⟨5, Ground.data⟩ (by simp) rfl)
                    subst e5
                    have e6 := hF.f6 (hall ⟨6, Ground.data⟩ (by simp) rfl)
                    subst e6
                    replace hF := Lib.hid hF
                    clear hall
                    go_simp
                    refine hK.out _ _ ?_
                    exact ⟨_, _, _, _, _, _, _, _, _, _, _, _, _, _, _, _, rfl, hF.out.up7 (by rw [if_neg (show ¬ c5 = j from fun e => q3 e.symm)])⟩
                  · simp only [List.getElem?_toArray, List.getElem?_cons_succ, List.getElem?_cons_zero, Option.some.injEq] at ho
                    subst ho
                    have eg := hF.f2 (hall ⟨2, Ground.guard⟩ (by simp) rfl)
                    subst eg
                    have e7 := hF.f7 (hall ⟨7, Ground.data⟩ (by simp) rfl)
                    subst e7
                    have h4 := hall ⟨4, Ground.data⟩ (by simp) rfl
                    obtain ⟨g, e4, ho4⟩ := hF.g4 h4 hun
                    subst e4
                    have hsb := hF.bel.size
                    have hs1 := (d7.out.below hF.bel (Nat.le_refl _)).src
                    replace hF := Lib.hid hF
                    replace ho4 := Lib.hid ho4
                    clear hall
                    refine step_app_g _ (by simp [Region.wanted, yielded]) (.tmp 98) (.tmp 101) _ rfl w7.heap.size 3 i0 _ 8 Try.underlying24 hi hz0 hz1 hz2 rfl (.slice (some ⟨g, 0, none⟩) 0 0) 0 [] rfl ho4.out (some ⟨b5, o5 + j, none⟩) (L - j) (c5 - j) _ rfl hs1 m1.out m2.out hsb ?_
                    intro v8 w8 ho8 hg8 hat8
                    have hb8 := below_own hF.out.bel ho4.out hg8 hsb (Nat.le_refl _)
                    refine hK.out _ _ ?_
                    exact ⟨_, _, _, _, _, _, _, _, _, _, _, _, _, _, _, _, rfl, hF.out.up8 hsz hun h4 ho8 hb8⟩
                  · simp only [List.getElem?_toArray, List.getElem?_cons_succ, List.getElem?_cons_zero, Option.some.injEq] at ho
                    subst ho
                    have eg := hF.f2 (hall ⟨2, Ground.guard⟩ (by simp) rfl)
                    subst eg
                    replace hF := Lib.hid hF
                    clear hall
                    go_simp
                    refine hK.out _ _ ?_
                    exact ⟨_, _, _, _, _, _, _, _, _, _, _, _, _, _, _, _, rfl, hF.out.up9 rfl⟩
                  · simp only [List.getElem?_toArray, List.getElem?_cons_succ, List.getElem?_cons_zero, Option.some.injEq] at ho
                    subst ho
                    have eg := hF.f2 (hall ⟨2, Ground.guard⟩ (by simp) rfl)
                    subst eg
                    replace hF := Lib.hid hF
                    clear hall
                    go_simp
                    refine hK.out _ _ ?_
                    exact ⟨_, _, _, _, _, _, _, _, _, _, _, _, _, _, _, _, rfl, hF.out.up10 rfl⟩
                  · simp only [List.getElem?_toArray, List.getElem?_cons_succ, List.getElem?_cons_zero, Option.some.injEq] at ho
                    subst ho
                    have eg := hF.f2 (hall ⟨2, Ground.guard⟩ (by simp) rfl)
                    subst eg
                    have e9 := hF.f9 (hall ⟨9, Ground.data⟩ (by simp) rfl)
                    subst e9
                    have e10 := hF.f10 (hall ⟨10, Ground.data⟩ (by simp) rfl)
                    subst e10
                    replace hF := Lib.hid hF
                    clear hall
                    go_simp
                    refine hK.out _ _ ?_
                    exact ⟨_, _, _, _, _, _, _, _, _, _, _, _, _, _, _, _, rfl, hF.out.up11 rfl⟩
                  · simp only [List.getElem?_toArray, List.getElem?_cons_succ, List.getElem?_cons_zero, Option.some.injEq] at ho
                    subst ho
                    have eg := hF.f2 (hall ⟨2, Ground.guard⟩ (by simp) rfl)
                    subst eg
                    have e11 := hF.f11 (hall ⟨11, Ground.data⟩ (by simp) rfl)
                    subst e11
                    have h8 := hall ⟨8, Ground.data⟩ (by simp) rfl
                    have ho8 := hF.g8 h8 hun
                    have hsb := hF.bel.size
                    have hs1 := (t7.out.below hF.bel (Nat.le_refl _)).src
                    replace hF := Lib.hid hF
                    replace ho8 := Lib.hid ho8
                    clear hall
                    refine step_app_g _ (by simp [Region.wanted, yielded]) (.tmp 102) (.tmp 105) _ rfl w7.heap.size 3 i0 _ 8 Try.underlying24 hi hz0 hz1 hz2 rfl s102 _ _ rfl ho8.out (some ⟨b5, o5, none⟩) j c5 _ rfl hs1 m3.out m4.out hsb ?_
                    intro v9 w9 ho9 hg9 hat9
                    have hb9 := below_own hF.out.bel ho8.out hg9 hsb (Nat.le_refl _)
                    have hv9 := hrow.out v9 w9 ho9
                    refine hK.out _ _ ?_
                    exact ⟨_, _, _, _, _, _, _, _, _, _, _, _, _, _, _, _, rfl, hF.out.up12 hsz h8 hv9 hb9⟩
                  · simp only [List.getElem?_toArray, List.getElem?_cons_succ, List.getElem?_cons_zero, Option.some.injEq] at ho
                    subst ho
                    have eg := hF.f2 (hall ⟨2, Ground.guard⟩ (by simp) rfl)
                    subst eg
                    have e3 := hF.f3 (hall ⟨3, Ground.data⟩ (by simp) rfl)
                    subst e3
                    obtain ⟨A9, c9, e9, i9⟩ := hF.g12 (hall ⟨12, Ground.data⟩ (by simp) rfl)
                    subst e9
                    have KE := sameInts_any A7 A9 L c7 L c9 rot rot w' (i77.out.below hF.bel (Nat.le_refl _)) i9 (by omega) (by omega)
                    rw [decide_eq_true rfl] at KE
                    replace KE := Lib.hid KE
                    replace hF := Lib.hid hF
                    clear hall
                    go_simp
                    go_at_call 24
                    refine KE.out.mono ?_
                    rintro e _ ⟨rfl, m9, rfl⟩
                    go_simp
                    refine hK.out _ _ ?_
                    exact ⟨_, _, _, _, _, _, _, _, _, _, _, _, _, _, _, _, rfl, hF.out.up13 rfl m9⟩
                  · simp only [List.getElem?_toArray, List.getElem?_cons_succ, List.getElem?_cons_zero, Option.some.injEq] at ho
                    subst ho
                    have eg := hF.f2 (hall ⟨2, Ground.guard⟩ (by simp) rfl)
                    subst eg
                    have e13 := hF.f13 (hall ⟨13, Ground.data⟩ (by simp) rfl)
                    subst e13
                    replace hF := Lib.hid hF
                    clear hall
                    go_simp
                    refine hK.out _ _ ?_
                    exact ⟨_, _, _, _, _, _, _, _, _, _, _, _, _, _, _, _, rfl, hF.out.up14 rfl⟩
                  · simp only [List.getElem?_toArray, List.getElem?_cons_succ, List.getElem?_cons_zero, Option.some.injEq] at ho
                    subst ho
                    have e2 := hF.f2 (hall ⟨2, Ground.data⟩ (by simp) rfl)
                    subst e2
                    have e14 := hF.f14 (hall ⟨14, Ground.data⟩ (by simp) rfl)
                    subst e14
                    replace hF := Lib.hid hF
                    clear hall
                    go_simp
                    refine hK.out _ _ ?_
                    exact ⟨_, _, _, _, _, _, _, _, _, _, _, _, _, _, _, _, rfl, hF.out.up15 rfl⟩
                · exact ⟨_, _, _, _, _, _, _, _, _, _, _, _, _, _, _, _, rfl, (fun h' => by simp at h'), (fun h' => by simp at h'), (fun h' => by simp at h'), (fun h' => by simp at h'), (fun h' => by simp at h'), (fun h' => by simp at h'), (fun h' => by simp at h'), (fun h' => by simp at h'), (fun h' => by simp at h'), (fun h' => by simp at h'), (fun h' => by simp at h'), (fun h' => by simp at h'), (fun h' => by simp at h'), (fun h' => by simp at h'), (fun h' => by simp at h'), (Below.refl _ _).drew, (fun h' _ => by simp at h'), (fun h' _ => by simp at h'), (fun h' => by simp at h')⟩
        · obtain rfl : k = L := by omega
          have hB := Lib.hid Sr.out.low
          go_wp2
          go_ret
          exact ⟨rfl, hB.out⟩
  · have hl' : 1048576 < n := by omega
    go_enter Try.func5, Try.ntmps5
    go_wp2
    go_ret
    exact ⟨rfl, Below.refl _ _⟩

set_option maxRecDepth 100000 in
theorem lifted (os : Os) (started : os.Started) (H : Type) (enc : TypeId × Value → H) :
    ReturnsInHanded {} Try.checked os 5 .any (Rows.fnRingFromSpec.pre6 enc Try.prog Try.f5 Rows.fnRingFromRow.domain false) (Rows.fnRingFromSpec.post enc Try.prog Try.f5 false true false false) := by
  refine returnsInHanded_of_change (C := Try.checked) own started (by kernel_rfl) Try.func5
    (ChangeSpec.witness6 (enc := enc) (C := Try.checked) false ⟨#[], #[.slice none 0 0], []⟩ 8 (by kernel_rfl) (by kernel_rfl) (by kernel_rfl) (by kernel_rfl)) ?_
  intro W base args ds gs before hval0 hW hcnd _
  have hval : ∀ (j : Nat) t v, Try.f5.params[j]? = some t → args[j]? = some v → Value.okWide Try.prog W .any base t v := hval0
  have hW' := hW
  obtain ⟨p, q, hA0, hV, rfl, hfz, hnd⟩ := hW
  have hA : DataW.TrodAll enc Try.prog W 0 (fun _ => true) true Try.f5.params.toList args.toList ds p := hA0
  rw [Try.params5] at hA hval
  obtain ⟨v0, vs0, d0, ds0, p0, q0, hargs, rfl, rfl, h0, r0⟩ := trodAll_cons hA
  obtain ⟨rfl, rfl, rfl⟩ := trodAll_nil r0
  obtain rfl : args = #[v0] := by cases args; simp_all
  obtain ⟨rfl, rfl⟩ := trodVars_none hV
  obtain ⟨a0, len0, cap0, rfl⟩ := okWide_slice Try.underlying22 (hval 0 22 v0 rfl rfl)
  have k0 := h0
  have lt0 : ∀ x ∈ p0, x.block < W.heap.size := by obtain ⟨m, hm⟩ := k0; exact DataW.trod_lt m _ _ _ hm
  obtain ⟨z0, s0, w0, m0⟩ : ∃ zs, Ints W .u8 a0 len0 cap0 zs ∧ (∀ n ∈ zs, (Lit.int .u8 n).wf = true) ∧ cap0 ≤ maxLen := by
    obtain ⟨fuel, hf⟩ := h0
    rcases open_ints Try.underlying22 Try.underlying5 (by kernel_rfl) hf with ⟨hcs, _⟩ | ⟨x, l, c, zs, hcs, _, hl, hm, hz, _, hcell, hwz⟩
    · simp [Value.cells] at hcs
      obtain ⟨rfl, rfl, rfl⟩ := hcs
      exact ⟨[], Ints.none_, by simp, Nat.zero_le _⟩
    · simp [Value.cells] at hcs
      obtain ⟨rfl, rfl, rfl⟩ := hcs
      exact ⟨_, Ints.of_row hl (by simpa using hz) hcell, fun n hn => hwz n (List.mem_of_mem_take hn), hm⟩
  clear hA0 hval0
  refine (walk W a0 len0 cap0 z0 s0 w0 m0).mono fun e W' ⟨he, bel⟩ => ?_
  subst he
  exact ⟨_, rfl, _, _, _, [], _, [], hW', trodAll_mk1 (shut_bool Try.underlying4 _), (trodAll_cons_mk (Below.trod laidOut (by kernel_rfl) (of_decide_eq_true (by kernel_rfl)) k0 bel lt0) trodAll_mk0), rfl, bel.frame _, fun h => by cases h⟩

theorem over : Rows.fnRingFromRow.holds Try.pinned (OpenSpec.ofChange Rows.fnRingFromSpec) :=
  OpenClaim.holds_of_wide 5 Try.f5 rfl rfl rfl rfl rfl rfl rfl ⟨rfl, rfl, rfl, rfl, rfl⟩ rfl rfl rfl rfl rfl (by kernel_rfl) Try.func5 (by kernel_rfl)
    (of_decide_eq_true (by kernel_rfl)) (by unfold Func.isWrapper; first | (rw [if_pos (by decide +kernel)]; kernel_rfl) | (rw [if_neg (by decide +kernel)]; exact ⟨rfl, rfl⟩))
    (fun os started H enc _ => lifted os started H enc)
theorem proved : Rows.FnRingFromSaid := over
end Go.Proofs.Ytfnpkmlgklameaa.fnRingFrom
