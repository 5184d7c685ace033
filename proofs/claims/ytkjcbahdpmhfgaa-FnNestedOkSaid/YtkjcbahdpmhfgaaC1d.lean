/-
  Contracts of chapter 1: CountsOf of the program: the iterators slices.Backward and takenDown.
-/
import Derived.Test.YtkjcbahdpmhfgaaC1c
import Derived.Test.YtkjcbahdpmhfgaaRange
import Derived.Deep.RegionHeld3
namespace Go.Proofs.Ytkjcbahdpmhfgaa
open Go Go.RowKit Go.Shelf
attribute [local go_sem] Oper.semAt_some

/-- A base with its place, of m bases. -/
abbrev Pl (m : Nat) := { x : Nat × Int // x.1 < m ∧ 1 ≤ x.2 ∧ x.2 ≤ 999999 }
def encPl {m : Nat} (x : Pl m) : Array Value := #[.int .i64 (x.1.1 : Int), .int .i64 x.1.2]

set_option maxRecDepth 100000 in
set_option maxHeartbeats 2000000 in
theorem backward1_own (Bs b off m cap : Nat) (f : Nat → Pl m) (Kp : World → World → Prop) (hm : m ≤ 1000000)
    (hK : ∀ A B : World, Kp A B → ∀ (p : Addr) v, (p.block = Bs ∨ p.block = b) → A.cell? p = some v → B.cell? p = some v)
    (w : World) (hBs : w.cell? ⟨Bs, 0, none⟩ = some (.slice (some ⟨b, off, none⟩) m cap))
    (hf : ∀ j, j < m → (f (m - 1 - j)).1.1 = j ∧ w.cell? ⟨b, off + j, none⟩ = some (.int .i64 (f (m - 1 - j)).1.2)) :
    SeqOwn Try.prog 44 #[.pointer (some ⟨Bs, 0, none⟩)] encPl Kp (fun ys => ys = (List.range m).map f) (fun pre => ∃ k, k ≤ m ∧ pre = (List.range k).map f) m 0 w := by
  intro l J Jx W hW _ _ _ hY h0
  have hb0 : Bs < w.heap.size := lt_of_cell hBs
  refine callsIn_of_wp Try.func44 rfl trivial ?_ rfl
  simp only [Try.ntmps44, List.size_toArray, List.length_cons, List.length_nil, Nat.reduceAdd, Nat.reduceSub, Array.replicate_succ, Array.replicate_zero, List.push_toArray, List.append_toArray, List.nil_append, List.cons_append]
  have hB1 : W.cell? ⟨Bs, 0, none⟩ = some (.slice (some ⟨b, off, none⟩) m cap) := (hW.cell (p := ⟨Bs, 0, none⟩) hb0).trans hBs
  have hf1 : ∀ j, j < m → (f (m - 1 - j)).1.1 = j ∧ W.cell? ⟨b, off + j, none⟩ = some (.int .i64 (f (m - 1 - j)).1.2) := fun j hj =>
    ⟨(hf j hj).1, (hW.cell (p := ⟨b, off + j, none⟩) (lt_of_cell (hf j hj).2)).trans (hf j hj).2⟩
  clear hf hBs
  replace hf1 := Lib.hid hf1
  gi_wp2
  gi_loopw [3] (fun i wr => ∃ r : Nat, r ≤ m ∧ i = .int .i64 ((r : Int) - 1) ∧ J ((List.range (m - r)).map f) wr ∧ wr.cell? ⟨Bs, 0, none⟩ = some (.slice (some ⟨b, off, none⟩) m cap) ∧ (∀ j, j < m → wr.cell? ⟨b, off + j, none⟩ = some (.int .i64 (f (m - 1 - j)).1.2)))
    (fun i _ => (intOf i + 1).toNat)
  case atStart => exact ⟨m, Nat.le_refl _, rfl, by simpa using h0, hB1, fun j hj => (hf1.out j hj).2⟩
  case round =>
    obtain ⟨r, hr, rfl, hJ, hbx, hcs⟩ := hrel
    rcases Nat.eq_zero_or_pos r with rfl | hr0
    · have HJ := Lib.hid hJ
      clear hJ hcs hY h0
      gi_wp2
      go_end0
      exact ⟨⟨_, rfl⟩, .inl ⟨_, rfl, by simpa using HJ.out⟩⟩
    · obtain ⟨j, rfl⟩ : ∃ j, r = j + 1 := ⟨r - 1, by omega⟩
      rw [show (((j + 1 : Nat) : Int) - 1) = (j : Int) by omega]
      have hcj := hcs j (by omega)
      have hfj := (hf1.out j (by omega)).1
      have hlen : (List.map f (List.range (m - (j + 1)))).length < m := by simp; omega
      obtain ⟨fn, tmps, assign, body, hy, hR⟩ := hY _ (f (m - 1 - j)) wr hJ hlen
      simp only [encPl] at hy
      rw [hfj] at hy
      have hR' : RoundIn Fence.wide 0 Try.prog l fn tmps assign body wr fun e W' => (e = .returned (.bool true) ∧ J ((List.range (m - j)).map f) W' ∧ Kp wr W') ∨ (e = .returned (.bool false) ∧ Jx ((List.range (m - j)).map f) W' ∧ Kp wr W') := by
        refine hR.mono fun e W' h => ?_
        have e1 : m - j = (m - (j + 1)) + 1 := by omega
        have e2 : (List.range (m - j)).map f = (List.range (m - (j + 1))).map f ++ [f (m - 1 - j)] := by
          rw [e1, List.range_succ, List.map_append]; simp only [List.map_cons, List.map_nil]; rw [show m - (j + 1) = m - 1 - j by omega]
        rw [e2]; exact h
      generalize (f (m - 1 - j)).1.2 = z at *
      replace hcs := Lib.hid hcs
      clear hR hJ hY h0 hlen hfj hf1
      gi_wp2
      refine ⟨rfl, hR'.mono ?_⟩
      rintro e W3 (⟨rfl, hJ3, hk3⟩ | ⟨rfl, hJx3, -⟩)
      · have hbx3 := hK _ _ hk3 ⟨Bs, 0, none⟩ _ (.inl rfl) hbx
        have hcs3 := fun i hi => hK _ _ hk3 ⟨b, off + i, none⟩ _ (.inr rfl) (hcs.out i hi)
        replace hcs3 := Lib.hid hcs3
        gi_wp2
        go_roundw
        case rel => exact ⟨j, by omega, rfl, hJ3, hbx3, hcs3.out⟩
        case measure => first | (simp [intOf]; done) | (simp [intOf]; omega)
      · gi_wp2
        refine bodyPost_ret (results_none rfl _ _ _) rfl ?_
        exact ⟨⟨_, rfl⟩, .inr ⟨_, ⟨m - j, by omega, rfl⟩, hJx3⟩⟩

theorem backward_any (A : Option Addr) (n c : Nat) (w : World) :
    Calls Try.prog 43 #[.slice A n c] w fun e w' => e = .returned (.func (.func 44) #[] #[.pointer (some ⟨w.heap.size, 0, none⟩)]) ∧ w' = w.alloc (.cells #[.slice A n c] 23) := by
  go_enter Try.func43, Try.ntmps43
  go_wp2
  go_ret
  exact ⟨rfl, rfl⟩

theorem takenDown_any (A : Option Addr) (n c : Nat) (x : Int) (w : World) :
    Calls Try.prog 38 #[.slice A n c, .int .i64 x] w fun e w' => e = .returned (.func (.func 42) #[] #[.pointer (some ⟨w.heap.size + 1, 0, none⟩), .pointer (some ⟨w.heap.size, 0, none⟩)]) ∧
      w' = (w.alloc (.cells #[.slice A n c] 23)).alloc (.cells #[.int .i64 x] 3) := by
  go_enter Try.func38, Try.ntmps38
  go_wp2
  go_ret
  exact ⟨by simp, rfl⟩

/-- A number that is left. -/
abbrev Lf := { x : Int // 0 ≤ x ∧ x ≤ 999999 }
/-- A count with its place, of m. -/
abbrev Ct (m : Nat) := { x : Nat × Int // x.1 < m ∧ 0 ≤ x.2 ∧ x.2 ≤ 999999 }
def encCt {m : Nat} (x : Ct m) : Array Value := #[.int .i64 (x.1.1 : Int), .int .i64 x.1.2]

theorem ediv_fit {a b : Int} (ha : 0 ≤ a ∧ a ≤ 999999) (hb : 1 ≤ b) : 0 ≤ a / b ∧ a / b ≤ 999999 := by
  have := IntWalk.tdiv_le a b ha.1 hb; omega
theorem emod_fit {a b : Int} (ha : 0 ≤ a ∧ a ≤ 999999) (hb : 1 ≤ b) : 0 ≤ a % b ∧ a % b ≤ 999999 := by
  have h1 := Int.emod_nonneg a (show b ≠ 0 by omega)
  have h2 : a % b ≤ a := by
    have h3 := Int.mul_ediv_add_emod a b
    have h4 : 0 ≤ b * (a / b) := Int.mul_nonneg (by omega) (Int.ediv_nonneg ha.1 (by omega))
    omega
  omega
def cntOf {m : Nat} (l : Lf) (x : Pl m) : Ct m := ⟨(x.1.1, l.1 / x.1.2), x.2.1, ediv_fit l.2 x.2.2.1⟩
def restOf {m : Nat} (l : Lf) (x : Pl m) : Lf := ⟨l.1 % x.1.2, emod_fit l.2 x.2.2.1⟩
/-- What is left behind the places pre. -/
def leftOf {m : Nat} (l : Lf) : List (Pl m) → Lf
  | [] => l
  | x :: r => leftOf (restOf l x) r
/-- What has been told by then. -/
def toldOf {m : Nat} (l : Lf) : List (Pl m) → List (Ct m)
  | [] => []
  | x :: r => cntOf l x :: toldOf (restOf l x) r
theorem leftOf_snoc {m : Nat} (l : Lf) (pre : List (Pl m)) (x : Pl m) : leftOf l (pre ++ [x]) = restOf (leftOf l pre) x := by
  induction pre generalizing l with
  | nil => rfl
  | cons y r ih => exact ih _
theorem toldOf_snoc {m : Nat} (l : Lf) (pre : List (Pl m)) (x : Pl m) : toldOf l (pre ++ [x]) = toldOf l pre ++ [cntOf (leftOf l pre) x] := by
  induction pre generalizing l with
  | nil => rfl
  | cons y r ih => simp only [List.cons_append, toldOf, leftOf, ih]
theorem toldOf_length {m : Nat} (l : Lf) (pre : List (Pl m)) : (toldOf l pre).length = pre.length := by
  induction pre generalizing l with
  | nil => rfl
  | cons y r ih => simp [toldOf, ih]

set_option maxRecDepth 100000 in
set_option maxHeartbeats 2000000 in
theorem takenDown1_own (B Bn Bb b off m cap : Nat) (G : Nat) (l0 : Lf) (f : Nat → Pl m) (hm : m ≤ 1000000) (w : World) (hB : B ≤ w.heap.size + 2) (hG : G ≠ b ∧ G < w.heap.size) (hbw : b < w.heap.size)
    (hBn : w.cell? ⟨Bn, 0, none⟩ = some (.int .i64 l0.1)) (hBb : w.cell? ⟨Bb, 0, none⟩ = some (.slice (some ⟨b, off, none⟩) m cap))
    (hf : ∀ j, j < m → (f (m - 1 - j)).1.1 = j ∧ w.cell? ⟨b, off + j, none⟩ = some (.int .i64 (f (m - 1 - j)).1.2)) :
    SeqOwn Try.prog 42 #[.pointer (some ⟨Bn, 0, none⟩), .pointer (some ⟨Bb, 0, none⟩)] encCt (Keeps B (· = G)) (fun ys => ys = toldOf l0 ((List.range m).map f)) (fun _ => True) m 3 w := by
  intro l J Jx W hW hWs hJo hJxo hY h0
  have hb1 : Bn < w.heap.size := lt_of_cell hBn
  have hb2 : Bb < w.heap.size := lt_of_cell hBb
  refine callsIn_of_wp_marks Try.func42 rfl trivial ?_ rfl
  simp only [Try.ntmps42, List.size_toArray, List.length_cons, List.length_nil, Nat.reduceAdd, Nat.reduceSub, Array.replicate_succ, Array.replicate_zero, List.push_toArray, List.append_toArray, List.nil_append, List.cons_append]
  have hN1 : W.cell? ⟨Bn, 0, none⟩ = some (.int .i64 l0.1) := (hW.cell (p := ⟨Bn, 0, none⟩) hb1).trans hBn
  have hB1 : W.cell? ⟨Bb, 0, none⟩ = some (.slice (some ⟨b, off, none⟩) m cap) := (hW.cell (p := ⟨Bb, 0, none⟩) hb2).trans hBb
  have hf1 : ∀ j, j < m → (f (m - 1 - j)).1.1 = j ∧ W.cell? ⟨b, off + j, none⟩ = some (.int .i64 (f (m - 1 - j)).1.2) := fun j hj =>
    ⟨(hf j hj).1, (hW.cell (p := ⟨b, off + j, none⟩) (lt_of_cell (hf j hj).2)).trans (hf j hj).2⟩
  have hsz := hW.size
  clear hf hBb hBn
  replace hf1 := Lib.hid hf1
  have hN2 : ∀ o, (W.alloc o).cell? ⟨Bn, 0, none⟩ = some (.int .i64 l0.1) := fun o => (World.cell?_alloc_lt W o ⟨Bn, 0, none⟩ (by show Bn < _; omega)).trans hN1
  have hB2 : ∀ o o', ((W.alloc o).alloc o').cell? ⟨Bb, 0, none⟩ = some (.slice (some ⟨b, off, none⟩) m cap) := fun o o' => ((World.cell?_alloc_lt _ o' ⟨Bb, 0, none⟩ (by show Bb < _; simp; omega)).trans (World.cell?_alloc_lt W o ⟨Bb, 0, none⟩ (by show Bb < _; omega))).trans hB1
  gi_wp2
  refine ⟨trivial, rfl, (callsIn_wide.2 (backward_any _ _ _ _)).mono ?_⟩
  rintro e _ ⟨rfl, rfl⟩
  gi_wp2
  have hs3 : (((W.alloc (.cells #[.func (.yield l) #[] #[]] 53)).alloc (.cells #[.int .i64 l0.1] 3)).alloc (.cells #[.slice (some ⟨b, off, none⟩) m cap] 23)).heap.size = W.heap.size + 3 := by simp
  have hbel : Below W.heap.size W (((W.alloc (.cells #[.func (.yield l) #[] #[]] 53)).alloc (.cells #[.int .i64 l0.1] 3)).alloc (.cells #[.slice (some ⟨b, off, none⟩) m cap] 23)) :=
    (((Below.refl _ _).alloc (Nat.le_refl _) _).alloc (by simp) _).alloc (by simp; omega) _
  have hJ3 := hJo.alloc (.cells #[.slice (some ⟨b, off, none⟩) m cap] 23) (hJo.alloc (.cells #[.int .i64 l0.1] 3) (hJo.alloc (.cells #[.func (.yield l) #[] #[]] 53) h0))
  have hy3 : (((W.alloc (.cells #[.func (.yield l) #[] #[]] 53)).alloc (.cells #[.int .i64 l0.1] 3)).alloc (.cells #[.slice (some ⟨b, off, none⟩) m cap] 23)).cell? ⟨W.heap.size, 0, none⟩ = some (.func (.yield l) #[] #[]) := by
    simp [go_sem]
  have hl3 : (((W.alloc (.cells #[.func (.yield l) #[] #[]] 53)).alloc (.cells #[.int .i64 l0.1] 3)).alloc (.cells #[.slice (some ⟨b, off, none⟩) m cap] 23)).cell? ⟨W.heap.size + 1, 0, none⟩ = some (.int .i64 l0.1) := by
    simp [go_sem]
  have hf3 : (((W.alloc (.cells #[.func (.yield l) #[] #[]] 53)).alloc (.cells #[.int .i64 l0.1] 3)).alloc (.cells #[.slice (some ⟨b, off, none⟩) m cap] 23)).frozen? ⟨W.heap.size + 1, 0, none⟩ = false := by
    simp [go_sem]
  have hbx3 : (((W.alloc (.cells #[.func (.yield l) #[] #[]] 53)).alloc (.cells #[.int .i64 l0.1] 3)).alloc (.cells #[.slice (some ⟨b, off, none⟩) m cap] 23)).cell? ⟨W.heap.size + 1 + 1, 0, none⟩ = some (.slice (some ⟨b, off, none⟩) m cap) := by
    simp [go_sem]
  generalize (((W.alloc (.cells #[.func (.yield l) #[] #[]] 53)).alloc (.cells #[.int .i64 l0.1] 3)).alloc (.cells #[.slice (some ⟨b, off, none⟩) m cap] 23)) = w3 at *
  have hfw : ∀ j, j < m → (f (m - 1 - j)).1.1 = j ∧ w3.cell? ⟨b, off + j, none⟩ = some (.int .i64 (f (m - 1 - j)).1.2) := fun j hj =>
    ⟨(hf1.out j hj).1, (hbel.cell (p := ⟨b, off + j, none⟩) (by show b < _; omega)).trans (hf1.out j hj).2⟩
  have hs3' := Lib.hid hs3
  have hs3le : W.heap.size + 3 ≤ w3.heap.size := by omega
  have hs3ge : w3.heap.size ≤ W.heap.size + 3 := by omega
  clear hs3 h0 hN2 hB2 hN1 hB1
  refine range_own (gf := 44) (lb := #[.pointer (some ⟨W.heap.size + 1 + 1, 0, none⟩)]) rfl (enters_of Try.func44 (by kernel_rfl) rfl)
    (backward1_own (W.heap.size + 1 + 1) b off m cap f (Keeps (w3.heap.size + 2) (fun k => k = G ∨ k = W.heap.size + 1)) hm
      (fun A B hk p v hp hc => hk.cell hc (by rcases hp with e | e <;> rw [e] <;> omega)) w3 hbx3 hfw)
    (fun h k => h.trans k) (fun W1 l1 o o' h1 h2 ho hc => Keeps.putObj o' ho hc h2) (Below.refl _ _) (fun _ => rfl)
    (fun pre W1 => J (toldOf l0 pre) W1 ∧ W1.cell? ⟨W.heap.size + 1, 0, none⟩ = some (.int .i64 (leftOf l0 pre).1) ∧ W1.frozen? ⟨W.heap.size + 1, 0, none⟩ = false ∧ W1.cell? ⟨W.heap.size, 0, none⟩ = some (.func (.yield l) #[] #[]) ∧ W.heap.size + 1 < W1.heap.size)
    (fun c pre W1 => c = .ret ∧ Jx (toldOf l0 pre) W1)
    ?hI ?hIx ⟨hJ3, hl3, hf3, hy3, by omega⟩
    (fun x => { tmps := #[.func (.yield l) #[] #[], .pointer (some ⟨Bn, 0, none⟩), .pointer (some ⟨Bb, 0, none⟩), .pointer (some ⟨W.heap.size, 0, none⟩), .pointer (some ⟨W.heap.size + 1, 0, none⟩), .int .i64 (x.1.1 : Int), .int .i64 x.1.2, undef, undef, .int .i64 l0.1, .slice (some ⟨b, off, none⟩) m cap, .func (.func 44) #[] #[.pointer (some ⟨W.heap.size + 1 + 1, 0, none⟩)], .int .i64 (x.1.1 : Int), .int .i64 x.1.2, undef, undef, undef, undef, undef, undef, undef, undef, undef, undef, undef, undef], defers := [] }) ?assign ?body ?done ?stop
  case hI =>
    rintro pre A B' row ⟨h1, h2, h3, h4, h5⟩ hg hr
    have hne : ∀ k, k < W.heap.size + 2 → some k ≠ row := fun k hk e => by rcases hr k e.symm with ⟨x, _⟩ | ⟨x, y⟩ <;> omega
    refine ⟨hJo _ A B' row h1 hg (fun r e => ?_), hg.cell h2 (hne _ (by simp)), ?_, hg.cell h4 (hne _ (by simp)), by have := hg.size; omega⟩
    · rcases hr r e with ⟨x, y⟩ | ⟨x, y⟩
      · exact .inl ⟨by omega, y⟩
      · omega
    · exact (World.frozen?_of_block (a := ⟨W.heap.size + 1, 0, none⟩) (hg.block _ h5 (hne _ (by simp)))).trans h3
  case hIx =>
    rintro c pre A B' row ⟨h0, h1⟩ hg hr
    exact ⟨h0, hJxo _ A B' row h1 hg (fun r e => by
      rcases hr r e with ⟨x, y⟩ | ⟨x, y⟩
      · exact .inl ⟨by omega, y⟩
      · omega)⟩
  case assign =>
    intro l1 x W1 K hK
    simp only [encPl]
    gi_wp2
    exact hK
  case body =>
    rintro l1 pre x W1 hl1 ⟨h1, h2, h3, h4, h5⟩ hlen
    have hlb := (leftOf l0 pre).2
    have hxb := x.2.2
    have hz : ¬ x.1.2 = 0 := by omega
    have hmx : Try.prog.follows .mixedOrders = true := by kernel_rfl
    gi_wp2
    have e1 : IntKind.i64.wrap ((leftOf l0 pre).1.tdiv x.1.2) = (leftOf l0 pre).1 / x.1.2 := IntWalk.i64_quo _ _ (by omega)
    have e2 : (leftOf l0 pre).1.tmod x.1.2 = (leftOf l0 pre).1 % x.1.2 := IntWalk.rem_in _ _ (by omega)
    refine wpIn_region_quiet_round rfl hmx (by kernel_rfl) (by kernel_rfl) ?_
    repeat (gi_big_quiet_step (fail))
    refine wpQuietIn_nil ?_
    intro _ hw'
    obtain ⟨nq, hw''⟩ := hw'
    subst hw''
    clear e1 e2
    obtain ⟨fn, tmps, asg, bd, hy, hR⟩ := hY (toldOf l0 pre) (cntOf (leftOf l0 pre) x) (W1.drewN nq) (hJo.drewN nq h1) (by rw [toldOf_length]; exact hlen)
    rw [← toldOf_snoc] at hR
    simp only [encCt, cntOf] at hy
    have hres : (restOf (leftOf l0 pre) x).1 = (leftOf l0 pre).1 % x.1.2 := rfl
    rw [← leftOf_snoc] at hres
    have HR := Lib.hid hres
    generalize (leftOf l0 pre).1 = lv at *
    clear hres
    gi_wp2
    refine ⟨rfl, hR.mono ?_⟩
    rintro e W3 (⟨rfl, hJ3, hk3⟩ | ⟨rfl, hJx3, hk3⟩)
    · have hk4 : Keeps w3.heap.size (fun k => k = G ∨ k = W.heap.size + 1) W1 W3 := ((Keeps.refl _ _ W1).drewN nq).trans (hk3.mono (by omega) (fun k e => .inl e))
      have hG1 : ¬ W.heap.size + 1 = G := by omega
      have hG2 : ¬ W.heap.size = G := by omega
      have c2 : W3.cell? ⟨W.heap.size + 1, 0, none⟩ = some (.int .i64 lv) := hk3.cell (p := ⟨W.heap.size + 1, 0, none⟩) h2 hG1
      have f2 : W3.frozen? ⟨W.heap.size + 1, 0, none⟩ = false := (hk3.frozen (p := ⟨W.heap.size + 1, 0, none⟩) h2 hG1).trans h3
      have y2 : W3.cell? ⟨W.heap.size, 0, none⟩ = some (.func (.yield l) #[] #[]) := hk3.cell (p := ⟨W.heap.size, 0, none⟩) h4 hG2
      have hsz3 := hk3.size
      have hk5 := fun u => hk4.trans (Keeps.setCell c2 (.inr rfl) u)
      have hJ5 := fun u => hJo.setCell (k := W.heap.size + 1) (i := 0) u hJ3 (by omega) (by omega)
      replace hk5 := Lib.hid hk5
      replace hJ5 := Lib.hid hJ5
      clear hJ3 hR hy hk3 hk4
      gi_wp2
      refine ⟨(hk5.out _).from_ (Nat.le_refl _), (hk5.out _).mono (by omega) (fun k e => e), hJ5.out _, ?_, ?_, ?_, ?_⟩
      · rw [HR.out]; exact World.cell?_setCell_same' _ _ _ (by rw [c2]; rfl)
      · rw [World.frozen?_setCell]; exact f2
      · rw [World.cell?_setCell_other _ _ _ _ (by simp)]; exact y2
      · simp [World.setCell] at hsz3 ⊢; omega
    · have hk4 : Keeps w3.heap.size (fun k => k = G ∨ k = W.heap.size + 1) W1 W3 := ((Keeps.refl _ _ W1).drewN nq).trans (hk3.mono (by omega) (fun k e => .inl e))
      gi_wp2
      exact ⟨hk4.from_ (Nat.le_refl _), hk4.mono (by omega) (fun k e => e), rfl, hJx3⟩
  case done =>
    rintro D ys W1 hD rfl ⟨h1, h2, h3, h4, h5⟩ hK
    have hF := hJo.putObj (.deferred none) h1 (by omega) hK rfl
    replace hF := Lib.hid hF
    gi_wp2
    refine ⟨by simp, .inl ⟨_, _, rfl, run_takeDeferred hK, ?_⟩⟩
    exact ⟨_, results_none rfl _ _ _, ⟨_, rfl⟩, .inl ⟨_, rfl, hF.out⟩⟩
  case stop =>
    rintro D c pre W1 hD _ ⟨rfl, h1⟩ hK
    have hF := hJxo.putObj (.deferred none) h1 (by omega) hK rfl
    replace hF := Lib.hid hF
    gi_wp2
    refine ⟨by simp, .inl ⟨_, _, rfl, run_takeDeferred hK, ?_⟩⟩
    exact ⟨_, results_none rfl _ _ _, ⟨_, rfl⟩, .inr ⟨_, trivial, hF.out⟩⟩

/-- What lies in the counts behind what has been told. -/
def outOf {m : Nat} (told : List (Ct m)) : List Int := told.foldl (fun zs x => zs.set x.1.1 x.1.2) (List.replicate m 0)
theorem outOf_snoc {m : Nat} (told : List (Ct m)) (x : Ct m) : outOf (told ++ [x]) = (outOf told).set x.1.1 x.1.2 := by simp [outOf]
theorem outOf_nil {m : Nat} : outOf ([] : List (Ct m)) = List.replicate m 0 := rfl
theorem outOf_length {m : Nat} (told : List (Ct m)) : (outOf told).length = m := by
  suffices h : ∀ (zs : List Int), (told.foldl (fun zs x => zs.set x.1.1 x.1.2) zs).length = zs.length by rw [outOf, h]; simp
  induction told with
  | nil => intro zs; rfl
  | cons x r ih => intro zs; simp [ih]

/-- The place j from the top. -/
def plOf (xs : List Int) (m : Nat) (hm : 0 < m) (h : ∀ j, j < m → 1 ≤ xs.getD j 0 ∧ xs.getD j 0 ≤ 999999) (j : Nat) : Pl m :=
  ⟨(m - 1 - j, xs.getD (m - 1 - j) 0), by omega, h (m - 1 - j) (by omega)⟩

theorem leftOf_range {xs : List Int} {m : Nat} (hm : 0 < m) (h : ∀ j, j < m → 1 ≤ xs.getD j 0 ∧ xs.getD j 0 ≤ 999999) (l0 : Lf) (hl : xs.length = m) (k : Nat) :
    (leftOf l0 ((List.range k).map (plOf xs m hm h))).1 = leftN xs l0.1 k := by
  induction k with
  | zero => rfl
  | succ k ih => rw [List.range_succ, List.map_append, List.map_cons, List.map_nil, leftOf_snoc]; simp only [restOf, plOf, ih, leftN, hl]

theorem outOf_range {xs : List Int} {m : Nat} (hm : 0 < m) (h : ∀ j, j < m → 1 ≤ xs.getD j 0 ∧ xs.getD j 0 ≤ 999999) (l0 : Lf) (hl : xs.length = m) (k : Nat) (hk : k ≤ m) :
    ∀ j, j < m → (outOf (toldOf l0 ((List.range k).map (plOf xs m hm h)))).getD j 0 = if m - k ≤ j then cntN xs l0.1 j else 0 := by
  induction k with
  | zero => intro j hj; simp [toldOf, outOf, List.getD_eq_getElem?_getD, hj]; omega
  | succ k ih =>
    intro j hj
    rw [List.range_succ, List.map_append, List.map_cons, List.map_nil, toldOf_snoc, outOf_snoc]
    have hlen := outOf_length (toldOf l0 ((List.range k).map (plOf xs m hm h)))
    by_cases e : j = m - 1 - k
    · subst e
      have : (m - 1 - k) < (outOf (toldOf l0 ((List.range k).map (plOf xs m hm h)))).length := by omega
      rw [if_pos (by omega)]
      simp only [cntOf, plOf, List.getD_eq_getElem?_getD, List.getElem?_set_self this, Option.getD_some, leftOf_range hm h l0 hl, cntN, hl]
      rw [show m - 1 - (m - 1 - k) = k by omega]
    · have h1 := ih (by omega) j hj
      have e' : ¬ (m - 1 - k = j) := fun x => e x.symm
      simp only [cntOf, plOf, List.getD_eq_getElem?_getD, List.getElem?_set, e', if_false] at h1 ⊢
      rw [h1]
      by_cases hc : m - k ≤ j
      · rw [if_pos hc, if_pos (by omega)]
      · rw [if_neg hc, if_neg (by omega)]

theorem outOf_all {xs : List Int} {m : Nat} (hm : 0 < m) (h : ∀ j, j < m → 1 ≤ xs.getD j 0 ∧ xs.getD j 0 ≤ 999999) (l0 : Lf) (hl : xs.length = m) :
    outOf (toldOf l0 ((List.range m).map (plOf xs m hm h))) = (List.range m).map (cntN xs l0.1) := by
  apply List.ext_getElem
  · rw [outOf_length]; simp
  · intro i h1 h2
    have hi : i < m := by rw [outOf_length] at h1; exact h1
    have := outOf_range hm h l0 hl m (Nat.le_refl _) i hi
    rw [if_pos (by omega)] at this
    simp only [List.getD_eq_getElem?_getD, List.getElem?_eq_getElem h1, Option.getD_some] at this
    rw [this]; simp
end Go.Proofs.Ytkjcbahdpmhfgaa
