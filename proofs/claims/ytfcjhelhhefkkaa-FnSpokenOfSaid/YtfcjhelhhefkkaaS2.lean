/-
  Rows of runs in memory, and the contract of RunsOf of the model.
-/
import Derived.Test.YtfcjhelhhefkkaaS1
import Derived.Test.YtfcjhelhhefkkaaGA
namespace Go.Proofs.Ytfcjhelhhefkkaa
open Go.RowKit

def runCells : List RunB → List Value
  | [] => []
  | (t, c) :: q => .int .i64 (t : Int) :: .int .i64 ((c.toNat : Int) - 48) :: runCells q
theorem runCells_len (q : List RunB) : (runCells q).length = q.length * 2 := by
  induction q with
  | nil => rfl
  | cons x q ih => obtain ⟨t, c⟩ := x; simp [runCells, ih]; omega
theorem runCells_app (p q : List RunB) : runCells (p ++ q) = runCells p ++ runCells q := by
  induction p with
  | nil => rfl
  | cons x p ih => obtain ⟨t, c⟩ := x; simp [runCells, ih]
theorem runCells_at0 (q r : List RunB) (x : RunB) : (runCells (q ++ x :: r))[q.length * 2]? = some (.int .i64 (x.1 : Int)) := by
  obtain ⟨t, c⟩ := x
  rw [runCells_app, List.getElem?_append_right (by rw [runCells_len]; exact Nat.le_refl _), runCells_len]; simp [runCells]
theorem runCells_at1 (q r : List RunB) (x : RunB) : (runCells (q ++ x :: r))[q.length * 2 + 1]? = some (.int .i64 ((x.2.toNat : Int) - 48)) := by
  obtain ⟨t, c⟩ := x
  rw [runCells_app, List.getElem?_append_right (by rw [runCells_len]; omega), runCells_len, show q.length * 2 + 1 - q.length * 2 = 1 by omega]; simp [runCells]
theorem runCells_set (q : List RunB) (t : Nat) (c : UInt8) : (runCells (q ++ [(t, c)])).set (q.length * 2) (.int .i64 ((t : Int) + 1)) = runCells (q ++ [(t + 1, c)]) := by
  rw [runCells_app, runCells_app, List.set_append_right _ _ (by rw [runCells_len]; exact Nat.le_refl _), runCells_len]
  simp [runCells]
theorem run_info : (Try.prog.info? 31).map (fun i => (i.zero, i.size, i.bytes)) = some (some (.agg #[.int .i64 0, .int .i64 0]), 2, 16) := by kernel_rfl
theorem run_cells : Try.prog.cellsOf 31 = 2 := by kernel_rfl
theorem cell_two (w : World) (a b : Value) (t : TypeId) : ∀ j u, [a, b][j]? = some u → (w.alloc (.cells #[a, b] t)).cell? ((⟨w.heap.size, 0, none⟩ : Addr).add j) = some u := by
  intro j u hj
  match j, hj with
  | 0, hj => simp at hj; subst hj; simp [Addr.add]
  | 1, hj => simp at hj; subst hj; simp [Addr.add]
  | j + 2, hj => simp at hj

theorem ownN_below {w w' : World} {B S z : Nat} {t : TypeId} {v : Value} {n : Nat} {xs : List Value} (h : w.ownsRow B t z v n xs) (hb : Below S w w') (hS : w.heap.size ≤ S) : w'.ownsRow B t z v n xs :=
  h.kept (row := none) ⟨hb.os, hb.tape, hb.output, hb.size, fun k hk _ => hb.block k (by omega)⟩ (by
    cases hv : v.ownBlock
    · exact .inl rfl
    · exact .inr (by simp))
theorem ownN_mono {w : World} {B B' z : Nat} {t : TypeId} {v : Value} {n : Nat} {xs : List Value} (h : w.ownsRow B t z v n xs) (hB : B' ≤ B) : w.ownsRow B' t z v n xs := by
  rcases h.2 with ⟨h1, h2⟩ | ⟨g, cap, cur, h1, hb, h2⟩
  · exact ⟨h.1, .inl ⟨h1, h2⟩⟩
  · exact ⟨h.1, .inr ⟨g, cap, cur, h1, by omega, h2⟩⟩
theorem belowN_own {w a b : World} {B S z : Nat} {t : TypeId} {v : Value} {n : Nat} {xs : List Value} (h : Below S w a) (ho : a.ownsRow B t z v n xs) (hg : a.grownBy b v.ownBlock) (hS : S ≤ a.heap.size) (hB : S ≤ B) : Below S w b :=
  h.grown hg hS (fun k e => by have := (ho.lt k e).1; omega)

/-- The slice holds these runs. -/
structure RunsAre (w : World) (A : Option Addr) (n c : Nat) (q : List RunB) : Prop where
  len : q.length = n
  le : n ≤ c
  at_ : 0 < n → ∃ b o, A = some ⟨b, o, none⟩ ∧ b < w.heap.size ∧ ∀ j x, q[j]? = some x → w.cell? ⟨b, o + j * 2, none⟩ = some (.int .i64 (x.1 : Int)) ∧ w.cell? ⟨b, o + j * 2 + 1, none⟩ = some (.int .i64 ((x.2.toNat : Int) - 48))
theorem RunsAre.below {w w' : World} {A : Option Addr} {n c B : Nat} {q : List RunB} (h : RunsAre w A n c q) (hb : Below B w w') (hB : w.heap.size ≤ B) : RunsAre w' A n c q :=
  ⟨h.len, h.le, fun hn => by
    obtain ⟨b, o, e, hlt, hc⟩ := h.at_ hn
    exact ⟨b, o, e, Nat.lt_of_lt_of_le hlt hb.size, fun j x hj => ⟨(hb.cell (p := ⟨b, o + j * 2, none⟩) (Nat.lt_of_lt_of_le hlt hB)).trans (hc j x hj).1, (hb.cell (p := ⟨b, o + j * 2 + 1, none⟩) (Nat.lt_of_lt_of_le hlt hB)).trans (hc j x hj).2⟩⟩⟩
theorem RunsAre.drewN {w : World} {A : Option Addr} {n c : Nat} {q : List RunB} (h : RunsAre w A n c q) (m : Nat) : RunsAre (w.drewN m) A n c q := ⟨h.len, h.le, h.at_⟩
/-- A row of the call's own of runs. -/
def OwnRuns (w : World) (B : Nat) (v : Value) (q : List RunB) : Prop := w.ownsRow B 31 2 v q.length (runCells q)
theorem OwnRuns.below {w w' : World} {B S : Nat} {v : Value} {q : List RunB} (h : OwnRuns w B v q) (hb : Below S w w') (hS : w.heap.size ≤ S) : OwnRuns w' B v q := ownN_below h hb hS
theorem OwnRuns.mono {w : World} {B B' : Nat} {v : Value} {q : List RunB} (h : OwnRuns w B v q) (hB : B' ≤ B) : OwnRuns w B' v q := ownN_mono h hB
theorem OwnRuns.runs {w : World} {B : Nat} {v : Value} {q : List RunB} (h : OwnRuns w B v q) : ∃ A c, v = .slice A q.length c ∧ RunsAre w A q.length c q := by
  have h' := h
  rcases h.2 with ⟨rfl, hn⟩ | ⟨g, cap, cur, rfl, hb, hg, hnc, hcm, hcs, htake⟩
  · rw [hn]; exact ⟨none, 0, rfl, hn, Nat.le_refl _, fun h => absurd h (by omega)⟩
  · refine ⟨_, cap, rfl, rfl, hnc, fun hn => ⟨g, 0, rfl, ?_, fun j x hj => ?_⟩⟩
    · rcases Nat.lt_or_ge g w.heap.size with hlt | hge
      · exact hlt
      · rw [Array.getElem?_eq_none hge] at hg; cases hg
    · have hjl : j < q.length := by
        rcases Nat.lt_or_ge j q.length with h1 | h1
        · exact h1
        · rw [List.getElem?_eq_none h1] at hj; cases hj
      obtain ⟨p, r, e, hp⟩ : ∃ p r, q = p ++ x :: r ∧ p.length = j := by
        refine ⟨q.take j, q.drop (j + 1), ?_, by rw [List.length_take]; omega⟩
        have : q[j] = x := by rw [List.getElem?_eq_getElem hjl] at hj; exact Option.some.inj hj
        rw [← this, List.getElem_cons_drop, List.take_append_drop]
      subst hp
      unfold OwnRuns at h'
      rw [Nat.zero_add, h'.cellAt (p.length * 2) (by omega), h'.cellAt (p.length * 2 + 1) (by omega), e, runCells_at0, runCells_at1]
      exact ⟨rfl, rfl⟩
def runsL (l : List UInt8) : List RunB := if rowL l = true then runs l else []
theorem runsL_yes {l : List UInt8} (h : rowL l = true) : runsL l = runs l := if_pos h
theorem runsL_no {l : List UInt8} (h : rowL l = false) : runsL l = [] := by unfold runsL; rw [h]; rfl
def RetRuns (w : World) (q : List RunB) (e : Ending) (w' : World) : Prop := ∃ v, e = .returned v ∧ OwnRuns w' w.heap.size v q ∧ Below w.heap.size w w'

theorem own_run_new {w : World} {B : Nat} {v : Value} {l : List UInt8} {b : UInt8} (h : l.getLast? ≠ some b) (hw : w.ownsRow B 31 2 v ((runs l).length + 1) (runCells (runs l) ++ [.int .i64 1, .int .i64 ((b.toNat : Int) - 48)])) : OwnRuns w B v (runs (l ++ [b])) := by
  rw [runs_snoc_new h]
  unfold OwnRuns
  rw [runCells_app, List.length_append]
  exact hw
theorem runs_len (l : List UInt8) : (runs l).length ≤ l.length := by
  suffices ∀ q, Wf q → q.length ≤ (flat q).length by have := this _ (runs_wf l); rwa [flat_runs] at this
  intro q
  induction q with
  | nil => intro _; exact Nat.le_refl _
  | cons x q ih =>
    obtain ⟨t, c⟩ := x
    rintro ⟨h1, h2, h3⟩
    have := ih h3
    simp [flat]; omega

set_option maxRecDepth 100000 in
set_option maxHeartbeats 4000000 in
theorem specRunsOf_any (s : ByteArray) (w : World) (hs : s.size ≤ 2097152) :
    Calls Try.prog 24 #[.string s] w (RetRuns w (runsL (tl s))) := by
  obtain ⟨i0, hi, hz0, hz1, hz2⟩ := info_parts run_info
  go_enter Try.func24, Try.ntmps24
  have hrow0 : (w.alloc (.cells #[] 31)).ownsRow w.heap.size 31 2 (.slice (some ⟨w.heap.size, 0, none⟩) 0 0) 0 [] := World.ownsRow_made w #[] 0 (Nat.le_refl _) (by unfold maxLen; omega) rfl
  have hb0 : Below w.heap.size w (w.alloc (.cells #[] 31)) := (Below.refl _ _).alloc (Nat.le_refl _) _
  go_wp2
  go_loopw [3, 4] (fun v i wr => ∃ k : Nat, k ≤ s.size ∧ i = .int .i64 k ∧ OwnRuns wr w.heap.size v (runs ((tl s).take k)) ∧ Below w.heap.size w wr ∧ (k = 0 ∨ rowL (tl s) = true)) (fun _ i _ => s.size - (intOf i).toNat)
  case atStart => exact ⟨0, Nat.zero_le _, rfl, hrow0, hb0, .inl rfl⟩
  case round =>
    obtain ⟨k, hk, rfl, ho, hb, hz⟩ := hrel
    by_cases hlt : k < s.size
    · have hR := specRowOk_any s wr hs
      replace ho := Lib.hid ho
      replace hb := Lib.hid hb
      cases hrow : rowL (tl s)
      · rw [hrow] at hz
        obtain rfl : k = 0 := by rcases hz with h | h
                                 · exact h
                                 · cases h
        have hno := Lib.hid (runsL_no hrow)
        rw [hrow] at hR
        replace hrow := Lib.hid hrow
        go_wp2_with (fail)
        refine hR.mono ?_
        rintro e _ ⟨rfl, m, rfl⟩
        go_wp2
        go_ret
        exact ⟨_, rfl, by rw [hno.out]; exact ho.out, below_drewN hb.out m⟩
      · rw [hrow] at hR
        replace hrow := Lib.hid hrow
        clear hz
        go_wp2_with (fail)
        refine hR.mono ?_
        rintro e _ ⟨rfl, m, rfl⟩
        replace ho := Lib.hid (OwnRuns.below (w' := wr.drewN m) ho.out (below_drewN (Below.refl wr.heap.size wr) m) (Nat.le_refl _))
        replace hb := Lib.hid (below_drewN hb.out m)
        generalize wr.drewN m = W at *
        rcases k with _ | j
        · have hc48 := row_mem hrow.out (show s[0] ∈ tl s from List.getElem_mem (by rw [tl_len]; exact hlt))
          have hW : IntKind.u8.wrap ((s[0].toNat : Int) - 48) = (s[0].toNat : Int) - 48 := IntWalk.u8_in _ (by omega)
          have hW2 : IntKind.i64.wrap ((s[0].toNat : Int) - 48) = (s[0].toNat : Int) - 48 := IntWalk.i64_in _ (by omega)
          have hown := ho.out
          unfold OwnRuns at hown
          have hnew := fun w' v' => own_run_new (w := w') (v := v') (l := (tl s).take 0) (b := s[0]) (B := w.heap.size) (by simp)
          rw [← tl_take hlt] at hnew
          replace hnew := Lib.hid hnew
          have hln := runs_len ((tl s).take 0)
          rw [List.length_take] at hln
          obtain ⟨A3, c3, rfl, -⟩ := ho.out.runs
          generalize runs ((tl s).take 0) = q at *
          go_wp2
          go_quiet (fail)
          have hbq := Lib.hid (below_drewN hb.out nq)
          replace hown : (W.drewN nq).ownsRow w.heap.size 31 2 _ _ _ := hown
          clear hb ho
          have hb := hbq
          clear hbq
          generalize W.drewN nq = W at *
          go_wp2_with (at_builtin; refine wpList_append_own _ rfl _ _ 27 rfl w.heap.size 31 i0 (.agg #[.int .i64 0, .int .i64 0]) 2 16 Try.underlying27 hi hz0 hz1 hz2 rfl (by decide) _ _ _ rfl (hown.alloc _) ⟨W.heap.size, 0, none⟩ 1 1 [.int .i64 1, .int .i64 ((s[0].toNat : Int) - 48)] rfl rfl (cell_two _ _ _ _) (fun x hx => by simp at hx; rcases hx with rfl | rfl <;> rfl) (by unfold maxLen; omega) (by omega) (by have := hb.out.size; simp; omega) ?_; intro v' w3 hown' hg3 _)
          have hb3 := belowN_own (hb.out.alloc hb.out.size _) (hown.alloc _) hg3 (by have := hb.out.size; simp; omega) (Nat.le_refl _)
          replace hown' := Lib.hid (hnew.out _ _ hown')
          replace hb3 := Lib.hid hb3
          clear hg3
          go_wp2
          go_roundw
          case rel => exact ⟨1, by omega, rfl, hown'.out, hb3.out, .inr (by first | trivial | exact hrow.out)⟩
          case measure => simp [intOf]; omega
        · have hj : j < s.size := by omega
          have hc48 := row_mem hrow.out (show s[j + 1] ∈ tl s from List.getElem_mem (by rw [tl_len]; exact hlt))
          have hlb := last_before hlt
          have hown := ho.out
          unfold OwnRuns at hown
          have hln := runs_len ((tl s).take (j + 1))
          rw [List.length_take] at hln
          by_cases he : (s[j + 1]).toNat = (s[j]'hj).toNat
          · have hbb : s[j + 1] = s[j]'hj := UInt8.toNat_inj.1 he
            rw [← hbb] at hlb
            obtain ⟨q, t, eq, ht⟩ := runs_last hlb
            have hT : t ≤ 9 := by
              have := (rowL_iff.1 (row_take (j + 1) hrow.out)).2 (t, s[j + 1]) (by rw [eq]; simp)
              exact ((okRun_iff _).1 this).2.2
            have hN := runs_snoc_same eq
            rw [← tl_take hlt] at hN
            replace hN := Lib.hid hN
            rw [eq] at hown hln
            rw [List.length_append] at hown hln
            simp only [List.length_cons, List.length_nil, Nat.zero_add] at hown hln
            rcases hown.2 with ⟨_, hn0⟩ | ⟨g, cap, cur, rfl, hgB, hgg, hncap, hcapm, _, _⟩
            · omega
            have c2 := run_cells
            have hwr : IntKind.i64.wrap (((q.length + 1 : Nat) : Int) - 1) = (q.length : Int) := by rw [show ((q.length + 1 : Nat) : Int) - 1 = (q.length : Int) by omega]; exact IntWalk.i64_in _ (by omega)
            have hw1 : IntKind.i64.wrap ((t : Int) + 1) = (t : Int) + 1 := IntWalk.i64_in _ (by omega)
            have hix2 : (q.length : Int) < ((q.length + 1 : Nat) : Int) := by omega
            have hix3 : q.length < q.length + 1 := by omega
            have hix0 : (0 : Int) ≤ (q.length : Int) := by omega
            clear hgg hbb hlb eq
            replace hown := Lib.hid hown
            go_wp2
            go_quiet (fail)
            have hbq := Lib.hid (below_drewN hb.out nq)
            have hown2 : (W.drewN nq).ownsRow w.heap.size 31 2 _ _ _ := hown.out
            clear hb ho hown
            generalize W.drewN nq = W at *
            have ct0 := (hown2.cellAt (q.length * 2) (by omega)).trans (runCells_at0 q [] (t, s[j + 1]))
            have cf0 := hown2.frozenAt (q.length * 2)
            have hst := hown2.stored (q.length * 2) (.int .i64 ((t : Int) + 1))
            rw [runCells_set] at hst
            have hO2 : OwnRuns (W.setCell ⟨g, q.length * 2, none⟩ (.int .i64 ((t : Int) + 1))) w.heap.size (.slice (some ⟨g, 0, none⟩) (q.length + 1) cap) (runs ((tl s).take (j + 1 + 1))) := by
              rw [hN.out]; unfold OwnRuns; rw [List.length_append]; exact hst.1
            have hB2 : Below w.heap.size w (W.setCell ⟨g, q.length * 2, none⟩ (.int .i64 ((t : Int) + 1))) := hbq.out.setCell (p := ⟨g, q.length * 2, none⟩) hgB _
            replace hO2 := Lib.hid hO2
            replace hB2 := Lib.hid hB2
            clear hst hown2 hN
            go_wp2
            go_roundw
            case rel => exact ⟨j + 1 + 1, by omega, by go_num, hO2.out, hB2.out, .inr (by first | trivial | exact hrow.out)⟩
            case measure => simp [intOf]; omega
          · have hne : ((tl s).take (j + 1)).getLast? ≠ some s[j + 1] := by rw [hlb]; intro k; simp at k; exact he (by rw [k])
            have hW : IntKind.u8.wrap ((s[j + 1].toNat : Int) - 48) = (s[j + 1].toNat : Int) - 48 := IntWalk.u8_in _ (by omega)
            have hW2 : IntKind.i64.wrap ((s[j + 1].toNat : Int) - 48) = (s[j + 1].toNat : Int) - 48 := IntWalk.i64_in _ (by omega)
            have hnew := fun w' v' => own_run_new (w := w') (v := v') (B := w.heap.size) hne
            rw [← tl_take hlt] at hnew
            replace hnew := Lib.hid hnew
            obtain ⟨A3, c3, rfl, -⟩ := ho.out.runs
            clear hlb hne
            generalize runs ((tl s).take (j + 1)) = q at *
            replace hown := Lib.hid hown
            replace hW := Lib.hid hW
            replace hW2 := Lib.hid hW2
            replace hln := Lib.hid hln
            have hk1 : ((j : Int) + 1).toNat = j + 1 := by omega
            have hk2 : (j : Int) + 1 < (s.size : Int) := by omega
            have hk3 : (0 : Int) ≤ (j : Int) + 1 := by omega
            go_wp2
            go_quiet (fail)
            have hbq := Lib.hid (below_drewN hb.out nq)
            replace hown : (W.drewN nq).ownsRow w.heap.size 31 2 _ _ _ := hown.out
            replace hW := hW.out
            replace hW2 := hW2.out
            replace hln := hln.out
            clear hb ho
            have hb := hbq
            clear hbq
            generalize W.drewN nq = W at *
            go_wp2_with (at_builtin; refine wpList_append_own _ rfl _ _ 27 rfl w.heap.size 31 i0 (.agg #[.int .i64 0, .int .i64 0]) 2 16 Try.underlying27 hi hz0 hz1 hz2 rfl (by decide) _ _ _ rfl (hown.alloc _) ⟨W.heap.size, 0, none⟩ 1 1 [.int .i64 1, .int .i64 ((s[j + 1].toNat : Int) - 48)] rfl rfl (cell_two _ _ _ _) (fun x hx => by simp at hx; rcases hx with rfl | rfl <;> rfl) (by unfold maxLen; omega) (by omega) (by have := hb.out.size; simp; omega) ?_; intro v' w3 hown' hg3 _)
            have hb3 := belowN_own (hb.out.alloc hb.out.size _) (hown.alloc _) hg3 (by have := hb.out.size; simp; omega) (Nat.le_refl _)
            replace hown' := Lib.hid (hnew.out _ _ hown')
            replace hb3 := Lib.hid hb3
            clear hg3
            go_wp2
            go_roundw
            case rel => exact ⟨j + 1 + 1, by omega, by go_num, hown'.out, hb3.out, .inr (by first | trivial | exact hrow.out)⟩
            case measure => simp [intOf]; omega
    · obtain rfl : k = s.size := by omega
      have hE : runs ((tl s).take s.size) = runsL (tl s) := by
        rw [List.take_of_length_le (by rw [tl_len]; exact Nat.le_refl _)]
        rcases hz with h0 | h1
        · have : tl s = [] := List.eq_nil_of_length_eq_zero (by rw [tl_len]; exact h0)
          rw [this]; rfl
        · rw [runsL_yes h1]
      rw [hE] at ho
      replace ho := Lib.hid ho
      clear hE hz
      go_wp2
      go_ret
      exact ⟨_, rfl, ho.out, hb⟩
end Go.Proofs.Ytfcjhelhhefkkaa
