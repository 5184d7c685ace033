/-
  The program's RunsOf.
-/
import Derived.Test.YtfcjhelhhefkkaaT2
namespace Go.Proofs.Ytfcjhelhhefkkaa
open Go Go.RowKit Go.Shelf
attribute [local go_sem] Oper.semAt_some

theorem row_nocells {W W' : World} {B z n : Nat} {t : TypeId} {v : Value} {xs : List Value} {row : Option Nat} (h : W.ownsRow B t z v n xs) (hg : W.grownBy W' row) (hr : ∀ r, row = some r → ∃ o : Obj, W.heap[r]? = some o ∧ o.isCells = false) : W'.ownsRow B t z v n xs := by
  refine h.kept hg ?_
  rcases h.2 with ⟨rfl, _⟩ | ⟨g, cap, cur, rfl, _, hgg, _⟩
  · exact .inl rfl
  · refine .inr fun e => ?_
    obtain ⟨o, ho, hc⟩ := hr g (by rw [← e]; rfl)
    rw [hgg] at ho; cases ho; cases hc
theorem row_block {W : World} {B z n : Nat} {t : TypeId} {v : Value} {xs : List Value} (h : W.ownsRow B t z v n xs) : ∀ (j : Nat) (o : Obj), v.ownBlock = some j → W.heap[j]? = some o → o.isCells = true := by
  intro j o e ho
  rcases h.2 with ⟨rfl, _⟩ | ⟨g, cap, cur, rfl, _, hgg, _⟩
  · cases e
  · cases e; rw [hgg] at ho; cases ho; rfl
/-- The runs so far, in a row of the call's own that a variable at block b names. -/
structure RowIn (w W0 : World) (b : Nat) (q : List RunB) (W : World) : Prop where
  row : ∃ v, Blk W b 27 #[v] ∧ W.ownsRow W0.heap.size 31 2 v q.length (runCells q)
  low : Below w.heap.size w W
  size : W0.heap.size ≤ W.heap.size
theorem RowIn.own {β : Type} {w W0 : World} {b : Nat} (hb : b < W0.heap.size) (hw : w.heap.size ≤ W0.heap.size) (f : β → List RunB) : OwnFrom W0.heap.size (fun s W => RowIn w W0 b (f s) W) := fun s W W' row h hg hr => by
  obtain ⟨v, h1, h2⟩ := h.row
  exact ⟨⟨v, own_blk _ _ hb _ (fun _ : Unit => #[v]) () W W' row h1 hg hr, row_nocells h2 hg (fun r e => (hr r e).2)⟩, own_bel (β := Unit) _ w hw () W W' row h.low hg hr, Nat.le_trans h.size hg.size⟩
theorem RowIn.alloc {w W0 W : World} {b : Nat} {q : List RunB} (h : RowIn w W0 b q W) (o : Obj) : RowIn w W0 b q (W.alloc o) := by
  obtain ⟨v, h1, h2⟩ := h.row
  exact ⟨⟨v, h1.alloc _, h2.alloc _⟩, h.low.alloc h.low.size _, by have := h.size; simp; omega⟩

set_option maxRecDepth 100000 in
set_option maxHeartbeats 4000000 in
theorem implRunsOf_any (s : ByteArray) (w : World) (hs : s.size ≤ 2097152) :
    Calls Try.prog 22 #[.string s] w (RetRuns w (runsL (tl s))) := by
  obtain ⟨i0, hi, hz0, hz1, hz2⟩ := info_parts run_info
  have hR := implRowOk_any s w hs
  refine (callsIn_wide (n := 3)).1 ?_
  refine callsIn_of_wp_marks Try.func22 rfl trivial ?_ rfl
  simp only [Try.ntmps22, List.size_toArray, List.length_cons, List.length_nil, Nat.reduceAdd, Nat.reduceSub, Array.replicate_succ, Array.replicate_zero, List.push_toArray, List.append_toArray, List.nil_append, List.cons_append]
  cases hrow : rowL (tl s)
  · rw [hrow] at hR
    rw [runsL_no hrow]
    replace hrow := Lib.hid hrow
    gi_wp2
    refine ⟨trivial, (callsIn_wide.2 hR).mono ?_⟩
    rintro e W ⟨rfl, hB⟩
    gi_wp2
    exact ⟨_, results_tmp rfl _ _ _, .slice none 0 0, rfl, World.ownsRow_nil _ _ _ _, hB⟩
  · have h60 := row_len hrow
    rw [tl_len] at h60
    have hRl := runs_len (tl s)
    rw [tl_len] at hRl
    rw [hrow] at hR
    rw [runsL_yes hrow]
    replace hrow := Lib.hid hrow
    gi_wp2
    refine ⟨trivial, (callsIn_wide.2 hR).mono ?_⟩
    rintro e W1 ⟨rfl, hB1⟩
    gi_wp2
    refine ⟨trivial, (callsIn_wide.2 (runsIn_any _ _)).mono ?_⟩
    rintro e _ ⟨rfl, rfl⟩
    have hX0 := (Blk.new W1 27 #[.slice none 0 0]).alloc (.cells #[.string s] 9)
    have hB0 := (hB1.alloc hB1.size (.cells #[.slice none 0 0] 27)).alloc (by have := hB1.size; simp; omega) (.cells #[.string s] 9)
    have hbx : ((W1.alloc (.cells #[.slice none 0 0] 27)).alloc (.cells #[.string s] 9)).cell? ⟨W1.heap.size + 1, 0, none⟩ = some (.string s) := by simp [go_sem]
    have hs0 : ((W1.alloc (.cells #[.slice none 0 0] 27)).alloc (.cells #[.string s] 9)).heap.size = W1.heap.size + 2 := by simp
    gi_wp2
    generalize ((W1.alloc (.cells #[.slice none 0 0] 27)).alloc (.cells #[.string s] 9)) = W0 at *
    have hs1 : W1.heap.size + 2 ≤ W0.heap.size := by omega
    have hw1 : w.heap.size ≤ W1.heap.size := hB1.size
    clear hs0 hR
    refine wpIn_rangeFunc_ownH rfl (by decide) (gf := 76) (lb := #[.pointer (some ⟨W1.heap.size + 1, 0, none⟩)]) rfl trivial (enters_of Try.func76 (by kernel_rfl) rfl)
      (runsIn1_stops (fun _ => True) 2 s (W1.heap.size + 1) W0 hs hbx (fun _ _ => trivial)) (fun h k => h.trans k) (fun W l o o' h1 h2 h3 h4 => KeptAt.put W l o' (by omega)) (Below.refl _ _) (fun _ => rfl)
      (fun pre W => RowIn w W0 W1.heap.size (pre.map (·.1)) W)
      (fun c pre W => False)
      ?hI (fun _ _ _ _ _ hs _ _ => hs) ⟨⟨_, hX0, World.ownsRow_nil _ _ _ _⟩, hB0, Nat.le_refl _⟩
      (fun x a' W => ∃ Bx, W0.heap.size ≤ Bx ∧ Blk W Bx 31 #[.int .i64 (x.1.1 : Int), .int .i64 ((x.1.2.toNat : Int) - 48)] ∧ a' = { tmps := #[.string s, undef, .slice none 0 0, .pointer (some ⟨W1.heap.size, 0, none⟩), .pointer (some ⟨Bx, 0, none⟩), .string s, .bool true, .bool false, .string s,
        .func (.func 76) #[] #[.pointer (some ⟨W1.heap.size + 1, 0, none⟩)], .agg #[.int .i64 (x.1.1 : Int), .int .i64 ((x.1.2.toNat : Int) - 48)], undef, undef, undef, undef, undef], defers := [] })
      ?hAx ?assign ?body ?done ?stop
    case hI => exact RowIn.own (by omega) (by omega) _
    case hAx =>
      rintro x a' _ W W' row ⟨Bx, h1, h2, h3⟩ hg hr
      exact ⟨Bx, h1, (hg.block Bx h2.lt (fun e => by obtain ⟨_, o, ho, hc⟩ := hr Bx e.symm; rw [h2] at ho; cases ho; cases hc)).trans h2, h3⟩
    case assign =>
      rintro l pre x W K hI hK
      have hsz := hI.size
      simp only [encRun]
      gi_wp2
      exact hK _ _ ((KeepsOthers.alloc _ _).from _) (KeptAt.below ((Below.refl W.heap.size W).alloc (Nat.le_refl _) _) (by omega)) (hI.alloc _) ⟨W.heap.size, hsz, Blk.new _ _ _, rfl⟩
    case body =>
      rintro l pre x a' W hl - hI ⟨Bx, hBx, hR, rfl⟩ hlen
      obtain ⟨⟨t, c⟩, hq⟩ := x
      simp only at hR ⊢
      have hlen' : pre.length ≤ 60 := by omega
      obtain ⟨v, hv, hrow2⟩ := hI.row
      have hlow := hI.low
      have hsz := hI.size
      have r0 := hR.cell 0
      have r1 := hR.cell 1
      have x0 := hv.cell 0
      simp only [List.getElem?_toArray, List.getElem?_cons_zero, List.getElem?_cons_succ] at r0 r1 x0
      have hml : (pre.map (·.1)).length = pre.length := by simp
      replace hI := Lib.hid hI
      replace hv := Lib.hid hv
      gi_wp2_with (gi_at_builtin; refine wpListIn_append_own _ rfl _ _ 27 rfl W0.heap.size 31 i0 (.agg #[.int .i64 0, .int .i64 0]) 2 16 Try.underlying27 hi hz0 hz1 hz2 rfl (by decide) _ _ _ rfl (hrow2.alloc _) ⟨W.heap.size, 0, none⟩ 1 1 [.int .i64 (t : Int), .int .i64 ((c.toNat : Int) - 48)] rfl rfl (cell_two _ _ _ _) (fun x hx => by simp at hx; rcases hx with rfl | rfl <;> rfl) (by rw [hml]; unfold maxLen; omega) (by rw [hml]; omega) (by simp; omega) ?_; intro v' W3 hown' hg3 _; obtain ⟨g', cap', rfl⟩ := ownsRow_succ hown'; have hlt3 := fun k e => (hrow2.lt k e).1; have hb3 : ∀ k, k < W0.heap.size → W3.heap[k]? = W.heap[k]? := (fun k hk => (hg3.block k (by simp; omega) (fun e => by have := hlt3 k e.symm; omega)).trans (Below.heap_alloc _ _ _ (by omega))); have hv3 : Blk W3 W1.heap.size 27 #[v] := (hb3 _ (by omega)).trans hv.out; have hv3c := hv3.cell 0; have hv3f := hv3.frozen 0; simp only [List.getElem?_toArray, List.getElem?_cons_zero] at hv3c)
      have hk1 : KeepsOthers W (W3.setCell ⟨W1.heap.size, 0, none⟩ (.slice (some ⟨g', 0, none⟩) ((pre.map (·.1)).length + 1) cap')) :=
        ((KeepsOthers.alloc _ _).trans (KeepsOthers.of_grownBy hg3 (row_block (hrow2.alloc _)))).trans (KeepsOthers.setCell _ _ _)
      have hv4 := hv3.set_ 0 (.slice (some ⟨g', 0, none⟩) ((pre.map (·.1)).length + 1) cap')
      have hgB : W0.heap.size ≤ g' := (hown'.lt g' rfl).1
      have hown4 := hown'.kept (row := some W1.heap.size) (grownBy_setCell' W3 W1.heap.size (.slice (some ⟨g', 0, none⟩) ((pre.map (·.1)).length + 1) cap')) (.inr (fun e => by simp [Value.ownBlock] at e; omega))
      have hbel := (belowN_own (hlow.alloc hlow.size _) (hrow2.alloc _) hg3 (by have := hlow.size; simp; omega) (by omega)).setCell (p := ⟨W1.heap.size, 0, none⟩) hw1 (.slice (some ⟨g', 0, none⟩) ((pre.map (·.1)).length + 1) cap')
      have hsz4 : W0.heap.size ≤ (W3.setCell ⟨W1.heap.size, 0, none⟩ (.slice (some ⟨g', 0, none⟩) ((pre.map (·.1)).length + 1) cap')).heap.size := by
        have := hg3.size; simp at this; simp [World.setCell]; omega
      have hkp : KeptAt (W1.heap.size + 1) W (W3.setCell ⟨W1.heap.size, 0, none⟩ (.slice (some ⟨g', 0, none⟩) ((pre.map (·.1)).length + 1) cap')) :=
        (Below.heap_setCell _ _ _ _ (by show W1.heap.size + 1 ≠ W1.heap.size; omega)).trans (hb3 _ (by omega))
      have hI2 : RowIn w W0 W1.heap.size ((pre ++ [(⟨(t, c), hq⟩ : { x : RunB // True })]).map (·.1)) (W3.setCell ⟨W1.heap.size, 0, none⟩ (.slice (some ⟨g', 0, none⟩) ((pre.map (·.1)).length + 1) cap')) := by
        refine ⟨⟨_, hv4, ?_⟩, hbel, hsz4⟩
        rw [List.map_append, runCells_app, List.length_append]
        exact hown4
      rw [hml] at hI2 hk1 hkp
      replace hI2 := Lib.hid hI2
      replace hk1 := Lib.hid hk1
      replace hkp := Lib.hid hkp
      clear hv4 hown4 hbel hsz4 hown' hg3 hv3
      gi_wp2
      exact ⟨hk1.out.from _, hkp.out, hI2.out⟩
    case done =>
      rintro D ys W hD hS hI hK
      rw [hS] at hI
      obtain ⟨v, hv, hrow2⟩ := hI.row
      have x0 := hv.cell 0
      simp only [List.getElem?_toArray, List.getElem?_cons_zero] at x0
      have hown : OwnRuns (W.putObj D (.deferred none)) w.heap.size v (runs (tl s)) :=
        ownN_mono (row_nocells hrow2 (grownBy_putObj' W D (.deferred none)) (fun r e => by cases e; exact ⟨_, hK, rfl⟩)) (by omega)
      have hB := hI.low
      have hBd : Below w.heap.size w (W.putObj D (.deferred none)) := ⟨hB.os, hB.tape, hB.output, by simpa using hB.size, fun k hk => (World.putObj_heap_other (by omega)).trans (hB.block k hk)⟩
      obtain ⟨A, cap, rfl, -⟩ := hown.runs
      replace hown := Lib.hid hown
      replace hBd := Lib.hid hBd
      clear hI hB hrow2 hv hS
      gi_wp2
      refine ⟨by simp, .inl ⟨_, _, rfl, run_takeDeferred hK, ?_⟩⟩
      exact ⟨_, results_tmp rfl _ _ _, .slice A (runs (tl s)).length cap, rfl, hown.out, hBd.out⟩
    case stop => exact fun _ _ _ _ _ _ h _ => h.elim
end Go.Proofs.Ytfcjhelhhefkkaa
