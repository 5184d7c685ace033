/-
  The program's RowOk.
-/
import Derived.Test.YtfcjhelhhefkkaaT1
namespace Go.Proofs.Ytfcjhelhhefkkaa
open Go Go.RowKit Go.Shelf
attribute [local go_sem] Oper.semAt_some

theorem own_blk {β : Type} (B b : Nat) (hb : b < B) (t : TypeId) (f : β → Array Value) : OwnFrom B (fun s W => Blk W b t (f s)) := fun s W W' row h hg hr =>
  (hg.block b h.lt (fun e => by have := (hr b e.symm).1; omega)).trans h
theorem own_bel {β : Type} (B : Nat) (w : World) (hB : w.heap.size ≤ B) : OwnFrom B (fun (_ : β) W => Below w.heap.size w W) := fun s W W' row h hg hr =>
  h.grown hg h.size (fun k e => by have := (hr k e).1; omega)
theorem own_size {β : Type} (B N : Nat) : OwnFrom B (fun (_ : β) W => N ≤ W.heap.size) := fun _ _ _ _ h hg _ => Nat.le_trans h hg.size
theorem KeptAt.put {B : Nat} (W : World) (l : Nat) (o : Obj) (h : B < l) : KeptAt B W (W.putObj l o) := World.putObj_heap_other (by omega)
theorem KeptAt.trans {B : Nat} {X Y Z : World} (h : KeptAt B X Y) (k : KeptAt B Y Z) : KeptAt B X Z := Eq.trans k h
theorem KeptAt.below {B S : Nat} {X Y : World} (h : Below S X Y) (hB : B < S) : KeptAt B X Y := h.block B hB
theorem KeptAt.set {B : Nat} (W : World) (p : Addr) (v : Value) (h : B ≠ p.block) : KeptAt B W (W.setCell p v) := Below.heap_setCell W p v B h

def allOk {Q : RunB → Prop} (pre : List { x : RunB // Q x }) : Prop := ∀ x ∈ pre, okRun x.1 = true
def someBad {Q : RunB → Prop} (pre : List { x : RunB // Q x }) : Prop := ∃ x ∈ pre, okRun x.1 = false
theorem allOk_row {Q : RunB → Prop} {pre : List { x : RunB // Q x }} {l : List UInt8} (h : allOk pre) (e : pre.map (·.1) = runs l) (hl : l.length ≤ 60) : rowL l = true :=
  rowL_iff.2 ⟨hl, fun x hx => by
    rw [← e] at hx
    obtain ⟨y, hy, rfl⟩ := List.mem_map.1 hx
    exact h y hy⟩
theorem someBad_row {Q : RunB → Prop} {pre : List { x : RunB // Q x }} {l : List UInt8} {r : List RunB} (h : someBad pre) (e : pre.map (·.1) ++ r = runs l) : rowL l = false := by
  obtain ⟨x, hx, hb⟩ := h
  cases hr : rowL l
  · rfl
  · have := (rowL_iff.1 hr).2 x.1 (by rw [← e]; exact List.mem_append_left _ (List.mem_map.2 ⟨x, hx, rfl⟩))
    rw [hb] at this; cases this

set_option maxRecDepth 100000 in
set_option maxHeartbeats 4000000 in
theorem implRowOk_any (s : ByteArray) (w : World) (hs : s.size ≤ 2097152) :
    Calls Try.prog 18 #[.string s] w fun e w' => e = .returned (.bool (rowL (tl s))) ∧ Below w.heap.size w w' := by
  refine (callsIn_wide (n := 3)).1 ?_
  refine callsIn_of_wp_marks Try.func18 rfl trivial ?_ rfl
  simp only [Try.ntmps18, List.size_toArray, List.length_cons, List.length_nil, Nat.reduceAdd, Nat.reduceSub, Array.replicate_succ, Array.replicate_zero, List.push_toArray, List.append_toArray, List.nil_append, List.cons_append]
  have hB1 := (Below.refl w.heap.size w).alloc (Nat.le_refl _) (.cells #[.bool false] 4)
  have hX1 := Blk.new w 4 #[.bool false]
  by_cases h60 : s.size ≤ 60
  · have h60' : ¬ 60 < (s.size : Int) := by omega
    gi_wp2
    refine ⟨trivial, (callsIn_wide.2 (runsIn_any _ _)).mono ?_⟩
    rintro e _ ⟨rfl, rfl⟩
    gi_wp2
    have hX0 := hX1.alloc (.cells #[.string s] 9)
    have hB0 := hB1.alloc (by simp) (.cells #[.string s] 9)
    have hbx : ((w.alloc (.cells #[.bool false] 4)).alloc (.cells #[.string s] 9)).cell? ⟨w.heap.size + 1, 0, none⟩ = some (.string s) := by simp [go_sem]
    have hs0 : ((w.alloc (.cells #[.bool false] 4)).alloc (.cells #[.string s] 9)).heap.size = w.heap.size + 2 := by simp
    generalize ((w.alloc (.cells #[.bool false] 4)).alloc (.cells #[.string s] 9)) = W0 at *
    have hs1 : w.heap.size + 2 ≤ W0.heap.size := by omega
    clear hB1 hX1 hs0
    refine wpIn_rangeFunc_ownH rfl (by decide) (gf := 76) (lb := #[.pointer (some ⟨w.heap.size + 1, 0, none⟩)]) rfl trivial (enters_of Try.func76 (by kernel_rfl) rfl)
      (runsIn1_stops (fun _ => True) 2 s (w.heap.size + 1) W0 hs hbx (fun _ _ => trivial)) (fun h k => h.trans k) (fun W1 l o o' h1 h2 h3 h4 => KeptAt.put W1 l o' (by omega)) (Below.refl _ _) (fun _ => rfl)
      (fun pre W => allOk pre ∧ Blk W w.heap.size 4 #[.bool false] ∧ Below w.heap.size w W ∧ W0.heap.size ≤ W.heap.size)
      (fun c pre W => (c = .ret ∧ someBad pre) ∧ Blk W w.heap.size 4 #[.bool false] ∧ Below w.heap.size w W)
      ?hI ?hIx ⟨(fun x hx => by cases hx), hX0, hB0, Nat.le_refl _⟩
      (fun x a' W => ∃ Bx, W0.heap.size ≤ Bx ∧ Blk W Bx 31 #[.int .i64 (x.1.1 : Int), .int .i64 ((x.1.2.toNat : Int) - 48)] ∧ a' = { tmps := #[.string s, undef, .pointer (some ⟨w.heap.size, 0, none⟩), .pointer (some ⟨Bx, 0, none⟩), .string s, .int .i64 s.size, .bool false, .string s,
        .func (.func 76) #[] #[.pointer (some ⟨w.heap.size + 1, 0, none⟩)], .agg #[.int .i64 (x.1.1 : Int), .int .i64 ((x.1.2.toNat : Int) - 48)], undef, undef, undef, undef, undef, undef, undef, undef, undef, undef, undef, undef, undef], defers := [] })
      ?hAx ?assign ?body ?done ?stop
    case hI => exact (ownFrom_pure _ _).and ((own_blk _ _ (by omega) _ _).and ((own_bel _ _ (by omega)).and (own_size _ _)))
    case hIx => exact fun c => (ownFrom_pure _ _).and ((own_blk _ _ (by omega) _ _).and (own_bel _ _ (by omega)))
    case hAx =>
      rintro x a' _ W W' row ⟨Bx, h1, h2, h3⟩ hg hr
      exact ⟨Bx, h1, (hg.block Bx h2.lt (fun e => by obtain ⟨_, o, ho, hc⟩ := hr Bx e.symm; rw [h2] at ho; cases ho; cases hc)).trans h2, h3⟩
    case assign =>
      rintro l pre x W K ⟨hp, hX, hB, hsz⟩ hK
      simp only [encRun]
      gi_wp2
      exact hK _ _ ((KeepsOthers.alloc _ _).from _) (KeptAt.below ((Below.refl W.heap.size W).alloc (Nat.le_refl _) _) (by omega)) ⟨hp, hX.alloc _, hB.alloc hB.size _, by simp; omega⟩ ⟨W.heap.size, hsz, Blk.new _ _ _, rfl⟩
    case body =>
      rintro l pre x a' W hl - ⟨hp, hX, hB, hsz⟩ ⟨Bx, hBx, hR, rfl⟩ hlen
      obtain ⟨⟨t, c⟩, hq⟩ := x
      simp only at hR ⊢
      have r0 := hR.cell 0
      have r1 := hR.cell 1
      simp only [List.getElem?_toArray, List.getElem?_cons_zero, List.getElem?_cons_succ] at r0 r1
      have x0 := hX.cell 0
      have xf := hX.frozen 0
      simp only [List.getElem?_toArray, List.getElem?_cons_zero] at x0
      have hXs := hX.set_ 0 (.bool false)
      have hBs := hB.setCell (p := ⟨w.heap.size, 0, none⟩) (Nat.le_refl _) (.bool false)
      replace hX := Lib.hid hX
      replace hB := Lib.hid hB
      replace hp := Lib.hid hp
      replace hXs := Lib.hid hXs
      replace hBs := Lib.hid hBs
      by_cases hok : okRun (t, c) = true
      · obtain ⟨k1, k2, k3⟩ := (okRun_iff _).1 hok
        simp only at k1 k2 k3
        have d1 : ¬ (c.toNat : Int) - 48 < 1 := by omega
        have d2 : ¬ 9 < (c.toNat : Int) - 48 := by omega
        have d3 : ¬ 9 < (t : Int) := by omega
        have hp2 : allOk (pre ++ [(⟨(t, c), hq⟩ : { x : RunB // True })]) := by
          intro x hx
          rcases List.mem_append.1 hx with h | h
          · exact hp.out x h
          · simp at h; subst h; exact hok
        replace hp2 := Lib.hid hp2
        replace hok := Lib.hid hok
        gi_wp2
        exact ⟨KeepsFrom.refl _ _, rfl, hp2.out, hX.out, hB.out, hsz⟩
      · have hbad : okRun (t, c) = false := by simpa using hok
        have hp2 : someBad (pre ++ [(⟨(t, c), hq⟩ : { x : RunB // True })]) := ⟨⟨(t, c), hq⟩, by simp, hbad⟩
        replace hp2 := Lib.hid hp2
        by_cases k1 : 49 ≤ c.toNat
        · by_cases k2 : c.toNat ≤ 57
          · have k3 : ¬ t ≤ 9 := fun h => hok ((okRun_iff _).2 ⟨k1, k2, h⟩)
            have d1 : ¬ (c.toNat : Int) - 48 < 1 := by omega
            have d2 : ¬ 9 < (c.toNat : Int) - 48 := by omega
            have d3 : 9 < (t : Int) := by omega
            replace hok := Lib.hid hok
            replace hbad := Lib.hid hbad
            gi_wp2
            exact ⟨(KeepsOthers.setCell _ _ _).from _, ⟨rfl, hp2.out⟩, hXs.out, hBs.out⟩
          · have d1 : ¬ (c.toNat : Int) - 48 < 1 := by omega
            have d2 : 9 < (c.toNat : Int) - 48 := by omega
            replace hok := Lib.hid hok
            replace hbad := Lib.hid hbad
            gi_wp2
            exact ⟨(KeepsOthers.setCell _ _ _).from _, ⟨rfl, hp2.out⟩, hXs.out, hBs.out⟩
        · have d1 : (c.toNat : Int) - 48 < 1 := by omega
          replace hok := Lib.hid hok
          replace hbad := Lib.hid hbad
          gi_wp2
          exact ⟨(KeepsOthers.setCell _ _ _).from _, ⟨rfl, hp2.out⟩, hXs.out, hBs.out⟩
    case done =>
      rintro D ys W hD hS ⟨hp, hX, hB, hsz⟩ hK
      have hrow := allOk_row hp hS (by rw [tl_len]; exact h60)
      have x0 := hX.cell 0
      have xf := hX.frozen 0
      simp only [List.getElem?_toArray, List.getElem?_cons_zero] at x0
      have hXs : Blk ((W.setCell ⟨w.heap.size, 0, none⟩ (.bool true)).putObj D (.deferred none)) w.heap.size 4 #[.bool true] := (World.putObj_heap_other (by omega)).trans (hX.set_ 0 (.bool true))
      have hBs := hB.setCell (p := ⟨w.heap.size, 0, none⟩) (Nat.le_refl _) (.bool true)
      have hBd : Below w.heap.size w ((W.setCell ⟨w.heap.size, 0, none⟩ (.bool true)).putObj D (.deferred none)) := ⟨hBs.os, hBs.tape, hBs.output, by simpa using hBs.size, fun k hk => (World.putObj_heap_other (by omega)).trans (hBs.block k hk)⟩
      have hKs : (W.setCell ⟨w.heap.size, 0, none⟩ (.bool true)).heap[D]? = some (.deferred (some [])) := (Below.heap_setCell _ _ _ _ (by show D ≠ w.heap.size; omega)).trans hK
      have hc := hXs.cell 0
      simp only [List.getElem?_toArray, List.getElem?_cons_zero] at hc
      replace hrow := Lib.hid hrow
      replace hBd := Lib.hid hBd
      replace hX := Lib.hid hX
      replace hB := Lib.hid hB
      clear hBs hXs hp hS
      gi_wp2
      refine ⟨by simp, .inl ⟨_, _, rfl, run_takeDeferred hKs, ?_⟩⟩
      refine ⟨.bool true, ?_, by rw [hrow.out], hBd.out⟩
      simp [results, Try.f18, go_sem, hc]
    case stop =>
      rintro D c pre W hD ⟨r, hS⟩ ⟨⟨rfl, hp⟩, hX, hB⟩ hK
      have hrow := someBad_row hp hS
      have hXs : Blk (W.putObj D (.deferred none)) w.heap.size 4 #[.bool false] := (World.putObj_heap_other (by omega)).trans hX
      have hBd : Below w.heap.size w (W.putObj D (.deferred none)) := ⟨hB.os, hB.tape, hB.output, by simpa using hB.size, fun k hk => (World.putObj_heap_other (by omega)).trans (hB.block k hk)⟩
      have hc := hXs.cell 0
      simp only [List.getElem?_toArray, List.getElem?_cons_zero] at hc
      replace hrow := Lib.hid hrow
      replace hBd := Lib.hid hBd
      clear hXs hp hS hB
      gi_wp2
      refine ⟨by simp, .inl ⟨_, _, rfl, run_takeDeferred hK, ?_⟩⟩
      refine ⟨.bool false, ?_, by rw [hrow.out], hBd.out⟩
      simp [results, Try.f18, go_sem, hc]
  · have h60' : 60 < (s.size : Int) := by omega
    have hno := Lib.hid (row_long (l := tl s) (by rw [tl_len]; exact h60))
    have x0 := hX1.cell 0
    have xf := hX1.frozen 0
    simp only [List.getElem?_toArray, List.getElem?_cons_zero] at x0
    gi_wp2
    refine ⟨.bool false, ?_, by rw [hno.out], hB1⟩
    simp [results, Try.f18, go_sem]
end Go.Proofs.Ytfcjhelhhefkkaa
