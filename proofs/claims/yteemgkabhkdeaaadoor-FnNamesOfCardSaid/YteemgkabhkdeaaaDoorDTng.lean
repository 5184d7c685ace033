/-
  Drawn tongues: the given ones.
-/
import Derived.Test.YteemgkabhkdeaaaDoorOwnT
namespace Go.Proofs.YteemgkabhkdeaaaDoor
open Go.RowKit

/-- A drawn tongue is small. -/
structure SmallT (m : Nat) (t : Tg) : Prop where
  us : t.us.length ≤ m
  bs : t.bs.length ≤ m
  ns : t.ns.length ≤ m
  fit : ∀ x ∈ t.bs, -10000000 ≤ x ∧ x ≤ 10000000
  size : ∀ x ∈ t.us ++ t.ns, x.size ≤ 16
theorem SmallT.fine {t : Tg} {m : Nat} (h : SmallT m t) (hm : m ≤ 1000) : t.Fine := ⟨by have := h.us; omega, by have := h.bs; omega, by have := h.ns; omega, Fits.of_small h.fit, fun x hx => by have := h.size x hx; omega⟩
def RetGiven (w : World) (e : Ending) (w' : World) : Prop := ∃ v t, e = .returned v ∧ OwnTng w' w.heap.size v t ∧ SmallT 25 t ∧ 1 ≤ t.us.length ∧ Below w.heap.size w w'

theorem given3 (w : World) (us : List ByteArray) (bs : List Int) (ns : List ByteArray) (h1 : 1 ≤ us.length) (h2 : us.length ≤ 25) (h3 : bs.length ≤ 25) (h4 : ns.length ≤ 25) (h5 : ∀ x ∈ bs, -10000000 ≤ x ∧ x ≤ 10000000) (h6 : ∀ x ∈ us ++ ns, x.size ≤ 16) :
    RetGiven w (.returned (.agg #[.slice (some ⟨w.heap.size + 1, 0, none⟩) us.length us.length, .slice (some ⟨w.heap.size + 1 + 1, 0, none⟩) bs.length bs.length, .slice (some ⟨w.heap.size + 1 + 1 + 1, 0, none⟩) ns.length ns.length]))
      ((((w.alloc (.cells #[.slice (some ⟨w.heap.size + 1, 0, none⟩) us.length us.length, .slice (some ⟨w.heap.size + 1 + 1, 0, none⟩) bs.length bs.length, .slice (some ⟨w.heap.size + 1 + 1 + 1, 0, none⟩) ns.length ns.length] 26)).alloc (.cells (us.map Value.string).toArray 9)).alloc (.cells (bs.map (Value.int .i64)).toArray 3)).alloc (.cells (ns.map Value.string).toArray 9)) := by
  refine ⟨_, ⟨us, bs, ns⟩, rfl, ⟨_, _, _, rfl, ?_, ?_, ?_, ?_⟩, ⟨h2, h3, h4, h5, h6⟩, h1, ?_⟩
  · exact owns_blk (((blk_new_at _ (by simp)).alloc _).alloc _) (by simp) (by omega) (by unfold maxLen; omega)
  · exact owns_blk ((blk_new_at _ (by simp)).alloc _) (by simp) (by omega) (by unfold maxLen; omega)
  · exact owns_blk (blk_new_at _ (by simp)) (by simp) (by omega) (by unfold maxLen; omega)
  · intro k hk he
    simp [Value.ownBlock] at hk he
    omega
  · exact ((((Below.refl _ _).alloc (Nat.le_refl _) _).alloc (by simp) _).alloc (by simp; omega) _).alloc (by simp; omega) _
theorem given2 (w : World) (us : List ByteArray) (bs : List Int) (h1 : 1 ≤ us.length) (h2 : us.length ≤ 25) (h3 : bs.length ≤ 25) (h5 : ∀ x ∈ bs, -10000000 ≤ x ∧ x ≤ 10000000) (h6 : ∀ x ∈ us ++ [], x.size ≤ 16) :
    RetGiven w (.returned (.agg #[.slice (some ⟨w.heap.size + 1, 0, none⟩) us.length us.length, .slice (some ⟨w.heap.size + 1 + 1, 0, none⟩) bs.length bs.length, .slice none 0 0]))
      (((w.alloc (.cells #[.slice (some ⟨w.heap.size + 1, 0, none⟩) us.length us.length, .slice (some ⟨w.heap.size + 1 + 1, 0, none⟩) bs.length bs.length, .slice none 0 0] 26)).alloc (.cells (us.map Value.string).toArray 9)).alloc (.cells (bs.map (Value.int .i64)).toArray 3)) := by
  refine ⟨_, ⟨us, bs, []⟩, rfl, ⟨_, _, _, rfl, ?_, ?_, ?_, ?_⟩, ⟨h2, h3, by simp, h5, h6⟩, h1, ?_⟩
  · exact owns_blk ((blk_new_at _ (by simp)).alloc _) (by simp) (by omega) (by unfold maxLen; omega)
  · exact owns_blk (blk_new_at _ (by simp)) (by simp) (by omega) (by unfold maxLen; omega)
  · exact owns_none _ _ _
  · intro k hk he
    simp [Value.ownBlock] at he
  · exact (((Below.refl _ _).alloc (Nat.le_refl _) _).alloc (by simp) _).alloc (by simp; omega) _

set_option maxRecDepth 100000 in
set_option maxHeartbeats 8000000 in
theorem tongues_any (k : Int) (w : World) :
    Calls Tryd.prog 68 #[.int .i64 k] w (RetGiven w) := by
  go_enter Tryd.func68, Tryd.ntmps68
  go_wp2
  · refine bodyPost_ret (v := .agg #[.slice (some ⟨w.heap.size + 1, 0, none⟩) 9 9, .slice (some ⟨w.heap.size + 1 + 1, 0, none⟩) 4 4, .slice (some ⟨w.heap.size + 1 + 1 + 1, 0, none⟩) 3 3]) (by simp [results, Tryd.results68, go_sem]) rfl ?_
    exact given3 w [⟨#[111, 110, 101]⟩, ⟨#[116, 119, 111]⟩, ⟨#[116, 104, 114, 101, 101]⟩, ⟨#[102, 111, 117, 114]⟩, ⟨#[102, 105, 118, 101]⟩, ⟨#[115, 105, 120]⟩, ⟨#[115, 101, 118, 101, 110]⟩, ⟨#[101, 105, 103, 104, 116]⟩, ⟨#[110, 105, 110, 101]⟩] [1, 10, 100, 1000] [⟨#[116, 101, 110]⟩, ⟨#[104, 117, 110, 100, 114, 101, 100]⟩, ⟨#[116, 104, 111, 117, 115, 97, 110, 100]⟩] (by decide) (by decide) (by decide) (by decide) (by decide) (by decide)
  · refine bodyPost_ret (v := .agg #[.slice (some ⟨w.heap.size + 1, 0, none⟩) 3 3, .slice (some ⟨w.heap.size + 1 + 1, 0, none⟩) 3 3, .slice (some ⟨w.heap.size + 1 + 1 + 1, 0, none⟩) 2 2]) (by simp [results, Tryd.results68, go_sem]) rfl ?_
    exact given3 w [⟨#[97]⟩, ⟨#[98]⟩, ⟨#[99]⟩] [1, 4, 16] [⟨#[102]⟩, ⟨#[103]⟩] (by decide) (by decide) (by decide) (by decide) (by decide) (by decide)
  · refine bodyPost_ret (v := .agg #[.slice (some ⟨w.heap.size + 1, 0, none⟩) 4 4, .slice (some ⟨w.heap.size + 1 + 1, 0, none⟩) 3 3, .slice (some ⟨w.heap.size + 1 + 1 + 1, 0, none⟩) 2 2]) (by simp [results, Tryd.results68, go_sem]) rfl ?_
    exact given3 w [⟨#[105]⟩, ⟨#[105, 105]⟩, ⟨#[105, 105, 105]⟩, ⟨#[105, 105, 105, 105]⟩] [1, 5, 10] [⟨#[118]⟩, ⟨#[120]⟩] (by decide) (by decide) (by decide) (by decide) (by decide) (by decide)
  · refine bodyPost_ret (v := .agg #[.slice (some ⟨w.heap.size + 1, 0, none⟩) 11 11, .slice (some ⟨w.heap.size + 1 + 1, 0, none⟩) 3 3, .slice (some ⟨w.heap.size + 1 + 1 + 1, 0, none⟩) 2 2]) (by simp [results, Tryd.results68, go_sem]) rfl ?_
    exact given3 w [⟨#[111, 110, 101]⟩, ⟨#[116, 119, 111]⟩, ⟨#[116, 104, 114, 101, 101]⟩, ⟨#[102, 111, 117, 114]⟩, ⟨#[102, 105, 118, 101]⟩, ⟨#[115, 105, 120]⟩, ⟨#[115, 101, 118, 101, 110]⟩, ⟨#[101, 105, 103, 104, 116]⟩, ⟨#[110, 105, 110, 101]⟩, ⟨#[116, 101, 110]⟩, ⟨#[101, 108, 101, 118, 101, 110]⟩] [1, 12, 144] [⟨#[100, 111, 122, 101, 110]⟩, ⟨#[103, 114, 111, 115, 115]⟩] (by decide) (by decide) (by decide) (by decide) (by decide) (by decide)
  · refine bodyPost_ret (v := .agg #[.slice (some ⟨w.heap.size + 1, 0, none⟩) 3 3, .slice (some ⟨w.heap.size + 1 + 1, 0, none⟩) 4 4, .slice (some ⟨w.heap.size + 1 + 1 + 1, 0, none⟩) 3 3]) (by simp [results, Tryd.results68, go_sem]) rfl ?_
    exact given3 w [⟨#[97]⟩, ⟨#[97, 98]⟩, ⟨#[97, 98, 98]⟩] [1, 4, 10, 30] [⟨#[98]⟩, ⟨#[98, 97]⟩, ⟨#[98, 97, 98]⟩] (by decide) (by decide) (by decide) (by decide) (by decide) (by decide)
  · refine bodyPost_ret (v := .agg #[.slice (some ⟨w.heap.size + 1, 0, none⟩) 5 5, .slice (some ⟨w.heap.size + 1 + 1, 0, none⟩) 1 1, .slice none 0 0]) (by simp [results, Tryd.results68, go_sem]) rfl ?_
    exact given2 w [⟨#[117, 110]⟩, ⟨#[100, 117]⟩, ⟨#[116, 114, 105]⟩, ⟨#[107, 118, 97, 114]⟩, ⟨#[107, 118, 105, 110]⟩] [1]  (by decide) (by decide) (by decide) (by decide) (by decide)
end Go.Proofs.YteemgkabhkdeaaaDoor
