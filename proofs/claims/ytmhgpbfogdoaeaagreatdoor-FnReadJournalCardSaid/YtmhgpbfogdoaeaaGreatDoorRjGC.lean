/-
  GC: DTng DSt DTngB DrawG.
-/
import Derived.Test.YtmhgpbfogdoaeaaGreatDoorRjGB
import Derived.Test.YtmhgpbfogdoaeaaGreatDoorRjRds
import Derived.Test.YtmhgpbfogdoaeaaGreatDoorRjGA
import Derived.Deep.RegionHeld3
import Derived.Deep.DeepCutAuto
/- DTng -/
namespace Go.Proofs.YtmhgpbfogdoaeaaGreatDoor
open Go.RowKit

/-- A drawn tongue is small. -/
structure SmallT (m : Nat) (t : Tg) : Prop where
  us : t.us.length ≤ m
  bs : t.bs.length ≤ m
  ns : t.ns.length ≤ m
  fit : ∀ x ∈ t.bs, -10000000 ≤ x ∧ x ≤ 10000000
  size : ∀ x ∈ t.us ++ t.ns, x.size ≤ 16
theorem SmallT.fine {t : Tg} {m : Nat} (h : SmallT m t) (hm : m ≤ 1000) : t.Fine := ⟨by have := h.us; omega, by have := h.bs; omega, by have := h.ns; omega, Fits.of_small h.fit, fun x hx => by have := h.size x hx; omega⟩
def RetGiven (w : World) (e : Ending) (w' : World) : Prop := ∃ v t, e = .returned v ∧ OwnTng w' w.heap.size v t ∧ SmallT 25 t ∧ 1 ≤ t.us.length ∧ Below w.heap.size w w'

theorem given3 (w : World) (us : List ByteArray) (bs : List Int) (ns : List ByteArray) (h1 : 1 ≤ us.length) (h2 : us.length ≤ 25) (h3 : bs.length ≤ 25) (h4 : ns.length ≤ 25) (h5 : ∀ x ∈ bs, -10000000 ≤ x ∧ x ≤ 10000000) (h6 : ∀ x ∈ us ++ ns, x.size ≤ 16) :
    RetGiven w (.returned (.agg #[.slice (some ⟨w.heap.size + 1, 0, none⟩) us.length us.length, .slice (some ⟨w.heap.size + 1 + 1, 0, none⟩) bs.length bs.length, .slice (some ⟨w.heap.size + 1 + 1 + 1, 0, none⟩) ns.length ns.length]))
      ((((w.alloc (.cells #[.slice (some ⟨w.heap.size + 1, 0, none⟩) us.length us.length, .slice (some ⟨w.heap.size + 1 + 1, 0, none⟩) bs.length bs.length, .slice (some ⟨w.heap.size + 1 + 1 + 1, 0, none⟩) ns.length ns.length] 31)).alloc (.cells (us.map Value.string).toArray 9)).alloc (.cells (bs.map (Value.int .i64)).toArray 3)).alloc (.cells (ns.map Value.string).toArray 9)) := by
  refine ⟨_, ⟨us, bs, ns⟩, rfl, ⟨_, _, _, rfl, ?_, ?_, ?_, ?_⟩, ⟨h2, h3, h4, h5, h6⟩, h1, ?_⟩
  · exact owns_blk (((blk_new_at _ (by simp)).alloc _).alloc _) (by simp) (by omega) (by unfold maxLen; omega)
  · exact owns_blk ((blk_new_at _ (by simp)).alloc _) (by simp) (by omega) (by unfold maxLen; omega)
  · exact owns_blk (blk_new_at _ (by simp)) (by simp) (by omega) (by unfold maxLen; omega)
  · intro k hk he
    simp [Value.ownBlock] at hk he
    omega
  · exact ((((Below.refl _ _).alloc (Nat.le_refl _) _).alloc (by simp) _).alloc (by simp; omega) _).alloc (by simp; omega) _
theorem given2 (w : World) (us : List ByteArray) (bs : List Int) (h1 : 1 ≤ us.length) (h2 : us.length ≤ 25) (h3 : bs.length ≤ 25) (h5 : ∀ x ∈ bs, -10000000 ≤ x ∧ x ≤ 10000000) (h6 : ∀ x ∈ us ++ [], x.size ≤ 16) :
    RetGiven w (.returned (.agg #[.slice (some ⟨w.heap.size + 1, 0, none⟩) us.length us.length, .slice (some ⟨w.heap.size + 1 + 1, 0, none⟩) bs.length bs.length, .slice none 0 0]))
      (((w.alloc (.cells #[.slice (some ⟨w.heap.size + 1, 0, none⟩) us.length us.length, .slice (some ⟨w.heap.size + 1 + 1, 0, none⟩) bs.length bs.length, .slice none 0 0] 31)).alloc (.cells (us.map Value.string).toArray 9)).alloc (.cells (bs.map (Value.int .i64)).toArray 3)) := by
  refine ⟨_, ⟨us, bs, []⟩, rfl, ⟨_, _, _, rfl, ?_, ?_, ?_, ?_⟩, ⟨h2, h3, by simp, h5, h6⟩, h1, ?_⟩
  · exact owns_blk ((blk_new_at _ (by simp)).alloc _) (by simp) (by omega) (by unfold maxLen; omega)
  · exact owns_blk (blk_new_at _ (by simp)) (by simp) (by omega) (by unfold maxLen; omega)
  · exact owns_none _ _ _
  · intro k hk he
    simp [Value.ownBlock] at he
  · exact (((Below.refl _ _).alloc (Nat.le_refl _) _).alloc (by simp) _).alloc (by simp; omega) _

set_option maxRecDepth 100000 in
set_option maxHeartbeats 8000000 in
theorem tongues_any (k : Int) (w : World) :
    Calls Tryz.prog 98 #[.int .i64 k] w (RetGiven w) := by
  go_enter Tryz.func98, Tryz.ntmps98
  go_wp2
  · refine bodyPost_ret (v := .agg #[.slice (some ⟨w.heap.size + 1, 0, none⟩) 9 9, .slice (some ⟨w.heap.size + 1 + 1, 0, none⟩) 4 4, .slice (some ⟨w.heap.size + 1 + 1 + 1, 0, none⟩) 3 3]) (by simp [results, Tryz.results98, go_sem]) rfl ?_
    exact given3 w [⟨#[111, 110, 101]⟩, ⟨#[116, 119, 111]⟩, ⟨#[116, 104, 114, 101, 101]⟩, ⟨#[102, 111, 117, 114]⟩, ⟨#[102, 105, 118, 101]⟩, ⟨#[115, 105, 120]⟩, ⟨#[115, 101, 118, 101, 110]⟩, ⟨#[101, 105, 103, 104, 116]⟩, ⟨#[110, 105, 110, 101]⟩] [1, 10, 100, 1000] [⟨#[116, 101, 110]⟩, ⟨#[104, 117, 110, 100, 114, 101, 100]⟩, ⟨#[116, 104, 111, 117, 115, 97, 110, 100]⟩] (by decide) (by decide) (by decide) (by decide) (by decide) (by decide)
  · refine bodyPost_ret (v := .agg #[.slice (some ⟨w.heap.size + 1, 0, none⟩) 3 3, .slice (some ⟨w.heap.size + 1 + 1, 0, none⟩) 3 3, .slice (some ⟨w.heap.size + 1 + 1 + 1, 0, none⟩) 2 2]) (by simp [results, Tryz.results98, go_sem]) rfl ?_
    exact given3 w [⟨#[97]⟩, ⟨#[98]⟩, ⟨#[99]⟩] [1, 4, 16] [⟨#[102]⟩, ⟨#[103]⟩] (by decide) (by decide) (by decide) (by decide) (by decide) (by decide)
  · refine bodyPost_ret (v := .agg #[.slice (some ⟨w.heap.size + 1, 0, none⟩) 4 4, .slice (some ⟨w.heap.size + 1 + 1, 0, none⟩) 3 3, .slice (some ⟨w.heap.size + 1 + 1 + 1, 0, none⟩) 2 2]) (by simp [results, Tryz.results98, go_sem]) rfl ?_
    exact given3 w [⟨#[105]⟩, ⟨#[105, 105]⟩, ⟨#[105, 105, 105]⟩, ⟨#[105, 105, 105, 105]⟩] [1, 5, 10] [⟨#[118]⟩, ⟨#[120]⟩] (by decide) (by decide) (by decide) (by decide) (by decide) (by decide)
  · refine bodyPost_ret (v := .agg #[.slice (some ⟨w.heap.size + 1, 0, none⟩) 11 11, .slice (some ⟨w.heap.size + 1 + 1, 0, none⟩) 3 3, .slice (some ⟨w.heap.size + 1 + 1 + 1, 0, none⟩) 2 2]) (by simp [results, Tryz.results98, go_sem]) rfl ?_
    exact given3 w [⟨#[111, 110, 101]⟩, ⟨#[116, 119, 111]⟩, ⟨#[116, 104, 114, 101, 101]⟩, ⟨#[102, 111, 117, 114]⟩, ⟨#[102, 105, 118, 101]⟩, ⟨#[115, 105, 120]⟩, ⟨#[115, 101, 118, 101, 110]⟩, ⟨#[101, 105, 103, 104, 116]⟩, ⟨#[110, 105, 110, 101]⟩, ⟨#[116, 101, 110]⟩, ⟨#[101, 108, 101, 118, 101, 110]⟩] [1, 12, 144] [⟨#[100, 111, 122, 101, 110]⟩, ⟨#[103, 114, 111, 115, 115]⟩] (by decide) (by decide) (by decide) (by decide) (by decide) (by decide)
  · refine bodyPost_ret (v := .agg #[.slice (some ⟨w.heap.size + 1, 0, none⟩) 3 3, .slice (some ⟨w.heap.size + 1 + 1, 0, none⟩) 4 4, .slice (some ⟨w.heap.size + 1 + 1 + 1, 0, none⟩) 3 3]) (by simp [results, Tryz.results98, go_sem]) rfl ?_
    exact given3 w [⟨#[97]⟩, ⟨#[97, 98]⟩, ⟨#[97, 98, 98]⟩] [1, 4, 10, 30] [⟨#[98]⟩, ⟨#[98, 97]⟩, ⟨#[98, 97, 98]⟩] (by decide) (by decide) (by decide) (by decide) (by decide) (by decide)
  · refine bodyPost_ret (v := .agg #[.slice (some ⟨w.heap.size + 1, 0, none⟩) 5 5, .slice (some ⟨w.heap.size + 1 + 1, 0, none⟩) 1 1, .slice none 0 0]) (by simp [results, Tryz.results98, go_sem]) rfl ?_
    exact given2 w [⟨#[117, 110]⟩, ⟨#[100, 117]⟩, ⟨#[116, 114, 105]⟩, ⟨#[107, 118, 97, 114]⟩, ⟨#[107, 118, 105, 110]⟩] [1]  (by decide) (by decide) (by decide) (by decide) (by decide)
end Go.Proofs.YtmhgpbfogdoaeaaGreatDoor

/- DSt -/
namespace Go.Proofs.YtmhgpbfogdoaeaaGreatDoor
open Go.RowKit

theorem own_blk_ne {w : World} {B : Nat} {e t : TypeId} {n : Nat} {v : Value} {xs : List Value} {g : Nat} {cs : Array Value} (h : w.ownsRow B e 1 v n xs) (hg : Blk w g t cs) (hne : e ≠ t) : v.ownBlock ≠ some g := by
  rcases h.2 with ⟨rfl, _⟩ | ⟨g', cap, cur, rfl, _, hh, _⟩
  · simp [Value.ownBlock]
  · intro he
    have : g' = g := by simpa [Value.ownBlock] using he
    subst this
    unfold Blk at hg
    rw [hh] at hg
    injection hg with hg
    injection hg with _ ht
    exact hne ht
theorem own_type_ne {w : World} {B B' : Nat} {e e' : TypeId} {n n' : Nat} {v v' : Value} {xs xs' : List Value} (h : w.ownsRow B e 1 v n xs) (h' : w.ownsRow B' e' 1 v' n' xs') (hne : e ≠ e') : ∀ k, v.ownBlock = some k → v'.ownBlock ≠ some k := by
  intro k hk
  rcases h.2 with ⟨rfl, _⟩ | ⟨g1, cap, cur, rfl, _, hh, _⟩
  · simp [Value.ownBlock] at hk
  · have a1 : g1 = k := by simpa [Value.ownBlock] using hk
    subst a1
    exact own_blk_ne h' hh (Ne.symm hne)
theorem ne_string_tongue : 9 ≠ 31 := by decide
theorem ne_int_tongue : 3 ≠ 31 := by decide
theorem ne_string_int : 9 ≠ 3 := by decide

/-- While a tongue is drawn in world w: the reader at g, read q times; the tongue t in its cell b with the slices v1, v2, v3. -/
structure DSt (w : World) (g : Nat) (wx : World) (b : Nat) (t : Tg) (v1 v2 v3 : Value) (q : Nat) : Prop where
  blk : Blk wx b 31 #[v1, v2, v3]
  ge : w.heap.size < b
  o1 : OwnStrs wx w.heap.size v1 t.us
  o2 : OwnI wx w.heap.size v2 t.bs
  o3 : OwnStrs wx w.heap.size v3 t.ns
  ap : ∀ k, v1.ownBlock = some k → v3.ownBlock ≠ some k
  rd : Rd wx g q
  gr : w.grownBy wx (some g)
  glt : g < w.heap.size
  res : Blk wx w.heap.size 31 #[.slice none 0 0, .slice none 0 0, .slice none 0 0]

theorem own_kept {w w' : World} {B n : Nat} {e : TypeId} {v : Value} {xs : List Value} {row : Option Nat} (h : w.ownsRow B e 1 v n xs) (hg : w.grownBy w' row) (hrow : ∀ r, row = some r → r < B ∨ w.heap.size ≤ r) : w'.ownsRow B e 1 v n xs := by
  refine h.kept hg ?_
  cases hv : v.ownBlock with
  | none => exact .inl rfl
  | some k =>
    refine .inr fun e => ?_
    have h1 := h.lt k hv
    rcases hrow k e.symm with h3 | h3 <;> omega

section
variable {w wx w' : World} {g b q : Nat} {t : Tg} {v1 v2 v3 : Value}
/-- The reader has been read, or nothing old has turned. -/
theorem DSt.kept {row : Option Nat} (h : DSt w g wx b t v1 v2 v3 q) {q' : Nat} (hr : Rd w' g q') (hg : wx.grownBy w' row) (hrow : ∀ r, row = some r → r = g ∨ wx.heap.size ≤ r) : DSt w g w' b t v1 v2 v3 q' := by
  have hn : ∀ {v : Value} {e : TypeId} {n : Nat} {xs : List Value}, wx.ownsRow w.heap.size e 1 v n xs → w'.ownsRow w.heap.size e 1 v n xs := fun ho => own_kept ho hg (fun r e => by
    have h2 := h.glt
    rcases hrow r e with h3 | h3
    · exact .inl (by omega)
    · exact .inr h3)
  refine ⟨h.blk.grown hg fun e => ?_, h.ge, hn h.o1, hn h.o2, hn h.o3, h.ap, hr, ⟨hg.os.trans h.gr.os, hg.tape.trans h.gr.tape, hg.output.trans h.gr.output, Nat.le_trans h.gr.size hg.size, fun k hk hne => (hg.block k (Nat.lt_of_lt_of_le hk h.gr.size) fun e => ?_).trans (h.gr.block k hk hne)⟩, h.glt, h.res.grown hg fun e => ?_⟩
  · have h2 := h.glt; have h4 := h.ge; have h5 := h.blk.lt
    rcases hrow b e.symm with h3 | h3 <;> omega
  · rcases hrow k e.symm with h3 | h3
    · exact hne (by rw [h3])
    · have := h.gr.size; omega
  · have h2 := h.glt; have h5 := h.res.lt
    rcases hrow _ e.symm with h3 | h3 <;> omega
theorem DSt.pick (h : DSt w g wx b t v1 v2 v3 q) (hr : Rd w' g (q+1)) (hg : wx.grownBy w' (some g)) : DSt w g w' b t v1 v2 v3 (q+1) := h.kept hr hg (fun r e => .inl (by cases e; rfl))
theorem DSt.alloc (h : DSt w g wx b t v1 v2 v3 q) (o : Obj) : DSt w g (wx.alloc o) b t v1 v2 v3 q := h.kept (row := none) (h.rd.alloc' o) (grown_of_below none ((Below.refl _ _).alloc (Nat.le_refl _) _)) (by simp)
theorem DSt.drew (h : DSt w g wx b t v1 v2 v3 q) : DSt w g wx.drew b t v1 v2 v3 q := h.kept (row := none) h.rd.drew (grown_of_below none (Below.refl _ _).drew) (by simp)
/-- The row of the units has grown, and its slice is stored. -/
theorem DSt.app1 (h : DSt w g wx b t v1 v2 v3 q) {v1' : Value} {us : List ByteArray} (ho : OwnStrs w' w.heap.size v1' us) (hg : wx.grownBy w' v1.ownBlock) (hat : v1'.ownBlock = v1.ownBlock ∨ v1'.ownBlock = some wx.heap.size) :
    DSt w g (w'.setCell ⟨b, 0, none⟩ v1') b ⟨us, t.bs, t.ns⟩ v1' v2 v3 q := by
  have hglt := h.glt
  have hge := h.ge
  have n1 := own_blk_ne h.o1 h.blk ne_string_tongue
  have n1' := own_blk_ne h.o1 h.res ne_string_tongue
  have hB := h.blk.grown hg (Ne.symm n1)
  have hR := h.res.grown hg (Ne.symm n1')
  have hr := rd_append (w := w) h.glt h.rd h.o1 hg
  have hgr := grown_append h.gr h.o1 hg
  have o2' : w'.ownsRow w.heap.size 3 1 v2 t.bs.length (t.bs.map (Value.int .i64)) := own_apart h.o2 h.o1 hg (own_type_ne h.o2 h.o1 (Ne.symm ne_string_int))
  have o3' : w'.ownsRow w.heap.size 9 1 v3 t.ns.length (t.ns.map Value.string) := own_apart h.o3 h.o1 hg (fun k hk e => h.ap k e hk)
  have m1 := own_blk_ne ho hB ne_string_tongue
  have m2 := own_blk_ne o2' hB ne_int_tongue
  have m3 := own_blk_ne o3' hB ne_string_tongue
  have hblt := hB.lt
  refine ⟨?_, hge, own_set ho m1, own_set o2' m2, own_set o3' m3, fun k hk e => ?_, rd_set hr (by omega) _, grown_set hgr (by omega) _, hglt, hR.far (by show w.heap.size ≠ b; omega) _⟩
  · have := hB.set_ 0 v1'
    simpa using this
  · rcases hat with h1 | h1
    · exact h.ap k (by rw [← h1]; exact hk) e
    · rw [h1] at hk; cases hk
      have := (h.o3.lt _ e).2; omega
theorem DSt.mid1 (h : DSt w g wx b t v1 v2 v3 q) (hg : wx.grownBy w' v1.ownBlock) : Blk w' b 31 #[v1, v2, v3] := h.blk.grown hg (Ne.symm (own_blk_ne h.o1 h.blk ne_string_tongue))
theorem DSt.mid3 (h : DSt w g wx b t v1 v2 v3 q) (hg : wx.grownBy w' v3.ownBlock) : Blk w' b 31 #[v1, v2, v3] := h.blk.grown hg (Ne.symm (own_blk_ne h.o3 h.blk ne_string_tongue))
theorem DSt.mid2 (h : DSt w g wx b t v1 v2 v3 q) (hg : wx.grownBy w' v2.ownBlock) : Blk w' b 31 #[v1, v2, v3] := h.blk.grown hg (Ne.symm (own_blk_ne h.o2 h.blk ne_int_tongue))
/-- What an append of one string leaves. -/
theorem own_snoc {w : World} {B n : Nat} {v : Value} {us : List ByteArray} {x : ByteArray} (h : w.ownsRow B 9 1 v n (us.map Value.string ++ [.string x])) : OwnStrs w B v (us ++ [x]) := by
  have hl := h.1
  have e : n = (us ++ [x]).length := by simpa using hl.symm
  subst e
  unfold OwnStrs
  rw [List.map_append]
  exact h
theorem own_snoc2 {w : World} {B n m : Nat} {v : Value} {us : List ByteArray} {x : ByteArray} (h : w.ownsRow B 9 1 v n (us.map Value.string ++ [.string x])) (hus : ∀ y ∈ us, y.size ≤ m) (hx : x.size ≤ m) : ∃ u', OwnStrs w B v u' ∧ u'.length = us.length + 1 ∧ ∀ y ∈ u', y.size ≤ m :=
  ⟨us ++ [x], own_snoc h, by simp, fun y hy => by
    rcases List.mem_append.1 hy with h1 | h1
    · exact hus y h1
    · simp at h1; subst h1; exact hx⟩
theorem own_snocI {w : World} {B n : Nat} {v : Value} {bs : List Int} {x : Int} (h : w.ownsRow B 3 1 v n (bs.map (Value.int .i64) ++ [.int .i64 x])) (hbs : ∀ y ∈ bs, -10000000 ≤ y ∧ y ≤ 10000000) (hx : -10000000 ≤ x ∧ x ≤ 10000000) : ∃ b', OwnI w B v b' ∧ b'.length = bs.length + 1 ∧ ∀ y ∈ b', -10000000 ≤ y ∧ y ≤ 10000000 :=
  ⟨bs ++ [x], by
    have hl := h.1
    have e : n = (bs ++ [x]).length := by simpa using hl.symm
    subst e
    unfold OwnI
    rw [List.map_append]
    exact h, by simp, fun y hy => by
    rcases List.mem_append.1 hy with h1 | h1
    · exact hbs y h1
    · simp at h1; subst h1; exact hx⟩
/-- .. of the names. -/
theorem DSt.app3 (h : DSt w g wx b t v1 v2 v3 q) {v3' : Value} {ns : List ByteArray} (ho : OwnStrs w' w.heap.size v3' ns) (hg : wx.grownBy w' v3.ownBlock) (hat : v3'.ownBlock = v3.ownBlock ∨ v3'.ownBlock = some wx.heap.size) :
    DSt w g (w'.setCell ⟨b, 2, none⟩ v3') b ⟨t.us, t.bs, ns⟩ v1 v2 v3' q := by
  have hglt := h.glt
  have hge := h.ge
  have n1 := own_blk_ne h.o3 h.blk ne_string_tongue
  have n1' := own_blk_ne h.o3 h.res ne_string_tongue
  have hB := h.blk.grown hg (Ne.symm n1)
  have hR := h.res.grown hg (Ne.symm n1')
  have hr := rd_append (w := w) h.glt h.rd h.o3 hg
  have hgr := grown_append h.gr h.o3 hg
  have o2' : w'.ownsRow w.heap.size 3 1 v2 t.bs.length (t.bs.map (Value.int .i64)) := own_apart h.o2 h.o3 hg (own_type_ne h.o2 h.o3 (Ne.symm ne_string_int))
  have o1' : w'.ownsRow w.heap.size 9 1 v1 t.us.length (t.us.map Value.string) := own_apart h.o1 h.o3 hg h.ap
  have m1 := own_blk_ne ho hB ne_string_tongue
  have m2 := own_blk_ne o2' hB ne_int_tongue
  have m3 := own_blk_ne o1' hB ne_string_tongue
  have hblt := hB.lt
  refine ⟨?_, hge, own_set o1' m3, own_set o2' m2, own_set ho m1, fun k hk e => ?_, rd_set hr (by omega) _, grown_set hgr (by omega) _, hglt, hR.far (by show w.heap.size ≠ b; omega) _⟩
  · have := hB.set_ 2 v3'
    simpa using this
  · rcases hat with h1 | h1
    · exact h.ap k hk (by rw [← h1]; exact e)
    · rw [h1] at e; cases e
      have := (h.o1.lt _ hk).2; omega
/-- .. of the bases. -/
theorem DSt.app2 (h : DSt w g wx b t v1 v2 v3 q) {v2' : Value} {bs : List Int} (ho : OwnI w' w.heap.size v2' bs) (hg : wx.grownBy w' v2.ownBlock) :
    DSt w g (w'.setCell ⟨b, 1, none⟩ v2') b ⟨t.us, bs, t.ns⟩ v1 v2' v3 q := by
  have hglt := h.glt
  have hge := h.ge
  have n1 := own_blk_ne h.o2 h.blk ne_int_tongue
  have n1' := own_blk_ne h.o2 h.res ne_int_tongue
  have hB := h.blk.grown hg (Ne.symm n1)
  have hR := h.res.grown hg (Ne.symm n1')
  have hr := rd_append (w := w) h.glt h.rd h.o2 hg
  have hgr := grown_append h.gr h.o2 hg
  have o3' : w'.ownsRow w.heap.size 9 1 v3 t.ns.length (t.ns.map Value.string) := own_apart h.o3 h.o2 hg (own_type_ne h.o3 h.o2 ne_string_int)
  have o1' : w'.ownsRow w.heap.size 9 1 v1 t.us.length (t.us.map Value.string) := own_apart h.o1 h.o2 hg (own_type_ne h.o1 h.o2 ne_string_int)
  have m1 := own_blk_ne ho hB ne_int_tongue
  have m2 := own_blk_ne o3' hB ne_string_tongue
  have m3 := own_blk_ne o1' hB ne_string_tongue
  have hblt := hB.lt
  refine ⟨?_, hge, own_set o1' m3, own_set ho m1, own_set o3' m2, h.ap, rd_set hr (by omega) _, grown_set hgr (by omega) _, hglt, hR.far (by show w.heap.size ≠ b; omega) _⟩
  have := hB.set_ 1 v2'
  simpa using this
/-- The first unit is another one. -/
theorem DSt.set0 {gb cap n : Nat} (h : DSt w g wx b t (.slice (some ⟨gb, 0, none⟩) n cap) v2 v3 q) (x : ByteArray) :
    DSt w g (wx.setCell ⟨gb, 0, none⟩ (.string x)) b ⟨t.us.set 0 x, t.bs, t.ns⟩ (.slice (some ⟨gb, 0, none⟩) n cap) v2 v3 q := by
  have hl := h.o1.lt gb rfl
  have hglt := h.glt
  have n1 := own_blk_ne h.o1 h.blk ne_string_tongue
  have n1' := own_blk_ne h.o1 h.res ne_string_tongue
  have e1 : n = t.us.length := by
    rcases h.o1.2 with ⟨e, _⟩ | ⟨g', cap', cur, e, _⟩
    · cases e
    · injection e
  subst e1
  have ho := (World.ownsRow.stored h.o1 0 (.string x)).1
  have hne : b ≠ gb := fun e => n1 (by rw [e]; rfl)
  have hne' : w.heap.size ≠ gb := fun e => n1' (by rw [e]; rfl)
  refine ⟨h.blk.far hne _, h.ge, ?_, own_set h.o2 (fun e => own_type_ne h.o1 h.o2 ne_string_int gb rfl e), own_set h.o3 (fun e => h.ap gb rfl e), h.ap, rd_set h.rd (by omega) _, grown_set h.gr (by omega) _, hglt, h.res.far hne' _⟩
  show World.ownsRow _ _ _ _ _ _ _
  rw [List.length_set, List.map_set]
  exact ho
end
/-- Bases of 1 alone, and no words. -/
theorem DSt.reset {w wx : World} {g b q : Nat} {t : Tg} {v1 v2 v3 : Value} (h : DSt w g wx b t v1 v2 v3 q) :
    DSt w g ((((wx.setCell ⟨b, 0, none⟩ (.slice none 0 0)).setCell ⟨b, 1, none⟩ (.slice (some ⟨wx.heap.size, 0, none⟩) 1 1)).setCell ⟨b, 2, none⟩ (.slice none 0 0)).alloc (.cells #[.int .i64 1] 3)) b ⟨[], [1], []⟩ (.slice none 0 0) (.slice (some ⟨wx.heap.size, 0, none⟩) 1 1) (.slice none 0 0) q := by
  have hge := h.ge
  have hglt := h.glt
  have hbl := h.blk.lt
  have hB := (((h.blk.set_ 0 (.slice none 0 0)).set_ 1 (.slice (some ⟨wx.heap.size, 0, none⟩) 1 1)).set_ 2 (.slice none 0 0)).alloc (.cells #[.int .i64 1] 3)
  have hw0 : w.heap.size ≠ b := by omega
  have hsz : (((wx.setCell ⟨b, 0, none⟩ (.slice none 0 0)).setCell ⟨b, 1, none⟩ (.slice (some ⟨wx.heap.size, 0, none⟩) 1 1)).setCell ⟨b, 2, none⟩ (.slice none 0 0)).heap.size = wx.heap.size := by simp [World.setCell]
  have ho : ((((wx.setCell ⟨b, 0, none⟩ (.slice none 0 0)).setCell ⟨b, 1, none⟩ (.slice (some ⟨wx.heap.size, 0, none⟩) 1 1)).setCell ⟨b, 2, none⟩ (.slice none 0 0)).alloc (.cells #[.int .i64 1] 3)).ownsRow w.heap.size 3 1 (.slice (some ⟨wx.heap.size, 0, none⟩) 1 1) 1 [.int .i64 1] := owns_blk (blk_new_at _ hsz) rfl (by have := h.gr.size; omega) (by unfold maxLen; omega)
  have hgr := grown_set (grown_set (grown_set h.gr (show w.heap.size ≤ b by omega) (i := 0) (.slice none 0 0)) (show w.heap.size ≤ b by omega) (i := 1) (.slice (some ⟨wx.heap.size, 0, none⟩) 1 1)) (show w.heap.size ≤ b by omega) (i := 2) (.slice none 0 0)
  exact ⟨by simpa using hB, h.ge, owns_none _ _ _, ho, owns_none _ _ _, fun k hk => by simp [Value.ownBlock] at hk,
    (rd_set (rd_set (rd_set h.rd (by omega) _) (by omega) _) (by omega) _).alloc' _,
    hgr.trans (grown_of_below _ ((Below.refl _ _).alloc (Nat.le_refl _) _)), hglt, (((h.res.far hw0 _).far hw0 _).far hw0 _).alloc _⟩
abbrev zeroTng : Obj := .cells #[.slice none 0 0, .slice none 0 0, .slice none 0 0] 31
theorem DSt.start {w w1 w2 : World} {g p : Nat} {t : Tg} {v1 v2 v3 : Value} (hr : Rd w g p) (hr1 : Rd w1 g (p+1)) (hg1 : (w.alloc zeroTng).grownBy w1 (some g)) (ho : OwnTng w2 w1.heap.size (.agg #[v1, v2, v3]) t) (hb : Below w1.heap.size w1 w2) :
    DSt w g (w2.alloc (.cells #[v1, v2, v3] 31)) w2.heap.size t v1 v2 v3 (p+1) := by
  have hz : w.heap.size < w1.heap.size := by have := hg1.size; simp at this; omega
  have hglt := hr.lt
  have hB := (Below.refl w2.heap.size w2).alloc (Nat.le_refl _) (.cells #[v1, v2, v3] 31)
  obtain ⟨u1, u2, u3, e, o1, o2, o3, ap⟩ := (ho.below hB (Nat.le_refl _)).ex
  cases e
  have hR : Blk w1 w.heap.size 31 #[.slice none 0 0, .slice none 0 0, .slice none 0 0] := (Blk.new w _ _).grown hg1 (by simp; omega)
  exact ⟨Blk.new _ _ _, by have := hb.size; omega, o1.mono (by omega), o2.mono (by omega), o3.mono (by omega), ap, (hr1.below hb (Nat.le_refl _)).alloc' _,
    ⟨hB.os.trans (hb.os.trans hg1.os), hB.tape.trans (hb.tape.trans hg1.tape), hB.output.trans (hb.output.trans hg1.output), by have := hb.size; simp; omega, fun k hk hne => (hB.block k (by have := hb.size; omega)).trans ((hb.block k (by omega)).trans ((hg1.block k (by simp; omega) hne).trans (Below.heap_alloc w _ k hk)))⟩, hglt, (hR.below hb hz).alloc _⟩
end Go.Proofs.YtmhgpbfogdoaeaaGreatDoor

/- DTngB -/
namespace Go.Proofs.YtmhgpbfogdoaeaaGreatDoor
open Go.RowKit

/-- A drawn tongue is returned. -/
def RetDrawn (w : World) (g p : Nat) (e : Ending) (w' : World) : Prop := ∃ v t q, e = .returned v ∧ OwnTng w' w.heap.size v t ∧ SmallT 40 t ∧ Rd w' g q ∧ q ≤ p + 20 ∧ w.grownBy w' (some g)
theorem pick3 (a0 a1 a2 : ByteArray) (m kk : Nat) (hk : kk < 3) (h0 : a0.size ≤ m) (h1 : a1.size ≤ m) (h2 : a2.size ≤ m) : ∃ y : ByteArray, (#[Value.string a0, Value.string a1, Value.string a2] : Array Value)[kk]? = some (.string y) ∧ y.size ≤ m ∧ [Value.string a0, Value.string a1, Value.string a2][kk]'(by simpa using hk) = .string y := by
  match kk, hk with
  | 0, _ => exact ⟨a0, rfl, h0, rfl⟩
  | 1, _ => exact ⟨a1, rfl, h1, rfl⟩
  | 2, _ => exact ⟨a2, rfl, h2, rfl⟩
theorem pick2 (a0 a1 : ByteArray) (m kk : Nat) (hk : kk < 2) (h0 : a0.size ≤ m) (h1 : a1.size ≤ m) : ∃ y : ByteArray, (#[Value.string a0, Value.string a1] : Array Value)[kk]? = some (.string y) ∧ y.size ≤ m ∧ [Value.string a0, Value.string a1][kk]'(by simpa using hk) = .string y := by
  match kk, hk with
  | 0, _ => exact ⟨a0, rfl, h0, rfl⟩
  | 1, _ => exact ⟨a1, rfl, h1, rfl⟩
theorem SmallT.mono {t : Tg} {m m' : Nat} (h : SmallT m t) (hm : m ≤ m') : SmallT m' t := ⟨Nat.le_trans h.us hm, Nat.le_trans h.bs hm, Nat.le_trans h.ns hm, h.fit, h.size⟩
theorem DSt.finish {w wx : World} {g b q p : Nat} {t : Tg} {v1 v2 v3 : Value} (h : DSt w g wx b t v1 v2 v3 q) (hs : SmallT 40 t) (hq : q ≤ p + 20) :
    RetDrawn w g p (.returned (.agg #[v1, v2, v3])) (((wx.setCell ⟨w.heap.size, 0, none⟩ v1).setCell ⟨w.heap.size, 1, none⟩ v2).setCell ⟨w.heap.size, 2, none⟩ v3) := by
  have m1 := own_blk_ne h.o1 h.res ne_string_tongue
  have m2 := own_blk_ne h.o2 h.res ne_int_tongue
  have m3 := own_blk_ne h.o3 h.res ne_string_tongue
  have hglt := h.glt
  exact ⟨_, t, q, rfl, (show OwnTng _ w.heap.size (.agg #[v1, v2, v3]) t from ⟨v1, v2, v3, rfl, own_set (own_set (own_set h.o1 m1) m1) m1, own_set (own_set (own_set h.o2 m2) m2) m2, own_set (own_set (own_set h.o3 m3) m3) m3, h.ap⟩), hs,
    rd_set (rd_set (rd_set h.rd hglt _) hglt _) hglt _, hq, grown_set (grown_set (grown_set h.gr (Nat.le_refl _) _) (Nat.le_refl _) _) (Nat.le_refl _) _⟩
theorem DSt.finish0 {w wx : World} {g b q p : Nat} {t : Tg} {v1 v2 v3 : Value} (h : DSt w g wx b t v1 v2 v3 q) (hq : q ≤ p + 20) :
    RetDrawn w g p (.returned (.agg #[.slice none 0 0, .slice none 0 0, .slice none 0 0])) (((wx.setCell ⟨w.heap.size, 0, none⟩ (.slice none 0 0)).setCell ⟨w.heap.size, 1, none⟩ (.slice none 0 0)).setCell ⟨w.heap.size, 2, none⟩ (.slice none 0 0)) :=
  ⟨_, noTg, q, rfl, own_noTg _ _, ⟨Nat.zero_le _, Nat.zero_le _, Nat.zero_le _, by simp [noTg], by simp [noTg]⟩,
    rd_set (rd_set (rd_set h.rd h.glt _) h.glt _) h.glt _, hq, grown_set (grown_set (grown_set h.gr (Nat.le_refl _) _) (Nat.le_refl _) _) (Nat.le_refl _) _⟩
theorem RetDrawn.alloc' {w w' : World} {g p : Nat} {e : Ending} (h : RetDrawn w g p e w') (o : Obj) : RetDrawn w g p e (w'.alloc o) := by
  obtain ⟨v, t, q, he, ht, hs, hr, hq, hg⟩ := h
  exact ⟨v, t, q, he, ht.below ((Below.refl _ _).alloc (Nat.le_refl _) _) (Nat.le_refl _), hs, hr.alloc' _, hq, hg.trans (grown_of_below _ ((Below.refl _ _).alloc (Nat.le_refl _) _))⟩
/-- Some tongue, while it is drawn. -/
def Mid (w : World) (g p : Nat) (wx : World) (b : Nat) : Prop := ∃ t v1 v2 v3 q, DSt w g wx b t v1 v2 v3 q ∧ SmallT 25 t ∧ 1 ≤ t.us.length ∧ q ≤ p + 12

end Go.Proofs.YtmhgpbfogdoaeaaGreatDoor

/- DrawG -/
namespace Go.Proofs.YtmhgpbfogdoaeaaGreatDoor
open Go.RowKit

/-- What was below stays below, behind a reader's draws. -/
theorem below_read {w a b : World} {g B : Nat} (h : Below B w a) (hg : a.grownBy b (some g)) (hB : B ≤ a.heap.size) (hgB : B ≤ g) : Below B w b := h.grown hg hB (fun k e => by cases e; exact hgB)
theorem OwnTng.shape {w : World} {B : Nat} {v : Value} {t : Tg} (h : OwnTng w B v t) : ∃ A1 c1 A2 c2 A3 c3, v = .agg #[.slice A1 t.us.length c1, .slice A2 t.bs.length c2, .slice A3 t.ns.length c3] := by
  obtain ⟨A1, c1, A2, c2, A3, c3, e, _⟩ := h.tng.ex
  exact ⟨A1, c1, A2, c2, A3, c3, e⟩

end Go.Proofs.YtmhgpbfogdoaeaaGreatDoor
