/-
  GC: DTng DSt DTngB DrawG.
-/
import Derived.Test.YtjnlpknjdclalaaGB
import Derived.Test.YtjnlpknjdclalaaGA
import Derived.Deep.RegionHeld3
import Derived.Deep.DeepCutAuto
/- DTng -/
namespace Go.Proofs.Ytjnlpknjdclalaa
open Go.RowKit

/-- A drawn tongue is small. -/
structure SmallT (m : Nat) (t : Tg) : Prop where
  us : t.us.length ≤ m
  bs : t.bs.length ≤ m
  ns : t.ns.length ≤ m
  fit : ∀ x ∈ t.bs, -10000000 ≤ x ∧ x ≤ 10000000
  size : ∀ x ∈ t.us ++ t.ns, x.size ≤ 16
theorem SmallT.fine {t : Tg} {m : Nat} (h : SmallT m t) (hm : m ≤ 1000) : t.Fine := ⟨by have := h.us; omega, by have := h.bs; omega, by have := h.ns; omega, Fits.of_small h.fit, fun x hx => by have := h.size x hx; omega⟩
def RetGiven (w : World) (e : Ending) (w' : World) : Prop := ∃ v t, e = .returned v ∧ OwnTng w' w.heap.size v t ∧ SmallT 25 t ∧ 1 ≤ t.us.length ∧ Below w.heap.size w w'

theorem given3 (w : World) (us : List ByteArray) (bs : List Int) (ns : List ByteArray) (h1 : 1 ≤ us.length) (h2 : us.length ≤ 25) (h3 : bs.length ≤ 25) (h4 : ns.length ≤ 25) (h5 : ∀ x ∈ bs, -10000000 ≤ x ∧ x ≤ 10000000) (h6 : ∀ x ∈ us ++ ns, x.size ≤ 16) :
    RetGiven w (.returned (.agg #[.slice (some ⟨w.heap.size + 1, 0, none⟩) us.length us.length, .slice (some ⟨w.heap.size + 1 + 1, 0, none⟩) bs.length bs.length, .slice (some ⟨w.heap.size + 1 + 1 + 1, 0, none⟩) ns.length ns.length]))
      ((((w.alloc (.cells #[.slice (some ⟨w.heap.size + 1, 0, none⟩) us.length us.length, .slice (some ⟨w.heap.size + 1 + 1, 0, none⟩) bs.length bs.length, .slice (some ⟨w.heap.size + 1 + 1 + 1, 0, none⟩) ns.length ns.length] 26)).alloc (.cells (us.map Value.string).toArray 9)).alloc (.cells (bs.map (Value.int .i64)).toArray 3)).alloc (.cells (ns.map Value.string).toArray 9)) := by
  refine ⟨_, ⟨us, bs, ns⟩, rfl, ⟨_, _, _, rfl, ?_, ?_, ?_, ?_⟩, ⟨h2, h3, h4, h5, h6⟩, h1, ?_⟩
  · exact owns_blk (((blk_new_at _ (by simp)).alloc _).alloc _) (by simp) (by omega) (by unfold maxLen; omega)
  · exact owns_blk ((blk_new_at _ (by simp)).alloc _) (by simp) (by omega) (by unfold maxLen; omega)
  · exact owns_blk (blk_new_at _ (by simp)) (by simp) (by omega) (by unfold maxLen; omega)
  · intro k hk he
    simp [Value.ownBlock] at hk he
    omega
  · exact ((((Below.refl _ _).alloc (Nat.le_refl _) _).alloc (by simp) _).alloc (by simp; omega) _).alloc (by simp; omega) _
theorem given2 (w : World) (us : List ByteArray) (bs : List Int) (h1 : 1 ≤ us.length) (h2 : us.length ≤ 25) (h3 : bs.length ≤ 25) (h5 : ∀ x ∈ bs, -10000000 ≤ x ∧ x ≤ 10000000) (h6 : ∀ x ∈ us ++ [], x.size ≤ 16) :
    RetGiven w (.returned (.agg #[.slice (some ⟨w.heap.size + 1, 0, none⟩) us.length us.length, .slice (some ⟨w.heap.size + 1 + 1, 0, none⟩) bs.length bs.length, .slice none 0 0]))
      (((w.alloc (.cells #[.slice (some ⟨w.heap.size + 1, 0, none⟩) us.length us.length, .slice (some ⟨w.heap.size + 1 + 1, 0, none⟩) bs.length bs.length, .slice none 0 0] 26)).alloc (.cells (us.map Value.string).toArray 9)).alloc (.cells (bs.map (Value.int .i64)).toArray 3)) := by
  refine ⟨_, ⟨us, bs, []⟩, rfl, ⟨_, _, _, rfl, ?_, ?_, ?_, ?_⟩, ⟨h2, h3, by simp, h5, h6⟩, h1, ?_⟩
  · exact owns_blk ((blk_new_at _ (by simp)).alloc _) (by simp) (by omega) (by unfold maxLen; omega)
  · exact owns_blk (blk_new_at _ (by simp)) (by simp) (by omega) (by unfold maxLen; omega)
  · exact owns_none _ _ _
  · intro k hk he
    simp [Value.ownBlock] at he
  · exact (((Below.refl _ _).alloc (Nat.le_refl _) _).alloc (by simp) _).alloc (by simp; omega) _

set_option maxRecDepth 100000 in
set_option maxHeartbeats 8000000 in
theorem tongues_any (k : Int) (w : World) :
    Calls Try.prog 55 #[.int .i64 k] w (RetGiven w) := by
  go_enter Try.func55, Try.ntmps55
  go_wp2
  · refine bodyPost_ret (v := .agg #[.slice (some ⟨w.heap.size + 1, 0, none⟩) 9 9, .slice (some ⟨w.heap.size + 1 + 1, 0, none⟩) 4 4, .slice (some ⟨w.heap.size + 1 + 1 + 1, 0, none⟩) 3 3]) (by simp [results, Try.results55, go_sem]) rfl ?_
    exact given3 w [⟨#[111, 110, 101]⟩, ⟨#[116, 119, 111]⟩, ⟨#[116, 104, 114, 101, 101]⟩, ⟨#[102, 111, 117, 114]⟩, ⟨#[102, 105, 118, 101]⟩, ⟨#[115, 105, 120]⟩, ⟨#[115, 101, 118, 101, 110]⟩, ⟨#[101, 105, 103, 104, 116]⟩, ⟨#[110, 105, 110, 101]⟩] [1, 10, 100, 1000] [⟨#[116, 101, 110]⟩, ⟨#[104, 117, 110, 100, 114, 101, 100]⟩, ⟨#[116, 104, 111, 117, 115, 97, 110, 100]⟩] (by decide) (by decide) (by decide) (by decide) (by decide) (by decide)
  · refine bodyPost_ret (v := .agg #[.slice (some ⟨w.heap.size + 1, 0, none⟩) 3 3, .slice (some ⟨w.heap.size + 1 + 1, 0, none⟩) 3 3, .slice (some ⟨w.heap.size + 1 + 1 + 1, 0, none⟩) 2 2]) (by simp [results, Try.results55, go_sem]) rfl ?_
    exact given3 w [⟨#[97]⟩, ⟨#[98]⟩, ⟨#[99]⟩] [1, 4, 16] [⟨#[102]⟩, ⟨#[103]⟩] (by decide) (by decide) (by decide) (by decide) (by decide) (by decide)
  · refine bodyPost_ret (v := .agg #[.slice (some ⟨w.heap.size + 1, 0, none⟩) 4 4, .slice (some ⟨w.heap.size + 1 + 1, 0, none⟩) 3 3, .slice (some ⟨w.heap.size + 1 + 1 + 1, 0, none⟩) 2 2]) (by simp [results, Try.results55, go_sem]) rfl ?_
    exact given3 w [⟨#[105]⟩, ⟨#[105, 105]⟩, ⟨#[105, 105, 105]⟩, ⟨#[105, 105, 105, 105]⟩] [1, 5, 10] [⟨#[118]⟩, ⟨#[120]⟩] (by decide) (by decide) (by decide) (by decide) (by decide) (by decide)
  · refine bodyPost_ret (v := .agg #[.slice (some ⟨w.heap.size + 1, 0, none⟩) 11 11, .slice (some ⟨w.heap.size + 1 + 1, 0, none⟩) 3 3, .slice (some ⟨w.heap.size + 1 + 1 + 1, 0, none⟩) 2 2]) (by simp [results, Try.results55, go_sem]) rfl ?_
    exact given3 w [⟨#[111, 110, 101]⟩, ⟨#[116, 119, 111]⟩, ⟨#[116, 104, 114, 101, 101]⟩, ⟨#[102, 111, 117, 114]⟩, ⟨#[102, 105, 118, 101]⟩, ⟨#[115, 105, 120]⟩, ⟨#[115, 101, 118, 101, 110]⟩, ⟨#[101, 105, 103, 104, 116]⟩, ⟨#[110, 105, 110, 101]⟩, ⟨#[116, 101, 110]⟩, ⟨#[101, 108, 101, 118, 101, 110]⟩] [1, 12, 144] [⟨#[100, 111, 122, 101, 110]⟩, ⟨#[103, 114, 111, 115, 115]⟩] (by decide) (by decide) (by decide) (by decide) (by decide) (by decide)
  · refine bodyPost_ret (v := .agg #[.slice (some ⟨w.heap.size + 1, 0, none⟩) 3 3, .slice (some ⟨w.heap.size + 1 + 1, 0, none⟩) 4 4, .slice (some ⟨w.heap.size + 1 + 1 + 1, 0, none⟩) 3 3]) (by simp [results, Try.results55, go_sem]) rfl ?_
    exact given3 w [⟨#[97]⟩, ⟨#[97, 98]⟩, ⟨#[97, 98, 98]⟩] [1, 4, 10, 30] [⟨#[98]⟩, ⟨#[98, 97]⟩, ⟨#[98, 97, 98]⟩] (by decide) (by decide) (by decide) (by decide) (by decide) (by decide)
  · refine bodyPost_ret (v := .agg #[.slice (some ⟨w.heap.size + 1, 0, none⟩) 5 5, .slice (some ⟨w.heap.size + 1 + 1, 0, none⟩) 1 1, .slice none 0 0]) (by simp [results, Try.results55, go_sem]) rfl ?_
    exact given2 w [⟨#[117, 110]⟩, ⟨#[100, 117]⟩, ⟨#[116, 114, 105]⟩, ⟨#[107, 118, 97, 114]⟩, ⟨#[107, 118, 105, 110]⟩] [1]  (by decide) (by decide) (by decide) (by decide) (by decide)
end Go.Proofs.Ytjnlpknjdclalaa

/- DSt -/
namespace Go.Proofs.Ytjnlpknjdclalaa
open Go.RowKit

theorem own_blk_ne {w : World} {B : Nat} {e t : TypeId} {n : Nat} {v : Value} {xs : List Value} {g : Nat} {cs : Array Value} (h : w.ownsRow B e 1 v n xs) (hg : Blk w g t cs) (hne : e ≠ t) : v.ownBlock ≠ some g := by
  rcases h.2 with ⟨rfl, _⟩ | ⟨g', cap, cur, rfl, _, hh, _⟩
  · simp [Value.ownBlock]
  · intro he
    have : g' = g := by simpa [Value.ownBlock] using he
    subst this
    unfold Blk at hg
    rw [hh] at hg
    injection hg with hg
    injection hg with _ ht
    exact hne ht
theorem own_type_ne {w : World} {B B' : Nat} {e e' : TypeId} {n n' : Nat} {v v' : Value} {xs xs' : List Value} (h : w.ownsRow B e 1 v n xs) (h' : w.ownsRow B' e' 1 v' n' xs') (hne : e ≠ e') : ∀ k, v.ownBlock = some k → v'.ownBlock ≠ some k := by
  intro k hk
  rcases h.2 with ⟨rfl, _⟩ | ⟨g1, cap, cur, rfl, _, hh, _⟩
  · simp [Value.ownBlock] at hk
  · have a1 : g1 = k := by simpa [Value.ownBlock] using hk
    subst a1
    exact own_blk_ne h' hh (Ne.symm hne)
theorem ne_string_tongue : 9 ≠ 26 := by decide
theorem ne_int_tongue : 3 ≠ 26 := by decide
theorem ne_string_int : 9 ≠ 3 := by decide

/-- While a tongue is drawn in world w: the reader at g, read q times; the tongue t in its cell b with the slices v1, v2, v3. -/
structure DSt (w : World) (g : Nat) (wx : World) (b : Nat) (t : Tg) (v1 v2 v3 : Value) (q : Nat) : Prop where
  blk : Blk wx b 26 #[v1, v2, v3]
  ge : w.heap.size < b
  o1 : OwnStrs wx w.heap.size v1 t.us
  o2 : OwnI wx w.heap.size v2 t.bs
  o3 : OwnStrs wx w.heap.size v3 t.ns
  ap : ∀ k, v1.ownBlock = some k → v3.ownBlock ≠ some k
  rd : Rd wx g q
  gr : w.grownBy wx (some g)
  glt : g < w.heap.size
  res : Blk wx w.heap.size 26 #[.slice none 0 0, .slice none 0 0, .slice none 0 0]

theorem own_kept {w w' : World} {B n : Nat} {e : TypeId} {v : Value} {xs : List Value} {row : Option Nat} (h : w.ownsRow B e 1 v n xs) (hg : w.grownBy w' row) (hrow : ∀ r, row = some r → r < B ∨ w.heap.size ≤ r) : w'.ownsRow B e 1 v n xs := by
  refine h.kept hg ?_
  cases hv : v.ownBlock with
  | none => exact .inl rfl
  | some k =>
    refine .inr fun e => ?_
    have h1 := h.lt k hv
    rcases hrow k e.symm with h3 | h3 <;> omega

section
variable {w wx w' : World} {g b q : Nat} {t : Tg} {v1 v2 v3 : Value}
/-- The reader has been read, or nothing old has turned. -/
theorem DSt.kept {row : Option Nat} (h : DSt w g wx b t v1 v2 v3 q) {q' : Nat} (hr : Rd w' g q') (hg : wx.grownBy w' row) (hrow : ∀ r, row = some r → r = g ∨ wx.heap.size ≤ r) : DSt w g w' b t v1 v2 v3 q' := by
  have hn : ∀ {v : Value} {e : TypeId} {n : Nat} {xs : List Value}, wx.ownsRow w.heap.size e 1 v n xs → w'.ownsRow w.heap.size e 1 v n xs := fun ho => own_kept ho hg (fun r e => by
    have h2 := h.glt
    rcases hrow r e with h3 | h3
    · exact .inl (by omega)
    · exact .inr h3)
  refine ⟨h.blk.grown hg fun e => ?_, h.ge, hn h.o1, hn h.o2, hn h.o3, h.ap, hr, ⟨hg.os.trans h.gr.os, hg.tape.trans h.gr.tape, hg.output.trans h.gr.output, Nat.le_trans h.gr.size hg.size, fun k hk hne => (hg.block k (Nat.lt_of_lt_of_le hk h.gr.size) fun e => ?_).trans (h.gr.block k hk hne)⟩, h.glt, h.res.grown hg fun e => ?_⟩
  · have h2 := h.glt; have h4 := h.ge; have h5 := h.blk.lt
    rcases hrow b e.symm with h3 | h3 <;> omega
  · rcases hrow k e.symm with h3 | h3
    · exact hne (by rw [h3])
    · have := h.gr.size; omega
  · have h2 := h.glt; have h5 := h.res.lt
    rcases hrow _ e.symm with h3 | h3 <;> omega
theorem DSt.pick (h : DSt w g wx b t v1 v2 v3 q) (hr : Rd w' g (q+1)) (hg : wx.grownBy w' (some g)) : DSt w g w' b t v1 v2 v3 (q+1) := h.kept hr hg (fun r e => .inl (by cases e; rfl))
theorem DSt.alloc (h : DSt w g wx b t v1 v2 v3 q) (o : Obj) : DSt w g (wx.alloc o) b t v1 v2 v3 q := h.kept (row := none) (h.rd.alloc' o) (grown_of_below none ((Below.refl _ _).alloc (Nat.le_refl _) _)) (by simp)
theorem DSt.drew (h : DSt w g wx b t v1 v2 v3 q) : DSt w g wx.drew b t v1 v2 v3 q := h.kept (row := none) h.rd.drew (grown_of_below none (Below.refl _ _).drew) (by simp)
theorem DSt.drewN (h : DSt w g wx b t v1 v2 v3 q) (m : Nat) : DSt w g (wx.drewN m) b t v1 v2 v3 q := h.kept (row := none) (h.rd.drewN m) (grown_of_below none (below_drewN (Below.refl _ _) m)) (by simp)
theorem DSt.below (h : DSt w g wx b t v1 v2 v3 q) (hb : Below wx.heap.size wx w') : DSt w g w' b t v1 v2 v3 q := h.kept (row := none) (h.rd.below hb (Nat.le_refl _)) (grown_of_below none hb) (by simp)
/-- A cell of the tongue is written. -/
theorem grown_set {a : World} (h : w.grownBy a (some g)) {b i : Nat} (hb : w.heap.size ≤ b) (u : Value) : w.grownBy (a.setCell ⟨b, i, none⟩ u) (some g) :=
  ⟨h.os, h.tape, h.output, by simpa [World.setCell] using h.size, fun k hk hne => (Below.heap_setCell a ⟨b, i, none⟩ u k (fun e => by subst e; exact absurd hk (Nat.not_lt.2 hb))).trans (h.block k hk hne)⟩
theorem rd_set {a : World} (h : Rd a g q) {b i : Nat} (hb : g < b) (u : Value) : Rd (a.setCell ⟨b, i, none⟩ u) g q := by
  obtain ⟨A, n, c, xs, hb1, hi, hn, hx, ha⟩ := h.ex
  have hg : a.grownBy (a.setCell ⟨b, i, none⟩ u) (some b) := grown_setCell a b i u
  exact ⟨A, n, c, xs, hb1.grown hg (fun e => by cases e; omega), hi.grown hg (fun h0 b' o e e2 => by cases e2; have := ha h0 _ o e; omega), hn, hx, ha⟩
theorem own_set {a : World} {B b i n : Nat} {e : TypeId} {v u : Value} {xs : List Value} (h : a.ownsRow B e 1 v n xs) (hne : v.ownBlock ≠ some b) : (a.setCell ⟨b, i, none⟩ u).ownsRow B e 1 v n xs :=
  h.kept (grown_setCell a b i u) (by
    cases hv : v.ownBlock with
    | none => exact .inl rfl
    | some k => exact .inr fun e => hne (by rw [hv, e]))
/-- The row of the units has grown, and its slice is stored. -/
theorem DSt.app1 (h : DSt w g wx b t v1 v2 v3 q) {v1' : Value} {us : List ByteArray} (ho : OwnStrs w' w.heap.size v1' us) (hg : wx.grownBy w' v1.ownBlock) (hat : v1'.ownBlock = v1.ownBlock ∨ v1'.ownBlock = some wx.heap.size) :
    DSt w g (w'.setCell ⟨b, 0, none⟩ v1') b ⟨us, t.bs, t.ns⟩ v1' v2 v3 q := by
  have hglt := h.glt
  have hge := h.ge
  have n1 := own_blk_ne h.o1 h.blk ne_string_tongue
  have n1' := own_blk_ne h.o1 h.res ne_string_tongue
  have hB := h.blk.grown hg (Ne.symm n1)
  have hR := h.res.grown hg (Ne.symm n1')
  have hr := rd_append (w := w) h.glt h.rd h.o1 hg
  have hgr := grown_append h.gr h.o1 hg
  have o2' : w'.ownsRow w.heap.size 3 1 v2 t.bs.length (t.bs.map (Value.int .i64)) := own_apart h.o2 h.o1 hg (own_type_ne h.o2 h.o1 (Ne.symm ne_string_int))
  have o3' : w'.ownsRow w.heap.size 9 1 v3 t.ns.length (t.ns.map Value.string) := own_apart h.o3 h.o1 hg (fun k hk e => h.ap k e hk)
  have m1 := own_blk_ne ho hB ne_string_tongue
  have m2 := own_blk_ne o2' hB ne_int_tongue
  have m3 := own_blk_ne o3' hB ne_string_tongue
  have hblt := hB.lt
  refine ⟨?_, hge, own_set ho m1, own_set o2' m2, own_set o3' m3, fun k hk e => ?_, rd_set hr (by omega) _, grown_set hgr (by omega) _, hglt, hR.far (by show w.heap.size ≠ b; omega) _⟩
  · have := hB.set_ 0 v1'
    simpa using this
  · rcases hat with h1 | h1
    · exact h.ap k (by rw [← h1]; exact hk) e
    · rw [h1] at hk; cases hk
      have := (h.o3.lt _ e).2; omega
theorem DSt.mid1 (h : DSt w g wx b t v1 v2 v3 q) (hg : wx.grownBy w' v1.ownBlock) : Blk w' b 26 #[v1, v2, v3] := h.blk.grown hg (Ne.symm (own_blk_ne h.o1 h.blk ne_string_tongue))
theorem DSt.mid3 (h : DSt w g wx b t v1 v2 v3 q) (hg : wx.grownBy w' v3.ownBlock) : Blk w' b 26 #[v1, v2, v3] := h.blk.grown hg (Ne.symm (own_blk_ne h.o3 h.blk ne_string_tongue))
theorem DSt.mid2 (h : DSt w g wx b t v1 v2 v3 q) (hg : wx.grownBy w' v2.ownBlock) : Blk w' b 26 #[v1, v2, v3] := h.blk.grown hg (Ne.symm (own_blk_ne h.o2 h.blk ne_int_tongue))
/-- What an append of one string leaves. -/
theorem own_snoc {w : World} {B n : Nat} {v : Value} {us : List ByteArray} {x : ByteArray} (h : w.ownsRow B 9 1 v n (us.map Value.string ++ [.string x])) : OwnStrs w B v (us ++ [x]) := by
  have hl := h.1
  have e : n = (us ++ [x]).length := by simpa using hl.symm
  subst e
  unfold OwnStrs
  rw [List.map_append]
  exact h
theorem own_snoc2 {w : World} {B n m : Nat} {v : Value} {us : List ByteArray} {x : ByteArray} (h : w.ownsRow B 9 1 v n (us.map Value.string ++ [.string x])) (hus : ∀ y ∈ us, y.size ≤ m) (hx : x.size ≤ m) : ∃ u', OwnStrs w B v u' ∧ u'.length = us.length + 1 ∧ ∀ y ∈ u', y.size ≤ m :=
  ⟨us ++ [x], own_snoc h, by simp, fun y hy => by
    rcases List.mem_append.1 hy with h1 | h1
    · exact hus y h1
    · simp at h1; subst h1; exact hx⟩
theorem own_snocI {w : World} {B n : Nat} {v : Value} {bs : List Int} {x : Int} (h : w.ownsRow B 3 1 v n (bs.map (Value.int .i64) ++ [.int .i64 x])) (hbs : ∀ y ∈ bs, -10000000 ≤ y ∧ y ≤ 10000000) (hx : -10000000 ≤ x ∧ x ≤ 10000000) : ∃ b', OwnI w B v b' ∧ b'.length = bs.length + 1 ∧ ∀ y ∈ b', -10000000 ≤ y ∧ y ≤ 10000000 :=
  ⟨bs ++ [x], by
    have hl := h.1
    have e : n = (bs ++ [x]).length := by simpa using hl.symm
    subst e
    unfold OwnI
    rw [List.map_append]
    exact h, by simp, fun y hy => by
    rcases List.mem_append.1 hy with h1 | h1
    · exact hbs y h1
    · simp at h1; subst h1; exact hx⟩
/-- .. of the names. -/
theorem DSt.app3 (h : DSt w g wx b t v1 v2 v3 q) {v3' : Value} {ns : List ByteArray} (ho : OwnStrs w' w.heap.size v3' ns) (hg : wx.grownBy w' v3.ownBlock) (hat : v3'.ownBlock = v3.ownBlock ∨ v3'.ownBlock = some wx.heap.size) :
    DSt w g (w'.setCell ⟨b, 2, none⟩ v3') b ⟨t.us, t.bs, ns⟩ v1 v2 v3' q := by
  have hglt := h.glt
  have hge := h.ge
  have n1 := own_blk_ne h.o3 h.blk ne_string_tongue
  have n1' := own_blk_ne h.o3 h.res ne_string_tongue
  have hB := h.blk.grown hg (Ne.symm n1)
  have hR := h.res.grown hg (Ne.symm n1')
  have hr := rd_append (w := w) h.glt h.rd h.o3 hg
  have hgr := grown_append h.gr h.o3 hg
  have o2' : w'.ownsRow w.heap.size 3 1 v2 t.bs.length (t.bs.map (Value.int .i64)) := own_apart h.o2 h.o3 hg (own_type_ne h.o2 h.o3 (Ne.symm ne_string_int))
  have o1' : w'.ownsRow w.heap.size 9 1 v1 t.us.length (t.us.map Value.string) := own_apart h.o1 h.o3 hg h.ap
  have m1 := own_blk_ne ho hB ne_string_tongue
  have m2 := own_blk_ne o2' hB ne_int_tongue
  have m3 := own_blk_ne o1' hB ne_string_tongue
  have hblt := hB.lt
  refine ⟨?_, hge, own_set o1' m3, own_set o2' m2, own_set ho m1, fun k hk e => ?_, rd_set hr (by omega) _, grown_set hgr (by omega) _, hglt, hR.far (by show w.heap.size ≠ b; omega) _⟩
  · have := hB.set_ 2 v3'
    simpa using this
  · rcases hat with h1 | h1
    · exact h.ap k hk (by rw [← h1]; exact e)
    · rw [h1] at e; cases e
      have := (h.o1.lt _ hk).2; omega
/-- .. of the bases. -/
theorem DSt.app2 (h : DSt w g wx b t v1 v2 v3 q) {v2' : Value} {bs : List Int} (ho : OwnI w' w.heap.size v2' bs) (hg : wx.grownBy w' v2.ownBlock) :
    DSt w g (w'.setCell ⟨b, 1, none⟩ v2') b ⟨t.us, bs, t.ns⟩ v1 v2' v3 q := by
  have hglt := h.glt
  have hge := h.ge
  have n1 := own_blk_ne h.o2 h.blk ne_int_tongue
  have n1' := own_blk_ne h.o2 h.res ne_int_tongue
  have hB := h.blk.grown hg (Ne.symm n1)
  have hR := h.res.grown hg (Ne.symm n1')
  have hr := rd_append (w := w) h.glt h.rd h.o2 hg
  have hgr := grown_append h.gr h.o2 hg
  have o3' : w'.ownsRow w.heap.size 9 1 v3 t.ns.length (t.ns.map Value.string) := own_apart h.o3 h.o2 hg (own_type_ne h.o3 h.o2 ne_string_int)
  have o1' : w'.ownsRow w.heap.size 9 1 v1 t.us.length (t.us.map Value.string) := own_apart h.o1 h.o2 hg (own_type_ne h.o1 h.o2 ne_string_int)
  have m1 := own_blk_ne ho hB ne_int_tongue
  have m2 := own_blk_ne o3' hB ne_string_tongue
  have m3 := own_blk_ne o1' hB ne_string_tongue
  have hblt := hB.lt
  refine ⟨?_, hge, own_set o1' m3, own_set ho m1, own_set o3' m2, h.ap, rd_set hr (by omega) _, grown_set hgr (by omega) _, hglt, hR.far (by show w.heap.size ≠ b; omega) _⟩
  have := hB.set_ 1 v2'
  simpa using this
/-- The first unit is another one. -/
theorem DSt.set0 {gb cap n : Nat} (h : DSt w g wx b t (.slice (some ⟨gb, 0, none⟩) n cap) v2 v3 q) (x : ByteArray) :
    DSt w g (wx.setCell ⟨gb, 0, none⟩ (.string x)) b ⟨t.us.set 0 x, t.bs, t.ns⟩ (.slice (some ⟨gb, 0, none⟩) n cap) v2 v3 q := by
  have hl := h.o1.lt gb rfl
  have hglt := h.glt
  have n1 := own_blk_ne h.o1 h.blk ne_string_tongue
  have n1' := own_blk_ne h.o1 h.res ne_string_tongue
  have e1 : n = t.us.length := by
    rcases h.o1.2 with ⟨e, _⟩ | ⟨g', cap', cur, e, _⟩
    · cases e
    · injection e
  subst e1
  have ho := (World.ownsRow.stored h.o1 0 (.string x)).1
  have hne : b ≠ gb := fun e => n1 (by rw [e]; rfl)
  have hne' : w.heap.size ≠ gb := fun e => n1' (by rw [e]; rfl)
  refine ⟨h.blk.far hne _, h.ge, ?_, own_set h.o2 (fun e => own_type_ne h.o1 h.o2 ne_string_int gb rfl e), own_set h.o3 (fun e => h.ap gb rfl e), h.ap, rd_set h.rd (by omega) _, grown_set h.gr (by omega) _, hglt, h.res.far hne' _⟩
  show World.ownsRow _ _ _ _ _ _ _
  rw [List.length_set, List.map_set]
  exact ho
end
/-- Bases of 1 alone, and no words. -/
theorem DSt.reset {w wx : World} {g b q : Nat} {t : Tg} {v1 v2 v3 : Value} (h : DSt w g wx b t v1 v2 v3 q) :
    DSt w g ((((wx.setCell ⟨b, 0, none⟩ (.slice none 0 0)).setCell ⟨b, 1, none⟩ (.slice (some ⟨wx.heap.size, 0, none⟩) 1 1)).setCell ⟨b, 2, none⟩ (.slice none 0 0)).alloc (.cells #[.int .i64 1] 3)) b ⟨[], [1], []⟩ (.slice none 0 0) (.slice (some ⟨wx.heap.size, 0, none⟩) 1 1) (.slice none 0 0) q := by
  have hge := h.ge
  have hglt := h.glt
  have hbl := h.blk.lt
  have hB := (((h.blk.set_ 0 (.slice none 0 0)).set_ 1 (.slice (some ⟨wx.heap.size, 0, none⟩) 1 1)).set_ 2 (.slice none 0 0)).alloc (.cells #[.int .i64 1] 3)
  have hw0 : w.heap.size ≠ b := by omega
  have hsz : (((wx.setCell ⟨b, 0, none⟩ (.slice none 0 0)).setCell ⟨b, 1, none⟩ (.slice (some ⟨wx.heap.size, 0, none⟩) 1 1)).setCell ⟨b, 2, none⟩ (.slice none 0 0)).heap.size = wx.heap.size := by simp [World.setCell]
  have ho : ((((wx.setCell ⟨b, 0, none⟩ (.slice none 0 0)).setCell ⟨b, 1, none⟩ (.slice (some ⟨wx.heap.size, 0, none⟩) 1 1)).setCell ⟨b, 2, none⟩ (.slice none 0 0)).alloc (.cells #[.int .i64 1] 3)).ownsRow w.heap.size 3 1 (.slice (some ⟨wx.heap.size, 0, none⟩) 1 1) 1 [.int .i64 1] := owns_blk (blk_new_at _ hsz) rfl (by have := h.gr.size; omega) (by unfold maxLen; omega)
  have hgr := grown_set (grown_set (grown_set h.gr (show w.heap.size ≤ b by omega) (i := 0) (.slice none 0 0)) (show w.heap.size ≤ b by omega) (i := 1) (.slice (some ⟨wx.heap.size, 0, none⟩) 1 1)) (show w.heap.size ≤ b by omega) (i := 2) (.slice none 0 0)
  exact ⟨by simpa using hB, h.ge, owns_none _ _ _, ho, owns_none _ _ _, fun k hk => by simp [Value.ownBlock] at hk,
    (rd_set (rd_set (rd_set h.rd (by omega) _) (by omega) _) (by omega) _).alloc' _,
    hgr.trans (grown_of_below _ ((Below.refl _ _).alloc (Nat.le_refl _) _)), hglt, (((h.res.far hw0 _).far hw0 _).far hw0 _).alloc _⟩
abbrev zeroTng : Obj := .cells #[.slice none 0 0, .slice none 0 0, .slice none 0 0] 26
theorem DSt.start {w w1 w2 : World} {g p : Nat} {t : Tg} {v1 v2 v3 : Value} (hr : Rd w g p) (hr1 : Rd w1 g (p+1)) (hg1 : (w.alloc zeroTng).grownBy w1 (some g)) (ho : OwnTng w2 w1.heap.size (.agg #[v1, v2, v3]) t) (hb : Below w1.heap.size w1 w2) :
    DSt w g (w2.alloc (.cells #[v1, v2, v3] 26)) w2.heap.size t v1 v2 v3 (p+1) := by
  have hz : w.heap.size < w1.heap.size := by have := hg1.size; simp at this; omega
  have hglt := hr.lt
  have hB := (Below.refl w2.heap.size w2).alloc (Nat.le_refl _) (.cells #[v1, v2, v3] 26)
  obtain ⟨u1, u2, u3, e, o1, o2, o3, ap⟩ := (ho.below hB (Nat.le_refl _)).ex
  cases e
  have hR : Blk w1 w.heap.size 26 #[.slice none 0 0, .slice none 0 0, .slice none 0 0] := (Blk.new w _ _).grown hg1 (by simp; omega)
  exact ⟨Blk.new _ _ _, by have := hb.size; omega, o1.mono (by omega), o2.mono (by omega), o3.mono (by omega), ap, (hr1.below hb (Nat.le_refl _)).alloc' _,
    ⟨hB.os.trans (hb.os.trans hg1.os), hB.tape.trans (hb.tape.trans hg1.tape), hB.output.trans (hb.output.trans hg1.output), by have := hb.size; simp; omega, fun k hk hne => (hB.block k (by have := hb.size; omega)).trans ((hb.block k (by omega)).trans ((hg1.block k (by simp; omega) hne).trans (Below.heap_alloc w _ k hk)))⟩, hglt, (hR.below hb hz).alloc _⟩
end Go.Proofs.Ytjnlpknjdclalaa

/- DTngB -/
namespace Go.Proofs.Ytjnlpknjdclalaa
open Go.RowKit

/-- A drawn tongue is returned. -/
def RetDrawn (w : World) (g p : Nat) (e : Ending) (w' : World) : Prop := ∃ v t q, e = .returned v ∧ OwnTng w' w.heap.size v t ∧ SmallT 40 t ∧ Rd w' g q ∧ q ≤ p + 20 ∧ w.grownBy w' (some g)
theorem pick3 (a0 a1 a2 : ByteArray) (m kk : Nat) (hk : kk < 3) (h0 : a0.size ≤ m) (h1 : a1.size ≤ m) (h2 : a2.size ≤ m) : ∃ y : ByteArray, (#[Value.string a0, Value.string a1, Value.string a2] : Array Value)[kk]? = some (.string y) ∧ y.size ≤ m ∧ [Value.string a0, Value.string a1, Value.string a2][kk]'(by simpa using hk) = .string y := by
  match kk, hk with
  | 0, _ => exact ⟨a0, rfl, h0, rfl⟩
  | 1, _ => exact ⟨a1, rfl, h1, rfl⟩
  | 2, _ => exact ⟨a2, rfl, h2, rfl⟩
theorem pick2 (a0 a1 : ByteArray) (m kk : Nat) (hk : kk < 2) (h0 : a0.size ≤ m) (h1 : a1.size ≤ m) : ∃ y : ByteArray, (#[Value.string a0, Value.string a1] : Array Value)[kk]? = some (.string y) ∧ y.size ≤ m ∧ [Value.string a0, Value.string a1][kk]'(by simpa using hk) = .string y := by
  match kk, hk with
  | 0, _ => exact ⟨a0, rfl, h0, rfl⟩
  | 1, _ => exact ⟨a1, rfl, h1, rfl⟩
theorem SmallT.mono {t : Tg} {m m' : Nat} (h : SmallT m t) (hm : m ≤ m') : SmallT m' t := ⟨Nat.le_trans h.us hm, Nat.le_trans h.bs hm, Nat.le_trans h.ns hm, h.fit, h.size⟩
theorem DSt.finish {w wx : World} {g b q p : Nat} {t : Tg} {v1 v2 v3 : Value} (h : DSt w g wx b t v1 v2 v3 q) (hs : SmallT 40 t) (hq : q ≤ p + 20) :
    RetDrawn w g p (.returned (.agg #[v1, v2, v3])) (((wx.setCell ⟨w.heap.size, 0, none⟩ v1).setCell ⟨w.heap.size, 1, none⟩ v2).setCell ⟨w.heap.size, 2, none⟩ v3) := by
  have m1 := own_blk_ne h.o1 h.res ne_string_tongue
  have m2 := own_blk_ne h.o2 h.res ne_int_tongue
  have m3 := own_blk_ne h.o3 h.res ne_string_tongue
  have hglt := h.glt
  exact ⟨_, t, q, rfl, (show OwnTng _ w.heap.size (.agg #[v1, v2, v3]) t from ⟨v1, v2, v3, rfl, own_set (own_set (own_set h.o1 m1) m1) m1, own_set (own_set (own_set h.o2 m2) m2) m2, own_set (own_set (own_set h.o3 m3) m3) m3, h.ap⟩), hs,
    rd_set (rd_set (rd_set h.rd hglt _) hglt _) hglt _, hq, grown_set (grown_set (grown_set h.gr (Nat.le_refl _) _) (Nat.le_refl _) _) (Nat.le_refl _) _⟩
theorem DSt.finish0 {w wx : World} {g b q p : Nat} {t : Tg} {v1 v2 v3 : Value} (h : DSt w g wx b t v1 v2 v3 q) (hq : q ≤ p + 20) :
    RetDrawn w g p (.returned (.agg #[.slice none 0 0, .slice none 0 0, .slice none 0 0])) (((wx.setCell ⟨w.heap.size, 0, none⟩ (.slice none 0 0)).setCell ⟨w.heap.size, 1, none⟩ (.slice none 0 0)).setCell ⟨w.heap.size, 2, none⟩ (.slice none 0 0)) :=
  ⟨_, noTg, q, rfl, own_noTg _ _, ⟨Nat.zero_le _, Nat.zero_le _, Nat.zero_le _, by simp [noTg], by simp [noTg]⟩,
    rd_set (rd_set (rd_set h.rd h.glt _) h.glt _) h.glt _, hq, grown_set (grown_set (grown_set h.gr (Nat.le_refl _) _) (Nat.le_refl _) _) (Nat.le_refl _) _⟩
theorem RetDrawn.alloc' {w w' : World} {g p : Nat} {e : Ending} (h : RetDrawn w g p e w') (o : Obj) : RetDrawn w g p e (w'.alloc o) := by
  obtain ⟨v, t, q, he, ht, hs, hr, hq, hg⟩ := h
  exact ⟨v, t, q, he, ht.below ((Below.refl _ _).alloc (Nat.le_refl _) _) (Nat.le_refl _), hs, hr.alloc' _, hq, hg.trans (grown_of_below _ ((Below.refl _ _).alloc (Nat.le_refl _) _))⟩
/-- Some tongue, while it is drawn. -/
def Mid (w : World) (g p : Nat) (wx : World) (b : Nat) : Prop := ∃ t v1 v2 v3 q, DSt w g wx b t v1 v2 v3 q ∧ SmallT 25 t ∧ 1 ≤ t.us.length ∧ q ≤ p + 12

set_option maxRecDepth 100000 in
set_option maxHeartbeats 16000000 in
theorem drawn_any (g p : Nat) (n : Int) (w : World) (h : Rd w g p) (hp : p ≤ 1000) (hn : 1 ≤ n) (hn' : n ≤ 1000) :
    Calls Try.prog 53 #[.pointer (some ⟨g, 0, none⟩), .int .i64 n] w (RetDrawn w g p) := by
  obtain ⟨is0, his, hzs0, hzs1, hzs2⟩ := info_parts str_info
  obtain ⟨ii0, hii, hzi0, hzi1, hzi2⟩ := info_parts int_info0
  have HR := Lib.hid h
  have HP := Lib.hid (pick_any g p 6 (w.alloc zeroTng) (h.alloc' _) (by omega) (by omega) (by omega))
  clear h
  go_enter Try.func53, Try.ntmps53
  go_wp2_with (fail)
  refine HP.out.mono ?_
  rintro e w1 ⟨k1, rfl, hk1, hr1, hg1, -⟩
  clear HP
  replace hr1 := Lib.hid hr1
  replace hg1 := Lib.hid hg1
  go_wp2_with (fail)
  refine (tongues_any k1 w1).mono ?_
  rintro e w2 ⟨v, t, rfl, ho, hsm, hu1, hb⟩
  obtain ⟨v1, v2, v3, rfl, o1, o2, o3, hap⟩ := ho.ex
  obtain ⟨A1, c1, rfl, -⟩ := o1.strs
  obtain ⟨A2, c2, rfl, -⟩ := o2.ints
  obtain ⟨A3, c3, rfl, -⟩ := o3.strs
  have HD := DSt.start HR.out hr1.out hg1.out ho hb
  have HSM := Lib.hid (And.intro hsm hu1)
  have hPk := fun W q (hr : Rd W g q) (hq : q ≤ 5000) (m : Int) (hm : 1 ≤ m) (hm' : m ≤ 1000) => pick_any g q m W hr (by omega) (by omega) (by omega)
  replace hPk := Lib.hid hPk
  replace HD := Lib.hid HD
  have hws : w.heap.size < w2.heap.size := HD.out.ge
  clear hr1 hg1 ho hsm hb hap o1 o2 o3 HR
  go_upto_region 2 with (fail)
  generalize hW3 : w2.alloc (.cells #[.slice A1 t.us.length c1, .slice A2 t.bs.length c2, .slice A3 t.ns.length c3] 26) = W3 at *
  generalize w2.heap.size = b at *
  clear hW3
  go_wp2_with (fail)
  refine (hPk.out _ _ HD.out.rd (by omega) 4 (by omega) (by omega)).mono ?_
  rintro e W4 ⟨k2, rfl, hk2, hr2, hg2, -⟩
  have HD4 := Lib.hid (HD.out.pick hr2 hg2)
  go_upto_if 13 with (fail)
  go_cut [6, 7] (fun s6 s7 wx => Mid w g p wx b)
  case first =>
    by_cases hk0 : k2 = 0
    · subst hk0
      have hb5 := HD4.out.blk
      obtain ⟨z0, z1, z2, f0, f1, f2⟩ := blk3 hb5
      have hbW : b < W4.heap.size := hb5.lt
      have hbeq : ((0 : Int) == 0) = true := rfl
      go_upto_region 4 with (fail)
      have HD5 := Lib.hid HD4.out.reset
      clear hb5 z0 z1 z2 f0 f1 f2 hbW hbeq hk2 hr2 hg2
      generalize hA5 : W4.heap.size = a5 at *
      generalize (((W4.setCell ⟨b, 0, none⟩ (.slice none 0 0)).setCell ⟨b, 1, none⟩ (.slice (some ⟨a5, 0, none⟩) 1 1)).setCell ⟨b, 2, none⟩ (.slice none 0 0)).alloc (.cells #[.int .i64 1] 3) = W5 at *
      clear hA5
      go_wp2_with (fail)
      refine (hPk.out _ _ HD5.out.rd (by omega) 4 (by omega) (by omega)).mono ?_
      rintro e W6 ⟨k3, rfl, hk3, hr6, hg6, -⟩
      have HD6 := Lib.hid (HD5.out.pick hr6 hg6)
      obtain ⟨M, hM, hM1, hM4⟩ : ∃ M : Nat, 1 + k3 = (M : Int) ∧ 1 ≤ M ∧ M ≤ 4 := ⟨(1 + k3).toNat, by omega, by omega, by omega⟩
      clear HD4 HD5 hr6 hg6
      have hw3 : IntKind.i64.wrap (1 + k3) = (M : Int) := by rw [← hM]; exact IntWalk.i64_in _ (by omega)
      have hk3a := hk3.1
      have hk3b : k3 ≤ 3 := by omega
      replace hM := Lib.hid hM
      go_wp2
      go_loopw [7] (fun s7 wr => ∃ (j q : Nat) (us : List ByteArray) (v1 v2 v3 : Value), j ≤ M ∧ s7 = .int .i64 j ∧ DSt w g wr b ⟨us, [1], []⟩ v1 v2 v3 q ∧ us.length = j ∧ (∀ x ∈ us, x.size ≤ 16) ∧ q ≤ p + 3 + j) (fun s7 _ => M - (intOf s7).toNat)
      case atStart => exact ⟨0, _, [], _, _, _, Nat.zero_le _, rfl, HD6.out, rfl, by simp, by omega⟩
      case round =>
        obtain ⟨_, q, us, v1, v2, v3, hj, rfl, hd, rfl, hus, hq⟩ := hrel
        by_cases hlt : us.length < M
        · have hX := hd.blk
          obtain ⟨B1, d1, rfl, -⟩ := hd.o1.strs
          obtain ⟨z0, z1, z2, f0, f1, f2⟩ := blk3 hX
          have hbW : b < wr.heap.size := hX.lt
          have e1 : IntKind.i64.wrap ((us.length : Int) + 1) = (us.length : Int) + 1 := IntWalk.i64_in _ (by omega)
          have e2 : (0 : Int) ≤ (us.length : Int) := by omega
          have e3 : (us.length : Int) ≤ (us.length : Int) + 1 := by omega
          have e4 : (us.length : Int) + 1 ≤ 8 := by omega
          replace hd := Lib.hid hd
          have k1 := Lib.hid (show us.length + 1 ≤ maxLen by unfold maxLen; omega)
          have k2 := Lib.hid (show (us.length + 1) * 16 ≤ 140737488355328 by omega)
          clear hX
          go_wp2
          go_region_law (first
              | (refine step_app _ (by rfl) (.tmp 25) (.tmp 36) _ (by rfl) w.heap.size 9 is0 _ 16 Try.underlying23 his hzs0 hzs1 hzs2 rfl (.slice B1 us.length d1) us.length (us.map Value.string) (by rfl) (by first | exact (HD7.out.alloc _).o1 | exact ((HD7.out.alloc _).alloc _).o1) (some ⟨_, 0, none⟩) 1 1 [.string _] (by rfl) (Src.one (blk_new_at _ (by simp)) rfl) k1.out k2.out (by have := HD7.out.gr.size; simp; omega) ?_; intro v8 w8 ho8 hg8 hat8; obtain ⟨u8, hu8, hul8, hus8⟩ := own_snoc2 ho8 hus (by simp [ByteArray.size_append, ByteArray.size_extract]; omega); obtain ⟨B8, d8, rfl, -⟩ := hu8.strs; have HD8 := (by first | exact (HD7.out.alloc _).app1 hu8 hg8 hat8 | exact ((HD7.out.alloc _).alloc _).app1 hu8 hg8 hat8); replace hul8 := Lib.hid hul8; obtain ⟨z08, -, -, f08, -, -⟩ := blk3 (by first | exact (HD7.out.alloc _).mid1 hg8 | exact ((HD7.out.alloc _).alloc _).mid1 hg8); replace HD8 := Lib.hid HD8; clear ho8 hu8 hg8 hat8)
              | (go_simp; go_at_call 54; refine (hPk.out _ q (by first | exact hd.out.drew.rd | exact (hd.out.alloc _).drew.rd) (by omega) 3 (by omega) (by omega)).mono ?_; rintro e W7 ⟨k7, rfl, hk7, hr7, hg7, -⟩; obtain ⟨kk, rfl⟩ : ∃ kk : Nat, k7 = (kk : Int) := ⟨k7.toNat, by omega⟩; have hkk : kk < 3 := (by omega); obtain ⟨y, hy, hys, hy2⟩ := pick3 ⟨#[]⟩ ⟨#[97]⟩ ⟨#[98]⟩ 1 kk hkk (by decide) (by decide) (by decide); have HD7 := (by first | exact (hd.out.drew.pick hr7 hg7) | exact ((hd.out.alloc _).drew.pick hr7 hg7)); (try have hc7 : W7.cell? ⟨wr.heap.size, kk, none⟩ = some (.string y) := (((Blk.new wr _ _).drew.grown hg7 (fun e => by have e' := Option.some.inj e; have := hd.out.gr.size; have := hd.out.glt; omega)).cell kk).trans hy); obtain ⟨z0', -, -, f0', -, -⟩ := blk3 HD7.blk; have hbW7 : b < W7.heap.size := HD7.blk.lt; have hkk1 : (kk : Int) < 3 := (by omega); have hkk0 : (0 : Int) ≤ (kk : Int) := (by omega); have hcat : ¬ (9223372036854775807 < min (us.length + 1) 8 - us.length + y.size) := (by omega); replace HD7 := Lib.hid HD7; clear hr7 hg7 hk7))
          all_goals
            clear z0 z1 z2 f0 f1 f2 hbW z0' f0' hbW7 z08 f08 e1 e2 e3 e4 hcat hkk0 hkk1 hy hy2 HD7 hd
            go_wp2
            go_roundw
            case rel => exact ⟨u8.length, q+1, u8, _, _, _, by rw [hul8.out]; omega, by rw [hul8.out]; go_num, HD8.out, rfl, hus8, by rw [hul8.out]; omega⟩
            case measure => simp [intOf]; omega
        · have hlM : us.length = M := by omega
          replace hlM := Lib.hid hlM
          replace hd := Lib.hid hd
          go_wp2_with (fail)
          refine (hPk.out _ q hd.out.rd (by omega) 2 (by omega) (by omega)).mono ?_
          rintro e W9 ⟨k9, rfl, hk9, hr9, hg9, -⟩
          have HD9 := Lib.hid (hd.out.pick hr9 hg9)
          clear hd hr9 hg9
          by_cases hk90 : k9 = 0
          · subst hk90
            have hbeq : ((0 : Int) == 0) = true := rfl
            have hX9 := HD9.out.blk
            obtain ⟨B2, d2, rfl, -⟩ := HD9.out.o2.ints
            obtain ⟨B3, d3, rfl, -⟩ := HD9.out.o3.strs
            obtain ⟨z0, z1, z2, f0, f1, f2⟩ := blk3 hX9
            have hbW : b < W9.heap.size := hX9.lt
            have e1 : IntKind.i64.wrap ((M : Int) + 1) = (M : Int) + 1 := IntWalk.i64_in _ (by omega)
            clear hX9
            simp only [List.length_cons, List.length_nil, Nat.zero_add] at z1 z2
            go_wp2_with (at_builtin; refine wpList_app _ rfl (.tmp 43) (.tmp 46) _ rfl w.heap.size 3 ii0 _ 8 Try.underlying24 hii hzi0 hzi1 hzi2 rfl (.slice B2 1 d2) 1 ([1].map (Value.int .i64)) rfl (HD9.out.alloc _).o2 (some ⟨_, 0, none⟩) 1 1 [.int .i64 _] rfl (Src.one (blk_new_at _ rfl) rfl) (by unfold maxLen; omega) (by omega) (by have := HD9.out.gr.size; simp; omega) ?_; intro v10 w10 ho10 hg10 _; obtain ⟨b10, hb10, hbl10, hbf10⟩ := own_snocI ho10 (by simp) (by omega); obtain ⟨B10, d10, rfl, -⟩ := hb10.ints; obtain ⟨z010, z110, z210, f010, f110, f210⟩ := blk3 ((HD9.out.alloc _).mid2 hg10); have HD10 := Lib.hid ((HD9.out.alloc _).app2 hb10 hg10); replace hbl10 := Lib.hid hbl10; clear ho10 hb10 hg10)
            clear z0 z1 z2 f0 f1 f2 hbW
            replace hbf10 := Lib.hid hbf10
            generalize w10.setCell ⟨b, 1, none⟩ (.slice B10 b10.length d10) = W11 at *
            clear z010 z110 z210 f010 f110 f210
            obtain ⟨z0, z1, z2, f0, f1, f2⟩ := blk3 HD10.out.blk
            simp only [List.length_nil] at z2
            have hbW : b < W11.heap.size := HD10.out.blk.lt
            have k1 := Lib.hid (show 0 + 1 ≤ maxLen by unfold maxLen; omega)
            have k2 := Lib.hid (show (0 + 1) * 16 ≤ 140737488355328 by omega)
            go_region_law (first
              | (refine step_app _ (by rfl) (.tmp 50) (.tmp 57) _ (by rfl) w.heap.size 9 is0 _ 16 Try.underlying23 his hzs0 hzs1 hzs2 rfl (.slice B3 0 d3) 0 (([] : List ByteArray).map Value.string) (by rfl) (by first | exact (HD12.out.alloc _).o3 | exact ((HD12.out.alloc _).alloc _).o3) (some ⟨_, 0, none⟩) 1 1 [.string _] (by rfl) (Src.one (blk_new_at _ (by simp)) rfl) k1.out k2.out (by have := HD12.out.gr.size; simp; omega) ?_; intro v13 w13 ho13 hg13 hat13; obtain ⟨u13, hu13, hul13, hus13⟩ := own_snoc2 (m := 16) ho13 (by simp) (by rw [ByteArray.size_append]; show 1 + _ ≤ 16; omega); obtain ⟨B13, d13, rfl, -⟩ := hu13.strs; have HD13 := (by first | exact (HD12.out.alloc _).app3 hu13 hg13 hat13 | exact ((HD12.out.alloc _).alloc _).app3 hu13 hg13 hat13); replace hul13 := Lib.hid hul13; obtain ⟨z013, z113, z213, f013, f113, f213⟩ := blk3 (by first | exact (HD12.out.alloc _).mid3 hg13 | exact ((HD12.out.alloc _).alloc _).mid3 hg13); replace HD13 := Lib.hid HD13; clear ho13 hu13 hg13 hat13)
              | (go_simp; go_at_call 54; refine (hPk.out _ (q+1) (by first | exact HD10.out.drew.rd | exact (HD10.out.alloc _).drew.rd) (by omega) 2 (by omega) (by omega)).mono ?_; rintro e W12 ⟨k7, rfl, hk7, hr7, hg7, -⟩; obtain ⟨kk, rfl⟩ : ∃ kk : Nat, k7 = (kk : Int) := ⟨k7.toNat, by omega⟩; have hkk : kk < 2 := (by omega); obtain ⟨y, hy, hys, hy2⟩ := pick2 ⟨#[]⟩ ⟨#[97]⟩ 1 kk hkk (by decide) (by decide); have HD12 := (by first | exact (HD10.out.drew.pick hr7 hg7) | exact ((HD10.out.alloc _).drew.pick hr7 hg7)); (try have hc7 : W12.cell? ⟨W11.heap.size, kk, none⟩ = some (.string y) := (((Blk.new W11 _ _).drew.grown hg7 (fun e => by have e' := Option.some.inj e; have := HD10.out.gr.size; have := HD10.out.glt; omega)).cell kk).trans hy); obtain ⟨z0', z1', z2', f0', f1', f2'⟩ := blk3 HD12.blk; have hbW7 : b < W12.heap.size := HD12.blk.lt; have hkk1 : (kk : Int) < 2 := (by omega); have hkk0 : (0 : Int) ≤ (kk : Int) := (by omega); have hcat : ¬ (9223372036854775807 < 1 + y.size) := (by omega); replace HD12 := Lib.hid HD12; clear hr7 hg7 hk7))
            all_goals
              have HM13 : Mid w g p _ b := ⟨_, _, _, _, _, HD13.out, ⟨by show us.length ≤ 25; omega, by show b10.length ≤ 25; rw [hbl10.out]; simp, by show u13.length ≤ 25; rw [hul13.out]; simp, hbf10.out, fun x hx => by
                rcases List.mem_append.1 hx with h | h
                · exact hus x h
                · exact hus13 x h⟩, by show 1 ≤ us.length; omega, by omega⟩
              replace HM13 := Lib.hid HM13
              clear z0 z1 z2 f0 f1 f2 hbW z0' z1' z2' f0' f1' f2' hbW7 z013 z113 z213 f013 f113 f213 hcat hkk0 hkk1 hy hy2 HD12 HD10 HD9 HD13
              go_wp2
              go_meet
              exact HM13.out
          · have hk90' : (k9 == 0) = false := by simpa using hk90
            have HM9 : Mid w g p W9 b := ⟨_, _, _, _, _, HD9.out, ⟨by show us.length ≤ 25; omega, by simp, by simp, by simp, fun x hx => hus x (by simpa using hx)⟩, by show 1 ≤ us.length; omega, by omega⟩
            replace HM9 := Lib.hid HM9
            go_wp2
            go_meet
            exact HM9.out
    · have hk0' : (k2 == 0) = false := by simpa using hk0
      have HM4 : Mid w g p W4 b := ⟨_, _, _, _, _, HD4.out, HSM.out.1, HSM.out.2, by omega⟩
      replace HM4 := Lib.hid HM4
      go_wp2
      go_meet
      exact HM4.out
  case rest =>
    obtain ⟨t', a1, a2, a3, q, hd, hs, hu, hq⟩ := hcut
    have hO := odd_any g q n wc hd.rd (by omega) hn (by omega)
    obtain ⟨B1, d1, rfl, -⟩ := hd.o1.strs
    obtain ⟨B2, d2, rfl, -⟩ := hd.o2.ints
    obtain ⟨B3, d3, rfl, -⟩ := hd.o3.strs
    replace hO := Lib.hid hO
    replace hd := Lib.hid hd
    replace hs := Lib.hid hs
    clear HD4 HSM
    go_wp2_with (fail)
    refine hO.out.mono ?_
    rintro e W1 ⟨bt, q1, rfl, hq1, hr1, hg1, -⟩
    have HD1 := hd.out.kept hr1 hg1 (fun r e => .inl (by cases e; rfl))
    clear hO hd hr1 hg1
    obtain ⟨z0, z1, z2, f0, f1, f2⟩ := blk3 HD1.blk
    obtain ⟨r0, r1, r2, e0, e1, e2⟩ := blk3 HD1.res
    have hbW := HD1.blk.lt
    have hgt := HD1.ge
    replace HD1 := Lib.hid HD1
    cases bt
    · go_wp2
      refine bodyPost_ret (v := .agg #[.slice B1 t'.us.length d1, .slice B2 t'.bs.length d2, .slice B3 t'.ns.length d3]) (by simp [results, Try.results53, go_sem, r0, r1, r2]) rfl ?_
      exact HD1.out.finish (hs.out.mono (by omega)) (by omega)
    · go_wp2_with (fail)
      refine (hPk.out _ q1 HD1.out.rd (by omega) 4 (by omega) (by omega)).mono ?_
      rintro e W2 ⟨k4, rfl, hk4, hr2, hg2, -⟩
      have HD2 := HD1.out.pick hr2 hg2
      clear HD1 hr2 hg2 z0 z1 z2 f0 f1 f2 r0 r1 r2 e0 e1 e2 hbW
      obtain ⟨z0, z1, z2, f0, f1, f2⟩ := blk3 HD2.blk
      obtain ⟨r0, r1, r2, e0, e1, e2⟩ := blk3 HD2.res
      have hbW := HD2.blk.lt
      have hwW := HD2.res.lt
      have hgl := HD2.glt
      replace HD2 := Lib.hid HD2
      have hcase : k4 = 0 ∨ k4 = 1 ∨ k4 = 2 ∨ k4 = 3 := by omega
      rcases hcase with rfl | rfl | rfl | rfl
      · go_wp2
        refine bodyPost_ret (v := .agg #[.slice none 0 0, .slice none 0 0, .slice none 0 0]) (by simp [results, Try.results53, go_sem, r0, r1, r2]) rfl ?_
        exact HD2.out.finish0 (by omega)
      · -- the first unit becomes another word
        have ho := HD2.out.o1
        obtain ⟨gb, cap, ev, hgb0, hgb⟩ := World.ownsRow.form ho (by omega)
        cases ev
        have cu := World.ownsRow.cellAt ho 0 (by omega)
        rw [List.getElem?_map, List.getElem?_eq_getElem (by omega : 0 < t'.us.length)] at cu
        simp only [Option.map_some] at cu
        have fu := World.ownsRow.frozenAt ho 0
        obtain ⟨x0, hx0⟩ : ∃ x0, t'.us[0] = x0 := ⟨_, rfl⟩
        rw [hx0] at cu
        replace hx0 := Lib.hid hx0
        have hul : (0 : Int) < (t'.us.length : Int) := by omega
        have hul' : 0 < t'.us.length := by omega
        have hgbg : gb ≠ g := by omega
        have hgbb : gb ≠ b := fun e => own_blk_ne ho HD2.out.blk ne_string_tongue (by rw [e]; rfl)
        clear ho
        go_wp2_with (fail)
        go_region_law (first
          | (go_simp; go_at_call 54; refine (hPk.out _ (q1+1) (by first | exact HD2.out.drew.rd | exact (HD2.out.alloc _).drew.rd) (by omega) 3 (by omega) (by omega)).mono ?_; rintro e W3 ⟨k7, rfl, hk7, hr7, hg7, -⟩; obtain ⟨kk, rfl⟩ : ∃ kk : Nat, k7 = (kk : Int) := ⟨k7.toNat, by omega⟩; have hkk : kk < 3 := (by omega); obtain ⟨y, hy, hys, hy2⟩ := pick3 ⟨#[]⟩ ⟨#[65]⟩ ⟨#[111, 110, 101, 104, 117, 110, 100, 114, 101, 100]⟩ 10 kk hkk (by decide) (by decide) (by decide); have HD3 := (by first | exact (HD2.out.drew.pick hr7 hg7) | exact ((HD2.out.alloc _).drew.pick hr7 hg7)); (try have hc7 : W3.cell? ⟨W2.heap.size, kk, none⟩ = some (.string y) := (((Blk.new W2 _ _).drew.grown hg7 (fun e => by have e' := Option.some.inj e; have := HD2.out.gr.size; omega)).cell kk).trans hy); obtain ⟨z0', z1', z2', f0', f1', f2'⟩ := blk3 HD3.blk; have hbW7 : b < W3.heap.size := HD3.blk.lt; have hkk1 : (kk : Int) < 3 := (by omega); have hkk0 : (0 : Int) ≤ (kk : Int) := (by omega); have cu' : W3.cell? ⟨gb, 0, none⟩ = some (.string x0) := (by have := World.ownsRow.cellAt HD3.o1 0 (by omega); rw [List.getElem?_map, List.getElem?_eq_getElem (by omega : 0 < t'.us.length)] at this; simpa [hx0.out] using this); have fu' := World.ownsRow.frozenAt HD3.o1 0; have hgbW : gb < W3.heap.size := (HD3.o1.lt gb rfl).2; replace HD3 := Lib.hid HD3; clear hr7 hg7 hk7))
        all_goals
          have HD5 := HD3.out.set0 y
          have hs5 : SmallT 40 ⟨t'.us.set 0 y, t'.bs, t'.ns⟩ := ⟨by have := hs.out.us; simp; omega, by have := hs.out.bs; show t'.bs.length ≤ 40; omega, by have := hs.out.ns; show t'.ns.length ≤ 40; omega, hs.out.fit, fun x hx => by
            rcases List.mem_append.1 hx with h | h
            · rcases List.mem_or_eq_of_mem_set h with h | h
              · exact hs.out.size x (List.mem_append.2 (.inl h))
              · rw [h]; omega
            · exact hs.out.size x (List.mem_append.2 (.inr h))⟩
          clear cu fu cu' fu' z0 z1 z2 f0 f1 f2 z0' z1' z2' f0' f1' f2' r0 r1 r2 e0 e1 e2 hbW hbW7 hgbW hwW HD2 HD3 hy hy2 hkk0 hkk1
          generalize W3.setCell ⟨gb, 0, none⟩ (.string y) = W5 at *
          obtain ⟨z0, z1, z2, f0, f1, f2⟩ := blk3 HD5.blk
          obtain ⟨r0, r1, r2, e0, e1, e2⟩ := blk3 HD5.res
          have hbW := HD5.blk.lt
          have hwW := HD5.res.lt
          replace HD5 := Lib.hid HD5
          replace hs5 := Lib.hid hs5
          go_wp2
          refine bodyPost_ret (v := .agg #[.slice (some ⟨gb, 0, none⟩) t'.us.length d1, .slice B2 t'.bs.length d2, .slice B3 t'.ns.length d3]) (by simp [results, Try.results53, go_sem, r0, r1, r2, hwW]) rfl ?_
          first
            | exact HD5.out.finish hs5.out (by omega)
            | exact (HD5.out.finish hs5.out (by omega)).alloc' _
      · -- the first unit once more
        have ho := HD2.out.o1
        obtain ⟨gb, cap, ev, hgb0, hgb⟩ := World.ownsRow.form ho (by omega)
        cases ev
        have cu := World.ownsRow.cellAt ho 0 (by omega)
        rw [List.getElem?_map, List.getElem?_eq_getElem (by omega : 0 < t'.us.length)] at cu
        simp only [Option.map_some] at cu
        have hx16 := hs.out.size t'.us[0] (List.mem_append.2 (.inl (List.getElem_mem _)))
        have hul : (0 : Int) < (t'.us.length : Int) := by omega
        have hul' : 0 < t'.us.length := by omega
        have hu25 := hs.out.us
        have k1 := Lib.hid (show t'.us.length + 1 ≤ maxLen by unfold maxLen; omega)
        have k2 := Lib.hid (show (t'.us.length + 1) * 16 ≤ 140737488355328 by omega)
        generalize t'.us[0] = x0 at *
        clear ho
        go_wp2_with (fail)
        go_region_law (first
          | (refine step_app _ (by rfl) (.tmp 86) (.tmp 91) _ (by rfl) w.heap.size 9 is0 _ 16 Try.underlying23 his hzs0 hzs1 hzs2 rfl (.slice (some ⟨gb, 0, none⟩) t'.us.length d1) t'.us.length (t'.us.map Value.string) (by rfl) ((HD2.out.alloc _).drew.o1) (some ⟨_, 0, none⟩) 1 1 [.string x0] (by rfl) (Src.one (blk_new_at _ rfl).drew rfl) k1.out k2.out (by have := HD2.out.gr.size; simp; omega) ?_; intro v3 w3 ho3 hg3 hat3; obtain ⟨u8, hu8, hul8, hus8⟩ := own_snoc2 (m := 16) ho3 (fun y hy => hs.out.size y (List.mem_append.2 (.inl hy))) hx16; obtain ⟨B8, d8, rfl, -⟩ := hu8.strs; obtain ⟨z03, z13, z23, f03, f13, f23⟩ := blk3 ((HD2.out.alloc _).drew.mid1 hg3); have HD3 := ((HD2.out.alloc _).drew).app1 hu8 hg3 hat3; replace hul8 := Lib.hid hul8; replace hus8 := Lib.hid hus8; replace HD3 := Lib.hid HD3; clear ho3 hu8 hg3 hat3))
        all_goals
          have hs5 : SmallT 40 ⟨u8, t'.bs, t'.ns⟩ := ⟨by show u8.length ≤ 40; rw [hul8.out]; omega, by have := hs.out.bs; show t'.bs.length ≤ 40; omega, by have := hs.out.ns; show t'.ns.length ≤ 40; omega, hs.out.fit, fun x hx => by
            rcases List.mem_append.1 hx with h | h
            · exact hus8.out x h
            · exact hs.out.size x (List.mem_append.2 (.inr h))⟩
          replace hs5 := Lib.hid hs5
          clear cu
          clear z0 z1 z2 f0 f1 f2 r0 r1 r2 e0 e1 e2 hbW hwW z03 z13 z23 f03 f13 f23 HD2
          generalize w3.setCell ⟨b, 0, none⟩ (.slice B8 u8.length d8) = W5 at *
          obtain ⟨z0, z1, z2, f0, f1, f2⟩ := blk3 HD3.out.blk
          obtain ⟨r0, r1, r2, e0, e1, e2⟩ := blk3 HD3.out.res
          have hbW := HD3.out.blk.lt
          have hwW := HD3.out.res.lt
          go_wp2
          refine bodyPost_ret (v := .agg #[.slice B8 u8.length d8, .slice B2 t'.bs.length d2, .slice B3 t'.ns.length d3]) (by simp [results, Try.results53, go_sem, r0, r1, r2]) rfl ?_
          exact HD3.out.finish hs5.out (by omega)
      · -- a name more
        have hn25 := hs.out.ns
        have k1 := Lib.hid (show t'.ns.length + 1 ≤ maxLen by unfold maxLen; omega)
        have k2 := Lib.hid (show (t'.ns.length + 1) * 16 ≤ 140737488355328 by omega)
        go_wp2_with (at_builtin; refine wpList_app _ rfl (.tmp 66) (.tmp 67) _ rfl w.heap.size 9 is0 _ 16 Try.underlying23 his hzs0 hzs1 hzs2 rfl (.slice B3 t'.ns.length d3) t'.ns.length (t'.ns.map Value.string) rfl (HD2.out.alloc _).o3 (some ⟨_, 0, none⟩) 1 1 [.string _] rfl (Src.one (blk_new_at _ rfl) rfl) k1.out k2.out (by have := HD2.out.gr.size; simp; omega) ?_; intro v3 w3 ho3 hg3 hat3; obtain ⟨u8, hu8, hul8, hus8⟩ := own_snoc2 (m := 16) ho3 (fun y hy => hs.out.size y (List.mem_append.2 (.inr hy))) (by decide); obtain ⟨B8, d8, rfl, -⟩ := hu8.strs; obtain ⟨z03, z13, z23, f03, f13, f23⟩ := blk3 ((HD2.out.alloc _).mid3 hg3); have HD3 := (HD2.out.alloc _).app3 hu8 hg3 hat3; obtain ⟨r03, r13, r23, e03, e13, e23⟩ := blk3 HD3.res; have hsz3 := hg3.size; replace hul8 := Lib.hid hul8; replace hus8 := Lib.hid hus8; replace HD3 := Lib.hid HD3; clear ho3 hu8 hg3 hat3)
        have hs5 : SmallT 40 ⟨t'.us, t'.bs, u8⟩ := ⟨by have := hs.out.us; show t'.us.length ≤ 40; omega, by have := hs.out.bs; show t'.bs.length ≤ 40; omega, by show u8.length ≤ 40; rw [hul8.out]; omega, hs.out.fit, fun x hx => by
          rcases List.mem_append.1 hx with h | h
          · exact hs.out.size x (List.mem_append.2 (.inl h))
          · exact hus8.out x h⟩
        refine bodyPost_ret (v := .agg #[.slice B1 t'.us.length d1, .slice B2 t'.bs.length d2, .slice B8 u8.length d8]) (by simp [results, Try.results53, go_sem, r03, r13, r23]) rfl ?_
        exact HD3.out.finish hs5 (by omega)
end Go.Proofs.Ytjnlpknjdclalaa

/- DrawG -/
namespace Go.Proofs.Ytjnlpknjdclalaa
open Go.RowKit

theorem Src.lit {w : World} {b n : Nat} {t : TypeId} {us : List Value} (h : Blk w b t us.toArray) (hn : us.length = n := by rfl) (h1 : ∀ u ∈ us, u.oneCell' = true := by decide) : Src w (some ⟨b, 0, none⟩) n us :=
  ⟨hn, h1, fun _ => ⟨b, 0, rfl, h.lt, fun j u hu => by rw [Nat.zero_add, h.cell]; simpa using hu⟩⟩
/-- A tongue is drawn. -/
def DrawnTng (w : World) (e : Ending) (w' : World) : Prop := ∃ v t, e = .returned v ∧ OwnTng w' w.heap.size v t ∧ SmallT 40 t ∧ Below w.heap.size w w'
/-- What was below stays below, behind a reader's draws. -/
theorem below_read {w a b : World} {g B : Nat} (h : Below B w a) (hg : a.grownBy b (some g)) (hB : B ≤ a.heap.size) (hgB : B ≤ g) : Below B w b := h.grown hg hB (fun k e => by cases e; exact hgB)
/-- A tongue's rows are not the cell of a tongue. -/
theorem OwnTng.set3 {w : World} {B g : Nat} {v u0 u1 u2 : Value} {t : Tg} {cs : Array Value} (h : OwnTng w B v t) (hb : Blk w g 26 cs) :
    OwnTng (((w.setCell ⟨g, 0, none⟩ u0).setCell ⟨g, 1, none⟩ u1).setCell ⟨g, 2, none⟩ u2) B v t := by
  obtain ⟨v1, v2, v3, e, o1, o2, o3, ap⟩ := h.ex
  have m1 := own_blk_ne o1 hb ne_string_tongue
  have m2 := own_blk_ne o2 hb ne_int_tongue
  have m3 := own_blk_ne o3 hb ne_string_tongue
  exact ⟨v1, v2, v3, e, own_set (own_set (own_set o1 m1) m1) m1, own_set (own_set (own_set o2 m2) m2) m2, own_set (own_set (own_set o3 m3) m3) m3, ap⟩
theorem OwnTng.shape {w : World} {B : Nat} {v : Value} {t : Tg} (h : OwnTng w B v t) : ∃ A1 c1 A2 c2 A3 c3, v = .agg #[.slice A1 t.us.length c1, .slice A2 t.bs.length c2, .slice A3 t.ns.length c3] := by
  obtain ⟨A1, c1, A2, c2, A3, c3, e, _⟩ := h.tng.ex
  exact ⟨A1, c1, A2, c2, A3, c3, e⟩

theorem OwnTng.kept {w w' : World} {B g : Nat} {v : Value} {t : Tg} (h : OwnTng w B v t) (hg : w.grownBy w' (some g)) (hgB : g < B) : OwnTng w' B v t := by
  obtain ⟨v1, v2, v3, e, o1, o2, o3, ap⟩ := h.ex
  exact ⟨v1, v2, v3, e, own_kept o1 hg (fun r e => .inl (by cases e; exact hgB)), own_kept o2 hg (fun r e => .inl (by cases e; exact hgB)), own_kept o3 hg (fun r e => .inl (by cases e; exact hgB)), ap⟩
end Go.Proofs.Ytjnlpknjdclalaa
