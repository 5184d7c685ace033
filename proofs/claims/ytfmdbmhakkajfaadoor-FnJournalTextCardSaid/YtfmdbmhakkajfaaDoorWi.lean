/-
  ReadJournal of the program.
-/
import Derived.Test.YtfmdbmhakkajfaaDoorWs
import Derived.Test.YtfmdbmhakkajfaaDoorLn
import Derived.Sort.BigQuietIn
import Derived.Sort.CutIn
namespace Go.Proofs.YtfmdbmhakkajfaaDoor
open Go Go.RowKit Go.Shelf Go.Sort
attribute [local go_sem] Oper.semAt_some

/-- The deeds of the lines that have come lie in the row v, which the box holds, and their bytes are counted in the box behind it. -/
structure JIn (w W0 : World) (v : Value) (L : List Dd) (W : World) : Prop where
  own : OwnDds W W0.heap.size v L
  box : Blk W w.heap.size 32 #[v]
  cnt : Blk W (w.heap.size + 1) 3 #[.int .i64 ((jFlat L).length : Int)]
  low : Below w.heap.size w W
  size : W0.heap.size ≤ W.heap.size
theorem JIn.keep {w W0 W W' : World} {v : Value} {L : List Dd} {row : Option Nat} (h : JIn w W0 v L W) (h3 : w.heap.size + 3 ≤ W0.heap.size) (hg : W.grownBy W' row) (hr : ∀ r, row = some r → (W0.heap.size ≤ r ∧ ∃ o : Obj, W.heap[r]? = some o ∧ o.isCells = false) ∨ (w.heap.size + 2 ≤ r ∧ r < w.heap.size + 2 + 1)) : JIn w W0 v L W' := by
  have hn : ∀ g, g < w.heap.size + 2 → row ≠ some g := fun g hgl e => by rcases hr g e with x | x <;> omega
  refine ⟨?_, (hg.block _ h.box.lt (fun e => hn _ (by omega) e.symm)).trans h.box, (hg.block _ h.cnt.lt (fun e => hn _ (by omega) e.symm)).trans h.cnt, h.low.grown hg h.low.size (fun k e => by rcases hr k e with x | x <;> omega), Nat.le_trans h.size hg.size⟩
  refine h.own.kept hg ?_
  rcases h.own.2 with ⟨rfl, _⟩ | ⟨g, cap, cur, rfl, hB, hh, _⟩
  · exact .inl rfl
  · refine .inr fun e => ?_
    rcases hr g e.symm with ⟨_, o, ho, hc⟩ | x
    · rw [hh] at ho; cases ho; cases hc
    · omega
def JAt {M : Nat} (w W0 : World) (pre : List (Ln M)) (W : World) : Prop := ∃ v L, flatLn pre = jFlat L ∧ (∀ a ∈ L, deedL a ≠ []) ∧ L.length ≤ pre.length ∧ JIn w W0 v L W
/-- A line that is none of a deed. -/
def BadLn (x : ByteArray) : Prop := Lib.hasSuffix (tl x) [10] = false ∨ rdB (tl (sufT x)) = false
def JStop {M : Nat} (w W0 : World) (pre : List (Ln M)) (W : World) : Prop := ∃ v L pre' x, pre = pre' ++ [x] ∧ BadLn x.1 ∧ flatLn pre' = jFlat L ∧ (∀ a ∈ L, deedL a ≠ []) ∧ JIn w W0 v L W
theorem rj_end {l : List UInt8} {L : List Dd} (h : l = jFlat L) (hL : ∀ a ∈ L, deedL a ≠ []) : rj l = (L, (jFlat L).length) := by
  have := rj_flat L [] hL
  rw [List.append_nil, rj_none (l := []) (by simp), List.append_nil] at this
  rw [h, this]
  simp
theorem rj_bad {x : ByteArray} {r : List UInt8} (hb : BadLn x) (hl : IsLn (tl x) r) : rj (tl x ++ r) = ([], 0) := by
  rcases hl with ⟨p, e, hp⟩ | ⟨rfl, hn⟩
  · have hs : Lib.hasSuffix (tl x) [10] = true := by
      cases h : Lib.hasSuffix (tl x) [10]
      · exact absurd e (suf_no h p)
      · rfl
    have hx := suf_yes hs
    have hpe : p = tl (sufT x) := by rw [e] at hx; exact List.append_cancel_right hx
    rcases hb with h | h
    · rw [hs] at h; cases h
    · rw [e, List.append_assoc, List.singleton_append, rj_no hp (by rw [hpe]; exact h)]
  · rw [List.append_nil, rj_none hn]
theorem rj_stop {l r : List UInt8} {x : ByteArray} {L : List Dd} (h : (jFlat L ++ tl x) ++ r = l) (hL : ∀ a ∈ L, deedL a ≠ []) (hb : BadLn x) (hl : IsLn (tl x) r) : rj l = (L, (jFlat L).length) := by
  rw [← h, List.append_assoc, rj_flat L _ hL, rj_bad hb hl]
  simp
theorem jin_line {x : ByteArray} {L : List Dd} (h1 : Lib.hasSuffix (tl x) [10] = true) (h2 : rdB (tl (sufT x)) = true) : jFlat (L ++ [rdV (tl (sufT x))]) = jFlat L ++ tl x ∧ deedL (rdV (tl (sufT x))) ≠ [] := by
  obtain ⟨e1, e2⟩ := rd_text h2
  refine ⟨?_, by rw [e1]; exact e2⟩
  rw [jFlat_snoc]
  unfold lineL
  rw [e1, ← suf_yes h1]

theorem below_putJ {B : Nat} {w W : World} {D : Nat} {o : Obj} (h : Below B w W) (hD : B ≤ D) : Below B w (W.putObj D o) := ⟨h.os, h.tape, h.output, by simpa using h.size, fun k hk => (World.putObj_heap_other (by omega)).trans (h.block k hk)⟩
theorem own_putJ {W : World} {B D : Nat} {v : Value} {L : List Dd} {o o' : Obj} (h : OwnDds W B v L) (hK : W.heap[D]? = some o) (ho : o.isCells = false := by rfl) : OwnDds (W.putObj D o') B v L := by
  refine h.kept (grownBy_putObj' W D o') ?_
  rcases h.2 with ⟨rfl, _⟩ | ⟨g, cap, cur, rfl, _, hh, _⟩
  · exact .inl rfl
  · refine .inr fun e => ?_
    simp [Value.ownBlock] at e
    subst e
    rw [hh] at hK; cases hK; cases ho
/-- What a line more leaves. -/
theorem jin_step {w W0 W W3 W4 : World} {v v' : Value} {L L' : List Dd} {u : Int} (h : JIn w W0 v L W) (h3 : w.heap.size + 3 ≤ W0.heap.size) (hb : Below W.heap.size W W3) (hg : W3.grownBy W4 v.ownBlock) (ho : OwnDds W4 W0.heap.size v' L') (hu : u = ((jFlat L').length : Int)) :
    JIn w W0 v' L' ((W4.setCell ⟨w.heap.size, 0, none⟩ v').setCell ⟨w.heap.size + 1, 0, none⟩ (.int .i64 u)) ∧ KeepsFrom W0.heap.size W ((W4.setCell ⟨w.heap.size, 0, none⟩ v').setCell ⟨w.heap.size + 1, 0, none⟩ (.int .i64 u)) ∧ KpB (w.heap.size + 1 + 1) W ((W4.setCell ⟨w.heap.size, 0, none⟩ v').setCell ⟨w.heap.size + 1, 0, none⟩ (.int .i64 u)) := by
  have hv3 : OwnDds W3 W0.heap.size v L := h.own.below hb (Nat.le_refl _)
  have hlt : ∀ k, v.ownBlock = some k → W0.heap.size ≤ k ∧ k < W3.heap.size := fun k e => World.ownsRow.lt hv3 k e
  have hne : ∀ k, k < W0.heap.size → v.ownBlock ≠ some k := fun k hk e => by have := (hlt k e).1; omega
  have hws := h.size
  have hbs := hb.size
  have hgs := hg.size
  have hk : ∀ k, k < W0.heap.size → W4.heap[k]? = W.heap[k]? := fun k hk => (hg.block k (by omega) (fun e => hne k hk e.symm)).trans (hb.block k (by omega))
  have hx4 : Blk W4 w.heap.size 32 #[v] := (hk _ (by omega)).trans h.box
  have hc4 : Blk W4 (w.heap.size + 1) 3 #[.int .i64 ((jFlat L).length : Int)] := (hk _ (by omega)).trans h.cnt
  have hne' : ∀ k, k < W0.heap.size → v'.ownBlock ≠ some k := fun k hk e => by have := (World.ownsRow.lt ho k e).1; omega
  have hl4 : Below w.heap.size w W4 := (h.low.trans (hb.mono h.low.size)).grown hg (by have := h.low.size; omega) (fun k e => by have := (hlt k e).1; omega)
  refine ⟨⟨ownN_set (ownN_set ho (hne' _ (by omega))) (hne' _ (by omega)), ?_, ?_, ?_, ?_⟩, ⟨?_, ?_⟩, ?_⟩
  · exact (Below.heap_setCell _ _ _ _ (by show w.heap.size ≠ w.heap.size + 1; omega)).trans (hx4.set_ 0 v')
  · have h5 : Blk (W4.setCell ⟨w.heap.size, 0, none⟩ v') (w.heap.size + 1) 3 #[.int .i64 ((jFlat L).length : Int)] := (Below.heap_setCell _ _ _ _ (by show w.heap.size + 1 ≠ w.heap.size; omega)).trans hc4
    rw [← hu]
    exact h5.set_ 0 _
  · exact (hl4.setCell (p := ⟨w.heap.size, 0, none⟩) (Nat.le_refl _) _).setCell (p := ⟨w.heap.size + 1, 0, none⟩) (by show w.heap.size ≤ w.heap.size + 1; omega) _
  · simp [World.setCell]
    omega
  · simp [World.setCell]
    omega
  · intro k o hB hko hoc
    have hkW : k < W.heap.size := (Array.getElem?_eq_some_iff.1 hko).1
    refine (Below.heap_setCell _ _ _ _ (by show k ≠ w.heap.size + 1; omega)).trans ((Below.heap_setCell _ _ _ _ (by show k ≠ w.heap.size; omega)).trans ((hg.block k (by omega) (fun e => ?_)).trans ((hb.block k hkW).trans hko)))
    have h3k : W3.heap[k]? = some o := (hb.block k hkW).trans hko
    rcases hv3.2 with ⟨rfl, _⟩ | ⟨g, cap, cur, rfl, _, hh, _⟩
    · simp [Value.ownBlock] at e
    · simp [Value.ownBlock] at e
      subst e
      rw [hh] at h3k; cases h3k; cases hoc
  · exact (Below.heap_setCell _ _ _ _ (by show w.heap.size + 1 + 1 ≠ w.heap.size + 1; omega)).trans ((Below.heap_setCell _ _ _ _ (by show w.heap.size + 1 + 1 ≠ w.heap.size; omega)).trans (hk _ (by omega)))

set_option maxRecDepth 100000 in
set_option maxHeartbeats 4000000 in
theorem implReadJournal_any (s : ByteArray) (w : World) (hs : s.size ≤ 4000000) (hT : LibT w) (hE : LibE w) :
    Calls Tryd.prog 20 #[.string s] w (RetJ w s) := by
  obtain ⟨i0, hi, hz0, hz1, hz2⟩ := info_parts dd_info
  have cs := dd_cells
  refine (callsIn_wide (n := 0)).1 ?_
  refine callsIn_of_wp_marks Tryd.func20 rfl trivial ?_ rfl
  simp only [Tryd.ntmps20, List.size_toArray, List.length_cons, List.length_nil, Nat.reduceAdd, Nat.reduceSub, Array.replicate_succ, Array.replicate_zero, List.push_toArray, List.append_toArray, List.nil_append, List.cons_append]
  gi_wp2
  refine ⟨trivial, rfl, (callsIn_wide.2 (lines_any _ _)).mono ?_⟩
  rintro e _ ⟨rfl, rfl⟩
  gi_wp2
  have hX0 : Blk (((w.alloc (.cells #[.slice none 0 0] 32)).alloc (.cells #[.int .i64 0] 3)).alloc (.cells #[.string s] 9)) w.heap.size 32 #[.slice none 0 0] := ((Blk.new w 32 #[.slice none 0 0]).alloc _).alloc _
  have hX1 : Blk (((w.alloc (.cells #[.slice none 0 0] 32)).alloc (.cells #[.int .i64 0] 3)).alloc (.cells #[.string s] 9)) (w.heap.size + 1) 3 #[.int .i64 0] := (blk_new_at _ (by simp)).alloc _
  have hX2 : Blk (((w.alloc (.cells #[.slice none 0 0] 32)).alloc (.cells #[.int .i64 0] 3)).alloc (.cells #[.string s] 9)) (w.heap.size + 1 + 1) 9 #[.string s] := blk_new_at _ (by simp)
  have hB0 := (((Below.refl w.heap.size w).alloc (Nat.le_refl _) (.cells #[.slice none 0 0] 32)).alloc (by simp) (.cells #[.int .i64 0] 3)).alloc (by simp; omega) (.cells #[.string s] 9)
  have hs0 : (((w.alloc (.cells #[.slice none 0 0] 32)).alloc (.cells #[.int .i64 0] 3)).alloc (.cells #[.string s] 9)).heap.size = w.heap.size + 3 := by simp
  generalize (((w.alloc (.cells #[.slice none 0 0] 32)).alloc (.cells #[.int .i64 0] 3)).alloc (.cells #[.string s] 9)) = W0 at *
  have hs3 : w.heap.size + 3 ≤ W0.heap.size := by omega
  have hJ0 : JIn w W0 (.slice none 0 0) [] W0 := ⟨⟨rfl, .inl ⟨rfl, rfl⟩⟩, hX0, hX1, hB0, Nat.le_refl _⟩
  clear hs0 hX0 hX1 hB0
  refine range_box (gf := 56) (lb := #[.pointer (some ⟨w.heap.size + 1 + 1, 0, none⟩)]) rfl (enters_of Tryd.func56 (by kernel_rfl) rfl)
    (lines1_box s (w.heap.size + 1 + 1) W0 hX2 hs) (by omega) (fun h k => h.trans k) (fun W l o o' h1 h2 ho hc => World.putObj_heap_other (by omega)) (Below.refl _ _) (fun _ => rfl)
    (fun pre W => JAt w W0 pre W) (fun c pre W => c = .exit 0 ∧ JStop w W0 pre W)
    ?hI ?hIx ⟨_, [], rfl, by simp, Nat.le_refl _, hJ0⟩
    (fun x => { tmps := #[.string s, undef, .slice none 0 0, .int .i64 0, .pointer (some ⟨w.heap.size, 0, none⟩), .pointer (some ⟨w.heap.size + 1, 0, none⟩), .string x.1, undef, undef, undef, undef, .string s, .func (.func 56) #[] #[.pointer (some ⟨w.heap.size + 1 + 1, 0, none⟩)], .string x.1, undef, undef, undef, undef, undef, undef, undef, undef, undef, undef, undef, undef, undef, undef, undef, undef, undef, undef, undef, undef, undef, undef, undef, undef, undef, undef], defers := [] }) ?assign ?body ?done ?stop
  case hI =>
    rintro pre A B row ⟨v, L, h1, h2, h3, h4⟩ hg hr
    exact ⟨v, L, h1, h2, h3, h4.keep hs3 hg hr⟩
  case hIx =>
    rintro c pre A B row ⟨h0, v, L, pre', x, h1, h2, h3, h4, h5⟩ hg hr
    exact ⟨h0, v, L, pre', x, h1, h2, h3, h4, h5.keep hs3 hg hr⟩
  case assign =>
    intro l x W K hK
    simp only [encLn]
    gi_wp2
    exact hK
  case body =>
    rintro l pre ⟨x, hx⟩ W hl ⟨v, L, h1, h2, h3, h4⟩ hlen
    have hx4 : x.size ≤ 4000000 := by omega
    have hsx := sufT_size x
    have KC := Lib.hid (fun W => cutSuf_any x W hx4)
    have KR := Lib.hid (implReadDeed_any (sufT x) W (by omega) (hT.below h4.low (Nat.le_refl _)) (hE.below h4.low (Nat.le_refl _)))
    unfold RetRd at KR
    have hjl := Lib.hid (fun a b => jin_line (x := x) (L := L) a b)
    have hbad := Lib.hid (fun (h : BadLn x) (W' : World) (hb : Below W.heap.size W W') => (⟨rfl, v, L, pre, ⟨x, hx⟩, rfl, h, h1, h2, h4.keep hs3 (row := none) ⟨hb.os, hb.tape, hb.output, hb.size, fun k hk _ => hb.block k hk⟩ (fun r e => by cases e)⟩ : (Code.exit 0 = Code.exit 0 ∧ JStop w W0 (pre ++ [(⟨x, hx⟩ : Ln s.size)]) W')))
    have hkf := Lib.hid (fun (W' : World) (hb : Below W.heap.size W W') => (⟨hb.size, fun k o _ hk _ => (hb.block k (Array.getElem?_eq_some_iff.1 hk).1).trans hk⟩ : KeepsFrom W0.heap.size W W'))
    have hkp := Lib.hid (fun (W' : World) (hb : Below W.heap.size W W') => (hb.block _ (by have := h4.size; omega) : KpB (w.heap.size + 1 + 1) W W'))
    have hbox := h4.box
    have hcnt := h4.cnt
    have hlt : pre.length < 4000000 := by omega
    cases hb1 : Lib.hasSuffix (tl x) [10]
    · replace hbad := Lib.hid (hbad.out (.inl hb1))
      rw [hb1] at KC
      generalize rdB (tl (sufT x)) = rb at *
      replace h4 := Lib.hid h4
      gi_wp2
      refine ⟨trivial, rfl, (CallsIn.inRound l (callsIn_wide.2 (KC.out _))).mono ?_⟩
      rintro e W1 ⟨rfl, e1⟩
      rw [e1]
      clear e1 W1
      gi_wp2
      refine ⟨trivial, rfl, (CallsIn.inRound l (callsIn_wide.2 KR.out)).mono ?_⟩
      rintro e W2 ⟨rfl, b2⟩
      gi_wp2
      have hba := b2.alloc b2.size (.cells #[.int .i64 (rdV (tl (sufT x))).kind, .int .i64 (rdV (tl (sufT x))).n] 24)
      exact ⟨hkf.out _ hba, hkp.out _ hba, rfl, (hbad.out _ hba).2⟩
    · rw [hb1] at KC
      cases hrb : rdB (tl (sufT x))
      · replace hbad := Lib.hid (hbad.out (.inr hrb))
        rw [hrb] at KR
        replace h4 := Lib.hid h4
        gi_wp2
        refine ⟨trivial, rfl, (CallsIn.inRound l (callsIn_wide.2 (KC.out _))).mono ?_⟩
        rintro e W1 ⟨rfl, e1⟩
        rw [e1]
        clear e1 W1
        gi_wp2
        refine ⟨trivial, rfl, (CallsIn.inRound l (callsIn_wide.2 KR.out)).mono ?_⟩
        rintro e W2 ⟨rfl, b2⟩
        gi_wp2
        have hba := b2.alloc b2.size (.cells #[.int .i64 (rdV (tl (sufT x))).kind, .int .i64 (rdV (tl (sufT x))).n] 24)
        exact ⟨hkf.out _ hba, hkp.out _ hba, rfl, (hbad.out _ hba).2⟩
      · obtain ⟨hj1, hj2⟩ := hjl.out hb1 hrb
        rw [hrb] at KR
        clear hbad hkf hkp hjl
        generalize rdV (tl (sufT x)) = y at *
        obtain ⟨xk, xn⟩ := y
        dsimp only at KR
        have hfl2 : flatLn (pre ++ [(⟨x, hx⟩ : Ln s.size)]) = jFlat (L ++ [⟨xk, xn⟩]) := by rw [flatLn_snoc, h1, hj1]
        have hne2 : ∀ a ∈ L ++ [(⟨xk, xn⟩ : Dd)], deedL a ≠ [] := fun a ha => by
          rcases List.mem_append.1 ha with h | h
          · exact h2 a h
          · rw [List.mem_singleton.1 h]; exact hj2
        have hll2 : (L ++ [(⟨xk, xn⟩ : Dd)]).length ≤ (pre ++ [(⟨x, hx⟩ : Ln s.size)]).length := by simp; omega
        have hjz := jFlat_len L
        have hcount : (jFlat (L ++ [(⟨xk, xn⟩ : Dd)])).length = (jFlat L).length + x.size := by rw [hj1, List.length_append, tl_len]
        have hcw : IntKind.i64.wrap (((jFlat L).length : Int) + (x.size : Int)) = ((jFlat L).length : Int) + (x.size : Int) := IntWalk.i64_in _ (by omega)
        have hl3 : L.length ≤ 4000000 := by omega
        have hu : ((jFlat L).length : Int) + (x.size : Int) = ((jFlat (L ++ [(⟨xk, xn⟩ : Dd)])).length : Int) := by omega
        generalize (jFlat L).length = cn at *
        replace h4 := Lib.hid h4
        replace hfl2 := Lib.hid hfl2
        replace hne2 := Lib.hid hne2
        replace hll2 := Lib.hid hll2
        replace hu := Lib.hid hu
        replace hl3 := Lib.hid hl3
        clear hj1 hj2 hcount
        gi_wp2
        refine ⟨trivial, rfl, (CallsIn.inRound l (callsIn_wide.2 (KC.out _))).mono ?_⟩
        rintro e W1 ⟨rfl, e1⟩
        rw [e1]
        clear e1 W1
        gi_wp2
        refine ⟨trivial, rfl, (CallsIn.inRound l (callsIn_wide.2 KR.out)).mono ?_⟩
        rintro e W2 ⟨rfl, b2⟩
        have hba := b2.alloc b2.size (.cells #[.int .i64 xk, .int .i64 xn] 24)
        have kX := Blk.new W2 24 #[.int .i64 xk, .int .i64 xn]
        have x0 : (W2.alloc (.cells #[.int .i64 xk, .int .i64 xn] 24)).cell? ⟨W2.heap.size, 0, none⟩ = some (.int .i64 xk) := kX.cell 0
        have x1 : (W2.alloc (.cells #[.int .i64 xk, .int .i64 xn] 24)).cell? ⟨W2.heap.size, 1, none⟩ = some (.int .i64 xn) := kX.cell 1
        have y0 : (W2.alloc (.cells #[.int .i64 xk, .int .i64 xn] 24)).cell? ⟨w.heap.size, 0, none⟩ = some v := (hbox.below hba hbox.lt).cell 0
        have ho3 := Lib.hid (h4.out.own.below hba (Nat.le_refl _))
        have hsW := Nat.le_trans h4.out.size hba.size
        replace hba := Lib.hid hba
        clear kX b2 KC KR
        gi_upto_region 8 with (fail)
        generalize W2.alloc (.cells #[.int .i64 xk, .int .i64 xn] 24) = W3 at *
        generalize W2.heap.size = q2 at *
        gi_wp2_with (gi_at_builtin; refine wpListIn_append_own _ rfl _ _ 32 rfl W0.heap.size 24 i0 (.agg #[.int .i64 0, .int .i64 0]) 2 16 Tryd.underlying32 hi hz0 hz1 hz2 rfl (by decide) _ _ _ rfl (World.ownsRow.alloc ho3.out _) ⟨W3.heap.size, 0, none⟩ 1 1 [.int .i64 xk, .int .i64 xn] rfl rfl (cellD_two _ _ _ _) (fun x hx => by simp at hx; rcases hx with rfl | rfl <;> rfl) (by have := hl3.out; unfold maxLen; omega) (by have := hl3.out; omega) (by simp; omega) ?_; intro v' W4 hown' hg4 _; refine Hid.out ?_)
        have ho4 : OwnDds W4 W0.heap.size v' (L ++ [⟨xk, xn⟩]) := OwnDds.snoc (a := ⟨xk, xn⟩) hown'
        have hb3a := hba.out.alloc hba.out.size (.cells #[.int .i64 xk, .int .i64 xn] 24)
        have hst := jin_step h4.out hs3 hb3a hg4 ho4 hu.out
        have hne4 : ∀ k, k < W0.heap.size → v.ownBlock ≠ some k := fun k hk e => by have := (World.ownsRow.lt ho3.out k e).1; omega
        have hk4 : ∀ k, k < W0.heap.size → W4.heap[k]? = W.heap[k]? := fun k hk => (hg4.block k (by simp; omega) (fun e => hne4 k hk e.symm)).trans (hb3a.block k (by have := h4.out.size; omega))
        have hx4' : Blk W4 w.heap.size 32 #[v] := (hk4 _ (by omega)).trans hbox
        have hc4 : Blk (W4.setCell ⟨w.heap.size, 0, none⟩ v') (w.heap.size + 1) 3 #[.int .i64 (cn : Int)] := (Below.heap_setCell _ _ _ _ (by show w.heap.size + 1 ≠ w.heap.size; omega)).trans ((hk4 _ (by omega)).trans hcnt)
        obtain ⟨A5, c5, e5, -⟩ := ho4.deeds
        generalize hm : (L ++ [(⟨xk, xn⟩ : Dd)]).length = m at e5
        subst e5
        have z0 := hx4'.cell 0
        have zf := hx4'.frozen 0
        simp only [List.getElem?_toArray, List.getElem?_cons_zero] at z0
        have z1 := hc4.cell 0
        have zf1 := hc4.frozen 0
        simp only [List.getElem?_toArray, List.getElem?_cons_zero] at z1
        replace hst := Lib.hid hst
        replace hm := Lib.hid hm
        clear hown' hg4 ho4 hb3a hne4 hk4 hx4' hc4 ho3 hba x0 x1 y0
        refine Lib.hid ?_
        gi_wp2
        exact ⟨hst.out.2.1, hst.out.2.2, _, _, hfl2.out, hne2.out, hll2.out, hst.out.1⟩
  case done =>
    rintro D xs W hD hS ⟨v, L, h1, h2, -, h4⟩ hK
    have hr := rj_end (l := tl s) (L := L) (by rw [← hS]; exact h1) h2
    have y0 : W.cell? ⟨w.heap.size, 0, none⟩ = some v := h4.box.cell 0
    have y1 : W.cell? ⟨w.heap.size + 1, 0, none⟩ = some (.int .i64 ((jFlat L).length : Int)) := h4.cnt.cell 0
    have hfin : ∀ n, RetJ w s (.returned (.tuple #[v, .int .i64 ((jFlat L).length : Int)])) ((W.drewN n).putObj D (.deferred none)) := fun n => by
      refine ⟨v, by rw [hr], ?_, below_putJ (W := W.drewN n) ⟨h4.low.os, h4.low.tape, h4.low.output, h4.low.size, h4.low.block⟩ (by omega)⟩
      rw [hr]
      have ho : OwnDds (W.drewN n) W0.heap.size v L := h4.own
      exact (own_putJ ho hK).mono (by omega)
    replace hfin := Lib.hid hfin
    replace hr := Lib.hid hr
    clear h4 h1 hS h2
    generalize (jFlat L).length = cn at *
    gi_wp2
    gi_big_quiet_th (fail)
    gi_wp2
    refine ⟨by simp, .inl ⟨_, _, rfl, run_takeDeferred hK, ?_⟩⟩
    refine ⟨_, results_tmp2 rfl _ _ _, ?_⟩
    exact hfin.out nq
  case stop =>
    rintro D c pre W hD hSp ⟨rfl, v, L, pre', x, h1, hbd, h3, h2, h4⟩ hK
    have hr : rj (tl s) = (L, (jFlat L).length) := by
      obtain ⟨pre'', x', r, e1, e2, e3⟩ := hSp
      rw [h1] at e1
      obtain ⟨-, e4⟩ := List.append_inj' e1 rfl
      have e5 : x = x' := by injection e4
      rw [← e5] at e3
      rw [h1, flatLn_snoc, h3] at e2
      exact rj_stop e2 h2 hbd e3
    have y0 : W.cell? ⟨w.heap.size, 0, none⟩ = some v := h4.box.cell 0
    have y1 : W.cell? ⟨w.heap.size + 1, 0, none⟩ = some (.int .i64 ((jFlat L).length : Int)) := h4.cnt.cell 0
    have hfin : ∀ n, RetJ w s (.returned (.tuple #[v, .int .i64 ((jFlat L).length : Int)])) ((W.drewN n).putObj D (.deferred none)) := fun n => by
      refine ⟨v, by rw [hr], ?_, below_putJ (W := W.drewN n) ⟨h4.low.os, h4.low.tape, h4.low.output, h4.low.size, h4.low.block⟩ (by omega)⟩
      rw [hr]
      have ho : OwnDds (W.drewN n) W0.heap.size v L := h4.own
      exact (own_putJ ho hK).mono (by omega)
    replace hfin := Lib.hid hfin
    replace hr := Lib.hid hr
    clear h4 h1 hSp h2 h3 hbd
    generalize (jFlat L).length = cn at *
    gi_wp2
    gi_big_quiet_th (fail)
    gi_wp2
    refine ⟨by simp, .inl ⟨_, _, rfl, run_takeDeferred hK, ?_⟩⟩
    refine ⟨_, results_tmp2 rfl _ _ _, ?_⟩
    exact hfin.out nq
end Go.Proofs.YtfmdbmhakkajfaaDoor
