/-
  The contract of the program's TwoWays.
-/
import Derived.Test.YtbghgpgpljdjkaaZ8
import Derived.Deep.LoopGhost
namespace Go.Proofs.Ytbghgpgpljdjkaa
open Go.RowKit

theorem row_info : (Try.prog.info? 23).map (fun i => (i.zero, i.size, i.bytes)) = some (some (.slice none 0 0), 1, 24) := by kernel_rfl
theorem Strs.grown {w w' : World} {A : Option Addr} {n c : Nat} {xs : List ByteArray} {row : Option Nat} (h : Strs w A n c xs) (hg : w.grownBy w' row) (hne : ∀ b o, A = some ⟨b, o, none⟩ → row ≠ some b) : Strs w' A n c xs :=
  ⟨h.len, h.le, fun hn => by
    obtain ⟨b, o, e, hlt, hc⟩ := h.at_ hn
    refine ⟨b, o, e, Nat.lt_of_lt_of_le hlt hg.size, fun j hj => ?_⟩
    have h1 : w'.heap[b]? = w.heap[b]? := hg.block b hlt (fun e' => hne b o e e'.symm)
    exact (World.cell?_of_block (a := ⟨b, o + j, none⟩) h1).trans (hc j hj)⟩
/-- Rows of texts, in a row of the call's own. -/
structure MD (w : World) (v : Value) (Ts : List (List ByteArray)) (wr : World) : Prop where
  low : Below w.heap.size w wr
  row : ∃ us : List Value, wr.ownsRow w.heap.size 23 1 v Ts.length us ∧ ∀ i, i < Ts.length → ∃ Ai ci, us[i]? = some (.slice Ai (Ts.getD i []).length ci) ∧ Strs wr Ai (Ts.getD i []).length ci (Ts.getD i []) ∧ (∀ b o, Ai = some ⟨b, o, none⟩ → b < wr.heap.size ∧ v.ownBlock ≠ some b)
theorem MD.below {w wr w' : World} {v : Value} {Ts : List (List ByteArray)} (h : MD w v Ts wr) (hb : Below wr.heap.size wr w') : MD w v Ts w' := by
  obtain ⟨us, ho, hr⟩ := h.row
  refine ⟨h.low.trans (hb.mono h.low.size), us, own_below ho hb (Nat.le_refl _), fun i hi => ?_⟩
  obtain ⟨Ai, ci, h1, h2, h3⟩ := hr i hi
  exact ⟨Ai, ci, h1, h2.below hb (Nat.le_refl _), fun b o e => ⟨Nat.lt_of_lt_of_le (h3 b o e).1 hb.size, (h3 b o e).2⟩⟩
theorem MD.shape {w wr : World} {v : Value} {Ts : List (List ByteArray)} (h : MD w v Ts wr) (h0 : 0 < Ts.length) : ∃ g c, v = .slice (some ⟨g, 0, none⟩) Ts.length c := by
  obtain ⟨us, ho, -⟩ := h.row
  obtain ⟨g, c, e, -, -⟩ := World.ownsRow.form ho h0
  exact ⟨g, c, e⟩
theorem MD.rows {w wr : World} {A : Option Addr} {c : Nat} {Ts : List (List ByteArray)} (h : MD w (.slice A Ts.length c) Ts wr) : RowsAt wr A Ts.length Ts :=
  ⟨rfl, fun h0 => by
    obtain ⟨us, ho, hr⟩ := h.row
    obtain ⟨g, c', e, -, hlt⟩ := World.ownsRow.form ho h0
    simp only [Value.slice.injEq] at e
    obtain ⟨rfl, -, rfl⟩ := e
    refine ⟨g, 0, rfl, hlt, fun i hi => ?_⟩
    obtain ⟨Ai, ci, h1, h2, -⟩ := hr i hi
    refine ⟨Ai, ci, ?_, h2⟩
    rw [Nat.zero_add, World.ownsRow.cellAt ho i (by omega), h1]⟩
theorem getD_snoc_lt {Ts : List (List ByteArray)} {ys : List ByteArray} {i : Nat} (hi : i < Ts.length) : (Ts ++ [ys]).getD i [] = Ts.getD i [] := by
  rw [List.getD_eq_getElem?_getD, List.getElem?_append_left hi, ← List.getD_eq_getElem?_getD]
theorem getD_snoc_eq (Ts : List (List ByteArray)) (ys : List ByteArray) : (Ts ++ [ys]).getD Ts.length [] = ys := by
  rw [List.getD_eq_getElem?_getD, List.getElem?_append_right (Nat.le_refl _)]; simp
/-- One row more. -/
theorem MD.push {w wr w6 : World} {v v6 v5 : Value} {Ts : List (List ByteArray)} {us : List Value} {ys : List ByteArray} {A5 : Option Addr} {c5 : Nat} (h : MD w v Ts wr)
    (hus : ∀ i, i < Ts.length → ∃ Ai ci, us[i]? = some (.slice Ai (Ts.getD i []).length ci) ∧ Strs wr Ai (Ts.getD i []).length ci (Ts.getD i []) ∧ (∀ b o, Ai = some ⟨b, o, none⟩ → b < wr.heap.size ∧ v.ownBlock ≠ some b)) (hul : us.length = Ts.length)
    (e5 : v5 = .slice A5 ys.length c5) (h5 : Strs wr A5 ys.length c5 ys) (ha5 : ∀ b o, A5 = some ⟨b, o, none⟩ → b < wr.heap.size ∧ v.ownBlock ≠ some b)
    (ho : w6.ownsRow w.heap.size 23 1 v6 (Ts.length + 1) (us ++ [v5])) (hg : wr.grownBy w6 v.ownBlock) (hr : OnRow wr v v6) (hown : wr.ownsRow w.heap.size 23 1 v Ts.length us) : MD w v6 (Ts ++ [ys]) w6 := by
  have hap : ∀ b, b < wr.heap.size → v.ownBlock ≠ some b → b < w6.heap.size ∧ v6.ownBlock ≠ some b := fun b hb hne => ⟨Nat.lt_of_lt_of_le hb hg.size, fun e => by
    rcases hr with e2 | ⟨k', e2, hk'⟩
    · rw [e2] at e; exact hne e
    · rw [e2] at e; cases e; omega⟩
  refine ⟨below_own h.low hown hg h.low.size (Nat.le_refl _), us ++ [v5], by rw [List.length_append]; exact ho, fun i hi => ?_⟩
  by_cases hlt : i < Ts.length
  · obtain ⟨Ai, ci, h1, h2, h3⟩ := hus i hlt
    rw [getD_snoc_lt hlt]
    exact ⟨Ai, ci, by rw [List.getElem?_append_left (by omega)]; exact h1, h2.grown hg (fun b o e => (h3 b o e).2), fun b o e => hap b (h3 b o e).1 (h3 b o e).2⟩
  · obtain rfl : i = Ts.length := by rw [List.length_append] at hi; simp at hi; omega
    rw [getD_snoc_eq]
    exact ⟨A5, c5, by rw [List.getElem?_append_right (by omega), hul]; simp [e5], h5.grown hg (fun b o e => (ha5 b o e).2), fun b o e => hap b (ha5 b o e).1 (ha5 b o e).2⟩

/-- What is known of the rows. -/
structure MI (l : List ByteArray) (Ts : List (List ByteArray)) : Prop where
  pos : 0 < Ts.length
  le : Ts.length ≤ 7
  made : ∀ i, i < Ts.length → MadeIs l i ((Ts.getD i []).map tl)
  len : ∀ i, i < Ts.length → (Ts.getD i []).length ≤ 4 ^ i
  size : ∀ i, i < Ts.length → ∀ x ∈ Ts.getD i [], x.size = i
  no : ∀ m, 1 ≤ m → m < Ts.length → NoTwo l m
theorem MI.start (l : List ByteArray) : MI l [[ByteArray.empty]] := by
  have key : ∀ i, i < [[ByteArray.empty]].length → i = 0 := fun i hi => by simp at hi; omega
  exact ⟨by simp, by simp, fun i hi => by rw [key i hi]; exact made_zero l, fun i hi => by rw [key i hi]; simp, fun i hi x hx => by
    rw [key i hi] at hx ⊢
    have : x = ByteArray.empty := by simpa using hx
    rw [this]; rfl, fun m h1 h2 => by simp at h2; omega⟩
theorem size_of_tl {xs ys : List ByteArray} (hp : (ys.map tl).Perm (xs.map tl)) {n : Nat} (h : ∀ x ∈ xs, x.size = n) : ∀ y ∈ ys, y.size = n := fun y hy => by
  have : tl y ∈ xs.map tl := hp.mem_iff.1 (List.mem_map.2 ⟨y, hy, rfl⟩)
  obtain ⟨x, hx, e⟩ := List.mem_map.1 this
  rw [← tl_inj e]; exact h x hx
theorem MI.push {l : List ByteArray} (hc : codeOk l = true) (hl4 : l.length ≤ 4) {Ts : List (List ByteArray)} (h : MI l Ts) (h6 : Ts.length ≤ 6) {ys : List ByteArray} (hl : ys.length = (longL l Ts l.length).length)
    (hy : ys.map tl = ((longL l Ts l.length).map tl).mergeSort fun x y => decide (x ≤ y)) (hno : NoTwo l Ts.length) : MI l (Ts ++ [ys]) := by
  obtain ⟨hp, hs⟩ := sorted_of hy
  have key : ∀ i, i < (Ts ++ [ys]).length → i < Ts.length ∨ i = Ts.length := fun i hi => by rw [List.length_append] at hi; simp at hi; omega
  refine ⟨by simp, by rw [List.length_append]; simp; omega, fun i hi => ?_, fun i hi => ?_, fun i hi x hx => ?_, fun m h1 h2 => ?_⟩
  · rcases key i hi with hlt | rfl
    · rw [getD_snoc_lt hlt]; exact h.made i hlt
    · rw [getD_snoc_eq]; exact made_perm (made_step hc h.pos h.made) hp
  · rcases key i hi with hlt | rfl
    · rw [getD_snoc_lt hlt]; exact h.len i hlt
    · rw [getD_snoc_eq, hl]; exact longL_len hl4 (fun u hu => (codeOk_len hc hu).1) h.len h.pos
  · rcases key i hi with hlt | rfl
    · rw [getD_snoc_lt hlt] at hx; exact h.size i hlt x hx
    · rw [getD_snoc_eq] at hx
      exact size_of_tl hp (longL_size (fun u hu => (codeOk_len hc hu).2) h.size) x hx
  · rcases key m h2 with hlt | rfl
    · exact h.no m h1 hlt
    · exact hno

set_option maxRecDepth 100000 in
set_option maxHeartbeats 2000000 in
theorem implTwoWays_any (A : Option Addr) (n c : Nat) (l : List ByteArray) (w : World) (h : Strs w A n c l) (hn : n ≤ 2097152) (hs : ∀ x ∈ l, x.size ≤ 1048576) :
    Calls Try.prog 30 #[.slice A n c] w (RetTwo w (twoX l) (twoB l)) := by
  obtain ⟨i0, hi, hz0, hz1, hz2⟩ := info_parts row_info
  have HC := implCodeOk_any A n c l w h hn hs
  have hln := h.len
  by_cases hcl : codeOk l = true ∧ l.length ≤ 4
  · obtain ⟨hok, hl4⟩ := hcl
    have HYes := Lib.hid (fun m x (h1 : 1 ≤ m) (h2 : m ≤ 6) (hf : FirstTwo l m x) (hno : ∀ j, 1 ≤ j → j < m → NoTwo l j) => two_eq (l := l) (x := x) (b := true) (.inl ⟨rfl, hok, hl4, m, h1, h2, hf, hno⟩))
    have HNo := Lib.hid (fun (hno : ∀ j, 1 ≤ j → j < 7 → NoTwo l j) => two_eq (l := l) (x := ByteArray.empty) (b := false) (.inr ⟨rfl, rfl, fun _ _ j h1 h2 => hno j h1 (by omega)⟩))
    have KB := Lib.hid (fun Ag cm Ts W (hb : Below w.heap.size w W) (hM : RowsAt W Ag Ts.length Ts) (hI : MI l Ts) (h6 : Ts.length ≤ 6) => longerBy_any A Ag n c Ts.length cm l Ts W (h.below hb (Nat.le_refl _)) hM (by omega) hI.pos h6 (fun u hu => codeOk_len hok hu) (fun i hi => Nat.le_trans (hI.len i hi) (Nat.le_trans (Nat.pow_le_pow_right (by omega) (show i ≤ 6 by omega)) (by decide))) (fun i hi x hx => by have := hI.size i hi x hx; omega))
    have HPush := Lib.hid (fun Ts ys (hI : MI l Ts) h6 hl hy hno => hI.push hok hl4 (ys := ys) h6 hl hy hno)
    have HLen := Lib.hid (fun Ts (hI : MI l Ts) => longL_len hl4 (fun u hu => (codeOk_len hok hu).1) hI.len hI.pos)
    have HMade := Lib.hid (fun Ts (hI : MI l Ts) => made_step hok hI.pos hI.made)
    have hl4' : ¬ (4 : Int) < (l.length : Int) := by omega
    have hn4 : ¬ (4 : Int) < (n : Int) := by omega
    rw [hok] at HC
    replace HC := Lib.hid HC
    replace hok := Lib.hid hok
    replace hln := Lib.hid hln
    clear h hs
    go_enter Try.func30, Try.ntmps30
    go_wp2_with (fail)
    refine HC.out.mono ?_
    rintro e w1 ⟨rfl, b1⟩
    have hM0 : MD w (.slice (some ⟨w1.heap.size + 1, 0, none⟩) 1 1) [[ByteArray.empty]] ((w1.alloc (.cells #[.string ⟨#[]⟩] 9)).alloc (.cells #[.slice (some ⟨w1.heap.size, 0, none⟩) 1 1] 23)) := by
      have hb1 := (Blk.new w1 9 #[.string ⟨#[]⟩]).alloc (.cells #[.slice (some ⟨w1.heap.size, 0, none⟩) 1 1] 23)
      have hb2 : Blk ((w1.alloc (.cells #[.string ⟨#[]⟩] 9)).alloc (.cells #[.slice (some ⟨w1.heap.size, 0, none⟩) 1 1] 23)) (w1.heap.size + 1) 23 #[.slice (some ⟨w1.heap.size, 0, none⟩) 1 1] := blk_new_at (w1.heap.size + 1) (by simp)
      have hsz := b1.size
      refine ⟨(b1.alloc b1.size _).alloc (by simp; omega) _, [.slice (some ⟨w1.heap.size, 0, none⟩) 1 1], owns_blk hb2 rfl (by omega) (by unfold maxLen; omega), fun i hi => ?_⟩
      obtain rfl : i = 0 := by simp at hi; omega
      refine ⟨_, 1, rfl, strs_of_blk [ByteArray.empty] hb1, fun b o e => ?_⟩
      cases e
      exact ⟨by simp; omega, by simp [Value.ownBlock]⟩
    replace hM0 := Lib.hid hM0
    clear HC
    replace b1 := Lib.hid b1
    go_wp2
    generalize (w1.alloc (.cells #[.string ⟨#[]⟩] 9)).alloc (.cells #[.slice (some ⟨w1.heap.size, 0, none⟩) 1 1] 23) = W1 at *
    go_loopg [4] 10 (fun gg s4 wr => ∃ Ts : List (List ByteArray), MD w s4 Ts wr ∧ MI l Ts ∧ 8 - Ts.length ≤ gg)
    case atStart => exact ⟨[[ByteArray.empty]], hM0.out, MI.start l, by simp⟩
    case round =>
      clear hM0
      obtain ⟨Ts, hM, hI, hg⟩ := hrel
      obtain ⟨gm, cm, rfl⟩ := hM.shape hI.pos
      have hTl := hI.le
      by_cases h6 : Ts.length ≤ 6
      · have h6' : (Ts.length : Int) ≤ 6 := by omega
        have KL := Lib.hid (KB.out (some ⟨gm, 0, none⟩) cm Ts wr hM.low hM.rows hI h6)
        have hll := HLen.out Ts hI
        have hp := Nat.pow_le_pow_right (n := 4) (by omega) h6
        have e46 : 4 ^ 6 = 4096 := by decide
        have hmade := Lib.hid (HMade.out Ts hI)
        replace hM := Lib.hid hM
        replace hI := Lib.hid hI
        go_wp2_with (fail)
        refine KL.out.mono ?_
        rintro e w2 ⟨v5, ys, rfl, o5, b5, hyl, hys⟩
        obtain ⟨A5, c5, rfl, s5⟩ := o5.strs
        have hM2 := hM.out.below b5
        have hyl2 : ys.length ≤ 4096 := by omega
        have ha5 : Hid (∀ b o, A5 = some ⟨b, o, none⟩ → b < w2.heap.size ∧ (Value.slice (some ⟨gm, 0, none⟩) Ts.length cm).ownBlock ≠ some b) := fun b o e => by
          subst e
          have h1 := World.ownsRow.lt o5 b rfl
          obtain ⟨us, ho, -⟩ := hM.out.row
          have h2 := World.ownsRow.lt ho gm rfl
          refine ⟨h1.2, fun e => ?_⟩
          simp [Value.ownBlock] at e
          omega
        have hsort := sorted_of hys
        have hMk := Lib.hid (made_perm hmade.out hsort.1)
        have hsp := Lib.hid hsort.2
        have KF := Lib.hid (firstTwice_any A5 ys.length c5 ys w2 s5 (by omega))
        replace s5 := Lib.hid s5
        replace hM2 := Lib.hid hM2
        replace hyl := Lib.hid hyl
        replace hys := Lib.hid hys
        clear KL o5 b5 hM hsort hmade
        go_wp2_with (fail)
        refine KF.out.mono ?_
        rintro e _ ⟨x, b, rfl, hft, m, rfl⟩
        have hM3 := hM2.out.below (below_drewN (Below.refl w2.heap.size w2) m)
        have s6 := s5.out.drewN m
        have ha6 : Hid (∀ b o, A5 = some ⟨b, o, none⟩ → b < (w2.drewN m).heap.size ∧ (Value.slice (some ⟨gm, 0, none⟩) Ts.length cm).ownBlock ≠ some b) := ha5.out
        clear KF hM2 s5 ha5
        generalize w2.drewN m = W at *
        cases b
        · obtain ⟨hno, -⟩ := ft_no hMk.out hsp.out hft
          have hI2 := Lib.hid (HPush.out Ts ys hI.out h6 hyl.out hys.out hno)
          have hMl := hM3.low.size
          obtain ⟨us, ho, hus⟩ := hM3.row
          have hul : us.length = Ts.length := by have := ho.1; simpa using this
          have hMk2 : Hid (∀ v6 w6, w6.ownsRow w.heap.size 23 1 v6 (Ts.length + 1) (us ++ [.slice A5 ys.length c5]) → (W.alloc (.cells #[.slice A5 ys.length c5] 23)).grownBy w6 (Value.slice (some ⟨gm, 0, none⟩) Ts.length cm).ownBlock → (v6.ownBlock = (Value.slice (some ⟨gm, 0, none⟩) Ts.length cm).ownBlock ∨ v6.ownBlock = some (W.alloc (.cells #[.slice A5 ys.length c5] 23)).heap.size) → MD w v6 (Ts ++ [ys]) w6) := fun v6 w6 ho6 hg6 hat6 =>
            hM3.push hus hul rfl s6 ha6.out ho6 ((grown_of_below _ ((Below.refl _ _).alloc (Nat.le_refl _) _)).trans hg6) (by
              rcases hat6 with e | e
              · exact .inl e
              · exact .inr ⟨_, e, by simp⟩) ho
          have m1 := Lib.hid (show Ts.length + 1 ≤ maxLen by unfold maxLen; omega)
          have m2 := Lib.hid (show (Ts.length + 1) * 24 ≤ 140737488355328 by omega)
          replace ho := Lib.hid ho
          clear hM3 hus hft s6 ha6
          go_wp2_with (at_builtin; refine wpList_app _ rfl (.tmp 31) (.tmp 33) _ rfl w.heap.size 23 i0 _ 24 Try.underlying51 hi hz0 hz1 hz2 rfl (.slice (some ⟨gm, 0, none⟩) Ts.length cm) _ _ rfl (World.ownsRow.alloc ho.out _) (some ⟨W.heap.size, 0, none⟩) 1 1 [.slice A5 ys.length c5] rfl (Src.one (Blk.new _ _ _) rfl) m1.out m2.out (by simp; omega) ?_; intro v6 w6 ho6 hg6 hat6)
          have hM6 := Lib.hid (hMk2.out v6 w6 ho6 hg6 hat6)
          clear ho6 hg6 hat6
          go_roundg (8 - (Ts.length + 1))
          case measure => omega
          case rel => exact ⟨Ts ++ [ys], hM6.out, hI2.out, by simp⟩
        · have hf := ft_yes hMk.out hsp.out hft
          have hr := HYes.out Ts.length x hI.out.pos h6 hf hI.out.no
          have hB := Lib.hid hM3.low
          replace hr := Lib.hid hr
          clear hM3 hf hft s6
          go_wp2
          go_ret2
          exact ⟨two_vals (by rw [hr.out.1]; rfl) (by rw [hr.out.2]; rfl), hB.out⟩
      · have hT7 : Ts.length = 7 := by omega
        have h6' : ¬ (Ts.length : Int) ≤ 6 := by omega
        have hr := Lib.hid (HNo.out (fun j h1 h2 => hI.no j h1 (by omega)))
        replace hM := Lib.hid hM
        replace hT7 := Lib.hid hT7
        clear hI
        go_wp2
        go_ret2
        exact ⟨two_vals (by rw [hr.out.1]; rfl) (by rw [hr.out.2]; rfl), hM.out.low⟩
  · have hr := two_eq (l := l) (x := ByteArray.empty) (b := false) (.inr ⟨rfl, rfl, fun h1 h2 => absurd ⟨h1, h2⟩ hcl⟩)
    replace hr := Lib.hid hr
    cases hok : codeOk l
    · rw [hok] at HC
      replace HC := Lib.hid HC
      replace hok := Lib.hid hok
      clear hcl h hs
      go_enter Try.func30, Try.ntmps30
      go_wp2_with (fail)
      refine HC.out.mono ?_
      rintro e w1 ⟨rfl, b1⟩
      replace b1 := Lib.hid b1
      go_wp2
      go_ret2
      exact ⟨two_vals (by rw [hr.out.1]; rfl) (by rw [hr.out.2]; rfl), b1.out⟩
    · have hn4 : (4 : Int) < (n : Int) := by
        have : ¬ l.length ≤ 4 := fun h => hcl ⟨hok, h⟩
        omega
      rw [hok] at HC
      replace HC := Lib.hid HC
      replace hok := Lib.hid hok
      clear hcl h hs
      go_enter Try.func30, Try.ntmps30
      go_wp2_with (fail)
      refine HC.out.mono ?_
      rintro e w1 ⟨rfl, b1⟩
      replace b1 := Lib.hid b1
      go_wp2
      go_ret2
      exact ⟨two_vals (by rw [hr.out.1]; rfl) (by rw [hr.out.2]; rfl), b1.out⟩
end Go.Proofs.Ytbghgpgpljdjkaa
