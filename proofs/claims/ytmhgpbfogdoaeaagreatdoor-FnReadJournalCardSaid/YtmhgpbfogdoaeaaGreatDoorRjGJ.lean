/-
  GJ: LnL RangeB Ln Bj Bjw AppD Wa Ws Wi.
-/
import Derived.Shelf.Small.Strs
import Derived.Shelf.Strings.Prefix
import Derived.Test.YtmhgpbfogdoaeaaGreatDoorRjGA
import Derived.Test.YtmhgpbfogdoaeaaGreatDoorRjGZ
import Derived.Test.YtmhgpbfogdoaeaaGreatDoorRjGX
import Derived.Test.YtmhgpbfogdoaeaaGreatDoorRjGV
import Derived.Sort.LoopGhostIn
import Derived.RegionIn
import Derived.BigRegionIn
import Derived.Shelf.Strings.BuilderK
import Derived.Test.YtmhgpbfogdoaeaaGreatDoorRjDdsB
import Derived.Test.YtmhgpbfogdoaeaaGreatDoorRjOpenI
import Derived.Test.YtmhgpbfogdoaeaaGreatDoorRjGQ
import Derived.Sort.BigQuietIn
import Derived.Sort.CutIn
/- LnL -/
namespace Go.Proofs.YtmhgpbfogdoaeaaGreatDoor
open Go.Shelf Go.RowKit

def lnRen : Go.Shelf.Ren := ⟨fun | 137 => 89 | 207 => 126 | 217 => 125 | 266 => 150 | n => n, fun | 3 => 3 | 4 => 4 | 5 => 5 | 9 => 9 | n => n, fun | n => n⟩
theorem lnIdxLays : Go.Proofs.Lays.n137 Tryz.prog lnRen := {
  mixed := by kernel_rfl
  f137 := Tryz.func89.trans (congrArg some (by kernel_rfl))
  f217 := Tryz.func125.trans (congrArg some (by kernel_rfl))
  f266 := Tryz.func150.trans (congrArg some (by kernel_rfl))
  t3 := Tryz.underlying3
  a3 := Tryz.isAgg3
  z3 := Tryz.sizeOf3
  v3 := Tryz.zeroValue3
  t5 := Tryz.underlying5
  a5 := Tryz.isAgg5
  z5 := Tryz.sizeOf5
  v5 := Tryz.zeroValue5
  t9 := Tryz.underlying9
  a9 := Tryz.isAgg9
  z9 := Tryz.sizeOf9
  v9 := Tryz.zeroValue9 }
theorem lnSufLays : Go.Proofs.Lays.n207 Tryz.prog lnRen := {
  mixed := by kernel_rfl
  f207 := Tryz.func126.trans (congrArg some (by kernel_rfl))
  t3 := Tryz.underlying3
  a3 := Tryz.isAgg3
  z3 := Tryz.sizeOf3
  v3 := Tryz.zeroValue3
  t4 := Tryz.underlying4
  a4 := Tryz.isAgg4
  z4 := Tryz.sizeOf4
  v4 := Tryz.zeroValue4
  t9 := Tryz.underlying9
  a9 := Tryz.isAgg9
  z9 := Tryz.sizeOf9
  v9 := Tryz.zeroValue9 }
end Go.Proofs.YtmhgpbfogdoaeaaGreatDoor

/- RangeB -/
namespace Go.Proofs.YtmhgpbfogdoaeaaGreatDoor
open Go Go.RowKit

/-- The contract of an iterator that writes into block b alone. -/
def SeqBox {α : Type} (P : Program) (g : Nat) (lb : Array Value) (encs : α → Array Value) (Kp : World → World → Prop) (S Sp : List α → Prop) (N b : Nat) (w : World) : Prop :=
  ∀ (l : Nat) (J Jx : List α → World → Prop) (W : World), Below w.heap.size w W → w.heap.size + 2 ≤ W.heap.size → Abide W.heap.size b (b + 1) J → Abide W.heap.size b (b + 1) Jx →
    (∀ pre x W1, J pre W1 → pre.length < N → YieldAt Fence.wide 0 P l (encs x) W1 fun e W' =>
      (e = .returned (.bool true) ∧ J (pre ++ [x]) W' ∧ Kp W1 W') ∨ (e = .returned (.bool false) ∧ Jx (pre ++ [x]) W' ∧ Kp W1 W')) →
    J [] W →
    CallsIn Fence.wide 0 P g (#[.func (.yield l) #[] #[]] ++ lb) W fun e W' => (∃ v, e = .returned v) ∧ ((∃ xs, S xs ∧ J xs W') ∨ (∃ pre, Sp pre ∧ Jx pre W'))

theorem kept_blockB {W W' : World} {B b k : Nat} {o : Obj} {row : Option Nat} (hg : W.grownBy W' row) (hr : ∀ r, row = some r → (B ≤ r ∧ ∃ o : Obj, W.heap[r]? = some o ∧ o.isCells = false) ∨ (b ≤ r ∧ r < b + 1)) (hk : W.heap[k]? = some o) (hB : k < B) (hb : k ≠ b) : W'.heap[k]? = some o :=
  (hg.block k (Array.getElem?_eq_some_iff.1 hk).1 (fun e => by rcases hr k e.symm with x | x <;> omega)).trans hk

variable {P : Program}
theorem range_box {α : Type} {g : Operand} {ps : Array Tmp} {assign body : Code} {Q : Exit → Act → World → Prop} {a : Act} {w : World}
    {gf : Nat} {lb : Array Value} (hg : a.eval g = .func (.func gf) #[] lb) (eg : ∀ args w, (callFunc gf args).run P w = .ok (.enter gf args) w)
    {encs : α → Array Value} {Kp : World → World → Prop} {S Sp : List α → Prop} {N z : Nat} {w0 : World} (hseq : SeqBox P gf lb encs Kp S Sp N z w0) (hzw : z < w.heap.size)
    (hKt : ∀ {A B C : World}, Kp A B → Kp B C → Kp A C) (hKb : ∀ (W : World) (l : Nat) (o o' : Obj), w.heap.size ≤ l → l < w.heap.size + 2 → W.heap[l]? = some o → o.isCells = false → Kp W (W.putObj l o')) (hb0 : Below w0.heap.size w0 w) (hps : ∀ x, (encs x).size = ps.size)
    (I : List α → World → Prop) (Ix : Code → List α → World → Prop) (hI : Abide w.heap.size z (z + 1) I) (hIx : ∀ c, Abide w.heap.size z (z + 1) (Ix c)) (h0 : I [] w) (a₁ : α → Act)
    (hassign : ∀ (l : Nat) (x : α) (W : World) (K : Act → World → Prop), K (a₁ x) W →
      assign.wpIn (Fence.wide.inRound l) 0 P (Exit.then K (fun _ _ _ => False)) { tmps := (ps.zip (encs x)).foldl (fun t (p, v) => t.setIfInBounds p v) a.tmps, defers := [] } W)
    (hbody : ∀ (l : Nat) (pre : List α) (x : α) (W : World), w.heap.size ≤ l → I pre W → pre.length < N → body.wpIn (Fence.wide.inRound l) 0 P (leaves w.heap.size Kp I Ix (pre ++ [x]) W) (a₁ x) W)
    (hdone : ∀ (D : Nat) (xs : List α) (W : World), w.heap.size ≤ D → S xs → I xs W → W.heap[D]? = some (.deferred (some [])) → Q .normal { a with defers := { target := .collected D, args := #[] } :: a.defers } W)
    (hstop : ∀ (D : Nat) (c : Code) (pre : List α) (W : World), w.heap.size ≤ D → Sp pre → Ix c pre W → W.heap[D]? = some (.deferred (some [])) → c.wpIn Fence.wide 0 P Q { a with defers := { target := .collected D, args := #[] } :: a.defers } W) :
    (Code.rangeFunc g ps assign body).wpIn Fence.wide 0 P Q a w := by
  refine wpIn_rangeFunc fun fn hfn => ?_
  -- the loop's record in each of its states
  obtain ⟨rec, hrec⟩ : ∃ rec : LoopState → Option Code → Loop, rec = fun st pe => { state := st, pending := pe, fn, tmps := a.tmps, params := ps, assign, body, defers := w.heap.size } := ⟨_, rfl⟩
  obtain ⟨V, hV⟩ : ∃ V, (w.alloc (.deferred (some []))).alloc (.loop (rec .ready none)) = V := ⟨_, rfl⟩
  have hVs : V.heap.size = w.heap.size + 2 := by rw [← hV]; simp
  have hVl : V.heap[w.heap.size + 1]? = some (.loop (rec .ready none)) := by
    rw [← hV]; have := World.alloc_heap_new (w.alloc (.deferred (some []))) (.loop (rec .ready none)); rwa [World.size_alloc] at this
  have hVd : V.heap[w.heap.size]? = some (.deferred (some [])) := by
    rw [← hV]; exact (Below.heap_alloc _ _ _ (by simp)).trans (World.alloc_heap_new w _)
  have hVI : I [] V := by rw [← hV]; exact hI.alloc _ (hI.alloc _ h0)
  have hVb : Below w0.heap.size w0 V := by
    rw [← hV]; exact hb0.trans ((((Below.refl _ w).alloc (Nat.le_refl _) _).alloc (by simp) _).mono hb0.size)
  refine ⟨w.heap.size + 1, [{ target := .collected w.heap.size, args := #[] }], V, { target := .fn (.func gf) lb, args := #[.func (.yield (w.heap.size + 1)) #[] #[]] }, V, gf,
    #[.func (.yield (w.heap.size + 1)) #[] #[]] ++ lb, V, ?_, ?_, fun _ _ => trivial, ?_, fun hd => (by cases hd), ?_⟩
  · rw [← hV, hrec]; exact run_enterLoop_outer _ _ _ _ _
  · simp only [resolve, hg]
    simp [go_sem]
  · simp [invoke, go_sem, eg]
  · refine (hseq (w.heap.size + 1)
      (fun pre W => I pre W ∧ W.heap[w.heap.size + 1]? = some (.loop (rec .ready none)) ∧ W.heap[w.heap.size]? = some (.deferred (some [])))
      (fun pre W => ∃ c, Ix c pre W ∧ W.heap[w.heap.size + 1]? = some (.loop (rec .done (some c))) ∧ W.heap[w.heap.size]? = some (.deferred (some [])))
      V hVb (by have := hb0.size; omega)
      (fun s A B row hs hg' hr => ⟨hI.more (by omega) (Nat.le_refl _) (Nat.le_refl _) s A B row hs.1 hg' hr, kept_blockB hg' hr hs.2.1 (by omega) (by omega), kept_blockB hg' hr hs.2.2 (by omega) (by omega)⟩)
      (fun s A B row hs hg' hr => by
        obtain ⟨c, hc, hl, hk⟩ := hs
        exact ⟨c, (hIx c).more (by omega) (Nat.le_refl _) (Nat.le_refl _) s A B row hc hg' hr, kept_blockB hg' hr hl (by omega) (by omega), kept_blockB hg' hr hk (by omega) (by omega)⟩)
      ?_ ⟨hVI, hVl, hVd⟩).mono ?_
    · -- one round
      rintro pre x W ⟨hi, hl, hk⟩ hlen
      have hlt : w.heap.size + 1 < W.heap.size := (Array.getElem?_eq_some_iff.1 hl).1
      have hy := run_yield (P := P) (args := encs x) hl (by rw [hrec]; exact hps x)
      rw [hrec] at hy
      refine ⟨fn, _, assign, body, hy, roundIn_of_wpIn hfn (hassign _ x W _ ?_)⟩
      clear hy
      refine ⟨_, run_beginRound hl (by rw [hrec]), ?_⟩
      have hl2 : (W.putObj (w.heap.size + 1) (.loop { rec .ready none with state := .busy })).heap[w.heap.size + 1]? = some (.loop { rec .ready none with state := .busy }) := World.putObj_heap_same hlt
      have hk2 : (W.putObj (w.heap.size + 1) (.loop { rec .ready none with state := .busy })).heap[w.heap.size]? = some (.deferred (some [])) := (World.putObj_heap_other (by omega)).trans hk
      have hw2 : Kp W (W.putObj (w.heap.size + 1) (.loop { rec .ready none with state := .busy })) := hKb _ _ _ _ (by omega) (by omega) hl rfl
      refine wpIn_mono (hbody _ pre x _ (by omega) (hI.putObj _ hi (by omega) hl rfl) hlen) ?_
      have fin : ∀ (jump : Option Code) (W3 : World), KeepsFrom w.heap.size (W.putObj (w.heap.size + 1) (.loop { rec .ready none with state := .busy })) W3 →
          (Instr.endRound (w.heap.size + 1) jump).run P W3 = .ok (.bool jump.isNone) (W3.putObj (w.heap.size + 1) (.loop (rec (if jump.isNone then .ready else .done) jump))) ∧
          W3.heap[w.heap.size + 1]? = some (.loop { rec .ready none with state := .busy }) ∧
          (W3.putObj (w.heap.size + 1) (.loop (rec (if jump.isNone then .ready else .done) jump))).heap[w.heap.size + 1]? = some (.loop (rec (if jump.isNone then .ready else .done) jump)) ∧
          (W3.putObj (w.heap.size + 1) (.loop (rec (if jump.isNone then .ready else .done) jump))).heap[w.heap.size]? = some (.deferred (some [])) := fun jump W3 hk3 => by
        have hl3 := hk3.same _ _ (by omega) hl2 rfl
        have := run_endRound (P := P) jump hl3
        rw [hrec] at this ⊢
        exact ⟨this, by rw [hrec] at hl3; exact hl3, World.putObj_heap_same (Array.getElem?_eq_some_iff.1 hl3).1, (World.putObj_heap_other (by omega)).trans (hk3.same _ _ (Nat.le_refl _) hk2 rfl)⟩
      have away : ∀ (c : Code) (W3 : World), KeepsFrom w.heap.size (W.putObj (w.heap.size + 1) (.loop { rec .ready none with state := .busy })) W3 → Kp (W.putObj (w.heap.size + 1) (.loop { rec .ready none with state := .busy })) W3 → Ix c (pre ++ [x]) W3 →
          ∃ v w₄, (Instr.endRound (w.heap.size + 1) (some c)).run P W3 = .ok v w₄ ∧ (((Ending.returned v) = .returned (.bool true) ∧ (I (pre ++ [x]) w₄ ∧ w₄.heap[w.heap.size + 1]? = some (.loop (rec .ready none)) ∧ w₄.heap[w.heap.size]? = some (.deferred (some []))) ∧ Kp W w₄) ∨
            ((Ending.returned v) = .returned (.bool false) ∧ (∃ c, Ix c (pre ++ [x]) w₄ ∧ w₄.heap[w.heap.size + 1]? = some (.loop (rec .done (some c))) ∧ w₄.heap[w.heap.size]? = some (.deferred (some []))) ∧ Kp W w₄)) := fun c W3 hk3 hkp3 hi3 => by
        obtain ⟨hr, hl3, hl4, hk4⟩ := fin (some c) W3 hk3
        exact ⟨_, _, hr, .inr ⟨rfl, ⟨c, (hIx _).putObj _ hi3 (by omega) hl3 rfl, hl4, hk4⟩, hKt (hKt hw2 hkp3) (hKb _ _ _ _ (by omega) (by omega) hl3 rfl)⟩⟩
      rintro e a3 W3 hp
      cases e with
      | normal =>
        obtain ⟨hk3, hkp3, hi3⟩ := hp
        obtain ⟨hr, hl3, hl4, hk4⟩ := fin none W3 hk3
        exact ⟨_, _, hr, .inl ⟨rfl, ⟨hI.putObj _ hi3 (by omega) hl3 rfl, hl4, hk4⟩, hKt (hKt hw2 hkp3) (hKb _ _ _ _ (by omega) (by omega) hl3 rfl)⟩⟩
      | ret => exact away .ret W3 hp.1 hp.2.1 hp.2.2
      | exit id => exact away (.exit id) W3 hp.1 hp.2.1 hp.2.2
      | goto t => exact away (.goto t) W3 hp.1 hp.2.1 hp.2.2
      | panic ch => exact hp.elim
      | outgrown => exact hp.elim
    · -- behind the iterator
      rintro e W2 ⟨⟨v, rfl⟩, (⟨xs, hS, hi, hl, hk⟩ | ⟨pre, hSp, c, hi, hl, hk⟩)⟩
      · exact ⟨none, _, by have := run_endLoop (P := P) hl (by rw [hrec]; simp); rw [hrec] at this; exact this, hdone _ xs _ (Nat.le_refl _) hS (hI.putObj _ hi (by omega) hl rfl) ((World.putObj_heap_other (by omega)).trans hk)⟩
      · exact ⟨some c, _, by have := run_endLoop (P := P) hl (by rw [hrec]; simp); rw [hrec] at this; exact this, hstop _ c pre _ (Nat.le_refl _) hSp ((hIx c).putObj _ hi (by omega) hl rfl) ((World.putObj_heap_other (by omega)).trans hk)⟩

end Go.Proofs.YtmhgpbfogdoaeaaGreatDoor

/- Ln -/
namespace Go.Proofs.YtmhgpbfogdoaeaaGreatDoor
open Go Go.RowKit Go.Sort
attribute [local go_sem] Oper.semAt_some

/-- A text without its newline at the end. -/
def sufT (s : ByteArray) : ByteArray := if Lib.hasSuffix (tl s) [10] = true then s.extract 0 (s.size - 1) else s
theorem suf_pos {s : ByteArray} (h : Lib.hasSuffix (tl s) [10] = true) : 1 ≤ s.size := by
  rcases Nat.eq_zero_or_pos s.size with h0 | h0
  · have : tl s = [] := List.eq_nil_of_length_eq_zero (by rw [tl_len]; exact h0)
    rw [this] at h
    cases h
  · exact h0
theorem suf_yes {s : ByteArray} (h : Lib.hasSuffix (tl s) [10] = true) : tl s = tl (sufT s) ++ [10] := by
  have h1 : [10] <:+ tl s := List.isSuffixOf_iff_suffix.1 h
  obtain ⟨p, e⟩ := h1
  have hl := congrArg List.length e
  rw [tl_len, List.length_append] at hl
  unfold sufT
  rw [if_pos h]
  have : tl (s.extract 0 (s.size - 1)) = (tl s).take (s.size - 1) := by
    show (s.extract 0 (s.size - 1)).data.toList = _
    rw [Lib.extract_data]
    rfl
  rw [this, ← e, List.take_left' (by simp at hl; omega)]
theorem suf_no {s : ByteArray} (h : Lib.hasSuffix (tl s) [10] = false) (p : List UInt8) : tl s ≠ p ++ [10] := fun e => by
  have : Lib.hasSuffix (tl s) [10] = true := List.isSuffixOf_iff_suffix.2 ⟨p, e.symm⟩
  rw [h] at this; cases this
theorem sufT_size (s : ByteArray) : (sufT s).size ≤ s.size := by
  unfold sufT
  split
  · rw [ByteArray.size_extract]; omega
  · exact Nat.le_refl _
theorem hasSuf_any (s : ByteArray) (w : World) (hs : s.size ≤ 4000000) :
    Calls Tryz.prog 126 #[.string s, .string ⟨#[10]⟩] w fun e w' => e = .returned (.bool (Lib.hasSuffix (tl s) [10])) ∧ w' = w :=
  Any.stringslite_HasSuffix lnSufLays s ⟨#[10]⟩ w (by omega)
set_option maxRecDepth 100000 in
set_option maxHeartbeats 2000000 in
theorem liteSuf_any (s : ByteArray) (w : World) (hs : s.size ≤ 4000000) :
    Calls Tryz.prog 90 #[.string s, .string ⟨#[10]⟩] w fun e w' => e = .returned (.tuple #[.string (sufT s), .bool (Lib.hasSuffix (tl s) [10])]) ∧ w' = w := by
  have H := Lib.hid (fun W => hasSuf_any s W hs)
  cases hb : Lib.hasSuffix (tl s) [10]
  · have e1 : sufT s = s := by unfold sufT; rw [if_neg (by rw [hb]; simp)]
    rw [hb] at H
    rw [e1]
    clear e1
    go_enter Tryz.func90, Tryz.ntmps90
    go_wp2_with (go_at_call 126; refine (H.out _).mono ?_; rintro e _ ⟨rfl, rfl⟩)
    go_ret2
    exact ⟨rfl, rfl⟩
  · have e1 : sufT s = s.extract 0 (s.size - 1) := by unfold sufT; rw [if_pos hb]
    have hp := suf_pos hb
    rw [hb] at H
    rw [e1]
    have k2 : IntKind.i64.wrap ((s.size : Int) - 1) = ((s.size - 1 : Nat) : Int) := by rw [IntWalk.i64_in _ (by omega)]; omega
    have k3 : ((s.size - 1 : Nat) : Int) ≤ (s.size : Int) := by omega
    have k4 : (0 : Int) ≤ ((s.size - 1 : Nat) : Int) := by omega
    clear e1
    go_enter Tryz.func90, Tryz.ntmps90
    go_wp2_with (go_at_call 126; refine (H.out _).mono ?_; rintro e _ ⟨rfl, rfl⟩)
    go_ret2
    exact ⟨rfl, rfl⟩
set_option maxRecDepth 100000 in
theorem cutSuf_any (s : ByteArray) (w : World) (hs : s.size ≤ 4000000) :
    Calls Tryz.prog 44 #[.string s, .string ⟨#[10]⟩] w fun e w' => e = .returned (.tuple #[.string (sufT s), .bool (Lib.hasSuffix (tl s) [10])]) ∧ w' = w := by
  have H := Lib.hid (fun W => liteSuf_any s W hs)
  go_enter Tryz.func44, Tryz.ntmps44
  go_wp2_with (go_at_call 90; refine (H.out _).mono ?_; rintro e _ ⟨rfl, rfl⟩)
  go_ret2
  exact ⟨rfl, rfl⟩
theorem nlIdx_any (s : ByteArray) (w : World) :
    Calls Tryz.prog 89 #[.string s, .int .u8 10] w fun e w' => e = .returned (.int .i64 (Lib.indexByte (tl s) 10)) ∧ w' = w :=
  Any.strings_IndexByte lnIdxLays s 10 w
theorem lines_any (s : ByteArray) (w : World) :
    Calls Tryz.prog 43 #[.string s] w fun e w' => e = .returned (.func (.func 88) #[] #[.pointer (some ⟨w.heap.size, 0, none⟩)]) ∧ w' = w.alloc (.cells #[.string s] 9) := by
  go_enter Tryz.func43, Tryz.ntmps43
  go_wp2
  go_ret
  exact ⟨rfl, rfl⟩

/-- A line. -/
abbrev Ln (M : Nat) := { x : ByteArray // x.size ≤ M }
def encLn {M : Nat} (x : Ln M) : Array Value := #[.string x.1]
def flatLn {M : Nat} (pre : List (Ln M)) : List UInt8 := (pre.map (fun x => tl x.1)).flatten
theorem flatLn_snoc {M : Nat} (pre : List (Ln M)) (x : Ln M) : flatLn (pre ++ [x]) = flatLn pre ++ tl x.1 := by simp [flatLn]
/-- A line, and what stands behind it. -/
def IsLn (x r : List UInt8) : Prop := (∃ p, x = p ++ [10] ∧ ∀ c ∈ p, c.toNat ≠ 10) ∨ (r = [] ∧ ∀ c ∈ x, c.toNat ≠ 10)
def LnAll {M : Nat} (s : ByteArray) (xs : List (Ln M)) : Prop := flatLn xs = tl s
def LnPart {M : Nat} (s : ByteArray) (pre : List (Ln M)) : Prop := ∃ pre' x r, pre = pre' ++ [x] ∧ flatLn pre ++ r = tl s ∧ IsLn (tl x.1) r
/-- Block b stands. -/
def KpB (b : Nat) (W W' : World) : Prop := W'.heap[b]? = W.heap[b]?
theorem KpB.trans {b : Nat} {X Y Z : World} (h : KpB b X Y) (k : KpB b Y Z) : KpB b X Z := Eq.trans k h
/-- What a line is at a text whose first newline stands at i. -/
theorem ln_yes {r : ByteArray} {i : Nat} (h : Lib.indexByte (tl r) 10 = (i : Int)) : i < r.size ∧ tl (r.extract 0 (i + 1)) ++ tl (r.extract (i + 1) r.size) = tl r ∧ IsLn (tl (r.extract 0 (i + 1))) (tl (r.extract (i + 1) r.size)) := by
  rcases nl_cases (tl r) with ⟨h1, -⟩ | ⟨p, q, e, hp⟩
  · rw [h] at h1; omega
  · rw [e, nl_index hp] at h
    have hi : i = p.length := by omega
    have hl := congrArg List.length e
    rw [tl_len, List.length_append, List.length_cons] at hl
    have e1 : tl (r.extract 0 (i + 1)) = (tl r).take (i + 1) := by
      show (r.extract 0 (i + 1)).data.toList = _
      rw [Lib.extract_data]
      rfl
    have e2 : tl (r.extract (i + 1) r.size) = (tl r).drop (i + 1) := by
      show (r.extract (i + 1) r.size).data.toList = (r.data.toList).drop (i + 1)
      rw [Lib.extract_data, List.take_of_length_le (by have : r.data.toList.length = r.size := tl_len r; rw [List.length_drop]; omega)]
    have e3 : (tl r).take (i + 1) = p ++ [10] := by rw [e, hi, show p ++ 10 :: q = (p ++ [10]) ++ q by simp, List.take_left' (by simp)]
    refine ⟨by omega, by rw [e1, e2, List.take_append_drop], ?_⟩
    rw [e1, e3]
    exact .inl ⟨p, rfl, hp⟩
theorem ln_no {r : ByteArray} (h : ¬ 0 ≤ Lib.indexByte (tl r) 10) : IsLn (tl r) [] := by
  rcases nl_cases (tl r) with ⟨-, h1⟩ | ⟨p, q, e, hp⟩
  · exact .inr ⟨rfl, h1⟩
  · rw [e, nl_index hp] at h; omega

set_option maxRecDepth 100000 in
set_option maxHeartbeats 4000000 in
theorem lines1_box (s : ByteArray) (b : Nat) (w : World) (hbx : Blk w b 9 #[.string s]) (hs : s.size ≤ 4000000) :
    SeqBox Tryz.prog 88 #[.pointer (some ⟨b, 0, none⟩)] (encLn (M := s.size)) (KpB b) (LnAll s) (LnPart s) s.size b w := by
  intro l J Jx W hW _ hJo hJxo hY h0
  refine callsIn_of_wp Tryz.func88 rfl trivial ?_ rfl
  simp only [Tryz.ntmps88, List.size_toArray, List.length_cons, List.length_nil, Nat.reduceAdd, Nat.reduceSub, Array.replicate_succ, Array.replicate_zero, List.push_toArray, List.append_toArray, List.nil_append, List.cons_append]
  have hB1 : Blk W b 9 #[.string s] := hbx.below hW hbx.lt
  clear hW hbx
  replace hJo := Lib.hid hJo
  replace hJxo := Lib.hid hJxo
  gi_wp2
  gi_loopg [3] s.size (fun gg _ wr => ∃ (pre : List (Ln s.size)) (r : ByteArray), J pre wr ∧ Blk wr b 9 #[.string r] ∧ flatLn pre ++ tl r = tl s ∧ pre.length ≤ (flatLn pre).length ∧ r.size ≤ gg)
  case atStart => exact ⟨[], s, h0, hB1, rfl, Nat.zero_le _, Nat.le_refl _⟩
  case round =>
    obtain ⟨pre, r, hJ, hbx, hfl, hpl, hgk⟩ := hrel
    have x0 : wr.cell? ⟨b, 0, none⟩ = some (.string r) := hbx.cell 0
    have f0 := hbx.frozen 0
    have hsz : (flatLn pre).length + r.size = s.size := by have := congrArg List.length hfl; rw [List.length_append, tl_len, tl_len] at this; exact this
    by_cases h0 : r.size = 0
    · have hr0 : tl r = [] := List.eq_nil_of_length_eq_zero (by rw [tl_len]; exact h0)
      rw [hr0, List.append_nil] at hfl
      replace hfl := Lib.hid hfl
      replace hJ := Lib.hid hJ
      replace hbx := Lib.hid hbx
      replace hr0 := Lib.hid hr0
      clear hY
      gi_wp2
      go_end0
      exact ⟨⟨_, rfl⟩, .inl ⟨_, hfl.out, hJ.out⟩⟩
    · have hpos : (0 : Int) < (r.size : Int) := by omega
      have hrs : r.size ≤ s.size := by omega
      have hlen : pre.length < s.size := by omega
      by_cases hi : 0 ≤ Lib.indexByte (tl r) 10
      · obtain ⟨i, hix⟩ : ∃ i : Nat, Lib.indexByte (tl r) 10 = (i : Int) := ⟨(Lib.indexByte (tl r) 10).toNat, by omega⟩
        obtain ⟨g1, g2, g3⟩ := ln_yes hix
        have HI := Lib.hid (nlIdx_any r wr)
        rw [hix] at HI
        have k1 : (0 : Int) ≤ (i : Int) := by omega
        have k2 : IntKind.i64.wrap ((i : Int) + 1) = ((i + 1 : Nat) : Int) := by rw [IntWalk.i64_in _ (by omega)]; omega
        have k3 : ((i + 1 : Nat) : Int) ≤ (r.size : Int) := by omega
        have k4 : (0 : Int) ≤ ((i + 1 : Nat) : Int) := by omega
        have hxs : (r.extract 0 (i + 1)).size ≤ s.size := by rw [ByteArray.size_extract]; omega
        have hx1 : 1 ≤ (tl (r.extract 0 (i + 1))).length := by rw [tl_len, ByteArray.size_extract]; omega
        have hr2 : (r.extract (i + 1) r.size).size + 1 ≤ r.size := by rw [ByteArray.size_extract]; omega
        replace g2 := Lib.hid g2
        replace g3 := Lib.hid g3
        replace hfl := Lib.hid hfl
        replace hix := Lib.hid hix
        replace hJ := Lib.hid hJ
        replace hbx := Lib.hid hbx
        gi_wp2
        refine ⟨trivial, rfl, (callsIn_wide.2 HI.out).mono ?_⟩
        rintro e w2 ⟨rfl, e2⟩
        rw [e2]
        clear e2
        gi_wp2
        gi_region
        have hJ2 := hJo.out.drew (hJo.out.setCell (.string (r.extract (i + 1) r.size)) hJ.out (Nat.le_refl _) (Nat.lt_succ_self _) (i := 0))
        have hb2 : Blk ((wr.setCell ⟨b, 0, none⟩ (.string (r.extract (i + 1) r.size))).drew) b 9 #[.string (r.extract (i + 1) r.size)] := hbx.out.set_ 0 _
        generalize (wr.setCell ⟨b, 0, none⟩ (.string (r.extract (i + 1) r.size))).drew = W1 at *
        have hsn := flatLn_snoc pre (⟨r.extract 0 (i + 1), hxs⟩ : Ln s.size)
        have hf2 : flatLn (pre ++ [(⟨r.extract 0 (i + 1), hxs⟩ : Ln s.size)]) ++ tl (r.extract (i + 1) r.size) = tl s := by rw [hsn, List.append_assoc, g2.out, hfl.out]
        have hp2 : (pre ++ [(⟨r.extract 0 (i + 1), hxs⟩ : Ln s.size)]).length ≤ (flatLn (pre ++ [(⟨r.extract 0 (i + 1), hxs⟩ : Ln s.size)])).length := by
          rw [hsn, List.length_append, List.length_append]
          have : ([(⟨r.extract 0 (i + 1), hxs⟩ : Ln s.size)]).length = 1 := rfl
          dsimp only
          omega
        have hsp : LnPart s (pre ++ [(⟨r.extract 0 (i + 1), hxs⟩ : Ln s.size)]) := ⟨pre, _, _, rfl, hf2, g3.out⟩
        obtain ⟨fn, tmps, assign, body, hy, hR⟩ := hY pre ⟨r.extract 0 (i + 1), hxs⟩ W1 hJ2 hlen
        simp only [encLn] at hy
        have hR' := Lib.hid hR
        replace hf2 := Lib.hid hf2
        replace hp2 := Lib.hid hp2
        replace hsp := Lib.hid hsp
        generalize r.extract (i + 1) r.size = r2 at *
        generalize r.extract 0 (i + 1) = x at *
        clear hR hY hJ hbx hJ2 hsn g2 g3 hfl x0 f0 HI
        gi_wp2
        refine ⟨rfl, hR'.out.mono ?_⟩
        rintro e W3 (⟨rfl, hJ3, hk3⟩ | ⟨rfl, hJx3, -⟩)
        · have hb3 : Blk W3 b 9 #[.string r2] := Eq.trans hk3 hb2
          replace hJ3 := Lib.hid hJ3
          clear hk3 hb2
          gi_wp2
          gi_roundg r2.size
          case measure => omega
          case rel => exact ⟨_, r2, hJ3.out, hb3, hf2.out, hp2.out, Nat.le_refl _⟩
        · replace hJx3 := Lib.hid hJx3
          gi_wp2
          refine bodyPost_ret (results_none rfl _ _ _) rfl ?_
          exact ⟨⟨_, rfl⟩, .inr ⟨_, hsp.out, hJx3.out⟩⟩
      · have g3 := ln_no hi
        have HI := Lib.hid (nlIdx_any r wr)
        have hi' : decide (0 ≤ Lib.indexByte (tl r) 10) = false := decide_eq_false hi
        generalize Lib.indexByte (tl r) 10 = z at *
        have hx1 : 1 ≤ (tl r).length := by rw [tl_len]; omega
        replace g3 := Lib.hid g3
        replace hfl := Lib.hid hfl
        replace hJ := Lib.hid hJ
        replace hbx := Lib.hid hbx
        gi_wp2
        refine ⟨trivial, rfl, (callsIn_wide.2 HI.out).mono ?_⟩
        rintro e w2 ⟨rfl, e2⟩
        rw [e2]
        clear e2
        have hJ2 := hJo.out.setCell (.string ⟨#[]⟩) hJ.out (Nat.le_refl _) (Nat.lt_succ_self _) (i := 0)
        have hb2 : Blk (wr.setCell ⟨b, 0, none⟩ (.string ⟨#[]⟩)) b 9 #[.string ⟨#[]⟩] := hbx.out.set_ 0 _
        have hsn := flatLn_snoc pre (⟨r, hrs⟩ : Ln s.size)
        have hf2 : flatLn (pre ++ [(⟨r, hrs⟩ : Ln s.size)]) ++ tl (⟨#[]⟩ : ByteArray) = tl s := by rw [hsn]; exact (List.append_nil _).trans hfl.out
        have hp2 : (pre ++ [(⟨r, hrs⟩ : Ln s.size)]).length ≤ (flatLn (pre ++ [(⟨r, hrs⟩ : Ln s.size)])).length := by
          rw [hsn, List.length_append, List.length_append]
          have : ([(⟨r, hrs⟩ : Ln s.size)]).length = 1 := rfl
          dsimp only
          omega
        have hsp : LnPart s (pre ++ [(⟨r, hrs⟩ : Ln s.size)]) := ⟨pre, _, _, rfl, hf2, g3.out⟩
        obtain ⟨fn, tmps, assign, body, hy, hR⟩ := hY pre ⟨r, hrs⟩ (wr.setCell ⟨b, 0, none⟩ (.string ⟨#[]⟩)) hJ2 hlen
        simp only [encLn] at hy
        have hR' := Lib.hid hR
        replace hf2 := Lib.hid hf2
        replace hp2 := Lib.hid hp2
        replace hsp := Lib.hid hsp
        have hr1 : 1 ≤ r.size := by omega
        clear hR hY hJ hbx hJ2 hsn g3 hfl HI
        gi_wp2
        refine ⟨rfl, hR'.out.mono ?_⟩
        rintro e W3 (⟨rfl, hJ3, hk3⟩ | ⟨rfl, hJx3, -⟩)
        · have hb3 : Blk W3 b 9 #[.string ⟨#[]⟩] := Eq.trans hk3 hb2
          replace hJ3 := Lib.hid hJ3
          clear hk3 hb2
          gi_wp2
          gi_roundg 0
          case measure => omega
          case rel => exact ⟨_, ⟨#[]⟩, hJ3.out, hb3, hf2.out, hp2.out, Nat.le_refl _⟩
        · replace hJx3 := Lib.hid hJx3
          gi_wp2
          refine bodyPost_ret (results_none rfl _ _ _) rfl ?_
          exact ⟨⟨_, rfl⟩, .inr ⟨_, hsp.out, hJx3.out⟩⟩
end Go.Proofs.YtmhgpbfogdoaeaaGreatDoor

/- Bj -/
namespace Go.Proofs.YtmhgpbfogdoaeaaGreatDoor
open Go.Shelf Go.RowKit

def bjRen : Go.Shelf.Ren := ⟨fun | 166 => 56 | 169 => 57 | 240 => 111 | 276 => 143 | n => n, fun | 0 => 0 | 3 => 3 | 4 => 4 | 5 => 5 | 9 => 9 | 20 => 20 | 37 => 22 | 70 => 86 | 72 => 88 | 75 => 90 | 80 => 93 | 127 => 139 | 164 => 153 | n => n, fun | n => n⟩
theorem jwstrLays : Go.Proofs.Lays.n166 Tryz.prog bjRen := {
  mixed := by kernel_rfl
  f166 := Tryz.func56.trans (congrArg some (by kernel_rfl))
  f240 := Tryz.func111.trans (congrArg some (by kernel_rfl))
  f276 := Tryz.func143.trans (congrArg some (by kernel_rfl))
  t0 := Tryz.underlying0
  a0 := Tryz.isAgg0
  z0 := Tryz.sizeOf0
  v0 := Tryz.zeroValue0
  t3 := Tryz.underlying3
  a3 := Tryz.isAgg3
  z3 := Tryz.sizeOf3
  v3 := Tryz.zeroValue3
  t4 := Tryz.underlying4
  a4 := Tryz.isAgg4
  z4 := Tryz.sizeOf4
  v4 := Tryz.zeroValue4
  t9 := Tryz.underlying9
  a9 := Tryz.isAgg9
  z9 := Tryz.sizeOf9
  v9 := Tryz.zeroValue9
  t20 := Tryz.underlying20
  a20 := Tryz.isAgg20
  z20 := Tryz.sizeOf20
  v20 := Tryz.zeroValue20
  t37 := Tryz.underlying22
  a37 := Tryz.isAgg22
  z37 := Tryz.sizeOf22
  v37 := Tryz.zeroValue22
  t70 := Tryz.underlying86
  a70 := Tryz.isAgg86
  z70 := Tryz.sizeOf86
  v70 := Tryz.zeroValue86
  t72 := Tryz.underlying88
  a72 := Tryz.isAgg88
  z72 := Tryz.sizeOf88
  v72 := Tryz.zeroValue88
  t75 := Tryz.underlying90
  a75 := Tryz.isAgg90
  z75 := Tryz.sizeOf90
  v75 := Tryz.zeroValue90
  t164 := Tryz.underlying153
  a164 := Tryz.isAgg153
  z164 := Tryz.sizeOf153
  v164 := Tryz.zeroValue153 }
theorem jbstrLays : Go.Proofs.Lays.n169 Tryz.prog bjRen := {
  mixed := by kernel_rfl
  f169 := Tryz.func57.trans (congrArg some (by kernel_rfl))
  t0 := Tryz.underlying0
  a0 := Tryz.isAgg0
  z0 := Tryz.sizeOf0
  v0 := Tryz.zeroValue0
  t3 := Tryz.underlying3
  a3 := Tryz.isAgg3
  z3 := Tryz.sizeOf3
  v3 := Tryz.zeroValue3
  t9 := Tryz.underlying9
  a9 := Tryz.isAgg9
  z9 := Tryz.sizeOf9
  v9 := Tryz.zeroValue9
  t37 := Tryz.underlying22
  a37 := Tryz.isAgg22
  z37 := Tryz.sizeOf22
  v37 := Tryz.zeroValue22
  t70 := Tryz.underlying86
  a70 := Tryz.isAgg86
  z70 := Tryz.sizeOf86
  v70 := Tryz.zeroValue86
  t72 := Tryz.underlying88
  a72 := Tryz.isAgg88
  z72 := Tryz.sizeOf88
  v72 := Tryz.zeroValue88
  t127 := Tryz.underlying139
  a127 := Tryz.isAgg139
  z127 := Tryz.sizeOf139
  v127 := Tryz.zeroValue139 }
theorem bjExtra : Builder.Extra Tryz.prog bjRen := {
  sizeBuilder := by kernel_rfl
  liesBuilder := by kernel_rfl
  t5 := Tryz.underlying5
  a5 := Tryz.isAgg5
  z5 := Tryz.sizeOf5
  v5 := Tryz.zeroValue5
  infoByte := by kernel_rfl
  cellsByte := by kernel_rfl
  sizeByte := by kernel_rfl
  neB5 := by decide }
end Go.Proofs.YtmhgpbfogdoaeaaGreatDoor

/- Bjw -/
namespace Go.Proofs.YtmhgpbfogdoaeaaGreatDoor
open Go Go.RowKit Go.Shelf

/-- The builder at block b, its row from block B on, holds these bytes. -/
def Bj (B b : Nat) (l : List UInt8) (w : World) : Prop := Lib.IsBuilderF 88 5 B b (Lib.byteCells l) w
theorem Bj.new (w : World) : Bj w.heap.size w.heap.size [] (w.alloc (.cells #[.pointer none, .slice none 0 0] 88)) := Lib.IsBuilderF.of (Lib.fresh_isBuilder 88 5 w)
theorem bjAt_none {T e : TypeId} {B b : Nat} {p : Value} {bs : List Value} {W W' : World} (h : Lib.BuilderAtF T e B b p bs W) (hg : W.grownBy W' none) : Lib.BuilderAtF T e B b p bs W' := by
  obtain ⟨hB, v, hb, hown, hne⟩ := h
  refine ⟨hB, v, (hg.block b (Array.getElem?_eq_some_iff.1 hb).1 (by simp)).trans hb, hown.kept hg ?_, hne⟩
  cases hv : v.ownBlock
  · exact .inl rfl
  · exact .inr (by simp)
/-- What keeps all blocks that there are keeps a builder. -/
theorem Bj.below {B b S : Nat} {l : List UInt8} {W W' : World} (h : Bj B b l W) (hb : Below S W W') (hS : W.heap.size ≤ S) : Bj B b l W' := by
  have hg : W.grownBy W' none := ⟨hb.os, hb.tape, hb.output, hb.size, fun k hk _ => hb.block k (by omega)⟩
  exact h.elim (fun x => .inl (bjAt_none x hg)) (fun x => .inr (bjAt_none x hg))
theorem jwstr_any (B b : Nat) (l : List UInt8) (s : ByteArray) (w : World) (h : Bj B b l w) (hl : l.length + s.size ≤ 20000000) (hB : B ≤ w.heap.size) :
    Calls Tryz.prog 56 #[.pointer (some ⟨b, 0, none⟩), .string s] w fun e w' => e = .returned (.tuple #[.int .i64 s.size, .nilIface]) ∧ Bj B b (l ++ s.data.toList) w' ∧ Below B w w' := by
  refine (Any.Builder_WriteString_k jwstrLays bjExtra B b (Lib.byteCells l) s w h (by rw [Lib.byteCells_length]; omega) hB).mono ?_
  rintro e w' ⟨he, h1, h2, h3⟩
  refine ⟨he, ?_, h2⟩
  unfold Bj
  rw [Lib.byteCells_append]
  exact .inr h1
theorem jbstr_any (B b : Nat) (l : List UInt8) (w : World) (h : Bj B b l w) (hB : B ≤ w.heap.size) :
    Calls Tryz.prog 57 #[.pointer (some ⟨b, 0, none⟩)] w fun e w' => e = .returned (.string ⟨l.toArray⟩) ∧ Below B w w' :=
  (Any.Builder_String_any_k jbstrLays bjExtra B b l w h hB).mono fun _ _ ⟨he, _, h2, _⟩ => ⟨he, h2⟩
end Go.Proofs.YtmhgpbfogdoaeaaGreatDoor

/- AppD -/
namespace Go.Proofs.YtmhgpbfogdoaeaaGreatDoor
open Go Go.RowKit

section
variable {P : Program} (w : World)
theorem wpList_appD {ops : Array Oper} {rest : List Oper} {o : Oper} {a : Act} {Q : Exit → Act → World → Prop} (hgd : o.guard = none) (s x : Operand) (t : TypeId)
    (ho : o.op = .call { callee := .builtin .append, args := #[s, x], argTypes := #[t, t] })
    (base : Nat) (e : TypeId) (i : TypeInfo) (z : Value) (size bytes : Nat) (ht : P.underlying t = some (.slice e)) (hi : P.info? e = some i) (hz : i.zero = some z)
    (hsize : i.size = size) (hby : i.bytes = bytes) (hzs : z.cells.size = size) (hsz : 0 < size)
    (v : Value) (n : Nat) (xs : List Value) (hs : a.eval s = v) (hown : w.ownsRow base e size v n xs)
    (ad : Addr) (m c : Nat) (news : List Value) (hx : a.eval x = .slice (some ad) m c) (hl : news.length = m * size) (hnews : ∀ j u, news[j]? = some u → w.cell? (ad.add j) = some u) (h1 : ∀ u ∈ news, u.oneCell' = true)
    (h63 : n + m ≤ maxLen) (hbytes : (n + m) * bytes ≤ 140737488355328) (hbase : base ≤ w.heap.size)
    (h : ∀ v' w', w'.ownsRow base e size v' (n + m) (xs ++ news) → w.grownBy w' v.ownBlock → (v'.ownBlock = v.ownBlock ∨ v'.ownBlock = some w.heap.size) → wpList P ops Q rest (a.put o.dst v') w') : wpList P ops Q (o :: rest) a w :=
  wpList_plain hgd fun _ hK => by
    obtain ⟨v', w', hrun, h2, h3, _, h5⟩ := run_append_own_at (P := P) w base t o.type e i z size bytes ht hi hz hsize hby hzs hsz v n xs hown ad m c news hl hnews h1 h63 hbytes hbase
    unfold Oper.wp execOp
    simp only [ho, resolve, invoke, builtin, Sem.run_bind, Sem.run_pure, Result.andThen_ok, List.map_toArray, List.map_cons, List.map_nil, hs, hx, hrun]
    exact hK _ _ (h v' w' h2 h3 h5)
end
end Go.Proofs.YtmhgpbfogdoaeaaGreatDoor

/- Wa -/
namespace Go.Proofs.YtmhgpbfogdoaeaaGreatDoor
open Go.RowKit

/-- The text of a journal. -/
def jT (q : List Dd) : ByteArray := ⟨(jL q).toArray⟩
/-- The lines of deeds, whatever these are. -/
def jF (q : List Dd) : ByteArray := ⟨(jFlat q).toArray⟩
theorem wordL_size (k : Int) : (wordL k).length ≤ 7 := by
  unfold wordL
  repeat' split
  all_goals decide
theorem deedL_size (a : Dd) : (deedL a).length ≤ 14 := by
  unfold deedL
  split
  · rename_i h
    have hd : (Lib.decDigits a.n.toNat).length ≤ 6 := num_size h.2.1 h.2.2
    have := wordL_size a.kind
    simp; omega
  · split
    · have := wordL_size a.kind; omega
    · simp
theorem jFlat_len (q : List Dd) : (jFlat q).length ≤ 15 * q.length := by
  induction q with
  | nil => simp [jFlat]
  | cons a q ih => have := deedL_size a; rw [jFlat_cons]; simp; omega
theorem jL_no {q : List Dd} {a : Dd} (h : a ∈ q) (ha : deedT a = ⟨#[]⟩) : jT q = ⟨#[]⟩ := by
  unfold jT jL
  have : ¬ jOk q = true := fun e => jOk_iff.1 e a h (by have := congrArg tl ha; rw [deedT_tl] at this; exact this)
  rw [if_neg this]
theorem jL_yes {q : List Dd} (h : ∀ a ∈ q, deedL a ≠ []) : jT q = jF q := by
  unfold jT jF jL
  rw [if_pos (jOk_iff.2 h)]
theorem jF_size (q : List Dd) : (jF q).size ≤ 15 * q.length := by
  have : (jF q).size = (jFlat q).length := by unfold jF; simp [ByteArray.size]
  have := jFlat_len q
  omega
theorem jT_size (q : List Dd) : (jT q).size ≤ 15 * q.length := by
  unfold jT jL
  split
  · exact jF_size q
  · simp [ByteArray.size]
theorem take_snocD {q : List Dd} {k : Nat} {x : Dd} (hx : q[k]? = some x) : q.take (k + 1) = q.take k ++ [x] := by
  rw [List.take_add_one, hx]; rfl
theorem jF_snoc {q : List Dd} {k : Nat} {x : Dd} (hx : q[k]? = some x) : (jF (q.take k) ++ deedT x) ++ ⟨#[10]⟩ = jF (q.take (k + 1)) := by
  refine tl_inj ?_
  rw [take_snocD hx, tl_app, tl_app, deedT_tl]
  unfold jF
  show jFlat (q.take k) ++ deedL x ++ [10] = jFlat (q.take k ++ [x])
  rw [jFlat_snoc]
  simp [lineL]
theorem jFlat_snoc2 {q : List Dd} {k : Nat} {x : Dd} (hx : q[k]? = some x) : jFlat (q.take k) ++ (deedT x ++ ⟨#[10]⟩).data.toList = jFlat (q.take (k + 1)) := by
  rw [take_snocD hx, jFlat_snoc]
  have : (deedT x ++ ⟨#[10]⟩).data.toList = tl (deedT x ++ ⟨#[10]⟩) := rfl
  rw [this, tl_app, deedT_tl]
  rfl
theorem deedT_ne {a : Dd} (h : ¬ deedT a = ⟨#[]⟩) : deedL a ≠ [] := fun e => h (tl_inj (by rw [deedT_tl, e]))
set_option maxRecDepth 100000 in
set_option maxHeartbeats 8000000 in
theorem specJournalText_any (A : Option Addr) (n c : Nat) (q : List Dd) (w : World) (h : DeedsAre w A n c q) (hn : n ≤ 1048577) :
    Calls Tryz.prog 39 #[.slice A n c] w fun e w' => e = .returned (.string (jT q)) ∧ Below w.heap.size w w' := by
  have hl := Lib.hid h.len
  have cs := dd_cells
  replace h := Lib.hid h
  go_enter Tryz.func39, Tryz.ntmps39
  go_wp2
  go_loopw [3, 4] (fun s3 s4 wr => ∃ k : Nat, k ≤ n ∧ s4 = .int .i64 k ∧ s3 = .string (jF (q.take k)) ∧ (∀ a ∈ q.take k, deedL a ≠ []) ∧ Below w.heap.size w wr) (fun _ s4 _ => n - (intOf s4).toNat)
  case atStart => exact ⟨0, Nat.zero_le _, rfl, rfl, by simp, Below.refl _ _⟩
  case round =>
    obtain ⟨k, hk, rfl, rfl, hok, hb⟩ := hrel
    replace hok := Lib.hid hok
    by_cases hlt : k < n
    · have hx : q[k]? = some (q[k]'(by have := hl.out; omega)) := List.getElem?_eq_getElem (by have := hl.out; omega)
      have hmem : q[k]'(by have := hl.out; omega) ∈ q := List.getElem_mem _
      generalize q[k]'(by have := hl.out; omega) = x at *
      obtain ⟨b, o, rfl, hbl, hc⟩ := (h.out.below hb (Nat.le_refl _)).at_ (by omega)
      obtain ⟨c1, c2⟩ := hc k _ hx
      have hfz := jF_size (q.take k)
      rw [List.length_take] at hfz
      have hds : (deedT x).size ≤ 14 := by have := deedL_size x; rw [← deedT_tl, tl_len] at this; exact this
      have hno := Lib.hid (jL_no hmem)
      have hsn := Lib.hid (jF_snoc hx)
      have hok2 := Lib.hid (fun (e : ¬ deedT x = ⟨#[]⟩) => (show ∀ a ∈ q.take (k + 1), deedL a ≠ [] from fun a ha => by
        rw [take_snocD hx] at ha
        rcases List.mem_append.1 ha with h1 | h1
        · exact hok.out a h1
        · rw [List.mem_singleton.1 h1]; exact deedT_ne e))
      have K := Lib.hid (fun W => specDeedText_any x W)
      have hcc := Lib.hid (fun (W : World) (hb2 : Below wr.heap.size wr W) => (⟨(hb2.cell (p := ⟨b, o + k * 2, none⟩) hbl).trans c1, (hb2.cell (p := ⟨b, o + k * 2 + 1, none⟩) hbl).trans c2⟩ : W.cell? ⟨b, o + k * 2, none⟩ = some (.int .i64 x.kind) ∧ W.cell? ⟨b, o + k * 2 + 1, none⟩ = some (.int .i64 x.n)))
      replace hb := Lib.hid hb
      replace hx := Lib.hid hx
      clear hc hmem
      generalize jF (q.take k) = f at *
      generalize deedT x = s at *
      obtain ⟨xk, xn⟩ := x
      dsimp only at *
      go_wp2_with (fail)
      refine (K.out wr).mono ?_
      rintro e w2 ⟨rfl, b2⟩
      have hb2 := Lib.hid (hb.out.trans (b2.mono hb.out.size))
      obtain ⟨d1, d2⟩ := hcc.out w2 b2
      clear c1 c2 hcc b2
      by_cases he : s = ⟨#[]⟩
      · have hse : s.toList.isEmpty = true := by rw [emp_iff]; exact decide_eq_true he
        have hg := Lib.hid (hno.out he)
        replace he := Lib.hid he
        clear K hsn hok2 hno
        go_wp2
        go_ret
        exact ⟨ret_str hg.out.symm, hb2.out⟩
      · have hse : s.toList.isEmpty = false := by rw [emp_iff]; exact decide_eq_false he
        replace hok2 := Lib.hid (hok2.out he)
        have hz1 : ¬ 9223372036854775807 < f.size + s.size := by omega
        have hz2 : ¬ 9223372036854775807 < (f ++ s).size + 1 := by rw [ByteArray.size_append]; omega
        have hz3 : ¬ 9223372036854775807 < f.size + s.size + 1 := by omega
        replace he := Lib.hid he
        go_wp2_with (fail)
        refine (K.out w2).mono ?_
        rintro e w3 ⟨rfl, b3⟩
        replace hb2 := Lib.hid (hb2.out.trans (b3.mono hb2.out.size))
        clear d1 d2 b3 K
        go_wp2
        go_roundw
        case rel => exact ⟨k + 1, by omega, by go_num, by rw [hsn.out], hok2.out, hb2.out⟩
        case measure => simp [intOf]; omega
    · obtain rfl : k = n := by omega
      have ht : q.take k = q := List.take_of_length_le (by have := hl.out; omega)
      rw [ht] at hok
      have hg := Lib.hid (jL_yes hok.out)
      rw [ht]
      replace ht := Lib.hid ht
      replace hb := Lib.hid hb
      generalize jF q = f at *
      go_wp2
      go_ret
      exact ⟨ret_str hg.out.symm, hb.out⟩
set_option maxRecDepth 100000 in
set_option maxHeartbeats 8000000 in
theorem implJournalText_any (A : Option Addr) (n c : Nat) (q : List Dd) (w : World) (h : DeedsAre w A n c q) (hn : n ≤ 1048577) (hT : LibT w) :
    Calls Tryz.prog 17 #[.slice A n c] w fun e w' => e = .returned (.string (jT q)) ∧ Below w.heap.size w w' := by
  have hl := Lib.hid h.len
  have cs := dd_cells
  have hN := Lib.hid (Bj.new w)
  have hB0 := Lib.hid ((Below.refl w.heap.size w).alloc (Nat.le_refl _) (.cells #[.pointer none, .slice none 0 0] 88))
  replace h := Lib.hid h
  go_enter Tryz.func17, Tryz.ntmps17
  go_upto_region 2 with (fail)
  generalize w.alloc (.cells #[.pointer none, .slice none 0 0] 88) = W0 at *
  go_wp2
  go_loopw [9] (fun s9 wr => ∃ k : Nat, k ≤ n ∧ s9 = .int .i64 k ∧ Bj w.heap.size w.heap.size (jFlat (q.take k)) wr ∧ (∀ a ∈ q.take k, deedL a ≠ []) ∧ Below w.heap.size w wr) (fun s9 _ => n - (intOf s9).toNat)
  case atStart => exact ⟨0, Nat.zero_le _, rfl, hN.out, by simp, hB0.out⟩
  case round =>
    clear hN hB0
    obtain ⟨k, hk, rfl, hbl, hok, hb⟩ := hrel
    replace hok := Lib.hid hok
    replace hbl := Lib.hid hbl
    by_cases hlt : k < n
    · have hx : q[k]? = some (q[k]'(by have := hl.out; omega)) := List.getElem?_eq_getElem (by have := hl.out; omega)
      have hmem : q[k]'(by have := hl.out; omega) ∈ q := List.getElem_mem _
      generalize q[k]'(by have := hl.out; omega) = x at *
      obtain ⟨b, o, rfl, hbo, hc⟩ := (h.out.below hb (Nat.le_refl _)).at_ (by omega)
      obtain ⟨c1, c2⟩ := hc k _ hx
      have hfz := jFlat_len (q.take k)
      rw [List.length_take] at hfz
      have hds : (deedT x).size ≤ 14 := by have := deedL_size x; rw [← deedT_tl, tl_len] at this; exact this
      have hno := Lib.hid (jL_no hmem)
      have hsn := Lib.hid (jFlat_snoc2 hx)
      have hok2 := Lib.hid (fun (e : ¬ deedT x = ⟨#[]⟩) => (show ∀ a ∈ q.take (k + 1), deedL a ≠ [] from fun a ha => by
        rw [take_snocD hx] at ha
        rcases List.mem_append.1 ha with h1 | h1
        · exact hok.out a h1
        · rw [List.mem_singleton.1 h1]; exact deedT_ne e))
      have K := Lib.hid (fun W hT => implDeedText_any x W hT)
      have hba := (Below.refl wr.heap.size wr).alloc (Nat.le_refl _) (.cells #[.int .i64 x.kind, .int .i64 x.n] 41)
      have kA := Lib.hid (Blk.new wr 41 #[.int .i64 x.kind, .int .i64 x.n])
      replace hbl := Lib.hid (hbl.out.below hba (Nat.le_refl _))
      replace hb := Lib.hid (hb.trans (hba.mono hb.size))
      replace hx := Lib.hid hx
      clear hc hmem hba
      obtain ⟨xk, xn⟩ := x
      dsimp only at *
      go_upto_region 5 with (fail)
      generalize wr.alloc (.cells #[.int .i64 xk, .int .i64 xn] 41) = W at *
      generalize wr.heap.size = p at *
      have x0 : W.cell? ⟨p, 0, none⟩ = some (.int .i64 xk) := kA.out.cell 0
      have x1 : W.cell? ⟨p, 1, none⟩ = some (.int .i64 xn) := kA.out.cell 1
      clear c1 c2
      go_wp2_with (fail)
      refine (K.out W (hT.below hb.out (Nat.le_refl _))).mono ?_
      rintro e w2 ⟨rfl, b2⟩
      have hb2 := Lib.hid (hb.out.trans (b2.mono hb.out.size))
      replace hbl := Lib.hid (hbl.out.below b2 (Nat.le_refl _))
      clear x0 x1 b2 K kA
      generalize deedT ⟨xk, xn⟩ = s at *
      generalize jFlat (q.take k) = f at *
      by_cases he : s = ⟨#[]⟩
      · have hse : s.toList.isEmpty = true := by rw [emp_iff]; exact decide_eq_true he
        have hg := Lib.hid (hno.out he)
        replace he := Lib.hid he
        clear hsn hok2 hno
        go_wp2
        go_ret
        exact ⟨ret_str hg.out.symm, hb2.out⟩
      · have hse : s.toList.isEmpty = false := by rw [emp_iff]; exact decide_eq_false he
        replace hok2 := Lib.hid (hok2.out he)
        have hz1 : ¬ 9223372036854775807 < s.size + 1 := by omega
        have hzs : (s ++ (⟨#[10]⟩ : ByteArray)).size = s.size + 1 := by rw [ByteArray.size_append]; rfl
        have KW := Lib.hid (jwstr_any w.heap.size w.heap.size f (s ++ (⟨#[10]⟩ : ByteArray)) w2 hbl.out (by omega) hb2.out.size)
        replace he := Lib.hid he
        go_wp2_with (fail)
        refine KW.out.mono ?_
        rintro e w3 ⟨rfl, n3, b3⟩
        rw [hsn.out] at n3
        replace hb2 := Lib.hid (hb2.out.trans b3)
        replace n3 := Lib.hid n3
        clear b3 KW hbl
        go_wp2
        go_roundw
        case rel => exact ⟨k + 1, by omega, by go_num, n3.out, hok2.out, hb2.out⟩
        case measure => simp [intOf]; omega
    · obtain rfl : k = n := by omega
      have ht : q.take k = q := List.take_of_length_le (by have := hl.out; omega)
      rw [ht] at hok hbl
      have hg : (⟨(jFlat q).toArray⟩ : ByteArray) = jT q := (jL_yes hok.out).symm
      replace hg := Lib.hid hg
      replace ht := Lib.hid ht
      have KS := Lib.hid (jbstr_any w.heap.size w.heap.size (jFlat q) wr hbl.out hb.size)
      replace hb := Lib.hid hb
      generalize jFlat q = f at *
      clear hbl
      go_wp2_with (fail)
      refine KS.out.mono ?_
      rintro e w3 ⟨rfl, b3⟩
      replace hb := Lib.hid (hb.out.trans b3)
      clear b3 KS
      go_wp2
      go_ret
      exact ⟨ret_str hg.out, hb.out⟩
end Go.Proofs.YtmhgpbfogdoaeaaGreatDoor

/- Ws -/
namespace Go.Proofs.YtmhgpbfogdoaeaaGreatDoor
open Go.RowKit

/-- The deeds of a journal and how many bytes they have come back. -/
def RetJ (w : World) (s : ByteArray) (e : Ending) (w' : World) : Prop := ∃ v, e = .returned (.tuple #[v, .int .i64 ((rj (tl s)).2 : Int)]) ∧ OwnDds w' w.heap.size v (rj (tl s)).1 ∧ Below w.heap.size w w'
/-- Where one stands: a line begins at f, its bytes up to k are no newlines. -/
structure RJS (s : ByteArray) (f k : Nat) (qs : List Dd) : Prop where
  fk : f ≤ k
  kn : k ≤ s.size
  eq : rj (tl s) = (qs ++ (rj ((tl s).drop f)).1, f + (rj ((tl s).drop f)).2)
  nn : ∀ j, f ≤ j → j < k → ∀ c, (tl s)[j]? = some c → c.toNat ≠ 10
  ql : qs.length ≤ f
theorem RJS.start (s : ByteArray) : RJS s 0 0 [] := ⟨Nat.le_refl _, Nat.zero_le _, by simp, fun j h1 h2 => by omega, Nat.le_refl _⟩
theorem tlA_get {s : ByteArray} {k : Nat} (h : k < s.size) : (tl s)[k]? = some s[k] := List.getElem?_eq_getElem (by rw [tl_len]; exact h)
section
variable {s : ByteArray} {f k : Nat} {qs : List Dd}
theorem RJS.on (h : RJS s f k qs) (hk : k < s.size) (hc : ¬ (s[k]).toNat = 10) : RJS s f (k + 1) qs :=
  ⟨by have := h.fk; omega, hk, h.eq, fun j h1 h2 c hj => by
    by_cases e : j = k
    · subst e
      rw [tlA_get hk] at hj
      cases hj
      exact hc
    · exact h.nn j h1 (by omega) c hj, h.ql⟩
theorem RJS.line (h : RJS s f k qs) (hk : k < s.size) (hc : (s[k]).toNat = 10) : (tl s).drop f = tl (s.extract f k) ++ 10 :: (tl s).drop (k + 1) ∧ ∀ c ∈ tl (s.extract f k), c.toNat ≠ 10 := by
  have e1 : tl (s.extract f k) = ((tl s).drop f).take (k - f) := by
    show (s.extract f k).data.toList = _
    rw [Lib.extract_data]
  have hkl : k < (tl s).length := by rw [tl_len]; exact hk
  have h10 : (tl s)[k]'hkl = 10 := by
    have := tlA_get hk
    rw [List.getElem?_eq_getElem hkl] at this
    have e := Option.some.inj this
    rw [e]
    exact UInt8.toNat_inj.1 hc
  have hfk := h.fk
  refine ⟨?_, fun c hm => ?_⟩
  · rw [e1]
    have e2 : ((tl s).drop f).drop (k - f) = 10 :: (tl s).drop (k + 1) := by
      rw [List.drop_drop, show f + (k - f) = k by omega, List.drop_eq_getElem_cons hkl, h10]
    rw [← e2, List.take_append_drop]
  · rw [e1] at hm
    obtain ⟨j, hj⟩ := List.getElem?_of_mem hm
    rw [List.getElem?_take] at hj
    split at hj
    · rw [List.getElem?_drop] at hj
      exact h.nn (f + j) (by omega) (by omega) c hj
    · cases hj
theorem RJS.yes (h : RJS s f k qs) (hk : k < s.size) (hc : (s[k]).toNat = 10) (hb : rdB (tl (s.extract f k)) = true) : RJS s (k + 1) (k + 1) (qs ++ [rdV (tl (s.extract f k))]) := by
  obtain ⟨e, hp⟩ := h.line hk hc
  have hl : (tl (s.extract f k)).length = k - f := by rw [tl_len, ByteArray.size_extract]; omega
  have hfk := h.fk
  refine ⟨Nat.le_refl _, hk, ?_, fun j h1 h2 => by omega, by rw [List.length_append]; have := h.ql; simp; omega⟩
  rw [h.eq, e, rj_yes hp hb, hl]
  refine Prod.ext (by simp) ?_
  dsimp only
  omega
theorem RJS.no (h : RJS s f k qs) (hk : k < s.size) (hc : (s[k]).toNat = 10) (hb : rdB (tl (s.extract f k)) = false) : rj (tl s) = (qs, f) := by
  obtain ⟨e, hp⟩ := h.line hk hc
  rw [h.eq, e, rj_no hp hb]
  simp
theorem RJS.fin (h : RJS s f s.size qs) : rj (tl s) = (qs, f) := by
  have : ∀ c ∈ (tl s).drop f, c.toNat ≠ 10 := fun c hm => by
    obtain ⟨j, hj⟩ := List.getElem?_of_mem hm
    rw [List.getElem?_drop] at hj
    refine h.nn (f + j) (by omega) ?_ c hj
    rcases Nat.lt_or_ge (f + j) s.size with h1 | h1
    · exact h1
    · rw [List.getElem?_eq_none (by rw [tl_len]; exact h1)] at hj; cases hj
  rw [h.eq, rj_none this]
  simp
end
set_option maxRecDepth 100000 in
set_option maxHeartbeats 8000000 in
theorem specReadJournal_any (s : ByteArray) (w : World) (hs : s.size ≤ 2000000) :
    Calls Tryz.prog 10 #[.string s] w (RetJ w s) := by
  obtain ⟨i0, hi, hz0, hz1, hz2⟩ := info_parts dd_info
  have cs := dd_cells
  have hrow0 : (w.alloc (.cells #[] 41)).ownsRow w.heap.size 41 2 (.slice (some ⟨w.heap.size, 0, none⟩) 0 0) 0 [] := World.ownsRow_made w #[] 0 (Nat.le_refl _) (by unfold maxLen; omega) rfl
  have hB0 := Lib.hid ((Below.refl w.heap.size w).alloc (Nat.le_refl _) (.cells #[] 41))
  have hO : Hid (OwnDds (w.alloc (.cells #[] 41)) w.heap.size (.slice (some ⟨w.heap.size, 0, none⟩) 0 0) []) := hrow0
  clear hrow0
  go_enter Tryz.func10, Tryz.ntmps10
  go_upto_region 2 with (fail)
  generalize w.alloc (.cells #[] 41) = W at *
  go_wp2
  go_loopw [4, 5, 6] (fun v s5 s6 wr => ∃ (f k : Nat) (qs : List Dd), s5 = .int .i64 (f : Int) ∧ s6 = .int .i64 (k : Int) ∧ RJS s f k qs ∧ OwnDds wr w.heap.size v qs ∧ Below w.heap.size w wr) (fun _ _ s6 _ => s.size - (intOf s6).toNat)
  case atStart => exact ⟨0, 0, [], rfl, rfl, RJS.start s, hO.out, hB0.out⟩
  case round =>
    clear hO hB0
    obtain ⟨f, k, qs, rfl, rfl, hJ, ho, hb⟩ := hrel
    have hfk := hJ.fk
    have hkn := hJ.kn
    have hql := hJ.ql
    by_cases hlt : k < s.size
    · by_cases hc : (s[k]).toNat = 10
      · have k1 : (0 : Int) ≤ (f : Int) := by omega
        have k2 : (f : Int) ≤ (k : Int) := by omega
        have k3 : (k : Int) ≤ (s.size : Int) := by omega
        have hxz : (s.extract f k).size ≤ 2000000 := by rw [ByteArray.size_extract]; omega
        have HY := Lib.hid (hJ.yes hlt hc)
        have HN := Lib.hid (hJ.no hlt hc)
        have hc' : ((s[k]).toNat : Int) = 10 := by omega
        replace ho := Lib.hid ho
        replace hb := Lib.hid hb
        replace hJ := Lib.hid hJ
        replace hc := Lib.hid hc
        have KR := Lib.hid (specReadDeed_any (s.extract f k) wr hxz)
        unfold RetRd at KR
        cases hrb : rdB (tl (s.extract f k))
        · have hN := Lib.hid (HN.out hrb)
          rw [hrb, rd_no hrb] at KR
          have hfin : ∀ W', Below wr.heap.size wr W' → RetJ w s (.returned (.tuple #[u4, .int .i64 (f : Int)])) W' := fun W' h => ⟨_, by rw [hN.out], by rw [hN.out]; exact ho.out.below h (Nat.le_refl _), hb.out.trans (h.mono hb.out.size)⟩
          replace hfin := Lib.hid hfin
          replace hrb := Lib.hid hrb
          clear HY HN
          dsimp only at KR
          go_wp2_with (go_at_call 46; refine KR.out.mono ?_; rintro e w2 ⟨rfl, b2⟩; have hB2 := Lib.hid (b2.alloc b2.size (.cells #[.int .i64 0, .int .i64 0] 41)); clear b2)
          go_ret2
          exact hfin.out _ hB2.out
        · have hY := Lib.hid (HY.out hrb)
          rw [hrb] at KR
          generalize rdV (tl (s.extract f k)) = y at *
          obtain ⟨xk, xn⟩ := y
          dsimp only at KR
          replace hrb := Lib.hid hrb
          clear HY HN
          go_wp2_with (go_at_call 46; refine KR.out.mono ?_; rintro e w2 ⟨rfl, b2⟩; refine Hid.out ?_)
          have hba := b2.alloc b2.size (.cells #[.int .i64 xk, .int .i64 xn] 41)
          have ho2 := Lib.hid (ho.out.below hba (Nat.le_refl _))
          have hB2 := Lib.hid (hb.out.trans (hba.mono hb.out.size))
          have kX := Lib.hid (Blk.new w2 41 #[.int .i64 xk, .int .i64 xn])
          clear hba b2
          refine Lib.hid ?_
          go_upto_region 8 with (fail)
          generalize w2.alloc (.cells #[.int .i64 xk, .int .i64 xn] 41) = W2 at *
          generalize w2.heap.size = q2 at *
          have x0 : W2.cell? ⟨q2, 0, none⟩ = some (.int .i64 xk) := kX.out.cell 0
          have x1 : W2.cell? ⟨q2, 1, none⟩ = some (.int .i64 xn) := kX.out.cell 1
          have hql2 : qs.length ≤ 2000000 := by omega
          have hbs : w.heap.size ≤ W2.heap.size := hB2.out.size
          replace hql2 := Lib.hid hql2
          go_wp2_with (at_builtin; refine wpList_appD _ rfl _ _ 24 rfl w.heap.size 41 i0 (.agg #[.int .i64 0, .int .i64 0]) 2 16 Tryz.underlying24 hi hz0 hz1 hz2 rfl (by decide) _ _ _ rfl (World.ownsRow.alloc ho2.out _) ⟨W2.heap.size, 0, none⟩ 1 1 [.int .i64 xk, .int .i64 xn] rfl rfl (cellD_two _ _ _ _) (fun x hx => by simp at hx; rcases hx with rfl | rfl <;> rfl) (by have := hql2.out; unfold maxLen; omega) (by have := hql2.out; omega) (by simp; omega) ?_; intro v' w4 hown' hg4 hv')
          have ho4 : OwnDds w4 w.heap.size v' (qs ++ [⟨xk, xn⟩]) := OwnDds.snoc (a := ⟨xk, xn⟩) hown'
          have hal := World.ownsRow.alloc ho2.out (.cells #[.int .i64 xk, .int .i64 xn] 41)
          have hB4 := belowD_own (hB2.out.alloc hB2.out.size (.cells #[.int .i64 xk, .int .i64 xn] 41)) hal hg4 (by have := hB2.out.size; simp; omega) (Nat.le_refl _)
          replace ho4 := Lib.hid ho4
          replace hB4 := Lib.hid hB4
          have kw : IntKind.i64.wrap ((k : Int) + 1) = ((k + 1 : Nat) : Int) := by rw [IntWalk.i64_in _ (by omega)]; omega
          clear hown' hal hg4 hv' ho2 hB2 x0 x1 kX
          go_wp2
          go_roundw
          case rel => exact ⟨k + 1, k + 1, _, by go_num, by go_num, hY.out, ho4.out, hB4.out⟩
          case measure => simp [intOf]; omega
      · have hJ2 := Lib.hid (hJ.on hlt hc)
        have hc' : ¬ ((s[k]).toNat : Int) = 10 := by omega
        replace ho := Lib.hid ho
        replace hb := Lib.hid hb
        replace hJ := Lib.hid hJ
        replace hc := Lib.hid hc
        go_wp2
        go_roundw
        case rel => exact ⟨f, k + 1, qs, rfl, by go_num, hJ2.out, ho.out, hb.out⟩
        case measure => simp [intOf]; omega
    · obtain rfl : k = s.size := by omega
      have hN := Lib.hid hJ.fin
      have hfin : RetJ w s (.returned (.tuple #[u4, .int .i64 (f : Int)])) wr := ⟨_, by rw [hN.out], by rw [hN.out]; exact ho, hb⟩
      replace hfin := Lib.hid hfin
      clear hJ ho hb
      go_wp2
      go_ret2
      exact hfin.out
end Go.Proofs.YtmhgpbfogdoaeaaGreatDoor

/- Wi -/
namespace Go.Proofs.YtmhgpbfogdoaeaaGreatDoor
open Go Go.RowKit Go.Shelf Go.Sort
attribute [local go_sem] Oper.semAt_some

/-- The deeds of the lines that have come lie in the row v, which the box holds, and their bytes are counted in the box behind it. -/
structure JIn (w W0 : World) (v : Value) (L : List Dd) (W : World) : Prop where
  own : OwnDds W W0.heap.size v L
  box : Blk W w.heap.size 24 #[v]
  cnt : Blk W (w.heap.size + 1) 3 #[.int .i64 ((jFlat L).length : Int)]
  low : Below w.heap.size w W
  size : W0.heap.size ≤ W.heap.size
theorem JIn.keep {w W0 W W' : World} {v : Value} {L : List Dd} {row : Option Nat} (h : JIn w W0 v L W) (h3 : w.heap.size + 3 ≤ W0.heap.size) (hg : W.grownBy W' row) (hr : ∀ r, row = some r → (W0.heap.size ≤ r ∧ ∃ o : Obj, W.heap[r]? = some o ∧ o.isCells = false) ∨ (w.heap.size + 2 ≤ r ∧ r < w.heap.size + 2 + 1)) : JIn w W0 v L W' := by
  have hn : ∀ g, g < w.heap.size + 2 → row ≠ some g := fun g hgl e => by rcases hr g e with x | x <;> omega
  refine ⟨?_, (hg.block _ h.box.lt (fun e => hn _ (by omega) e.symm)).trans h.box, (hg.block _ h.cnt.lt (fun e => hn _ (by omega) e.symm)).trans h.cnt, h.low.grown hg h.low.size (fun k e => by rcases hr k e with x | x <;> omega), Nat.le_trans h.size hg.size⟩
  refine h.own.kept hg ?_
  rcases h.own.2 with ⟨rfl, _⟩ | ⟨g, cap, cur, rfl, hB, hh, _⟩
  · exact .inl rfl
  · refine .inr fun e => ?_
    rcases hr g e.symm with ⟨_, o, ho, hc⟩ | x
    · rw [hh] at ho; cases ho; cases hc
    · omega
def JAt {M : Nat} (w W0 : World) (pre : List (Ln M)) (W : World) : Prop := ∃ v L, flatLn pre = jFlat L ∧ (∀ a ∈ L, deedL a ≠ []) ∧ L.length ≤ pre.length ∧ JIn w W0 v L W
/-- A line that is none of a deed. -/
def BadLn (x : ByteArray) : Prop := Lib.hasSuffix (tl x) [10] = false ∨ rdB (tl (sufT x)) = false
def JStop {M : Nat} (w W0 : World) (pre : List (Ln M)) (W : World) : Prop := ∃ v L pre' x, pre = pre' ++ [x] ∧ BadLn x.1 ∧ flatLn pre' = jFlat L ∧ (∀ a ∈ L, deedL a ≠ []) ∧ JIn w W0 v L W
theorem rj_end {l : List UInt8} {L : List Dd} (h : l = jFlat L) (hL : ∀ a ∈ L, deedL a ≠ []) : rj l = (L, (jFlat L).length) := by
  have := rj_flat L [] hL
  rw [List.append_nil, rj_none (l := []) (by simp), List.append_nil] at this
  rw [h, this]
  simp
theorem rj_bad {x : ByteArray} {r : List UInt8} (hb : BadLn x) (hl : IsLn (tl x) r) : rj (tl x ++ r) = ([], 0) := by
  rcases hl with ⟨p, e, hp⟩ | ⟨rfl, hn⟩
  · have hs : Lib.hasSuffix (tl x) [10] = true := by
      cases h : Lib.hasSuffix (tl x) [10]
      · exact absurd e (suf_no h p)
      · rfl
    have hx := suf_yes hs
    have hpe : p = tl (sufT x) := by rw [e] at hx; exact List.append_cancel_right hx
    rcases hb with h | h
    · rw [hs] at h; cases h
    · rw [e, List.append_assoc, List.singleton_append, rj_no hp (by rw [hpe]; exact h)]
  · rw [List.append_nil, rj_none hn]
theorem rj_stop {l r : List UInt8} {x : ByteArray} {L : List Dd} (h : (jFlat L ++ tl x) ++ r = l) (hL : ∀ a ∈ L, deedL a ≠ []) (hb : BadLn x) (hl : IsLn (tl x) r) : rj l = (L, (jFlat L).length) := by
  rw [← h, List.append_assoc, rj_flat L _ hL, rj_bad hb hl]
  simp
theorem jin_line {x : ByteArray} {L : List Dd} (h1 : Lib.hasSuffix (tl x) [10] = true) (h2 : rdB (tl (sufT x)) = true) : jFlat (L ++ [rdV (tl (sufT x))]) = jFlat L ++ tl x ∧ deedL (rdV (tl (sufT x))) ≠ [] := by
  obtain ⟨e1, e2⟩ := rd_text h2
  refine ⟨?_, by rw [e1]; exact e2⟩
  rw [jFlat_snoc]
  unfold lineL
  rw [e1, ← suf_yes h1]

theorem below_putJ {B : Nat} {w W : World} {D : Nat} {o : Obj} (h : Below B w W) (hD : B ≤ D) : Below B w (W.putObj D o) := ⟨h.os, h.tape, h.output, by simpa using h.size, fun k hk => (World.putObj_heap_other (by omega)).trans (h.block k hk)⟩
theorem own_putJ {W : World} {B D : Nat} {v : Value} {L : List Dd} {o o' : Obj} (h : OwnDds W B v L) (hK : W.heap[D]? = some o) (ho : o.isCells = false := by rfl) : OwnDds (W.putObj D o') B v L := by
  refine h.kept (grownBy_putObj' W D o') ?_
  rcases h.2 with ⟨rfl, _⟩ | ⟨g, cap, cur, rfl, _, hh, _⟩
  · exact .inl rfl
  · refine .inr fun e => ?_
    simp [Value.ownBlock] at e
    subst e
    rw [hh] at hK; cases hK; cases ho
/-- What a line more leaves. -/
theorem jin_step {w W0 W W3 W4 : World} {v v' : Value} {L L' : List Dd} {u : Int} (h : JIn w W0 v L W) (h3 : w.heap.size + 3 ≤ W0.heap.size) (hb : Below W.heap.size W W3) (hg : W3.grownBy W4 v.ownBlock) (ho : OwnDds W4 W0.heap.size v' L') (hu : u = ((jFlat L').length : Int)) :
    JIn w W0 v' L' ((W4.setCell ⟨w.heap.size, 0, none⟩ v').setCell ⟨w.heap.size + 1, 0, none⟩ (.int .i64 u)) ∧ KeepsFrom W0.heap.size W ((W4.setCell ⟨w.heap.size, 0, none⟩ v').setCell ⟨w.heap.size + 1, 0, none⟩ (.int .i64 u)) ∧ KpB (w.heap.size + 1 + 1) W ((W4.setCell ⟨w.heap.size, 0, none⟩ v').setCell ⟨w.heap.size + 1, 0, none⟩ (.int .i64 u)) := by
  have hv3 : OwnDds W3 W0.heap.size v L := h.own.below hb (Nat.le_refl _)
  have hlt : ∀ k, v.ownBlock = some k → W0.heap.size ≤ k ∧ k < W3.heap.size := fun k e => World.ownsRow.lt hv3 k e
  have hne : ∀ k, k < W0.heap.size → v.ownBlock ≠ some k := fun k hk e => by have := (hlt k e).1; omega
  have hws := h.size
  have hbs := hb.size
  have hgs := hg.size
  have hk : ∀ k, k < W0.heap.size → W4.heap[k]? = W.heap[k]? := fun k hk => (hg.block k (by omega) (fun e => hne k hk e.symm)).trans (hb.block k (by omega))
  have hx4 : Blk W4 w.heap.size 24 #[v] := (hk _ (by omega)).trans h.box
  have hc4 : Blk W4 (w.heap.size + 1) 3 #[.int .i64 ((jFlat L).length : Int)] := (hk _ (by omega)).trans h.cnt
  have hne' : ∀ k, k < W0.heap.size → v'.ownBlock ≠ some k := fun k hk e => by have := (World.ownsRow.lt ho k e).1; omega
  have hl4 : Below w.heap.size w W4 := (h.low.trans (hb.mono h.low.size)).grown hg (by have := h.low.size; omega) (fun k e => by have := (hlt k e).1; omega)
  refine ⟨⟨ownN_set (ownN_set ho (hne' _ (by omega))) (hne' _ (by omega)), ?_, ?_, ?_, ?_⟩, ⟨?_, ?_⟩, ?_⟩
  · exact (Below.heap_setCell _ _ _ _ (by show w.heap.size ≠ w.heap.size + 1; omega)).trans (hx4.set_ 0 v')
  · have h5 : Blk (W4.setCell ⟨w.heap.size, 0, none⟩ v') (w.heap.size + 1) 3 #[.int .i64 ((jFlat L).length : Int)] := (Below.heap_setCell _ _ _ _ (by show w.heap.size + 1 ≠ w.heap.size; omega)).trans hc4
    rw [← hu]
    exact h5.set_ 0 _
  · exact (hl4.setCell (p := ⟨w.heap.size, 0, none⟩) (Nat.le_refl _) _).setCell (p := ⟨w.heap.size + 1, 0, none⟩) (by show w.heap.size ≤ w.heap.size + 1; omega) _
  · simp [World.setCell]
    omega
  · simp [World.setCell]
    omega
  · intro k o hB hko hoc
    have hkW : k < W.heap.size := (Array.getElem?_eq_some_iff.1 hko).1
    refine (Below.heap_setCell _ _ _ _ (by show k ≠ w.heap.size + 1; omega)).trans ((Below.heap_setCell _ _ _ _ (by show k ≠ w.heap.size; omega)).trans ((hg.block k (by omega) (fun e => ?_)).trans ((hb.block k hkW).trans hko)))
    have h3k : W3.heap[k]? = some o := (hb.block k hkW).trans hko
    rcases hv3.2 with ⟨rfl, _⟩ | ⟨g, cap, cur, rfl, _, hh, _⟩
    · simp [Value.ownBlock] at e
    · simp [Value.ownBlock] at e
      subst e
      rw [hh] at h3k; cases h3k; cases hoc
  · exact (Below.heap_setCell _ _ _ _ (by show w.heap.size + 1 + 1 ≠ w.heap.size + 1; omega)).trans ((Below.heap_setCell _ _ _ _ (by show w.heap.size + 1 + 1 ≠ w.heap.size; omega)).trans (hk _ (by omega)))

set_option maxRecDepth 100000 in
set_option maxHeartbeats 4000000 in
theorem implReadJournal_any (s : ByteArray) (w : World) (hs : s.size ≤ 4000000) (hT : LibT w) (hE : LibE w) :
    Calls Tryz.prog 9 #[.string s] w (RetJ w s) := by
  obtain ⟨i0, hi, hz0, hz1, hz2⟩ := info_parts dd_info
  have cs := dd_cells
  refine (callsIn_wide (n := 0)).1 ?_
  refine callsIn_of_wp_marks Tryz.func9 rfl trivial ?_ rfl
  simp only [Tryz.ntmps9, List.size_toArray, List.length_cons, List.length_nil, Nat.reduceAdd, Nat.reduceSub, Array.replicate_succ, Array.replicate_zero, List.push_toArray, List.append_toArray, List.nil_append, List.cons_append]
  gi_wp2
  refine ⟨trivial, rfl, (callsIn_wide.2 (lines_any _ _)).mono ?_⟩
  rintro e _ ⟨rfl, rfl⟩
  gi_wp2
  have hX0 : Blk (((w.alloc (.cells #[.slice none 0 0] 24)).alloc (.cells #[.int .i64 0] 3)).alloc (.cells #[.string s] 9)) w.heap.size 24 #[.slice none 0 0] := ((Blk.new w 24 #[.slice none 0 0]).alloc _).alloc _
  have hX1 : Blk (((w.alloc (.cells #[.slice none 0 0] 24)).alloc (.cells #[.int .i64 0] 3)).alloc (.cells #[.string s] 9)) (w.heap.size + 1) 3 #[.int .i64 0] := (blk_new_at _ (by simp)).alloc _
  have hX2 : Blk (((w.alloc (.cells #[.slice none 0 0] 24)).alloc (.cells #[.int .i64 0] 3)).alloc (.cells #[.string s] 9)) (w.heap.size + 1 + 1) 9 #[.string s] := blk_new_at _ (by simp)
  have hB0 := (((Below.refl w.heap.size w).alloc (Nat.le_refl _) (.cells #[.slice none 0 0] 24)).alloc (by simp) (.cells #[.int .i64 0] 3)).alloc (by simp; omega) (.cells #[.string s] 9)
  have hs0 : (((w.alloc (.cells #[.slice none 0 0] 24)).alloc (.cells #[.int .i64 0] 3)).alloc (.cells #[.string s] 9)).heap.size = w.heap.size + 3 := by simp
  generalize (((w.alloc (.cells #[.slice none 0 0] 24)).alloc (.cells #[.int .i64 0] 3)).alloc (.cells #[.string s] 9)) = W0 at *
  have hs3 : w.heap.size + 3 ≤ W0.heap.size := by omega
  have hJ0 : JIn w W0 (.slice none 0 0) [] W0 := ⟨⟨rfl, .inl ⟨rfl, rfl⟩⟩, hX0, hX1, hB0, Nat.le_refl _⟩
  clear hs0 hX0 hX1 hB0
  refine range_box (gf := 88) (lb := #[.pointer (some ⟨w.heap.size + 1 + 1, 0, none⟩)]) rfl (enters_of Tryz.func88 (by kernel_rfl) rfl)
    (lines1_box s (w.heap.size + 1 + 1) W0 hX2 hs) (by omega) (fun h k => h.trans k) (fun W l o o' h1 h2 ho hc => World.putObj_heap_other (by omega)) (Below.refl _ _) (fun _ => rfl)
    (fun pre W => JAt w W0 pre W) (fun c pre W => c = .exit 0 ∧ JStop w W0 pre W)
    ?hI ?hIx ⟨_, [], rfl, by simp, Nat.le_refl _, hJ0⟩
    (fun x => { tmps := #[.string s, undef, .slice none 0 0, .int .i64 0, .pointer (some ⟨w.heap.size, 0, none⟩), .pointer (some ⟨w.heap.size + 1, 0, none⟩), .string x.1, undef, undef, undef, undef, .string s, .func (.func 88) #[] #[.pointer (some ⟨w.heap.size + 1 + 1, 0, none⟩)], .string x.1, undef, undef, undef, undef, undef, undef, undef, undef, undef, undef, undef, undef, undef, undef, undef, undef, undef, undef, undef, undef, undef, undef, undef, undef, undef, undef], defers := [] }) ?assign ?body ?done ?stop
  case hI =>
    rintro pre A B row ⟨v, L, h1, h2, h3, h4⟩ hg hr
    exact ⟨v, L, h1, h2, h3, h4.keep hs3 hg hr⟩
  case hIx =>
    rintro c pre A B row ⟨h0, v, L, pre', x, h1, h2, h3, h4, h5⟩ hg hr
    exact ⟨h0, v, L, pre', x, h1, h2, h3, h4, h5.keep hs3 hg hr⟩
  case assign =>
    intro l x W K hK
    simp only [encLn]
    gi_wp2
    exact hK
  case body =>
    rintro l pre ⟨x, hx⟩ W hl ⟨v, L, h1, h2, h3, h4⟩ hlen
    have hx4 : x.size ≤ 4000000 := by omega
    have hsx := sufT_size x
    have KC := Lib.hid (fun W => cutSuf_any x W hx4)
    have KR := Lib.hid (implReadDeed_any (sufT x) W (by omega) (hT.below h4.low (Nat.le_refl _)) (hE.below h4.low (Nat.le_refl _)))
    unfold RetRd at KR
    have hjl := Lib.hid (fun a b => jin_line (x := x) (L := L) a b)
    have hbad := Lib.hid (fun (h : BadLn x) (W' : World) (hb : Below W.heap.size W W') => (⟨rfl, v, L, pre, ⟨x, hx⟩, rfl, h, h1, h2, h4.keep hs3 (row := none) ⟨hb.os, hb.tape, hb.output, hb.size, fun k hk _ => hb.block k hk⟩ (fun r e => by cases e)⟩ : (Code.exit 0 = Code.exit 0 ∧ JStop w W0 (pre ++ [(⟨x, hx⟩ : Ln s.size)]) W')))
    have hkf := Lib.hid (fun (W' : World) (hb : Below W.heap.size W W') => (⟨hb.size, fun k o _ hk _ => (hb.block k (Array.getElem?_eq_some_iff.1 hk).1).trans hk⟩ : KeepsFrom W0.heap.size W W'))
    have hkp := Lib.hid (fun (W' : World) (hb : Below W.heap.size W W') => (hb.block _ (by have := h4.size; omega) : KpB (w.heap.size + 1 + 1) W W'))
    have hbox := h4.box
    have hcnt := h4.cnt
    have hlt : pre.length < 4000000 := by omega
    cases hb1 : Lib.hasSuffix (tl x) [10]
    · replace hbad := Lib.hid (hbad.out (.inl hb1))
      rw [hb1] at KC
      generalize rdB (tl (sufT x)) = rb at *
      replace h4 := Lib.hid h4
      gi_wp2
      refine ⟨trivial, rfl, (CallsIn.inRound l (callsIn_wide.2 (KC.out _))).mono ?_⟩
      rintro e W1 ⟨rfl, e1⟩
      rw [e1]
      clear e1 W1
      gi_wp2
      refine ⟨trivial, rfl, (CallsIn.inRound l (callsIn_wide.2 KR.out)).mono ?_⟩
      rintro e W2 ⟨rfl, b2⟩
      gi_wp2
      have hba := b2.alloc b2.size (.cells #[.int .i64 (rdV (tl (sufT x))).kind, .int .i64 (rdV (tl (sufT x))).n] 41)
      exact ⟨hkf.out _ hba, hkp.out _ hba, rfl, (hbad.out _ hba).2⟩
    · rw [hb1] at KC
      cases hrb : rdB (tl (sufT x))
      · replace hbad := Lib.hid (hbad.out (.inr hrb))
        rw [hrb] at KR
        replace h4 := Lib.hid h4
        gi_wp2
        refine ⟨trivial, rfl, (CallsIn.inRound l (callsIn_wide.2 (KC.out _))).mono ?_⟩
        rintro e W1 ⟨rfl, e1⟩
        rw [e1]
        clear e1 W1
        gi_wp2
        refine ⟨trivial, rfl, (CallsIn.inRound l (callsIn_wide.2 KR.out)).mono ?_⟩
        rintro e W2 ⟨rfl, b2⟩
        gi_wp2
        have hba := b2.alloc b2.size (.cells #[.int .i64 (rdV (tl (sufT x))).kind, .int .i64 (rdV (tl (sufT x))).n] 41)
        exact ⟨hkf.out _ hba, hkp.out _ hba, rfl, (hbad.out _ hba).2⟩
      · obtain ⟨hj1, hj2⟩ := hjl.out hb1 hrb
        rw [hrb] at KR
        clear hbad hkf hkp hjl
        generalize rdV (tl (sufT x)) = y at *
        obtain ⟨xk, xn⟩ := y
        dsimp only at KR
        have hfl2 : flatLn (pre ++ [(⟨x, hx⟩ : Ln s.size)]) = jFlat (L ++ [⟨xk, xn⟩]) := by rw [flatLn_snoc, h1, hj1]
        have hne2 : ∀ a ∈ L ++ [(⟨xk, xn⟩ : Dd)], deedL a ≠ [] := fun a ha => by
          rcases List.mem_append.1 ha with h | h
          · exact h2 a h
          · rw [List.mem_singleton.1 h]; exact hj2
        have hll2 : (L ++ [(⟨xk, xn⟩ : Dd)]).length ≤ (pre ++ [(⟨x, hx⟩ : Ln s.size)]).length := by simp; omega
        have hjz := jFlat_len L
        have hcount : (jFlat (L ++ [(⟨xk, xn⟩ : Dd)])).length = (jFlat L).length + x.size := by rw [hj1, List.length_append, tl_len]
        have hcw : IntKind.i64.wrap (((jFlat L).length : Int) + (x.size : Int)) = ((jFlat L).length : Int) + (x.size : Int) := IntWalk.i64_in _ (by omega)
        have hl3 : L.length ≤ 4000000 := by omega
        have hu : ((jFlat L).length : Int) + (x.size : Int) = ((jFlat (L ++ [(⟨xk, xn⟩ : Dd)])).length : Int) := by omega
        generalize (jFlat L).length = cn at *
        replace h4 := Lib.hid h4
        replace hfl2 := Lib.hid hfl2
        replace hne2 := Lib.hid hne2
        replace hll2 := Lib.hid hll2
        replace hu := Lib.hid hu
        replace hl3 := Lib.hid hl3
        clear hj1 hj2 hcount
        gi_wp2
        refine ⟨trivial, rfl, (CallsIn.inRound l (callsIn_wide.2 (KC.out _))).mono ?_⟩
        rintro e W1 ⟨rfl, e1⟩
        rw [e1]
        clear e1 W1
        gi_wp2
        refine ⟨trivial, rfl, (CallsIn.inRound l (callsIn_wide.2 KR.out)).mono ?_⟩
        rintro e W2 ⟨rfl, b2⟩
        have hba := b2.alloc b2.size (.cells #[.int .i64 xk, .int .i64 xn] 41)
        have kX := Blk.new W2 41 #[.int .i64 xk, .int .i64 xn]
        have x0 : (W2.alloc (.cells #[.int .i64 xk, .int .i64 xn] 41)).cell? ⟨W2.heap.size, 0, none⟩ = some (.int .i64 xk) := kX.cell 0
        have x1 : (W2.alloc (.cells #[.int .i64 xk, .int .i64 xn] 41)).cell? ⟨W2.heap.size, 1, none⟩ = some (.int .i64 xn) := kX.cell 1
        have y0 : (W2.alloc (.cells #[.int .i64 xk, .int .i64 xn] 41)).cell? ⟨w.heap.size, 0, none⟩ = some v := (hbox.below hba hbox.lt).cell 0
        have ho3 := Lib.hid (h4.out.own.below hba (Nat.le_refl _))
        have hsW := Nat.le_trans h4.out.size hba.size
        replace hba := Lib.hid hba
        clear kX b2 KC KR
        gi_upto_region 8 with (fail)
        generalize W2.alloc (.cells #[.int .i64 xk, .int .i64 xn] 41) = W3 at *
        generalize W2.heap.size = q2 at *
        gi_wp2_with (gi_at_builtin; refine wpListIn_append_own _ rfl _ _ 24 rfl W0.heap.size 41 i0 (.agg #[.int .i64 0, .int .i64 0]) 2 16 Tryz.underlying24 hi hz0 hz1 hz2 rfl (by decide) _ _ _ rfl (World.ownsRow.alloc ho3.out _) ⟨W3.heap.size, 0, none⟩ 1 1 [.int .i64 xk, .int .i64 xn] rfl rfl (cellD_two _ _ _ _) (fun x hx => by simp at hx; rcases hx with rfl | rfl <;> rfl) (by have := hl3.out; unfold maxLen; omega) (by have := hl3.out; omega) (by simp; omega) ?_; intro v' W4 hown' hg4 _; refine Hid.out ?_)
        have ho4 : OwnDds W4 W0.heap.size v' (L ++ [⟨xk, xn⟩]) := OwnDds.snoc (a := ⟨xk, xn⟩) hown'
        have hb3a := hba.out.alloc hba.out.size (.cells #[.int .i64 xk, .int .i64 xn] 41)
        have hst := jin_step h4.out hs3 hb3a hg4 ho4 hu.out
        have hne4 : ∀ k, k < W0.heap.size → v.ownBlock ≠ some k := fun k hk e => by have := (World.ownsRow.lt ho3.out k e).1; omega
        have hk4 : ∀ k, k < W0.heap.size → W4.heap[k]? = W.heap[k]? := fun k hk => (hg4.block k (by simp; omega) (fun e => hne4 k hk e.symm)).trans (hb3a.block k (by have := h4.out.size; omega))
        have hx4' : Blk W4 w.heap.size 24 #[v] := (hk4 _ (by omega)).trans hbox
        have hc4 : Blk (W4.setCell ⟨w.heap.size, 0, none⟩ v') (w.heap.size + 1) 3 #[.int .i64 (cn : Int)] := (Below.heap_setCell _ _ _ _ (by show w.heap.size + 1 ≠ w.heap.size; omega)).trans ((hk4 _ (by omega)).trans hcnt)
        obtain ⟨A5, c5, e5, -⟩ := ho4.deeds
        generalize hm : (L ++ [(⟨xk, xn⟩ : Dd)]).length = m at e5
        subst e5
        have z0 := hx4'.cell 0
        have zf := hx4'.frozen 0
        simp only [List.getElem?_toArray, List.getElem?_cons_zero] at z0
        have z1 := hc4.cell 0
        have zf1 := hc4.frozen 0
        simp only [List.getElem?_toArray, List.getElem?_cons_zero] at z1
        replace hst := Lib.hid hst
        replace hm := Lib.hid hm
        clear hown' hg4 ho4 hb3a hne4 hk4 hx4' hc4 ho3 hba x0 x1 y0
        refine Lib.hid ?_
        gi_wp2
        exact ⟨hst.out.2.1, hst.out.2.2, _, _, hfl2.out, hne2.out, hll2.out, hst.out.1⟩
  case done =>
    rintro D xs W hD hS ⟨v, L, h1, h2, -, h4⟩ hK
    have hr := rj_end (l := tl s) (L := L) (by rw [← hS]; exact h1) h2
    have y0 : W.cell? ⟨w.heap.size, 0, none⟩ = some v := h4.box.cell 0
    have y1 : W.cell? ⟨w.heap.size + 1, 0, none⟩ = some (.int .i64 ((jFlat L).length : Int)) := h4.cnt.cell 0
    have hfin : ∀ n, RetJ w s (.returned (.tuple #[v, .int .i64 ((jFlat L).length : Int)])) ((W.drewN n).putObj D (.deferred none)) := fun n => by
      refine ⟨v, by rw [hr], ?_, below_putJ (W := W.drewN n) ⟨h4.low.os, h4.low.tape, h4.low.output, h4.low.size, h4.low.block⟩ (by omega)⟩
      rw [hr]
      have ho : OwnDds (W.drewN n) W0.heap.size v L := h4.own
      exact (own_putJ ho hK).mono (by omega)
    replace hfin := Lib.hid hfin
    replace hr := Lib.hid hr
    clear h4 h1 hS h2
    generalize (jFlat L).length = cn at *
    gi_wp2
    gi_big_quiet_th (fail)
    gi_wp2
    refine ⟨by simp, .inl ⟨_, _, rfl, run_takeDeferred hK, ?_⟩⟩
    refine ⟨_, results_tmp2 rfl _ _ _, ?_⟩
    exact hfin.out nq
  case stop =>
    rintro D c pre W hD hSp ⟨rfl, v, L, pre', x, h1, hbd, h3, h2, h4⟩ hK
    have hr : rj (tl s) = (L, (jFlat L).length) := by
      obtain ⟨pre'', x', r, e1, e2, e3⟩ := hSp
      rw [h1] at e1
      obtain ⟨-, e4⟩ := List.append_inj' e1 rfl
      have e5 : x = x' := by injection e4
      rw [← e5] at e3
      rw [h1, flatLn_snoc, h3] at e2
      exact rj_stop e2 h2 hbd e3
    have y0 : W.cell? ⟨w.heap.size, 0, none⟩ = some v := h4.box.cell 0
    have y1 : W.cell? ⟨w.heap.size + 1, 0, none⟩ = some (.int .i64 ((jFlat L).length : Int)) := h4.cnt.cell 0
    have hfin : ∀ n, RetJ w s (.returned (.tuple #[v, .int .i64 ((jFlat L).length : Int)])) ((W.drewN n).putObj D (.deferred none)) := fun n => by
      refine ⟨v, by rw [hr], ?_, below_putJ (W := W.drewN n) ⟨h4.low.os, h4.low.tape, h4.low.output, h4.low.size, h4.low.block⟩ (by omega)⟩
      rw [hr]
      have ho : OwnDds (W.drewN n) W0.heap.size v L := h4.own
      exact (own_putJ ho hK).mono (by omega)
    replace hfin := Lib.hid hfin
    replace hr := Lib.hid hr
    clear h4 h1 hSp h2 h3 hbd
    generalize (jFlat L).length = cn at *
    gi_wp2
    gi_big_quiet_th (fail)
    gi_wp2
    refine ⟨by simp, .inl ⟨_, _, rfl, run_takeDeferred hK, ?_⟩⟩
    refine ⟨_, results_tmp2 rfl _ _ _, ?_⟩
    exact hfin.out nq
end Go.Proofs.YtmhgpbfogdoaeaaGreatDoor
