/-
  A range over a function whose iterator itself ranges over a function: a law for the caller (whatever program), at the wide fence. What the iterator must abide is told of every block that is no cells.
-/
import Derived.RangeFuncNested
import Derived.RangeFuncBound
import Derived.RangeFuncCalls
import Derived.RangeFuncLeaves
import Derived.Shelf.Abstract
import Derived.Shelf.RegionOpen
import Derived.WalkKit
import Derived.OwnWalkIn
import Derived.TacticsInMore
import Derived.LoopNIn
import Derived.LoopIn
import Derived.Sort.BigQuietIn
import Derived.Sort.QuietThIn
namespace Go.Proofs.YtfmdbmhakkajfaaDoor
open Go Go.RowKit

/-- J abides whatever happens to a block that is no cells, from B on; and to any block from lo up to hi. -/
def Abide {β : Type} (B lo hi : Nat) (J : β → World → Prop) : Prop :=
  ∀ s W W' row, J s W → W.grownBy W' row → (∀ r, row = some r → (B ≤ r ∧ ∃ o : Obj, W.heap[r]? = some o ∧ o.isCells = false) ∨ (lo ≤ r ∧ r < hi)) → J s W'

theorem Abide.putObj {β : Type} {B lo hi : Nat} {I : β → World → Prop} (h : Abide B lo hi I) {s : β} {W : World} {l : Nat} {o : Obj} (o' : Obj) (hs : I s W) (hB : B ≤ l) (hl : W.heap[l]? = some o) (ho : o.isCells = false) : I s (W.putObj l o') :=
  h s W _ (some l) hs (grownBy_putObj' W l o') (fun r e => by cases e; exact .inl ⟨hB, o, hl, ho⟩)
theorem Abide.alloc {β : Type} {B lo hi : Nat} {I : β → World → Prop} (h : Abide B lo hi I) {s : β} {W : World} (o : Obj) (hs : I s W) : I s (W.alloc o) :=
  h s W _ none hs (World.grownBy_alloc W o none) (fun r e => by cases e)
theorem Abide.drew {β : Type} {B lo hi : Nat} {I : β → World → Prop} (h : Abide B lo hi I) {s : β} {W : World} (hs : I s W) : I s W.drew :=
  h s W _ none hs ⟨rfl, rfl, rfl, Nat.le_refl _, fun _ _ _ => rfl⟩ (fun r e => by cases e)
theorem Abide.drewN {β : Type} {B lo hi : Nat} {I : β → World → Prop} (h : Abide B lo hi I) {s : β} {W : World} (n : Nat) (hs : I s W) : I s (W.drewN n) :=
  h s W _ none hs ⟨rfl, rfl, rfl, Nat.le_refl _, fun _ _ _ => rfl⟩ (fun r e => by cases e)
theorem Abide.setCell {β : Type} {B lo hi : Nat} {I : β → World → Prop} (h : Abide B lo hi I) {s : β} {W : World} {k i : Nat} (u : Value) (hs : I s W) (h1 : lo ≤ k) (h2 : k < hi) : I s (W.setCell ⟨k, i, none⟩ u) :=
  h s W _ (some k) hs ⟨rfl, rfl, rfl, by simp [World.setCell], fun j _ hj => Below.heap_setCell W _ u j (fun e => hj (by rw [e]))⟩ (fun r e => by cases e; exact .inr ⟨h1, h2⟩)
theorem Abide.more {β : Type} {B B' lo lo' hi hi' : Nat} {I : β → World → Prop} (h : Abide B lo hi I) (hB : B ≤ B') (hl : lo ≤ lo') (hh : hi' ≤ hi) : Abide B' lo' hi' I :=
  fun s W W' row hs hg hr => h s W W' row hs hg (fun r e => (hr r e).elim (fun x => .inl ⟨Nat.le_trans hB x.1, x.2⟩) (fun x => .inr ⟨Nat.le_trans hl x.1, Nat.lt_of_lt_of_le x.2 hh⟩))
/-- What speaks of blocks below B alone abides. -/
theorem Abide.of_below {β : Type} {B lo hi C : Nat} {I : β → World → Prop} (h : ∀ s W W', I s W → W.heap.size ≤ W'.heap.size → W'.os = W.os → W'.tape = W.tape → W'.output = W.output → (∀ k, k < W.heap.size → k < C → W'.heap[k]? = W.heap[k]?) → I s W') (hB : C ≤ B) (hl : C ≤ lo) : Abide B lo hi I :=
  fun s W W' row hs hg hr => h s W W' hs hg.size hg.os hg.tape hg.output (fun k hk hC => hg.block k hk (fun e => (hr k e.symm).elim (fun x => by omega) (fun x => by omega)))

/-- The contract of an iterator: each round keeps its word Kp; J and Jx abide whatever happens to blocks that are no cells, from the heap's size on. -/
def SeqOwn {α : Type} (P : Program) (g : Nat) (lb : Array Value) (encs : α → Array Value) (Kp : World → World → Prop) (S Sp : List α → Prop) (N z : Nat) (w : World) : Prop :=
  ∀ (l : Nat) (J Jx : List α → World → Prop) (W : World), Below w.heap.size w W → w.heap.size + 2 ≤ W.heap.size → Abide W.heap.size W.heap.size (W.heap.size + z) J → Abide W.heap.size W.heap.size (W.heap.size + z) Jx →
    (∀ pre x W1, J pre W1 → pre.length < N → YieldAt Fence.wide 0 P l (encs x) W1 fun e W' =>
      (e = .returned (.bool true) ∧ J (pre ++ [x]) W' ∧ Kp W1 W') ∨ (e = .returned (.bool false) ∧ Jx (pre ++ [x]) W' ∧ Kp W1 W')) →
    J [] W →
    CallsIn Fence.wide 0 P g (#[.func (.yield l) #[] #[]] ++ lb) W fun e W' => (∃ v, e = .returned v) ∧ ((∃ xs, S xs ∧ J xs W') ∨ (∃ pre, Sp pre ∧ Jx pre W'))

theorem kept_block {W W' : World} {B hi k : Nat} {o : Obj} {row : Option Nat} (hg : W.grownBy W' row) (hr : ∀ r, row = some r → (B ≤ r ∧ ∃ o : Obj, W.heap[r]? = some o ∧ o.isCells = false) ∨ (B ≤ r ∧ r < hi)) (hk : W.heap[k]? = some o) (hB : k < B) : W'.heap[k]? = some o :=
  (hg.block k (Array.getElem?_eq_some_iff.1 hk).1 (fun e => by rcases hr k e.symm with x | x <;> omega)).trans hk
theorem yieldAt_inRound {F : Fence} {m : Nat} {P : Program} {l : Nat} {args : Array Value} {W : World} {R : Ending → World → Prop} (l' : Nat) (h : YieldAt F m P l args W R) : YieldAt (F.inRound l') m P l args W R := h

variable {P : Program}

/-- How a round's body may be left. -/
def leaves {α : Type} (B : Nat) (Kp : World → World → Prop) (I : List α → World → Prop) (Ix : Code → List α → World → Prop) (xs : List α) (W : World) : Exit → Act → World → Prop
  | .normal, _, W' => KeepsFrom B W W' ∧ Kp W W' ∧ I xs W'
  | .ret, _, W' => KeepsFrom B W W' ∧ Kp W W' ∧ Ix .ret xs W'
  | .exit id, _, W' => KeepsFrom B W W' ∧ Kp W W' ∧ Ix (.exit id) xs W'
  | .goto t, _, W' => KeepsFrom B W W' ∧ Kp W W' ∧ Ix (.goto t) xs W'
  | .panic _, _, _ => False
  | .outgrown, _, _ => False

theorem range_own {α : Type} {g : Operand} {ps : Array Tmp} {assign body : Code} {Q : Exit → Act → World → Prop} {a : Act} {w : World}
    {gf : Nat} {lb : Array Value} (hg : a.eval g = .func (.func gf) #[] lb) (eg : ∀ args w, (callFunc gf args).run P w = .ok (.enter gf args) w)
    {encs : α → Array Value} {Kp : World → World → Prop} {S Sp : List α → Prop} {N z : Nat} {w0 : World} (hseq : SeqOwn P gf lb encs Kp S Sp N z w0)
    (hKt : ∀ {A B C : World}, Kp A B → Kp B C → Kp A C) (hKb : ∀ (W : World) (l : Nat) (o o' : Obj), w.heap.size ≤ l → l < w.heap.size + 2 → W.heap[l]? = some o → o.isCells = false → Kp W (W.putObj l o')) (hb0 : Below w0.heap.size w0 w) (hps : ∀ x, (encs x).size = ps.size)
    (I : List α → World → Prop) (Ix : Code → List α → World → Prop) (hI : Abide w.heap.size (w.heap.size + 2) (w.heap.size + 2 + z) I) (hIx : ∀ c, Abide w.heap.size (w.heap.size + 2) (w.heap.size + 2 + z) (Ix c)) (h0 : I [] w) (a₁ : α → Act)
    (hassign : ∀ (l : Nat) (x : α) (W : World) (K : Act → World → Prop), K (a₁ x) W →
      assign.wpIn (Fence.wide.inRound l) 0 P (Exit.then K (fun _ _ _ => False)) { tmps := (ps.zip (encs x)).foldl (fun t (p, v) => t.setIfInBounds p v) a.tmps, defers := [] } W)
    (hbody : ∀ (l : Nat) (pre : List α) (x : α) (W : World), w.heap.size ≤ l → I pre W → pre.length < N → body.wpIn (Fence.wide.inRound l) 0 P (leaves w.heap.size Kp I Ix (pre ++ [x]) W) (a₁ x) W)
    (hdone : ∀ (D : Nat) (xs : List α) (W : World), w.heap.size ≤ D → S xs → I xs W → W.heap[D]? = some (.deferred (some [])) → Q .normal { a with defers := { target := .collected D, args := #[] } :: a.defers } W)
    (hstop : ∀ (D : Nat) (c : Code) (pre : List α) (W : World), w.heap.size ≤ D → Sp pre → Ix c pre W → W.heap[D]? = some (.deferred (some [])) → c.wpIn Fence.wide 0 P Q { a with defers := { target := .collected D, args := #[] } :: a.defers } W) :
    (Code.rangeFunc g ps assign body).wpIn Fence.wide 0 P Q a w := by
  refine wpIn_rangeFunc fun fn hfn => ?_
  -- the loop's record in each of its states
  obtain ⟨rec, hrec⟩ : ∃ rec : LoopState → Option Code → Loop, rec = fun st pe => { state := st, pending := pe, fn, tmps := a.tmps, params := ps, assign, body, defers := w.heap.size } := ⟨_, rfl⟩
  obtain ⟨V, hV⟩ : ∃ V, (w.alloc (.deferred (some []))).alloc (.loop (rec .ready none)) = V := ⟨_, rfl⟩
  have hVs : V.heap.size = w.heap.size + 2 := by rw [← hV]; simp
  have hVl : V.heap[w.heap.size + 1]? = some (.loop (rec .ready none)) := by
    rw [← hV]; have := World.alloc_heap_new (w.alloc (.deferred (some []))) (.loop (rec .ready none)); rwa [World.size_alloc] at this
  have hVd : V.heap[w.heap.size]? = some (.deferred (some [])) := by
    rw [← hV]; exact (Below.heap_alloc _ _ _ (by simp)).trans (World.alloc_heap_new w _)
  have hVI : I [] V := by rw [← hV]; exact hI.alloc _ (hI.alloc _ h0)
  have hVb : Below w0.heap.size w0 V := by
    rw [← hV]; exact hb0.trans ((((Below.refl _ w).alloc (Nat.le_refl _) _).alloc (by simp) _).mono hb0.size)
  refine ⟨w.heap.size + 1, [{ target := .collected w.heap.size, args := #[] }], V, { target := .fn (.func gf) lb, args := #[.func (.yield (w.heap.size + 1)) #[] #[]] }, V, gf,
    #[.func (.yield (w.heap.size + 1)) #[] #[]] ++ lb, V, ?_, ?_, fun _ _ => trivial, ?_, fun hd => (by cases hd), ?_⟩
  · rw [← hV, hrec]; exact run_enterLoop_outer _ _ _ _ _
  · simp only [resolve, hg]
    simp [go_sem]
  · simp [invoke, go_sem, eg]
  · refine (hseq (w.heap.size + 1)
      (fun pre W => I pre W ∧ W.heap[w.heap.size + 1]? = some (.loop (rec .ready none)) ∧ W.heap[w.heap.size]? = some (.deferred (some [])))
      (fun pre W => ∃ c, Ix c pre W ∧ W.heap[w.heap.size + 1]? = some (.loop (rec .done (some c))) ∧ W.heap[w.heap.size]? = some (.deferred (some [])))
      V hVb (by have := hb0.size; omega)
      (fun s A B row hs hg' hr => ⟨hI.more (by omega) (by omega) (by omega) s A B row hs.1 hg' hr, kept_block hg' hr hs.2.1 (by omega), kept_block hg' hr hs.2.2 (by omega)⟩)
      (fun s A B row hs hg' hr => by
        obtain ⟨c, hc, hl, hk⟩ := hs
        exact ⟨c, (hIx c).more (by omega) (by omega) (by omega) s A B row hc hg' hr, kept_block hg' hr hl (by omega), kept_block hg' hr hk (by omega)⟩)
      ?_ ⟨hVI, hVl, hVd⟩).mono ?_
    · -- one round
      rintro pre x W ⟨hi, hl, hk⟩ hlen
      have hlt : w.heap.size + 1 < W.heap.size := (Array.getElem?_eq_some_iff.1 hl).1
      have hy := run_yield (P := P) (args := encs x) hl (by rw [hrec]; exact hps x)
      rw [hrec] at hy
      refine ⟨fn, _, assign, body, hy, roundIn_of_wpIn hfn (hassign _ x W _ ?_)⟩
      clear hy
      refine ⟨_, run_beginRound hl (by rw [hrec]), ?_⟩
      have hl2 : (W.putObj (w.heap.size + 1) (.loop { rec .ready none with state := .busy })).heap[w.heap.size + 1]? = some (.loop { rec .ready none with state := .busy }) := World.putObj_heap_same hlt
      have hk2 : (W.putObj (w.heap.size + 1) (.loop { rec .ready none with state := .busy })).heap[w.heap.size]? = some (.deferred (some [])) := (World.putObj_heap_other (by omega)).trans hk
      have hw2 : Kp W (W.putObj (w.heap.size + 1) (.loop { rec .ready none with state := .busy })) := hKb _ _ _ _ (by omega) (by omega) hl rfl
      refine wpIn_mono (hbody _ pre x _ (by omega) (hI.putObj _ hi (by omega) hl rfl) hlen) ?_
      have fin : ∀ (jump : Option Code) (W3 : World), KeepsFrom w.heap.size (W.putObj (w.heap.size + 1) (.loop { rec .ready none with state := .busy })) W3 →
          (Instr.endRound (w.heap.size + 1) jump).run P W3 = .ok (.bool jump.isNone) (W3.putObj (w.heap.size + 1) (.loop (rec (if jump.isNone then .ready else .done) jump))) ∧
          W3.heap[w.heap.size + 1]? = some (.loop { rec .ready none with state := .busy }) ∧
          (W3.putObj (w.heap.size + 1) (.loop (rec (if jump.isNone then .ready else .done) jump))).heap[w.heap.size + 1]? = some (.loop (rec (if jump.isNone then .ready else .done) jump)) ∧
          (W3.putObj (w.heap.size + 1) (.loop (rec (if jump.isNone then .ready else .done) jump))).heap[w.heap.size]? = some (.deferred (some [])) := fun jump W3 hk3 => by
        have hl3 := hk3.same _ _ (by omega) hl2 rfl
        have := run_endRound (P := P) jump hl3
        rw [hrec] at this ⊢
        exact ⟨this, by rw [hrec] at hl3; exact hl3, World.putObj_heap_same (Array.getElem?_eq_some_iff.1 hl3).1, (World.putObj_heap_other (by omega)).trans (hk3.same _ _ (Nat.le_refl _) hk2 rfl)⟩
      have away : ∀ (c : Code) (W3 : World), KeepsFrom w.heap.size (W.putObj (w.heap.size + 1) (.loop { rec .ready none with state := .busy })) W3 → Kp (W.putObj (w.heap.size + 1) (.loop { rec .ready none with state := .busy })) W3 → Ix c (pre ++ [x]) W3 →
          ∃ v w₄, (Instr.endRound (w.heap.size + 1) (some c)).run P W3 = .ok v w₄ ∧ (((Ending.returned v) = .returned (.bool true) ∧ (I (pre ++ [x]) w₄ ∧ w₄.heap[w.heap.size + 1]? = some (.loop (rec .ready none)) ∧ w₄.heap[w.heap.size]? = some (.deferred (some []))) ∧ Kp W w₄) ∨
            ((Ending.returned v) = .returned (.bool false) ∧ (∃ c, Ix c (pre ++ [x]) w₄ ∧ w₄.heap[w.heap.size + 1]? = some (.loop (rec .done (some c))) ∧ w₄.heap[w.heap.size]? = some (.deferred (some []))) ∧ Kp W w₄)) := fun c W3 hk3 hkp3 hi3 => by
        obtain ⟨hr, hl3, hl4, hk4⟩ := fin (some c) W3 hk3
        exact ⟨_, _, hr, .inr ⟨rfl, ⟨c, (hIx _).putObj _ hi3 (by omega) hl3 rfl, hl4, hk4⟩, hKt (hKt hw2 hkp3) (hKb _ _ _ _ (by omega) (by omega) hl3 rfl)⟩⟩
      rintro e a3 W3 hp
      cases e with
      | normal =>
        obtain ⟨hk3, hkp3, hi3⟩ := hp
        obtain ⟨hr, hl3, hl4, hk4⟩ := fin none W3 hk3
        exact ⟨_, _, hr, .inl ⟨rfl, ⟨hI.putObj _ hi3 (by omega) hl3 rfl, hl4, hk4⟩, hKt (hKt hw2 hkp3) (hKb _ _ _ _ (by omega) (by omega) hl3 rfl)⟩⟩
      | ret => exact away .ret W3 hp.1 hp.2.1 hp.2.2
      | exit id => exact away (.exit id) W3 hp.1 hp.2.1 hp.2.2
      | goto t => exact away (.goto t) W3 hp.1 hp.2.1 hp.2.2
      | panic ch => exact hp.elim
      | outgrown => exact hp.elim
    · -- behind the iterator
      rintro e W2 ⟨⟨v, rfl⟩, (⟨xs, hS, hi, hl, hk⟩ | ⟨pre, hSp, c, hi, hl, hk⟩)⟩
      · exact ⟨none, _, by have := run_endLoop (P := P) hl (by rw [hrec]; simp); rw [hrec] at this; exact this, hdone _ xs _ (Nat.le_refl _) hS (hI.putObj _ hi (by omega) hl rfl) ((World.putObj_heap_other (by omega)).trans hk)⟩
      · exact ⟨some c, _, by have := run_endLoop (P := P) hl (by rw [hrec]; simp); rw [hrec] at this; exact this, hstop _ c pre _ (Nat.le_refl _) hSp ((hIx c).putObj _ hi (by omega) hl rfl) ((World.putObj_heap_other (by omega)).trans hk)⟩

/-- No operation is a defer statement. -/
def noDefers (l : List Oper) : Bool := l.all fun o => match o.op with | .defer _ => false | _ => true
theorem noDefers_at {l : List Oper} (h : noDefers l = true) {i : Nat} {o : Oper} (ho : l.toArray[i]? = some o) : ∀ c : Call, o.op ≠ Op.defer c := by
  intro c e
  simp only [noDefers, List.all_eq_true] at h
  have hm : o ∈ l := by
    have : l[i]? = some o := by simpa using ho
    exact List.mem_of_getElem? this
  have := h o hm
  rw [e] at this
  cases this

theorem opWpIn_round {F : Fence} {n l₀ : Nat} {o : Oper} {a : Act} {w : World} {K : Act → World → Prop} {Q : Exit → Act → World → Prop} (hro : F.round = none) (hd : ∀ c : Call, o.op ≠ Op.defer c) (h : o.wpIn F n P a w K Q) : o.wpIn (F.inRound l₀) n P a w K Q := by
  unfold Oper.wpIn at h ⊢
  rw [hro, Oper.semAt_none] at h
  rw [Oper.semAt_eq _ _ _ hd]
  exact h

theorem wpOpsIn_round {F : Fence} {n l₀ : Nat} {ops : Array Oper} {Q : Exit → Act → World → Prop} (hro : F.round = none) (hd : ∀ (i : Nat) (o : Oper), ops[i]? = some o → ∀ c : Call, o.op ≠ Op.defer c) : ∀ (is : List Nat) (a : Act) (w : World), wpOpsIn F n P ops Q is a w → wpOpsIn (F.inRound l₀) n P ops Q is a w
  | [], _, _, h => h
  | i :: is, a, w, h => by
    rw [wpOpsIn_cons] at h ⊢
    unfold wpOpIn at h ⊢
    cases ho : ops[i]? with
    | none => simp only [ho] at h ⊢; exact wpOpsIn_round hro hd is a w h
    | some o =>
      simp only [ho] at h ⊢
      by_cases hw : Region.wanted o (yielded ops a.tmps) = true
      · simp only [hw, if_true] at h ⊢
        exact opWpIn_round hro (hd i o ho) (Oper.wpIn_mono (fun a w => wpOpsIn_round hro hd is a w) h)
      · simp only [hw] at h ⊢
        exact ⟨h.1, wpOpsIn_round hro hd is _ w h.2⟩

/-- A region in a round that draws its order, whose operations only read: one walk. -/
theorem wpIn_region_quiet_round {F : Fence} {n l₀ id : Nat} {Q : Exit → Act → World → Prop} {a : Act} {w : World} {l : List Oper} (hro : F.round = none) (hm : P.follows .mixedOrders = true) (hB : Region.lexB .any l.toArray = true) (hd : noDefers l = true)
    (h : wpQuietIn F n P l.toArray (fun w' => ∃ n, w' = w.drewN n) (fun a' => ∀ w', (∃ n, w' = w.drewN n) → Q .normal a' w') l a) : (Code.region id l.toArray true).wpIn (F.inRound l₀) n P Q a w := by
  refine wpIn_region_draw fun t => wpOpsIn_round hro (fun i o ho => noDefers_at hd ho) _ _ _ ?_
  simp only [Region.schedule, hm, Bool.true_or, if_true]
  simp only [Region.lexB, Bool.and_eq_true] at hB
  refine wpAnyIn_sound _ t _ a _ (wpAnyIn_of_quiet (C := fun w' => ∃ n, w' = w.drewN n) (Q := fun a' => ∀ w', (∃ n, w' = w.drewN n) → Q .normal a' w') hro (fun _ w' hw' h => h w' hw') _ _ _ _ ⟨1, rfl⟩ ?_)
  have := wpAnyQIn_lex (F := F) (n := n) (C := fun w' => ∃ n, w' = w.drewN n) (md := .any) hB.1 l.toArray.toList 0 (Array.replicate l.toArray.size false) a (by simp) (by simpa using hB.2) (by simpa using h)
  simpa using this

/-- What a round keeps: all cells but those of the blocks X, and from block B on whatever is no cells. -/
structure Keeps (B : Nat) (X : Nat → Prop) (W W' : World) : Prop where
  size : W.heap.size ≤ W'.heap.size
  cells : ∀ (k : Nat) (o : Obj), W.heap[k]? = some o → o.isCells = true → ¬ X k → W'.heap[k]? = some o
  others : ∀ (k : Nat) (o : Obj), W.heap[k]? = some o → o.isCells = false → B ≤ k → W'.heap[k]? = some o

theorem Keeps.refl (B : Nat) (X : Nat → Prop) (W : World) : Keeps B X W W := ⟨Nat.le_refl _, fun _ _ h _ _ => h, fun _ _ h _ _ => h⟩
theorem Keeps.trans {B : Nat} {X : Nat → Prop} {W W' W'' : World} (h : Keeps B X W W') (h' : Keeps B X W' W'') : Keeps B X W W'' :=
  ⟨Nat.le_trans h.size h'.size, fun k o e c x => h'.cells k o (h.cells k o e c x) c x, fun k o e c b => h'.others k o (h.others k o e c b) c b⟩
theorem Keeps.mono {B B' : Nat} {X X' : Nat → Prop} {W W' : World} (h : Keeps B X W W') (hB : B ≤ B') (hX : ∀ k, X k → X' k) : Keeps B' X' W W' :=
  ⟨h.size, fun k o e c x => h.cells k o e c (fun hx => x (hX k hx)), fun k o e c b => h.others k o e c (Nat.le_trans hB b)⟩
theorem Keeps.putObj {B : Nat} {X : Nat → Prop} {W : World} {l : Nat} {o : Obj} (o' : Obj) (hl : W.heap[l]? = some o) (ho : o.isCells = false) (hB : l < B) : Keeps B X W (W.putObj l o') :=
  ⟨by simp, fun k o1 e c _ => (World.putObj_heap_other (fun ek => by subst ek; rw [hl] at e; cases e; rw [ho] at c; cases c)).trans e, fun k o1 e _ b => (World.putObj_heap_other (by omega)).trans e⟩
theorem isCells_of {v : Value} {W : World} {p : Addr} (h : W.cell? p = some v) : ∃ o, W.heap[p.block]? = some o ∧ o.isCells = true := by
  unfold World.cell? at h
  cases ho : W.heap[p.block]? with
  | none => simp [ho] at h
  | some o => exact ⟨o, rfl, by cases o <;> simp_all [Obj.isCells]⟩
theorem Keeps.cell {B : Nat} {X : Nat → Prop} {W W' : World} (h : Keeps B X W W') {p : Addr} {v : Value} (hp : W.cell? p = some v) (hx : ¬ X p.block) : W'.cell? p = some v := by
  obtain ⟨o, ho, hc⟩ := isCells_of hp
  have := h.cells _ o ho hc hx
  exact (World.cell?_of_block (w := W) (this.trans ho.symm)).trans hp
theorem Keeps.frozen {B : Nat} {X : Nat → Prop} {W W' : World} (h : Keeps B X W W') {p : Addr} {v : Value} (hp : W.cell? p = some v) (hx : ¬ X p.block) : W'.frozen? p = W.frozen? p := by
  obtain ⟨o, ho, hc⟩ := isCells_of hp
  have := h.cells _ o ho hc hx
  exact World.frozen?_of_block (w := W) (this.trans ho.symm)
theorem Keeps.setCell {B : Nat} {X : Nat → Prop} {W : World} {p : Addr} {v : Value} (hp : W.cell? p = some v) (hx : X p.block) (u : Value) : Keeps B X W (W.setCell p u) :=
  ⟨by simp [World.setCell], fun k o e _ x => (Below.heap_setCell W p u k (fun ek => x (by rw [ek]; exact hx))).trans e, fun k o e c _ => by
    obtain ⟨o', ho', hc'⟩ := isCells_of hp
    exact (Below.heap_setCell W p u k (fun ek => by subst ek; rw [ho'] at e; cases e; rw [hc'] at c; cases c)).trans e⟩
theorem Keeps.drew {B : Nat} {X : Nat → Prop} {W W' : World} (h : Keeps B X W W') : Keeps B X W W'.drew := ⟨h.size, h.cells, h.others⟩
theorem Keeps.drewN {B : Nat} {X : Nat → Prop} {W W' : World} (h : Keeps B X W W') (n : Nat) : Keeps B X W (W'.drewN n) := ⟨h.size, h.cells, h.others⟩
theorem Keeps.from_ {B B' : Nat} {X : Nat → Prop} {W W' : World} (h : Keeps B X W W') (hB : B ≤ B') : KeepsFrom B' W W' := ⟨h.size, fun k o hk e c => h.others k o e c (by omega)⟩
theorem Keeps.alloc {B : Nat} {X : Nat → Prop} {W W' : World} (h : Keeps B X W W') (o : Obj) : Keeps B X W (W'.alloc o) :=
  ⟨Nat.le_trans h.size (by simp), fun k o1 e c x => (Below.heap_alloc W' o k (Array.getElem?_eq_some_iff.1 (h.cells k o1 e c x)).1).trans (h.cells k o1 e c x), fun k o1 e c b => (Below.heap_alloc W' o k (Array.getElem?_eq_some_iff.1 (h.others k o1 e c b)).1).trans (h.others k o1 e c b)⟩
end Go.Proofs.YtfmdbmhakkajfaaDoor
