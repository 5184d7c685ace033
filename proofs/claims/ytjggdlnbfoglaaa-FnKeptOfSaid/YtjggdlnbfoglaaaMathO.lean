/-
  Numbers in the order of their texts, as plain mathematics.
-/
import Derived.Test.YtjggdlnbfoglaaaMathL
import Derived.Test.YtjggdlnbfoglaaaGN
import Derived.Lib.Join
namespace Go.Proofs.Ytjggdlnbfoglaaa
open Go.RowKit

/-! Texts are cut at their spaces again. -/
def cutS : List UInt8 → List (List UInt8)
  | [] => [[]]
  | c :: r => if c = 32 then [] :: cutS r else match cutS r with
    | [] => [[c]]
    | h :: q => (c :: h) :: q
theorem cutS_one : ∀ x : List UInt8, (∀ c ∈ x, c ≠ 32) → cutS x = [x] := by
  intro x
  induction x with
  | nil => intro _; rfl
  | cons c r ih =>
    intro h
    rw [cutS, if_neg (h c (by simp)), ih (fun d hd => h d (by simp [hd]))]
theorem cutS_two : ∀ x y : List UInt8, (∀ c ∈ x, c ≠ 32) → cutS (x ++ 32 :: y) = x :: cutS y := by
  intro x y
  induction x with
  | nil => intro _; rw [List.nil_append, cutS, if_pos rfl]
  | cons c r ih =>
    intro h
    rw [List.cons_append, cutS, if_neg (h c (by simp)), ih (fun d hd => h d (by simp [hd]))]
theorem cutS_join : ∀ ws : List (List UInt8), ws ≠ [] → (∀ x ∈ ws, ∀ c ∈ x, c ≠ 32) → cutS (Lib.join ws [32]) = ws := by
  intro ws
  induction ws with
  | nil => intro h; exact absurd rfl h
  | cons x r ih =>
    intro _ hw
    cases r with
    | nil => rw [Lib.join_one]; exact cutS_one x (hw x (by simp))
    | cons y r =>
      have e : Lib.join (x :: y :: r) [32] = x ++ 32 :: Lib.join (y :: r) [32] := by
        rw [Lib.join_cons, Lib.join_cons]
        simp [Lib.joinTail]
      rw [e, cutS_two _ _ (hw x (by simp)), ih (by simp) (fun z hz => hw z (by simp [hz]))]
theorem word_no32 {x : ByteArray} (h : wordOk x = true) : ∀ c ∈ x.data.toList, c ≠ 32 := by
  intro c hc e
  obtain ⟨k, hk, hx⟩ := List.mem_iff_getElem.1 hc
  have hs : k < x.size := by simpa using hk
  have e2 : x[k] = 32 := by rw [← e, ← hx]; rfl
  have := wordOk_no (s := x) hs (by rw [e2]; decide)
  rw [h] at this
  cases this
theorem name_wordsO {t : Tg} {n : Int} (h : namedB t n = true) : ∀ x ∈ nameOf t n, wordOk x = true := by
  intro x hx
  obtain ⟨hok, h1, h2⟩ := named_ok h
  obtain ⟨m, rfl⟩ : ∃ m : Nat, n = m := ⟨n.toNat, by omega⟩
  obtain ⟨ho, -⟩ := named_ne h
  obtain ⟨_, hb, hns, _, hw, _⟩ := (ok_iff t).1 hok
  rw [nameOf_yes ho] at hx
  exact hw x (name_mem t.us t.bs t.ns hb hns m (by omega) x hx)
theorem joinW_joinO (xs : List ByteArray) : ∀ k, k ≤ xs.length → (joinW xs k).data.toList = Lib.join ((xs.take k).map (·.data.toList)) [32] := by
  intro k
  induction k with
  | zero => intro _; rfl
  | succ k ih =>
    intro hk
    have ih := ih (by omega)
    have hlt : k < xs.length := by omega
    rw [List.take_succ_eq_append_getElem hlt, List.map_append, joinW]
    have hg : xs.getD k ByteArray.empty = xs[k] := by simp [List.getD_eq_getElem?_getD, hlt]
    rw [hg]
    by_cases h0 : 0 < k
    · obtain ⟨x, r, e⟩ : ∃ x r, (xs.take k).map (·.data.toList) = x :: r := by
        cases h : (xs.take k).map (·.data.toList) with
        | nil => have := congrArg List.length h; rw [List.length_map, List.length_take, List.length_nil] at this; omega
        | cons x r => exact ⟨x, r, rfl⟩
      rw [e] at ih ⊢
      rw [if_pos h0, List.map_cons, List.map_nil, List.cons_append, Lib.join_cons]
      rw [Lib.join_cons] at ih
      simp [ByteArray.data_append, Lib.joinTail, ih]
    · obtain rfl : k = 0 := by omega
      rw [if_neg h0]
      simp [ByteArray.data_append, joinW, Lib.join_one]
theorem name_ne {t : Tg} {n : Int} (h : namedB t n = true) : nameOf t n ≠ [] := fun e => by unfold namedB at h; rw [e] at h; simp at h
theorem cutS_text {t : Tg} {n : Int} (h : namedB t n = true) : cutS (textOf t n).data.toList = (nameOf t n).map (·.data.toList) := by
  have e : (textOf t n).data.toList = Lib.join ((nameOf t n).map (·.data.toList)) [32] := by
    have := joinW_joinO (nameOf t n) (nameOf t n).length (Nat.le_refl _)
    rwa [List.take_length] at this
  rw [e]
  refine cutS_join _ (by simpa using name_ne h) (fun x hx => ?_)
  obtain ⟨y, hy, rfl⟩ := List.mem_map.1 hx
  exact word_no32 (name_wordsO h y hy)
theorem map_data_inj : ∀ {a b : List ByteArray}, a.map (·.data.toList) = b.map (·.data.toList) → a = b := by
  intro a
  induction a with
  | nil => intro b h; cases b with
    | nil => rfl
    | cons y b => simp at h
  | cons x a ih =>
    intro b h
    cases b with
    | nil => simp at h
    | cons y b =>
      rw [List.map_cons, List.map_cons, List.cons.injEq] at h
      rw [ih h.2, show x = y from ByteArray.ext (Array.toList_inj.1 h.1)]
/-- No two numbers have the same text. -/
theorem text_inj {t : Tg} {a b : Int} (ha : namedB t a = true) (hb : namedB t b = true) (h : textOf t a = textOf t b) : a = b := by
  have e : nameOf t a = nameOf t b := map_data_inj (by rw [← cutS_text ha, ← cutS_text hb, h])
  have key : ∀ {n : Int}, namedB t n = true → valV t (nameOf t n) = n := fun {n} hn => by
    obtain ⟨hok, h1, h2⟩ := named_ok hn
    obtain ⟨m, rfl⟩ : ∃ m : Nat, n = m := ⟨n.toNat, by omega⟩
    obtain ⟨ho, hne⟩ := named_ne hn
    rw [nameOf_yes ho]
    exact val_name hok m (by omega) (by omega) hne
  rw [← key ha, e, key hb]
/-- The letters of a number's text. -/
def tx (t : Tg) (n : Int) : List UInt8 := (textOf t n).data.toList
theorem tx_inj {t : Tg} {a b : Int} (ha : namedB t a = true) (hb : namedB t b = true) (h : tx t a = tx t b) : a = b :=
  text_inj ha hb (ByteArray.ext (Array.toList_inj.1 h))
theorem text_named {t : Tg} {n : Int} (h : namedB t n = true) : textOf t n ≠ ⟨#[]⟩ := fun e => by
  have h1 := joinW_letters (nameOf t n) (nameOf t n).length
  have h4 : 0 < (nameOf t n).length := by unfold namedB at h; exact of_decide_eq_true h
  have h3 := lettersTo_ge (l := nameOf t n) (fun k hk => by
    rw [List.getD_eq_getElem?_getD, List.getElem?_eq_getElem hk]
    exact (nameOf_size t n _ (List.getElem_mem hk)).1) _ (Nat.le_refl _)
  rw [if_pos h4] at h1
  have h5 : (joinW (nameOf t n) (nameOf t n).length).size = 0 := by
    show (textOf t n).size = 0
    rw [e]
    exact rfl
  omega
theorem text_empty {t : Tg} {n : Int} : textOf t n = ⟨#[]⟩ ↔ namedB t n = false := by
  constructor
  · intro h
    cases hb : namedB t n
    · rfl
    · exact absurd h (text_named hb)
  · intro h; exact (text_no h).2
theorem tx_no {t : Tg} {n : Int} (h : namedB t n = false) : tx t n = [] := by unfold tx; rw [(text_no h).2]
theorem text_sizeO (t : Tg) (n : Int) : (textOf t n).size ≤ 1000 := by
  have h1 := joinW_size (nameOf_at t n) (nameOf t n).length
  have h2 := nameOf_short t n
  unfold textOf
  omega

/-- Is the name of a number before that of another one? -/
def beforeB (t : Tg) (a b : Int) : Bool := namedB t a && decide (tx t a < tx t b)
theorem ltl_no {x : List UInt8} : ¬ x < x := List.lt_irrefl x
theorem ltl_asym {x y : List UInt8} (h : x < y) : ¬ y < x := fun h2 => List.lt_irrefl x (List.lt_trans h h2)
theorem ltl_nil {x : List UInt8} : ¬ x < [] := List.not_lt_nil x
theorem ltl_of {x y : List UInt8} (h : x ≤ y) (hne : x ≠ y) : x < y := Classical.byContradiction fun hn => hne (List.le_antisymm h (List.not_lt.1 hn))
theorem ltl_tri {x y : List UInt8} (h1 : ¬ x < y) (h2 : ¬ y < x) : x = y := List.le_antisymm (List.not_lt.1 h2) (List.not_lt.1 h1)
theorem before_no {t : Tg} {a b : Int} (h : namedB t a = false ∨ namedB t b = false) : beforeB t a b = false := by
  unfold beforeB
  rcases h with h | h
  · rw [h]; rfl
  · rw [tx_no h, decide_eq_false ltl_nil, Bool.and_false]
theorem before_of {t : Tg} {a b : Int} (h : namedB t a = true) : beforeB t a b = decide (tx t a < tx t b) := by unfold beforeB; rw [h, Bool.true_and]
theorem before_self (t : Tg) (a : Int) : beforeB t a a = false := by unfold beforeB; rw [decide_eq_false ltl_no, Bool.and_false]
theorem before_one {t : Tg} {a b : Int} (ha : namedB t a = true) (hb : namedB t b = true) (hne : a ≠ b) : beforeB t b a = !beforeB t a b := by
  rw [before_of ha, before_of hb]
  by_cases h : tx t a < tx t b
  · rw [decide_eq_true h, decide_eq_false (ltl_asym h)]; rfl
  · have h2 : tx t b < tx t a := Classical.byContradiction fun hn => hne (tx_inj ha hb (ltl_tri h hn))
    rw [decide_eq_false h, decide_eq_true h2]; rfl

/-! Lists in the order of what f tells. -/
section
variable {f : Int → List UInt8}
def ByF (f : Int → List UInt8) (l : List Int) : Prop := l.Pairwise fun a b => f a < f b
def leF (f : Int → List UInt8) (a b : Int) : Bool := decide (f a ≤ f b)
theorem leF_trans (f : Int → List UInt8) (a b c : Int) (h1 : leF f a b = true) (h2 : leF f b c = true) : leF f a c = true := by
  unfold leF at *
  rw [decide_eq_true_eq] at *
  exact List.le_trans h1 h2
theorem leF_total (f : Int → List UInt8) (a b : Int) : (leF f a b || leF f b a) = true := by
  unfold leF
  rw [Bool.or_eq_true, decide_eq_true_eq, decide_eq_true_eq]
  exact List.le_total _ _
theorem leF_not {a b : Int} (h : ¬ f a < f b) : leF f b a = true := decide_eq_true (List.not_lt.1 h)
theorem leF_lt {a b : Int} (h : f a < f b) : leF f b a = false := decide_eq_false (fun h2 => List.not_lt.2 h2 h)
theorem ByF.unique : ∀ {l l' : List Int}, ByF f l → ByF f l' → (∀ x, x ∈ l ↔ x ∈ l') → l = l' := by
  intro l
  induction l with
  | nil =>
    intro l' _ _ he
    cases l' with
    | nil => rfl
    | cons y r => exact absurd ((he y).2 (by simp)) (by simp)
  | cons x r ih =>
    intro l' h h' he
    cases l' with
    | nil => exact absurd ((he x).1 (by simp)) (by simp)
    | cons y r' =>
      obtain ⟨h1, h2⟩ := List.pairwise_cons.1 h
      obtain ⟨h1', h2'⟩ := List.pairwise_cons.1 h'
      have e : x = y := by
        have a := (he x).1 (by simp)
        have b := (he y).2 (by simp)
        rcases List.mem_cons.1 a with a | a
        · exact a
        · rcases List.mem_cons.1 b with b | b
          · exact b.symm
          · exact absurd (h1 _ b) (ltl_asym (h1' _ a))
      subst e
      rw [ih h2 h2' fun z => ?_]
      constructor
      · intro hz
        rcases List.mem_cons.1 ((he z).1 (List.mem_cons_of_mem _ hz)) with e | e
        · exact absurd (h1 _ hz) (by rw [e]; exact ltl_no)
        · exact e
      · intro hz
        rcases List.mem_cons.1 ((he z).2 (List.mem_cons_of_mem _ hz)) with e | e
        · exact absurd (h1' _ hz) (by rw [e]; exact ltl_no)
        · exact e
/-- The numbers from 1 to m. -/
def upL (m : Nat) : List Int := (List.range m).map fun (i : Nat) => (i : Int) + 1
theorem upL_len (m : Nat) : (upL m).length = m := by simp [upL]
theorem upL_mem {m : Nat} {x : Int} : x ∈ upL m ↔ 1 ≤ x ∧ x ≤ m := by
  unfold upL
  rw [List.mem_map]
  constructor
  · rintro ⟨i, hi, rfl⟩
    rw [List.mem_range] at hi
    omega
  · intro h
    exact ⟨(x - 1).toNat, List.mem_range.2 (by omega), by omega⟩
theorem upL_succ (m : Nat) : upL (m + 1) = upL m ++ [(m : Int) + 1] := by unfold upL; rw [List.range_succ, List.map_append]; rfl
theorem upL_at {m k : Nat} (h : k < m) : (upL m).getD k 0 = (k : Int) + 1 := by
  simp [upL, List.getD_eq_getElem?_getD, h]
theorem upL_nodup (m : Nat) : (upL m).Nodup := by
  induction m with
  | zero => exact List.Pairwise.nil
  | succ m ih =>
    rw [upL_succ]
    refine List.nodup_append.2 ⟨ih, by simp, fun x hx y hy => ?_⟩
    rw [upL_mem] at hx
    rw [List.mem_singleton] at hy
    omega
/-- f tells the numbers from 1 to m apart. -/
def ApartTo (f : Int → List UInt8) (m : Nat) : Prop := ∀ a b : Int, 1 ≤ a → a ≤ m → 1 ≤ b → b ≤ m → f a = f b → a = b
theorem ApartTo.le {m k : Nat} (h : ApartTo f m) (hk : k ≤ m) : ApartTo f k := fun a b a1 a2 b1 b2 e => h a b a1 (by omega) b1 (by omega) e
structure SortIs (f : Int → List UInt8) (m : Nat) (l : List Int) : Prop where
  ord : ByF f l
  perm : l.Perm (upL m)
theorem SortIs.len {m : Nat} {l : List Int} (h : SortIs f m l) : l.length = m := by rw [h.perm.length_eq, upL_len]
theorem SortIs.mem {m : Nat} {l : List Int} (h : SortIs f m l) {x : Int} : x ∈ l ↔ 1 ≤ x ∧ x ≤ m := by rw [h.perm.mem_iff, upL_mem]
theorem SortIs.at_ {m : Nat} {l : List Int} (h : SortIs f m l) {i : Nat} (hi : i < m) : 1 ≤ l.getD i 0 ∧ l.getD i 0 ≤ m := h.mem.1 (mem_getD (by rw [h.len]; exact hi))
theorem SortIs.lt {m : Nat} {l : List Int} (h : SortIs f m l) {i j : Nat} (hij : i < j) (hj : j < m) : f (l.getD i 0) < f (l.getD j 0) := by
  have hl := h.len
  have := List.pairwise_iff_getElem.1 h.ord i j (by omega) (by omega) hij
  simpa [List.getD_eq_getElem?_getD, show j < l.length by omega, show i < l.length by omega] using this
theorem SortIs.nodup {m : Nat} {l : List Int} (h : SortIs f m l) : l.Nodup := h.perm.nodup_iff.2 (upL_nodup m)
theorem sort_of_perm {m : Nat} {l : List Int} (ha : ApartTo f m) (hp : l.Perm (upL m)) (hs : l.Pairwise fun a b => leF f a b = true) : SortIs f m l := by
  refine ⟨?_, hp⟩
  have hn := hp.nodup_iff.2 (upL_nodup m)
  refine List.pairwise_iff_getElem.2 fun i j hi hj hij => ?_
  have h1 := List.pairwise_iff_getElem.1 hs i j hi hj hij
  have h2 := List.pairwise_iff_getElem.1 hn i j hi hj hij
  refine ltl_of (of_decide_eq_true h1) (fun e => h2 ?_)
  have m1 := upL_mem.1 (hp.mem_iff.1 (List.getElem_mem hi))
  have m2 := upL_mem.1 (hp.mem_iff.1 (List.getElem_mem hj))
  exact ha _ _ m1.1 m1.2 m2.1 m2.2 e
def sortedL (f : Int → List UInt8) (m : Nat) : List Int := (upL m).mergeSort (leF f)
theorem sortedL_is {m : Nat} (ha : ApartTo f m) : SortIs f m (sortedL f m) :=
  sort_of_perm ha (List.mergeSort_perm _ _) (List.pairwise_mergeSort (leF_trans f) (leF_total f) _)
theorem SortIs.eq {m : Nat} {l : List Int} (h : SortIs f m l) (ha : ApartTo f m) : l = sortedL f m :=
  ByF.unique h.ord (sortedL_is ha).ord fun x => by rw [h.mem, (sortedL_is ha).mem]
theorem SortIs.zero (f : Int → List UInt8) : SortIs f 0 [] := ⟨List.Pairwise.nil, .refl _⟩
/-- One number more, put at its place. -/
theorem SortIs.put {k : Nat} {l : List Int} (h : SortIs f k l) {a : Nat} (hal : a ≤ l.length) (ha : ApartTo f (k + 1)) (hge : ∀ i, a ≤ i → i < l.length → f ((k : Int) + 1) < f (l.getD i 0)) (hle : 0 < a → ¬ f ((k : Int) + 1) < f (l.getD (a - 1) 0)) :
    SortIs f (k + 1) (l.take a ++ [(k : Int) + 1] ++ l.drop a) := by
  have hl := h.len
  have hlow : ∀ y ∈ l.take a, f y < f ((k : Int) + 1) := fun y hy => by
    obtain ⟨i, hi, hil, rfl⟩ := mem_take_getD hy
    have hb := h.at_ (i := a - 1) (by omega)
    have e : f (l.getD (a - 1) 0) < f ((k : Int) + 1) := Classical.byContradiction fun hn => by
      have := ha _ _ (by omega) (by omega) (by omega) (by omega) (ltl_tri hn (hle (by omega)))
      omega
    by_cases hi2 : i = a - 1
    · rw [hi2]; exact e
    · exact List.lt_trans (h.lt (i := i) (j := a - 1) (by omega) (by omega)) e
  have hup : ∀ y ∈ l.drop a, f ((k : Int) + 1) < f y := fun y hy => by
    obtain ⟨i, hi, hil, rfl⟩ := mem_drop_getD hy
    exact hge i hi hil
  refine ⟨?_, ?_⟩
  · unfold ByF
    rw [List.append_assoc, List.pairwise_append]
    refine ⟨h.ord.sublist (List.take_sublist _ _), List.pairwise_cons.2 ⟨hup, h.ord.sublist (List.drop_sublist _ _)⟩, fun y hy z hz => ?_⟩
    rcases List.mem_cons.1 hz with rfl | hz
    · exact hlow y hy
    · exact List.lt_trans (hlow y hy) (hup z hz)
  · rw [upL_succ, List.append_assoc]
    refine (List.perm_middle (l₁ := l.take a) (a := (k : Int) + 1) (l₂ := l.drop a)).trans ?_
    rw [List.take_append_drop]
    exact (List.Perm.cons _ h.perm).trans (List.perm_append_singleton _ _).symm

/-! How many numbers are before one. -/
def cntF (f : Int → List UInt8) (n : Int) : Nat → Nat
  | 0 => 0
  | k + 1 => cntF f n k + if f ((k : Int) + 1) < f n then 1 else 0
theorem cntF_le (f : Int → List UInt8) (n : Int) : ∀ k, cntF f n k ≤ k := by
  intro k
  induction k with
  | zero => exact Nat.le_refl _
  | succ k ih => rw [cntF]; split <;> omega
theorem cntF_yes {n : Int} {k : Nat} (h : f ((k : Int) + 1) < f n) : cntF f n (k + 1) = cntF f n k + 1 := by rw [cntF, if_pos h]
theorem cntF_no {n : Int} {k : Nat} (h : ¬ f ((k : Int) + 1) < f n) : cntF f n (k + 1) = cntF f n k := by rw [cntF, if_neg h, Nat.add_zero]
theorem cntF_up (n : Int) : ∀ k, cntF f n k = (upL k).countP fun x => decide (f x < f n) := by
  intro k
  induction k with
  | zero => rfl
  | succ k ih =>
    rw [upL_succ, List.countP_append, cntF, ih, List.countP_singleton]
    simp
theorem SortIs.cnt {m : Nat} {l : List Int} (h : SortIs f m l) {k : Nat} (hk : k < m) : cntF f (l.getD k 0) m = k := by
  have hl := h.len
  rw [cntF_up, ← h.perm.countP_eq]
  have e : l.countP (fun x => decide (f x < f (l.getD k 0))) = (l.take k).countP (fun x => decide (f x < f (l.getD k 0))) + (l.drop k).countP (fun x => decide (f x < f (l.getD k 0))) := by
    rw [← List.countP_append, List.take_append_drop]
  rw [e]
  have h1 : (l.take k).countP (fun x => decide (f x < f (l.getD k 0))) = k := by
    have : (l.take k).countP (fun x => decide (f x < f (l.getD k 0))) = (l.take k).length := List.countP_eq_length.2 fun x hx => by
      obtain ⟨i, hi, hil, rfl⟩ := mem_take_getD hx
      exact decide_eq_true (h.lt hi (by omega))
    rw [this, List.length_take]; omega
  have h2 : (l.drop k).countP (fun x => decide (f x < f (l.getD k 0))) = 0 := List.countP_eq_zero.2 fun x hx => by
    obtain ⟨i, hi, hil, rfl⟩ := mem_drop_getD hx
    rw [decide_eq_true_eq]
    by_cases e : i = k
    · rw [e]; exact ltl_no
    · exact ltl_asym (h.lt (i := k) (j := i) (by omega) (by omega))
  omega

/-! How many numbers stand at their own places. -/
def keptTo (l : List Int) : Nat → Nat
  | 0 => 0
  | k + 1 => keptTo l k + if l.getD k 0 = (k : Int) + 1 then 1 else 0
theorem keptTo_le (l : List Int) : ∀ k, keptTo l k ≤ k := by
  intro k
  induction k with
  | zero => exact Nat.le_refl _
  | succ k ih => rw [keptTo]; split <;> omega
theorem kept_yes {l : List Int} {k : Nat} (h : l.getD k 0 = (k : Int) + 1) : keptTo l (k + 1) = keptTo l k + 1 := by rw [keptTo, if_pos h]
theorem kept_no {l : List Int} {k : Nat} (h : ¬ l.getD k 0 = (k : Int) + 1) : keptTo l (k + 1) = keptTo l k := by rw [keptTo, if_neg h, Nat.add_zero]
theorem kept_all {l : List Int} : ∀ k, keptTo l k = k → ∀ j, j < k → l.getD j 0 = (j : Int) + 1 := by
  intro k
  induction k with
  | zero => intro _ j h; omega
  | succ k ih =>
    intro h j hj
    have h0 := keptTo_le l k
    by_cases e : l.getD k 0 = (k : Int) + 1
    · rw [kept_yes e] at h
      by_cases ej : j = k
      · rw [ej]; exact e
      · exact ih (by omega) j (by omega)
    · rw [kept_no e] at h; omega
theorem kept_one_less {l : List Int} : ∀ k, keptTo l k + 1 = k → ∃ i, i < k ∧ l.getD i 0 ≠ (i : Int) + 1 ∧ ∀ j, j < k → j ≠ i → l.getD j 0 = (j : Int) + 1 := by
  intro k
  induction k with
  | zero => intro h; omega
  | succ k ih =>
    intro h
    by_cases e : l.getD k 0 = (k : Int) + 1
    · rw [kept_yes e] at h
      obtain ⟨i, hi, h1, h2⟩ := ih (by omega)
      refine ⟨i, by omega, h1, fun j hj hne => ?_⟩
      by_cases ej : j = k
      · rw [ej]; exact e
      · exact h2 j (by omega) hne
    · rw [kept_no e] at h
      exact ⟨k, by omega, e, fun j hj hne => kept_all k (by omega) j (by omega)⟩
/-- Not just one number is out of place. -/
theorem SortIs.kept {m : Nat} {l : List Int} (h : SortIs f m l) : keptTo l m + 1 ≠ m := fun hk => by
  obtain ⟨i, hi, h1, h2⟩ := kept_one_less m hk
  have hl := h.len
  obtain ⟨j, hj, e⟩ := getD_of_mem ((h.mem (x := (i : Int) + 1)).2 (by omega))
  by_cases hij : j = i
  · subst hij; exact h1 e
  · have := h2 j (by omega) hij; omega
/-! The first and the last one. -/
theorem SortIs.first {m : Nat} {l : List Int} (h : SortIs f m l) {x : Int} (h1 : 1 ≤ x) (h2 : x ≤ m) : ¬ f x < f (l.getD 0 0) := by
  obtain ⟨j, hj, rfl⟩ := getD_of_mem (h.mem.2 ⟨h1, h2⟩)
  have hl := h.len
  by_cases e : j = 0
  · rw [e]; exact ltl_no
  · exact ltl_asym (h.lt (i := 0) (j := j) (by omega) (by omega))
theorem SortIs.last {m : Nat} {l : List Int} (h : SortIs f m l) {x : Int} (h1 : 1 ≤ x) (h2 : x ≤ m) : ¬ f (l.getD (m - 1) 0) < f x := by
  obtain ⟨j, hj, rfl⟩ := getD_of_mem (h.mem.2 ⟨h1, h2⟩)
  have hl := h.len
  by_cases e : j = m - 1
  · rw [e]; exact ltl_no
  · exact ltl_asym (h.lt (i := j) (j := m - 1) (by omega) (by omega))
theorem first_more {m : Nat} {l l' : List Int} (hm : 0 < m) (ha : ApartTo f (m + 1)) (h : SortIs f m l) (h' : SortIs f (m + 1) l') : l'.getD 0 0 = l.getD 0 0 ∨ l'.getD 0 0 = (m : Int) + 1 := by
  have b := h.at_ (i := 0) hm
  have b' := h'.at_ (i := 0) (by omega)
  by_cases e : l'.getD 0 0 ≤ m
  · exact .inl (ha _ _ (by omega) (by omega) (by omega) (by omega) (ltl_tri (h.first b'.1 e) (h'.first b.1 (by omega))))
  · exact .inr (by omega)
theorem last_more {m : Nat} {l l' : List Int} (hm : 0 < m) (ha : ApartTo f (m + 1)) (h : SortIs f m l) (h' : SortIs f (m + 1) l') : l'.getD m 0 = l.getD (m - 1) 0 ∨ l'.getD m 0 = (m : Int) + 1 := by
  have b := h.at_ (i := m - 1) (by omega)
  have b' := h'.at_ (i := m) (by omega)
  by_cases e : l'.getD m 0 ≤ m
  · have q : ¬ f (l'.getD m 0) < f (l.getD (m - 1) 0) := by have := h'.last (x := l.getD (m - 1) 0) b.1 (by omega); rwa [Nat.add_sub_cancel] at this
    exact .inl (ha _ _ (by omega) (by omega) (by omega) (by omega) (ltl_tri q (h.last b'.1 e)))
  · exact .inr (by omega)
end

/-! Of a tongue. -/
def allN (t : Tg) (m : Nat) : Prop := ∀ i : Nat, 1 ≤ i → i ≤ m → namedB t i = true
theorem allN_apart {t : Tg} {m : Nat} (h : allN t m) : ApartTo (tx t) m := fun a b a1 a2 b1 b2 e => by
  have ha := h a.toNat (by omega) (by omega)
  have hb := h b.toNat (by omega) (by omega)
  rw [show ((a.toNat : Nat) : Int) = a by omega] at ha
  rw [show ((b.toNat : Nat) : Int) = b by omega] at hb
  exact tx_inj ha hb e
theorem allN_zero (t : Tg) : allN t 0 := fun i h1 h2 => by omega
theorem allN_succ {t : Tg} {k : Nat} (h : allN t k) (h1 : namedB t ((k : Int) + 1) = true) : allN t (k + 1) := fun i i1 i2 => by
  by_cases e : i = k + 1
  · subst e; exact h1
  · exact h i i1 (by omega)
theorem allN_at {t : Tg} {m : Nat} (h : allN t m) {x : Int} (h1 : 1 ≤ x) (h2 : x ≤ m) : namedB t x = true := by
  have := h x.toNat (by omega) (by omega)
  rwa [show ((x.toNat : Nat) : Int) = x by omega] at this
open Classical in
noncomputable def sortedF (t : Tg) (m : Int) : List Int := if (1 ≤ m ∧ m ≤ 150) ∧ allN t m.toNat then sortedL (tx t) m.toNat else []
theorem sorted_no {t : Tg} {m : Int} (h : ¬ ((1 ≤ m ∧ m ≤ 150) ∧ allN t m.toNat)) : sortedF t m = [] := by unfold sortedF; rw [if_neg h]
theorem sorted_gap {t : Tg} {m : Int} {k : Nat} (hk : (k : Int) < m) (h : namedB t ((k : Int) + 1) = false) : sortedF t m = [] := sorted_no fun hh => by
  have := allN_at hh.2 (x := (k : Int) + 1) (by omega) (by omega)
  rw [h] at this; cases this
theorem sorted_yes {t : Tg} {m : Nat} {l : List Int} (h1 : 1 ≤ m) (h2 : m ≤ 150) (ha : allN t m) (h : SortIs (tx t) m l) : sortedF t m = l := by
  unfold sortedF
  rw [if_pos ⟨by omega, by simpa using ha⟩, Int.toNat_natCast]
  exact (h.eq (allN_apart ha)).symm
/-- Either there is no order, or there is. -/
theorem sorted_cases (t : Tg) (m : Int) : (sortedF t m = [] ∧ (m < 1 ∨ 150 < m ∨ ¬ allN t m.toNat)) ∨ ∃ M : Nat, m = M ∧ 1 ≤ M ∧ M ≤ 150 ∧ allN t M ∧ SortIs (tx t) M (sortedF t m) := by
  by_cases h : (1 ≤ m ∧ m ≤ 150) ∧ allN t m.toNat
  · obtain ⟨⟨h1, h2⟩, h3⟩ := h
    obtain ⟨M, rfl⟩ : ∃ M : Nat, m = M := ⟨m.toNat, by omega⟩
    rw [Int.toNat_natCast] at h3
    refine .inr ⟨M, rfl, by omega, by omega, h3, ?_⟩
    rw [sorted_yes (by omega) (by omega) h3 (sortedL_is (allN_apart h3))]
    exact sortedL_is (allN_apart h3)
  · refine .inl ⟨sorted_no h, ?_⟩
    by_cases h1 : m < 1
    · exact .inl h1
    · by_cases h2 : 150 < m
      · exact .inr (.inl h2)
      · exact .inr (.inr fun h3 => h ⟨by omega, h3⟩)
theorem sorted_len (t : Tg) (m : Int) : (sortedF t m).length ≤ 150 := by
  rcases sorted_cases t m with ⟨h, -⟩ | ⟨M, -, -, h2, -, h⟩
  · rw [h]; simp
  · rw [h.len]; exact h2
theorem sorted_bd (t : Tg) (m : Int) (k : Nat) : 0 ≤ (sortedF t m).getD k 0 ∧ (sortedF t m).getD k 0 ≤ 150 := by
  rcases sorted_cases t m with ⟨h, -⟩ | ⟨M, -, -, h2, -, h⟩
  · rw [h]; simp
  · by_cases hk : k < M
    · have := h.at_ hk; omega
    · have hl := h.len
      rw [List.getD_eq_getElem?_getD, List.getElem?_eq_none (by omega)]; simp
noncomputable def firstF (t : Tg) (m : Int) : Int := if (sortedF t m).length = 0 then -1 else (sortedF t m).getD 0 0
noncomputable def lastF (t : Tg) (m : Int) : Int := if (sortedF t m).length = 0 then -1 else (sortedF t m).getD ((sortedF t m).length - 1) 0
noncomputable def keptF (t : Tg) (m : Int) : Int := if (sortedF t m).length = 0 then -1 else (keptTo (sortedF t m) (sortedF t m).length : Int)
open Classical in
noncomputable def placeF (t : Tg) (n m : Int) : Int := if n ∈ sortedF t m then (cntF (tx t) n (sortedF t m).length : Int) else -1
theorem place_no {t : Tg} {n m : Int} (h : ¬ n ∈ sortedF t m) : placeF t n m = -1 := by unfold placeF; rw [if_neg h]
theorem place_yes {t : Tg} {n m : Int} (h : n ∈ sortedF t m) : placeF t n m = cntF (tx t) n (sortedF t m).length := by unfold placeF; rw [if_pos h]
theorem placeF_at {t : Tg} {n m : Int} {k : Nat} (hk : k < (sortedF t m).length) (h : (sortedF t m).getD k 0 = n) : placeF t n m = k := by
  rcases sorted_cases t m with ⟨h0, -⟩ | ⟨M, rfl, h1, h2, h3, hs⟩
  · rw [h0] at hk; exact absurd hk (by simp)
  · have hl := hs.len
    rw [place_yes (by rw [← h]; exact mem_getD hk), hl, ← h, hs.cnt (by omega)]
theorem first_no {t : Tg} {m : Int} (h : (sortedF t m).length = 0) : firstF t m = -1 ∧ lastF t m = -1 ∧ keptF t m = -1 := by
  unfold firstF lastF keptF
  rw [if_pos h, if_pos h, if_pos h]; exact ⟨rfl, rfl, rfl⟩
theorem first_yes {t : Tg} {m : Int} (h : (sortedF t m).length ≠ 0) : firstF t m = (sortedF t m).getD 0 0 ∧ lastF t m = (sortedF t m).getD ((sortedF t m).length - 1) 0 ∧ keptF t m = keptTo (sortedF t m) (sortedF t m).length := by
  unfold firstF lastF keptF
  rw [if_neg h, if_neg h, if_neg h]; exact ⟨rfl, rfl, rfl⟩

/-! The texts from 1 on. -/
theorem namesTo_atO (t : Tg) (a : Int) : ∀ k j, j < k → (namesTo t a k).getD j ByteArray.empty = textOf t (a + j) := by
  intro k
  induction k with
  | zero => intro j h; omega
  | succ k ih =>
    intro j hj
    rw [namesTo]
    have hl := namesTo_len t a k
    by_cases e : j = k
    · subst e
      rw [List.getD_eq_getElem?_getD, List.getElem?_append_right (by omega), hl, Nat.sub_self]
      rfl
    · rw [List.getD_eq_getElem?_getD, List.getElem?_append_left (by omega), ← List.getD_eq_getElem?_getD]
      exact ih j (by omega)
theorem fullTo_iff (t : Tg) : ∀ k, fullTo t 1 k = true ↔ allN t k := by
  intro k
  induction k with
  | zero => exact ⟨fun _ => allN_zero t, fun _ => rfl⟩
  | succ k ih =>
    rw [fullTo, Bool.and_eq_true, decide_eq_true_eq, ih, Int.add_comm 1 (k : Int)]
    constructor
    · rintro ⟨h1, h2⟩
      refine allN_succ h1 ?_
      cases hb : namedB t ((k : Int) + 1)
      · exact absurd (text_no hb).2 h2
      · rfl
    · intro h
      refine ⟨fun i h1 h2 => h i h1 (by omega), ?_⟩
      exact text_named (h (k + 1) (by omega) (Nat.le_refl _))
/-- The texts to be put in order. -/
def textsF (t : Tg) (m : Int) : List ByteArray := if 150 < m then [] else namesOf t 1 m
theorem texts_cases (t : Tg) (m : Int) : (textsF t m = [] ∧ sortedF t m = []) ∨ ∃ M : Nat, m = M ∧ 1 ≤ M ∧ M ≤ 150 ∧ allN t M ∧ SortIs (tx t) M (sortedF t m) ∧ (textsF t m).length = M ∧ ∀ j, j < M → (textsF t m).getD j ByteArray.empty = textOf t ((j : Int) + 1) := by
  rcases sorted_cases t m with ⟨h0, hc⟩ | ⟨M, rfl, h1, h2, h3, hs⟩
  · refine .inl ⟨?_, h0⟩
    unfold textsF
    split
    · rfl
    · rename_i h150
      unfold namesOf
      split
      · rename_i hb
        rw [Bool.and_eq_true] at hb
        have hs := of_decide_eq_true hb.1
        have hf := (fullTo_iff t _).1 hb.2
        rw [show m + 1 - 1 = m by omega] at hf
        rcases hc with h | h | h
        · omega
        · omega
        · exact absurd hf h
      · rfl
  · refine .inr ⟨M, rfl, h1, h2, h3, hs, ?_⟩
    have e : textsF t (M : Int) = namesTo t 1 M := by
      unfold textsF
      rw [if_neg (by omega)]
      have hsp : spanOk 1 (M : Int) = true := decide_eq_true (by omega)
      have he : ((M : Int) + 1 - 1).toNat = M := by omega
      rw [names_yes hsp (by rw [he]; exact (fullTo_iff t M).2 h3), he]
    rw [e]
    exact ⟨namesTo_len t 1 M, fun j hj => by rw [namesTo_atO t 1 M j hj, Int.add_comm]⟩
theorem texts_len (t : Tg) (m : Int) : (textsF t m).length ≤ 150 := by
  rcases texts_cases t m with ⟨h, -⟩ | ⟨M, -, -, h2, -, -, h, -⟩
  · rw [h]; simp
  · omega
end Go.Proofs.Ytjggdlnbfoglaaa
