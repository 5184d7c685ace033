/-
  Desks as plain mathematics: what a deed makes of a desk, deeds one after the other, what was done undone.
-/
import Derived.Test.YtjnlpknjdclalaaMathL
import Derived.Test.YtjnlpknjdclalaaGB
namespace Go.Proofs.Ytjnlpknjdclalaa
open Go.RowKit

/-- A desk. -/
structure Dk where
  t : Tg
  now : Int
  past : List Int
/-- A deed. -/
structure Dd where
  kind : Int
  n : Int
def noDk : Dk := ⟨noTg, 0, []⟩
def dkOk (d : Dk) : Bool := namedB d.t d.now && (d.past.all (namedB d.t) && decide (d.past.length ≤ 8))
def dkNew (t : Tg) (n : Int) : Dk := if namedB t n = true then ⟨t, n, []⟩ else noDk
/-- Within what the walks can bear. -/
structure Dk.Fine (d : Dk) : Prop where
  t : d.t.Fine
  now : -9223372036854775808 ≤ d.now ∧ d.now ≤ 9223372036854775807
  past : d.past.length ≤ 1048576
  fits : Fits d.past

theorem dkOk_iff (d : Dk) : dkOk d = true ↔ namedB d.t d.now = true ∧ (∀ x ∈ d.past, namedB d.t x = true) ∧ d.past.length ≤ 8 := by
  unfold dkOk; simp
theorem dk_new_ok {t : Tg} {n : Int} (h : namedB t n = true) : dkNew t n = ⟨t, n, []⟩ ∧ dkOk (dkNew t n) = true := by
  unfold dkNew; rw [if_pos h]; exact ⟨rfl, by rw [dkOk_iff]; exact ⟨h, by simp, by simp⟩⟩
theorem dk_new_no {t : Tg} {n : Int} (h : namedB t n = false) : dkNew t n = noDk := by unfold dkNew; rw [h]; rfl
theorem named_bd {t : Tg} {n : Int} (h : namedB t n = true) : 1 ≤ n ∧ n ≤ 99999 := by obtain ⟨-, h1, h2⟩ := named_ok h; exact ⟨h1, h2⟩
theorem named_tok {t : Tg} {n : Int} (h : namedB t n = true) : t.ok = true := by obtain ⟨h0, -, -⟩ := named_ok h; exact h0
theorem named_off {t : Tg} {n : Int} (h : ¬ (1 ≤ n ∧ n ≤ 99999)) : namedB t n = false := by
  cases hb : namedB t n
  · rfl
  · exact absurd (named_bd hb) h
theorem no_dk_ok : dkOk noDk = false := by
  cases h : dkOk noDk
  · rfl
  · have := named_bd ((dkOk_iff _).1 h).1; exact absurd this (by show ¬ (1 ≤ (0 : Int) ∧ _); omega)
/-- Without any numbers of before. -/
theorem dk_bare {d : Dk} (h : dkOk d = true) : dkOk ⟨d.t, d.now, []⟩ = true := by rw [dkOk_iff] at h ⊢; exact ⟨h.1, by simp, by simp⟩

/-! Deeds. -/
/-- The number that a deed makes. -/
def madeOf (d : Dk) (a : Dd) : Int :=
  if a.kind = 3 ∧ a.n = 0 then lettersOf d.t d.now
  else if 1 ≤ a.n ∧ a.n ≤ 99999 then (if a.kind = 0 then a.n else if a.kind = 1 then d.now + a.n else if a.kind = 2 then d.now - a.n else 0)
  else 0
/-- The number put in the place of that of the desk. -/
def putD (d : Dk) (m : Int) : Dk × Bool := if namedB d.t m = true ∧ m ≠ d.now then (⟨d.t, m, (d.past ++ [d.now]).drop (d.past.length + 1 - 8)⟩, true) else (d, false)
def backD (d : Dk) : Dk × Bool := if 0 < d.past.length then (⟨d.t, d.past.getD (d.past.length - 1) 0, d.past.take (d.past.length - 1)⟩, true) else (d, false)
def dkDo (d : Dk) (a : Dd) : Dk × Bool := if dkOk d = true then (if a.kind = 4 ∧ a.n = 0 then backD d else putD d (madeOf d a)) else (noDk, false)

theorem put_no {d : Dk} {m : Int} (h : ¬ (namedB d.t m = true ∧ m ≠ d.now)) : putD d m = (d, false) := by unfold putD; rw [if_neg h]
theorem put_yes {d : Dk} {m : Int} (h : namedB d.t m = true ∧ m ≠ d.now) : putD d m = (⟨d.t, m, (d.past ++ [d.now]).drop (d.past.length + 1 - 8)⟩, true) := by unfold putD; rw [if_pos h]
/-- What the program takes where a deed makes no number. -/
theorem put_zero (d : Dk) : putD d 0 = (d, false) := put_no fun h => absurd (named_bd h.1) (by omega)
theorem put_now (d : Dk) : putD d d.now = (d, false) := put_no fun h => h.2 rfl
theorem back_put (d : Dk) (h : ¬ 0 < d.past.length) : backD d = putD d 0 := by rw [put_zero]; unfold backD; rw [if_neg h]
theorem do_no {d : Dk} {a : Dd} (h : dkOk d = false) : dkDo d a = (noDk, false) := by unfold dkDo; rw [h]; rfl
theorem do_back {d : Dk} {a : Dd} (h : dkOk d = true) (ha : a.kind = 4 ∧ a.n = 0) : dkDo d a = backD d := by unfold dkDo; rw [if_pos h, if_pos ha]
theorem do_put {d : Dk} {a : Dd} (h : dkOk d = true) (ha : ¬ (a.kind = 4 ∧ a.n = 0)) : dkDo d a = putD d (madeOf d a) := by unfold dkDo; rw [if_pos h, if_neg ha]

theorem do_same {d : Dk} {a : Dd} (h : dkOk d = true) (hn : (dkDo d a).2 = false) : (dkDo d a).1 = d := by
  by_cases ha : a.kind = 4 ∧ a.n = 0
  · rw [do_back h ha] at hn ⊢
    unfold backD at hn ⊢
    split
    · rename_i h0; rw [if_pos h0] at hn; cases hn
    · rfl
  · rw [do_put h ha] at hn ⊢
    by_cases hp : namedB d.t (madeOf d a) = true ∧ madeOf d a ≠ d.now
    · rw [put_yes hp] at hn; cases hn
    · rw [put_no hp]
theorem do_yes_ok {d : Dk} {a : Dd} (hn : (dkDo d a).2 = true) : dkOk d = true := by
  cases h : dkOk d
  · rw [do_no h] at hn; cases hn
  · rfl
theorem getD_mem {l : List Int} {i : Nat} (h : i < l.length) : l.getD i 0 ∈ l := by
  rw [List.getD_eq_getElem?_getD, List.getElem?_eq_getElem h]; exact List.getElem_mem h
/-- The desk behind a deed is one, with the same tongue. -/
theorem do_ok {d : Dk} {a : Dd} (h : dkOk d = true) : dkOk (dkDo d a).1 = true ∧ (dkDo d a).1.t = d.t := by
  obtain ⟨h1, h2, h3⟩ := (dkOk_iff d).1 h
  by_cases ha : a.kind = 4 ∧ a.n = 0
  · rw [do_back h ha]
    unfold backD
    split
    · rename_i h0
      refine ⟨(dkOk_iff _).2 ⟨h2 _ (getD_mem (by omega)), fun x hx => h2 x (List.mem_of_mem_take hx), ?_⟩, rfl⟩
      show (d.past.take _).length ≤ 8
      rw [List.length_take]; omega
    · exact ⟨h, rfl⟩
  · rw [do_put h ha]
    by_cases hp : namedB d.t (madeOf d a) = true ∧ madeOf d a ≠ d.now
    · rw [put_yes hp]
      refine ⟨(dkOk_iff _).2 ⟨hp.1, fun x hx => ?_, ?_⟩, rfl⟩
      · rcases List.mem_append.1 (List.mem_of_mem_drop hx) with hm | hm
        · exact h2 x hm
        · rw [List.mem_singleton] at hm; rw [hm]; exact h1
      · show (List.drop _ (d.past ++ [d.now])).length ≤ 8
        rw [List.length_drop, List.length_append, List.length_singleton]; omega
    · rw [put_no hp]; exact ⟨h, rfl⟩
/-- What was done can be undone. -/
theorem do_undone {d : Dk} {a : Dd} (h : (dkDo d a).2 = true) (ha : a.kind ≠ 4) (hl : d.past.length < 8) : dkDo (dkDo d a).1 ⟨4, 0⟩ = (d, true) := by
  have hok := do_yes_ok h
  have hk := (do_ok (a := a) hok).1
  have ha' : ¬ (a.kind = 4 ∧ a.n = 0) := fun e => ha e.1
  rw [do_back hk ⟨rfl, rfl⟩]
  rw [do_put hok ha'] at h ⊢
  by_cases hp : namedB d.t (madeOf d a) = true ∧ madeOf d a ≠ d.now
  · rw [put_yes hp]
    have e : d.past.length + 1 - 8 = 0 := by omega
    unfold backD
    simp only [e, List.drop_zero, List.length_append, List.length_singleton]
    rw [if_pos (by omega)]
    simp
  · rw [put_no hp] at h; cases h
theorem back_kind {d : Dk} {a : Dd} (h : (dkDo d a).2 = true) (ha : a.kind = 4) : a.n = 0 := by
  refine Classical.byContradiction fun hn => ?_
  have hok := do_yes_ok h
  have e : madeOf d a = 0 := by
    unfold madeOf
    rw [if_neg (by omega)]
    split
    · rw [if_neg (by omega), if_neg (by omega), if_neg (by omega)]
    · rfl
  rw [do_put hok (fun e => hn e.2), e, put_zero] at h
  cases h
theorem letters_kind {d : Dk} {a : Dd} (h : (dkDo d a).2 = true) (ha : a.kind = 3) : (dkDo d a).1.now = lettersOf d.t d.now := by
  have hok := do_yes_ok h
  have ha' : ¬ (a.kind = 4 ∧ a.n = 0) := fun e => by omega
  rw [do_put hok ha'] at h ⊢
  by_cases hn : a.n = 0
  · have e : madeOf d a = lettersOf d.t d.now := by unfold madeOf; rw [if_pos ⟨ha, hn⟩]
    rw [e] at h ⊢
    by_cases hp : namedB d.t (lettersOf d.t d.now) = true ∧ lettersOf d.t d.now ≠ d.now
    · rw [put_yes hp]
    · rw [put_no hp] at h; cases h
  · have e : madeOf d a = 0 := by
      unfold madeOf
      rw [if_neg (by omega)]
      split
      · rw [if_neg (by omega), if_neg (by omega), if_neg (by omega)]
      · rfl
    rw [e, put_zero] at h; cases h
/-- A made number fits. -/
theorem made_bd (d : Dk) (a : Dd) (h : dkOk d = true) : -200000 ≤ madeOf d a ∧ madeOf d a ≤ 200000 := by
  have h1 := named_bd ((dkOk_iff d).1 h).1
  have h2 := letters_bd d.t d.now
  unfold madeOf
  split
  · omega
  · split
    · split
      · omega
      · split
        · omega
        · split <;> omega
    · omega

/-! Deeds one after the other. -/
def stepD (p : Dk × Nat) (a : Dd) : Dk × Nat := if (dkDo p.1 a).2 = true then ((dkDo p.1 a).1, p.2 + 1) else p
def runTo (d : Dk) (l : List Dd) : Dk × Nat := l.foldl stepD (d, 0)
def dkRun (d : Dk) (l : List Dd) : Dk × Nat := if dkOk d = true ∧ l.length ≤ 40 then runTo d l else (noDk, 0)
theorem run_no {d : Dk} {l : List Dd} (h : ¬ (dkOk d = true ∧ l.length ≤ 40)) : dkRun d l = (noDk, 0) := by unfold dkRun; rw [if_neg h]
theorem run_yes {d : Dk} {l : List Dd} (h : dkOk d = true ∧ l.length ≤ 40) : dkRun d l = runTo d l := by unfold dkRun; rw [if_pos h]
theorem step_ok {p : Dk × Nat} {a : Dd} (h : dkOk p.1 = true) : dkOk (stepD p a).1 = true ∧ (stepD p a).1.t = p.1.t ∧ (stepD p a).2 ≤ p.2 + 1 := by
  unfold stepD
  split
  · exact ⟨(do_ok h).1, (do_ok h).2, Nat.le_refl _⟩
  · exact ⟨h, rfl, Nat.le_succ _⟩
/-- On a desk the desk behind a deed is that of the step. -/
theorem step_fst {p : Dk × Nat} {a : Dd} (h : dkOk p.1 = true) : (stepD p a).1 = (dkDo p.1 a).1 := by
  unfold stepD
  split
  · rfl
  · rename_i hn
    exact (do_same h (by simpa using hn)).symm
theorem foldl_ok (l : List Dd) : ∀ p : Dk × Nat, dkOk p.1 = true → dkOk (l.foldl stepD p).1 = true ∧ (l.foldl stepD p).1.t = p.1.t ∧ (l.foldl stepD p).2 ≤ p.2 + l.length := by
  induction l with
  | nil => intro p h; exact ⟨h, rfl, Nat.le_refl _⟩
  | cons a l ih =>
    intro p h
    obtain ⟨h1, h2, h3⟩ := step_ok (a := a) h
    obtain ⟨g1, g2, g3⟩ := ih _ h1
    refine ⟨g1, g2.trans h2, ?_⟩
    show (l.foldl stepD (stepD p a)).2 ≤ _
    rw [List.length_cons]; omega
theorem run_ok {d : Dk} (h : dkOk d = true) (l : List Dd) : dkOk (runTo d l).1 = true ∧ (runTo d l).1.t = d.t ∧ (runTo d l).2 ≤ l.length := by
  obtain ⟨h1, h2, h3⟩ := foldl_ok l (d, 0) h
  exact ⟨h1, h2, by have h3' : (runTo d l).2 ≤ 0 + l.length := h3; omega⟩
theorem foldl_count (l : List Dd) : ∀ (d : Dk) (n : Nat), l.foldl stepD (d, n) = ((l.foldl stepD (d, 0)).1, n + (l.foldl stepD (d, 0)).2) := by
  induction l with
  | nil => intro d n; rfl
  | cons a l ih =>
    intro d n
    show l.foldl stepD (stepD (d, n) a) = ((l.foldl stepD (stepD (d, 0) a)).1, n + (l.foldl stepD (stepD (d, 0) a)).2)
    by_cases h : (dkDo d a).2 = true
    · have e : ∀ m : Nat, stepD (d, m) a = ((dkDo d a).1, m + 1) := fun m => if_pos h
      rw [e, e, ih _ (n + 1), ih _ (0 + 1)]
      dsimp only
      rw [Nat.zero_add, Nat.add_assoc]
    · have e : ∀ m : Nat, stepD (d, m) a = (d, m) := fun m => if_neg h
      rw [e, e, ih d n]
theorem run_snoc {d : Dk} {l : List Dd} {k : Nat} {a : Dd} (h : l[k]? = some a) : runTo d (l.take (k + 1)) = stepD (runTo d (l.take k)) a := by
  unfold runTo
  rw [List.take_add_one, h, List.foldl_append]; rfl
/-- In two parts it is the same. -/
theorem run_two {d : Dk} {l : List Dd} {k : Nat} (h : dkOk d = true) (hl : l.length ≤ 40) :
    (dkRun (dkRun d (l.take k)).1 (l.drop k)).1 = (dkRun d l).1 ∧ (dkRun d (l.take k)).2 + (dkRun (dkRun d (l.take k)).1 (l.drop k)).2 = (dkRun d l).2 := by
  have h1 : (l.take k).length ≤ 40 := by rw [List.length_take]; omega
  have h2 : (l.drop k).length ≤ 40 := by rw [List.length_drop]; omega
  rw [run_yes ⟨h, h1⟩, run_yes ⟨h, hl⟩, run_yes ⟨(run_ok h _).1, h2⟩]
  have e : runTo d l = (l.drop k).foldl stepD (runTo d (l.take k)) := by
    unfold runTo; rw [← List.foldl_append, List.take_append_drop]
  rw [e, show runTo d (l.take k) = ((runTo d (l.take k)).1, (runTo d (l.take k)).2) from rfl, foldl_count]
  exact ⟨rfl, rfl⟩
end Go.Proofs.Ytjnlpknjdclalaa
