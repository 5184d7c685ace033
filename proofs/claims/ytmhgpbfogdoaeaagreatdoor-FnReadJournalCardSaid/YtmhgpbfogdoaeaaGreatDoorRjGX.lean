/-
  GX: MathC MathD MathK MathL MathDd MathW MathX MathY.
-/
import Derived.WalkKit
import Derived.Test.YtmhgpbfogdoaeaaGreatDoorRjGA
import Derived.Lib.Hide
import Derived.Test.YtmhgpbfogdoaeaaGreatDoorRjGN
import Derived.Lib.SlicesCompact
import Derived.Test.YtmhgpbfogdoaeaaGreatDoorRjGB
import Derived.Test.YtmhgpbfogdoaeaaGreatDoorRjCutR
import Derived.Lib.ItoaNum
import Derived.Lib.AtoiAll
/- MathC -/
namespace Go.Proofs.YtmhgpbfogdoaeaaGreatDoor

section
variable {α : Type}

end

section
variable {α : Type} [DecidableEq α]
/-- In how many ways is a text made of words? (fuel: no less than its letters) -/
def waysF (C : List (List α)) : Nat → List α → Nat
  | 0, s => if s = [] then 1 else 0
  | n + 1, s => if s = [] then 1 else ((C.filter (fun u => u.isPrefixOf s)).map (fun u => waysF C n (s.drop u.length))).sum
def waysC (C : List (List α)) (s : List α) : Nat := waysF C s.length s
end
end Go.Proofs.YtmhgpbfogdoaeaaGreatDoor

/- MathD -/
namespace Go.Proofs.YtmhgpbfogdoaeaaGreatDoor

/-- The letters of a text. -/
abbrev tl (s : ByteArray) : List UInt8 := s.data.toList
theorem tl_inj {a b : ByteArray} (h : tl a = tl b) : a = b := ByteArray.ext (Array.toList_inj.1 h)
theorem tl_len (s : ByteArray) : (tl s).length = s.size := by simp
theorem tl_app (a b : ByteArray) : tl (a ++ b) = tl a ++ tl b := by simp [tl]
/-- What is behind it. -/
def rest (s h : ByteArray) : ByteArray := s.extract h.size s.size
/-- The words as lists of letters. -/
abbrev wl (l : List ByteArray) : List (List UInt8) := l.map tl
section
variable {l : List ByteArray} {u v d : ByteArray}
end
def wf (l : List ByteArray) (s : ByteArray) (p : Nat) : Nat := waysC (wl l) ((tl s).drop p)
end Go.Proofs.YtmhgpbfogdoaeaaGreatDoor

/- MathK -/
namespace Go.Proofs.YtmhgpbfogdoaeaaGreatDoor

section
variable {f : Int → Int} {n : Int} {mu lam : Nat}
end

section
variable {f : Int → Int} {n : Int} {mu lam : Nat}
end
end Go.Proofs.YtmhgpbfogdoaeaaGreatDoor

/- MathL -/
namespace Go.Proofs.YtmhgpbfogdoaeaaGreatDoor
open Go.RowKit

/-- The letters of a name; -1 if there is none. -/
def lettersOf (t : Tg) (n : Int) : Int := if namedB t n then lettersTo' (nameOf t n) (nameOf t n).length else -1
theorem letters_no {t : Tg} {n : Int} (h : namedB t n = false) : lettersOf t n = -1 := by unfold lettersOf; rw [h]; rfl
theorem letters_yes {t : Tg} {n : Int} (h : namedB t n = true) : lettersOf t n = lettersTo' (nameOf t n) (nameOf t n).length := by unfold lettersOf; rw [if_pos h]
theorem letters_bd (t : Tg) (n : Int) : -1 ≤ lettersOf t n ∧ lettersOf t n ≤ 320 := by
  have h1 := lettersTo_le (nameOf_at t n) (nameOf t n).length
  have h2 := nameOf_short t n
  unfold lettersOf
  split <;> omega
section
open Go.Lib
end
section
variable {f : Int → Int} {k : Nat} {l : List Int}
end
end Go.Proofs.YtmhgpbfogdoaeaaGreatDoor

/- MathDd -/
namespace Go.Proofs.YtmhgpbfogdoaeaaGreatDoor

/-- A deed. -/
structure Dd where
  kind : Int
  n : Int
end Go.Proofs.YtmhgpbfogdoaeaaGreatDoor

/- MathW -/
namespace Go.Proofs.YtmhgpbfogdoaeaaGreatDoor
open Go.RowKit

/-- A desk. -/
structure Dk where
  t : Tg
  now : Int
  past : List Int
def noDk : Dk := ⟨noTg, 0, []⟩
def dkOk (d : Dk) : Bool := namedB d.t d.now && (d.past.all (namedB d.t) && decide (d.past.length ≤ 8))
def dkNew (t : Tg) (n : Int) : Dk := if namedB t n = true then ⟨t, n, []⟩ else noDk
/-- Within what the walks can bear. -/
structure Dk.Fine (d : Dk) : Prop where
  t : d.t.Fine
  now : -9223372036854775808 ≤ d.now ∧ d.now ≤ 9223372036854775807
  past : d.past.length ≤ 1048576
  fits : Fits d.past

theorem dkOk_iff (d : Dk) : dkOk d = true ↔ namedB d.t d.now = true ∧ (∀ x ∈ d.past, namedB d.t x = true) ∧ d.past.length ≤ 8 := by
  unfold dkOk; simp
theorem dk_new_ok {t : Tg} {n : Int} (h : namedB t n = true) : dkNew t n = ⟨t, n, []⟩ ∧ dkOk (dkNew t n) = true := by
  unfold dkNew; rw [if_pos h]; exact ⟨rfl, by rw [dkOk_iff]; exact ⟨h, by simp, by simp⟩⟩
theorem dk_new_no {t : Tg} {n : Int} (h : namedB t n = false) : dkNew t n = noDk := by unfold dkNew; rw [h]; rfl
theorem named_bd {t : Tg} {n : Int} (h : namedB t n = true) : 1 ≤ n ∧ n ≤ 99999 := by obtain ⟨-, h1, h2⟩ := named_ok h; exact ⟨h1, h2⟩
theorem named_off {t : Tg} {n : Int} (h : ¬ (1 ≤ n ∧ n ≤ 99999)) : namedB t n = false := by
  cases hb : namedB t n
  · rfl
  · exact absurd (named_bd hb) h
/-! Deeds. -/
/-- The number that a deed makes. -/
def madeOf (d : Dk) (a : Dd) : Int :=
  if a.kind = 3 ∧ a.n = 0 then lettersOf d.t d.now
  else if 1 ≤ a.n ∧ a.n ≤ 99999 then (if a.kind = 0 then a.n else if a.kind = 1 then d.now + a.n else if a.kind = 2 then d.now - a.n else 0)
  else 0
/-- The number put in the place of that of the desk. -/
def putD (d : Dk) (m : Int) : Dk × Bool := if namedB d.t m = true ∧ m ≠ d.now then (⟨d.t, m, (d.past ++ [d.now]).drop (d.past.length + 1 - 8)⟩, true) else (d, false)
def backD (d : Dk) : Dk × Bool := if 0 < d.past.length then (⟨d.t, d.past.getD (d.past.length - 1) 0, d.past.take (d.past.length - 1)⟩, true) else (d, false)
def dkDo (d : Dk) (a : Dd) : Dk × Bool := if dkOk d = true then (if a.kind = 4 ∧ a.n = 0 then backD d else putD d (madeOf d a)) else (noDk, false)

theorem put_no {d : Dk} {m : Int} (h : ¬ (namedB d.t m = true ∧ m ≠ d.now)) : putD d m = (d, false) := by unfold putD; rw [if_neg h]
theorem put_yes {d : Dk} {m : Int} (h : namedB d.t m = true ∧ m ≠ d.now) : putD d m = (⟨d.t, m, (d.past ++ [d.now]).drop (d.past.length + 1 - 8)⟩, true) := by unfold putD; rw [if_pos h]
/-- What the program takes where a deed makes no number. -/
theorem put_zero (d : Dk) : putD d 0 = (d, false) := put_no fun h => absurd (named_bd h.1) (by omega)
theorem put_now (d : Dk) : putD d d.now = (d, false) := put_no fun h => h.2 rfl
theorem back_put (d : Dk) (h : ¬ 0 < d.past.length) : backD d = putD d 0 := by rw [put_zero]; unfold backD; rw [if_neg h]
theorem do_no {d : Dk} {a : Dd} (h : dkOk d = false) : dkDo d a = (noDk, false) := by unfold dkDo; rw [h]; rfl
theorem do_back {d : Dk} {a : Dd} (h : dkOk d = true) (ha : a.kind = 4 ∧ a.n = 0) : dkDo d a = backD d := by unfold dkDo; rw [if_pos h, if_pos ha]
theorem do_put {d : Dk} {a : Dd} (h : dkOk d = true) (ha : ¬ (a.kind = 4 ∧ a.n = 0)) : dkDo d a = putD d (madeOf d a) := by unfold dkDo; rw [if_pos h, if_neg ha]

theorem do_same {d : Dk} {a : Dd} (h : dkOk d = true) (hn : (dkDo d a).2 = false) : (dkDo d a).1 = d := by
  by_cases ha : a.kind = 4 ∧ a.n = 0
  · rw [do_back h ha] at hn ⊢
    unfold backD at hn ⊢
    split
    · rename_i h0; rw [if_pos h0] at hn; cases hn
    · rfl
  · rw [do_put h ha] at hn ⊢
    by_cases hp : namedB d.t (madeOf d a) = true ∧ madeOf d a ≠ d.now
    · rw [put_yes hp] at hn; cases hn
    · rw [put_no hp]
theorem getD_memW {l : List Int} {i : Nat} (h : i < l.length) : l.getD i 0 ∈ l := by
  rw [List.getD_eq_getElem?_getD, List.getElem?_eq_getElem h]; exact List.getElem_mem h
/-- The desk behind a deed is one, with the same tongue. -/
theorem do_ok {d : Dk} {a : Dd} (h : dkOk d = true) : dkOk (dkDo d a).1 = true ∧ (dkDo d a).1.t = d.t := by
  obtain ⟨h1, h2, h3⟩ := (dkOk_iff d).1 h
  by_cases ha : a.kind = 4 ∧ a.n = 0
  · rw [do_back h ha]
    unfold backD
    split
    · rename_i h0
      refine ⟨(dkOk_iff _).2 ⟨h2 _ (getD_memW (by omega)), fun x hx => h2 x (List.mem_of_mem_take hx), ?_⟩, rfl⟩
      show (d.past.take _).length ≤ 8
      rw [List.length_take]; omega
    · exact ⟨h, rfl⟩
  · rw [do_put h ha]
    by_cases hp : namedB d.t (madeOf d a) = true ∧ madeOf d a ≠ d.now
    · rw [put_yes hp]
      refine ⟨(dkOk_iff _).2 ⟨hp.1, fun x hx => ?_, ?_⟩, rfl⟩
      · rcases List.mem_append.1 (List.mem_of_mem_drop hx) with hm | hm
        · exact h2 x hm
        · rw [List.mem_singleton] at hm; rw [hm]; exact h1
      · show (List.drop _ (d.past ++ [d.now])).length ≤ 8
        rw [List.length_drop, List.length_append, List.length_singleton]; omega
    · rw [put_no hp]; exact ⟨h, rfl⟩
/-- A made number fits. -/
theorem made_bd (d : Dk) (a : Dd) (h : dkOk d = true) : -200000 ≤ madeOf d a ∧ madeOf d a ≤ 200000 := by
  have h1 := named_bd ((dkOk_iff d).1 h).1
  have h2 := letters_bd d.t d.now
  unfold madeOf
  split
  · omega
  · split
    · split
      · omega
      · split
        · omega
        · split <;> omega
    · omega

/-! Deeds one after the other. -/
def stepDk (p : Dk × Nat) (a : Dd) : Dk × Nat := if (dkDo p.1 a).2 = true then ((dkDo p.1 a).1, p.2 + 1) else p
def runTo (d : Dk) (l : List Dd) : Dk × Nat := l.foldl stepDk (d, 0)
def dkRun (d : Dk) (l : List Dd) : Dk × Nat := if dkOk d = true ∧ l.length ≤ 40 then runTo d l else (noDk, 0)
theorem run_no {d : Dk} {l : List Dd} (h : ¬ (dkOk d = true ∧ l.length ≤ 40)) : dkRun d l = (noDk, 0) := by unfold dkRun; rw [if_neg h]
theorem run_yes {d : Dk} {l : List Dd} (h : dkOk d = true ∧ l.length ≤ 40) : dkRun d l = runTo d l := by unfold dkRun; rw [if_pos h]
theorem step_ok {p : Dk × Nat} {a : Dd} (h : dkOk p.1 = true) : dkOk (stepDk p a).1 = true ∧ (stepDk p a).1.t = p.1.t ∧ (stepDk p a).2 ≤ p.2 + 1 := by
  unfold stepDk
  split
  · exact ⟨(do_ok h).1, (do_ok h).2, Nat.le_refl _⟩
  · exact ⟨h, rfl, Nat.le_succ _⟩
theorem foldl_ok (l : List Dd) : ∀ p : Dk × Nat, dkOk p.1 = true → dkOk (l.foldl stepDk p).1 = true ∧ (l.foldl stepDk p).1.t = p.1.t ∧ (l.foldl stepDk p).2 ≤ p.2 + l.length := by
  induction l with
  | nil => intro p h; exact ⟨h, rfl, Nat.le_refl _⟩
  | cons a l ih =>
    intro p h
    obtain ⟨h1, h2, h3⟩ := step_ok (a := a) h
    obtain ⟨g1, g2, g3⟩ := ih _ h1
    refine ⟨g1, g2.trans h2, ?_⟩
    show (l.foldl stepDk (stepDk p a)).2 ≤ _
    rw [List.length_cons]; omega
theorem run_ok {d : Dk} (h : dkOk d = true) (l : List Dd) : dkOk (runTo d l).1 = true ∧ (runTo d l).1.t = d.t ∧ (runTo d l).2 ≤ l.length := by
  obtain ⟨h1, h2, h3⟩ := foldl_ok l (d, 0) h
  exact ⟨h1, h2, by have h3' : (runTo d l).2 ≤ 0 + l.length := h3; omega⟩
theorem run_snoc {d : Dk} {l : List Dd} {k : Nat} {a : Dd} (h : l[k]? = some a) : runTo d (l.take (k + 1)) = stepDk (runTo d (l.take k)) a := by
  unfold runTo
  rw [List.take_add_one, h, List.foldl_append]; rfl
end Go.Proofs.YtmhgpbfogdoaeaaGreatDoor

/- MathX -/
namespace Go.Proofs.YtmhgpbfogdoaeaaGreatDoor
open Go.RowKit

theorem digit_nat {d : Nat} (h : d < 10) : (UInt8.ofNat (48 + d)).toNat = 48 + d := by
  show (48 + d) % 256 = _; omega
theorem dig_all (u : Nat) : ∀ c ∈ Lib.decDigits u, 48 ≤ c.toNat ∧ c.toNat ≤ 57 := by
  induction u using Nat.strongRecOn with
  | _ u ih =>
    rw [Lib.decDigits]
    split
    · intro c hc
      rw [List.mem_singleton] at hc
      subst hc
      rw [digit_nat (by omega)]; omega
    · intro c hc
      rcases List.mem_append.1 hc with h | h
      · exact ih _ (by omega) c h
      · rw [List.mem_singleton] at h
        subst h
        rw [digit_nat (by omega)]; omega
theorem dig_form (u : Nat) : ∃ c r, Lib.decDigits u = c :: r ∧ (1 ≤ u → c.toNat ≠ 48) := by
  induction u using Nat.strongRecOn with
  | _ u ih =>
    rw [Lib.decDigits]
    split
    · exact ⟨_, [], rfl, fun h => by rw [digit_nat (by omega)]; omega⟩
    · obtain ⟨c, r, e, h⟩ := ih (u / 10) (by omega)
      rw [e]
      exact ⟨c, r ++ [UInt8.ofNat (48 + u % 10)], rfl, fun _ => h (by omega)⟩
theorem dig_len : ∀ (k u : Nat), u < 10 ^ k → 1 ≤ k → (Lib.decDigits u).length ≤ k := by
  intro k
  induction k with
  | zero => intro u _ h; omega
  | succ k ih =>
    intro u h _
    rw [Lib.decDigits]
    split
    · simp
    · rw [List.length_append, List.length_singleton]
      have h1 : u / 10 < 10 ^ k := by rw [Nat.pow_succ] at h; omega
      have hk : 1 ≤ k := by
        rcases Nat.eq_zero_or_pos k with e | e
        · subst e; simp at h; omega
        · exact e
      have := ih (u / 10) h1 hk
      omega
/-- What digits spell. -/
def foldD (l : List UInt8) (acc : Nat) : Nat := l.foldl (fun n c => n * 10 + (c.toNat - 48)) acc
theorem fold_dig (u : Nat) : foldD (Lib.decDigits u) 0 = u := by
  induction u using Nat.strongRecOn with
  | _ u ih =>
    rw [Lib.decDigits]
    split
    · show 0 * 10 + ((UInt8.ofNat (48 + u)).toNat - 48) = u
      rw [digit_nat (by omega)]; omega
    · have h := ih (u / 10) (by omega)
      unfold foldD at h ⊢
      rw [List.foldl_append, h]
      show u / 10 * 10 + ((UInt8.ofNat (48 + u % 10)).toNat - 48) = u
      rw [digit_nat (by omega)]; omega
theorem fold_ge : ∀ (l : List UInt8) (acc : Nat), acc ≤ foldD l acc := by
  intro l
  induction l with
  | nil => intro acc; exact Nat.le_refl _
  | cons c r ih =>
    intro acc
    have := ih (acc * 10 + (c.toNat - 48))
    show acc ≤ foldD r (acc * 10 + (c.toNat - 48))
    omega
theorem parse_fold : ∀ (l : List UInt8) (acc : Nat), (∀ c ∈ l, 48 ≤ c.toNat ∧ c.toNat ≤ 57) → foldD l acc < 1000000000000000000 → Lib.parseUint10 acc l = .ok (foldD l acc) := by
  intro l
  induction l with
  | nil => intro acc _ _; rfl
  | cons c r ih =>
    intro acc hc hl
    have hg := fold_ge r (acc * 10 + (c.toNat - 48))
    have hl' : foldD r (acc * 10 + (c.toNat - 48)) < 1000000000000000000 := hl
    have h1 := hc c (List.mem_cons_self ..)
    rw [Lib.parseUint10, if_pos h1, if_neg (by omega), if_neg (by omega)]
    exact ih _ (fun x hx => hc x (List.mem_cons_of_mem _ hx)) hl'
theorem atoi_dig {u : Nat} (h : u < 1000000000000000000) : Lib.atoiAll (Lib.decDigits u) = .ok (u : Int) := by
  have hp := parse_fold (Lib.decDigits u) 0 (dig_all u) (by rw [fold_dig]; exact h)
  rw [fold_dig] at hp
  obtain ⟨c, r, e, -⟩ := dig_form u
  have hd := dig_all u c (by rw [e]; exact List.mem_cons_self ..)
  rw [e] at hp ⊢
  unfold Lib.atoiAll
  dsimp only
  rw [if_neg (show ¬ (c.toNat = 43 ∨ c.toNat = 45) by omega)]
  have hm : Lib.parseMag (c :: r) = .ok u := by unfold Lib.parseMag; rw [if_neg (by simp)]; exact hp
  rw [hm]
  dsimp only
  rw [if_neg (by omega), if_neg (by omega), if_neg (by omega)]
/-- What strconv.Atoi gives beside its error. -/
def atoiV (l : List UInt8) : Int := match Lib.atoiAll l with | .ok v => v | .range => Lib.atoiSat l | _ => 0
theorem atoiV_dig {u : Nat} (h : u < 1000000000000000000) : atoiV (Lib.decDigits u) = u := by unfold atoiV; rw [atoi_dig h]
theorem atoiV_nil : atoiV [] = 0 := rfl
/-- The number of one to six digits, without leading zeros; -1 for others. -/
def digV (l : List UInt8) : Int := if (1 ≤ l.length ∧ l.length ≤ 6) ∧ ¬ (1 < l.length ∧ (l.getD 0 0).toNat = 48) ∧ (∀ c ∈ l, 48 ≤ c.toNat ∧ c.toNat ≤ 57) then (foldD l 0 : Nat) else -1
theorem digV_dig {u : Nat} (h : u ≤ 999999) : digV (Lib.decDigits u) = u := by
  obtain ⟨c, r, e, h1⟩ := dig_form u
  have hl := dig_len 6 u (by omega) (by omega)
  have hc : ¬ (1 < (Lib.decDigits u).length ∧ ((Lib.decDigits u).getD 0 0).toNat = 48) := by
    rintro ⟨g1, g2⟩
    rcases Nat.eq_zero_or_pos u with e0 | e0
    · subst e0
      rw [Lib.decDigits, dif_pos (by omega)] at g1
      simp at g1
    · rw [e] at g2; exact h1 e0 g2
  unfold digV
  rw [if_pos ⟨⟨by rw [e]; simp, hl⟩, hc, dig_all u⟩, fold_dig]

/-! Texts of deeds. -/
def wordL (k : Int) : List UInt8 := if k = 0 then [116, 111] else if k = 1 then [109, 111, 114, 101] else if k = 2 then [108, 101, 115, 115] else if k = 3 then [108, 101, 116, 116, 101, 114, 115] else if k = 4 then [98, 97, 99, 107] else []
def deedL (a : Dd) : List UInt8 :=
  if (0 ≤ a.kind ∧ a.kind ≤ 2) ∧ (0 ≤ a.n ∧ a.n ≤ 999999) then wordL a.kind ++ 32 :: Lib.decDigits a.n.toNat
  else if (a.kind = 3 ∨ a.kind = 4) ∧ a.n = 0 then wordL a.kind else []
def deedT (a : Dd) : ByteArray := ⟨(deedL a).toArray⟩
def kindL (l : List UInt8) : Int := if l = wordL 0 then 0 else if l = wordL 1 then 1 else if l = wordL 2 then 2 else if l = wordL 3 then 3 else if l = wordL 4 then 4 else -1
theorem kind_cases {k : Int} (h : 0 ≤ k ∧ k ≤ 4) : k = 0 ∨ k = 1 ∨ k = 2 ∨ k = 3 ∨ k = 4 := by omega
theorem kind_word {k : Int} (h : 0 ≤ k ∧ k ≤ 4) : kindL (wordL k) = k := by
  rcases kind_cases h with rfl | rfl | rfl | rfl | rfl <;> decide
theorem word_bytes (k : Int) : ∀ c ∈ wordL k, 97 ≤ c.toNat := by
  unfold wordL
  repeat' split
  all_goals decide
theorem word_no_space (k : Int) : ∀ j : Nat, (wordL k)[j]? ≠ some 32 := fun j h => by
  have := word_bytes k 32 (List.mem_of_getElem? h)
  revert this; decide
theorem dig_no_space (u : Nat) : ∀ j : Nat, (Lib.decDigits u)[j]? ≠ some 32 := fun j h => by
  have := (dig_all u 32 (List.mem_of_getElem? h)).1
  revert this; decide
/-- A text cut at its first space. -/
def cut1 (l : List UInt8) : List UInt8 × List UInt8 := if 0 ≤ Lib.indexByte l 32 then (l.take (Lib.indexByte l 32).toNat, l.drop ((Lib.indexByte l 32).toNat + 1)) else (l, [])
theorem cut1_of {p q : List UInt8} (hp : ∀ j : Nat, p[j]? ≠ some 32) : cut1 (p ++ 32 :: q) = (p, q) := by
  have h1 : (p ++ 32 :: q)[p.length]? = some 32 := by simp
  rcases space_cases (p ++ 32 :: q) with ⟨-, h, -⟩ | ⟨i, h, h2, h3, -⟩
  · exact absurd h1 (h _)
  · have hi : i = p.length := by
      rcases Nat.lt_trichotomy i p.length with hl | hl | hl
      · rw [List.getElem?_append_left hl] at h2; exact absurd h2 (hp i)
      · exact hl
      · exact absurd h1 (h3 _ hl)
    subst hi
    unfold cut1
    rw [h, if_pos (by omega)]
    simp
theorem cut1_none {p : List UInt8} (hp : ∀ j : Nat, p[j]? ≠ some 32) : cut1 p = (p, []) := by
  rcases space_cases p with ⟨h, -, -⟩ | ⟨i, -, h2, -⟩
  · unfold cut1; rw [h]; rfl
  · exact absurd h2 (hp i)
theorem cutR_of {p q : List UInt8} (hp : ∀ j : Nat, p[j]? ≠ some 32) (hq : ∀ j : Nat, q[j]? ≠ some 32) : cutR (p ++ 32 :: q) = [p, q] := by
  rw [cutR_hit (i := p.length) (by simp) (fun k hk => by rw [List.getElem?_append_left hk]; exact hp k)]
  have e1 : (p ++ 32 :: q).take p.length = p := by simp
  have e2 : (p ++ 32 :: q).drop (p.length + 1) = q := by simp
  rw [e1, e2, cutR_miss hq]
def candP (l : List UInt8) : Dd := ⟨kindL (cut1 l).1, atoiV (cut1 l).2⟩
theorem deed_cases (a : Dd) : ((0 ≤ a.kind ∧ a.kind ≤ 2) ∧ (0 ≤ a.n ∧ a.n ≤ 999999) ∧ deedL a = wordL a.kind ++ 32 :: Lib.decDigits a.n.toNat) ∨ ((a.kind = 3 ∨ a.kind = 4) ∧ a.n = 0 ∧ deedL a = wordL a.kind) ∨ deedL a = [] := by
  by_cases h : (0 ≤ a.kind ∧ a.kind ≤ 2) ∧ (0 ≤ a.n ∧ a.n ≤ 999999)
  · exact .inl ⟨h.1, h.2, by unfold deedL; rw [if_pos h]⟩
  · by_cases h2 : (a.kind = 3 ∨ a.kind = 4) ∧ a.n = 0
    · exact .inr (.inl ⟨h2.1, h2.2, by unfold deedL; rw [if_neg h, if_pos h2]⟩)
    · exact .inr (.inr (by unfold deedL; rw [if_neg h, if_neg h2]))
/-- The text of a deed gives the deed back. -/
theorem cand_deed {a : Dd} (h : deedL a ≠ []) : candP (deedL a) = a := by
  rcases deed_cases a with ⟨hk, hn, e⟩ | ⟨hk, hn, e⟩ | e
  · obtain ⟨k, n⟩ := a
    rw [e]
    unfold candP
    rw [cut1_of (word_no_space k)]
    dsimp only at hk hn ⊢
    rw [kind_word ⟨hk.1, by omega⟩, atoiV_dig (by omega)]
    rw [show ((n.toNat : Nat) : Int) = n by omega]
  · obtain ⟨k, n⟩ := a
    dsimp only at hk hn
    subst hn
    rw [e]
    unfold candP
    rw [cut1_none (word_no_space k)]
    dsimp only
    rw [kind_word (by omega), atoiV_nil]
  · exact absurd e h
def rdB (l : List UInt8) : Bool := decide (l ≠ [] ∧ deedL (candP l) = l)
def rdV (l : List UInt8) : Dd := if rdB l = true then candP l else ⟨0, 0⟩
theorem rd_deed {a : Dd} {l : List UInt8} (h : deedL a = l) (hl : l ≠ []) : rdB l = true ∧ rdV l = a := by
  subst h
  have e := cand_deed hl
  have hb : rdB (deedL a) = true := by unfold rdB; rw [e]; exact decide_eq_true ⟨hl, rfl⟩
  exact ⟨hb, by unfold rdV; rw [if_pos hb, e]⟩
theorem rd_text {l : List UInt8} (h : rdB l = true) : deedL (rdV l) = l ∧ l ≠ [] := by
  have h0 := h
  unfold rdB at h
  obtain ⟨h1, h2⟩ := of_decide_eq_true h
  unfold rdV
  rw [if_pos h0]
  exact ⟨h2, h1⟩
theorem rd_no {l : List UInt8} (h : rdB l = false) : rdV l = ⟨0, 0⟩ := by unfold rdV; rw [h]; rfl
/-- The last byte of a deed's text is no space, no newline. -/
theorem deed_bytes (a : Dd) : (∀ c ∈ deedL a, c.toNat ≠ 10) ∧ ∀ m, deedL a ≠ m ++ [32] := by
  have hw : ∀ k : Int, ∀ m, wordL k ≠ m ++ [32] := fun k m h => by
    have := word_bytes k 32 (by rw [h]; simp)
    revert this; decide
  rcases deed_cases a with ⟨-, -, e⟩ | ⟨-, -, e⟩ | e
  · rw [e]
    refine ⟨fun c hc => ?_, fun m h => ?_⟩
    · rcases List.mem_append.1 hc with h | h
      · have := word_bytes _ c h; omega
      · rcases List.mem_cons.1 h with h | h
        · subst h; decide
        · have := dig_all _ c h; omega
    · rcases List.eq_nil_or_concat (Lib.decDigits a.n.toNat) with e2 | ⟨i, z, e2⟩
      · obtain ⟨c, r, e3, -⟩ := dig_form a.n.toNat
        rw [e2] at e3; cases e3
      · have hz := (dig_all a.n.toNat z (by rw [e2]; simp)).1
        rw [e2, List.concat_eq_append, ← List.cons_append, ← List.append_assoc] at h
        have e4 := List.append_inj_right' h rfl
        simp only [List.cons.injEq, and_true] at e4
        rw [e4] at hz
        revert hz; decide
  · rw [e]
    refine ⟨fun c hc => ?_, fun m h => hw _ m h⟩
    have := word_bytes _ c hc; omega
  · rw [e]
    exact ⟨by simp, fun m h => by simp at h⟩
/-! The model's way: deeds that are tried. -/
def tryL (l : List UInt8) : List Dd := [⟨3, 0⟩, ⟨4, 0⟩] ++ (if (cutR l).length = 2 then [⟨0, digV ((cutR l).getD 1 [])⟩, ⟨1, digV ((cutR l).getD 1 [])⟩, ⟨2, digV ((cutR l).getD 1 [])⟩] else [])
theorem rd_tried {l : List UInt8} (h : rdB l = true) : rdV l ∈ tryL l := by
  obtain ⟨h1, h2⟩ := rd_text h
  generalize rdV l = a at *
  obtain ⟨k, n⟩ := a
  rcases deed_cases ⟨k, n⟩ with ⟨hk, hn, e⟩ | ⟨hk, hn, e⟩ | e
  · have hc : cutR l = [wordL k, Lib.decDigits n.toNat] := by rw [← h1, e]; exact cutR_of (word_no_space _) (dig_no_space _)
    have hd : digV (Lib.decDigits n.toNat) = n := by
      dsimp only at hn
      rw [digV_dig (by omega)]; omega
    unfold tryL
    rw [hc]
    show _ ∈ [_, _] ++ (if 2 = 2 then [(⟨0, digV (Lib.decDigits n.toNat)⟩ : Dd), ⟨1, digV (Lib.decDigits n.toNat)⟩, ⟨2, digV (Lib.decDigits n.toNat)⟩] else [])
    rw [if_pos rfl, hd]
    dsimp only at hk
    obtain rfl | rfl | rfl : k = 0 ∨ k = 1 ∨ k = 2 := by omega
    all_goals simp
  · dsimp only at hk hn
    subst hn
    unfold tryL
    rcases hk with rfl | rfl <;> simp
  · rw [e] at h1; exact absurd h1.symm h2
end Go.Proofs.YtmhgpbfogdoaeaaGreatDoor

/- MathY -/
namespace Go.Proofs.YtmhgpbfogdoaeaaGreatDoor
open Go.RowKit

def lineL (a : Dd) : List UInt8 := deedL a ++ [10]
def jFlat (l : List Dd) : List UInt8 := (l.map lineL).flatten
def jOk (l : List Dd) : Bool := l.all fun a => decide (deedL a ≠ [])
def jL (l : List Dd) : List UInt8 := if jOk l = true then jFlat l else []
theorem jOk_iff {l : List Dd} : jOk l = true ↔ ∀ a ∈ l, deedL a ≠ [] := by unfold jOk; simp
theorem jFlat_cons (a : Dd) (l : List Dd) : jFlat (a :: l) = deedL a ++ 10 :: jFlat l := by unfold jFlat lineL; simp
theorem jFlat_snoc (l : List Dd) (a : Dd) : jFlat (l ++ [a]) = jFlat l ++ lineL a := by unfold jFlat; simp

def rjF : Nat → List UInt8 → List Dd × Nat
  | 0, _ => ([], 0)
  | f + 1, l => if 0 ≤ Lib.indexByte l 10 ∧ rdB (l.take (Lib.indexByte l 10).toNat) = true then (rdV (l.take (Lib.indexByte l 10).toNat) :: (rjF f (l.drop ((Lib.indexByte l 10).toNat + 1))).1, (Lib.indexByte l 10).toNat + 1 + (rjF f (l.drop ((Lib.indexByte l 10).toNat + 1))).2) else ([], 0)
/-- The deeds of the lines with which a text begins, and how many bytes these have. -/
def rj (l : List UInt8) : List Dd × Nat := rjF l.length l
theorem nl_index {p q : List UInt8} (hp : ∀ c ∈ p, c.toNat ≠ 10) : Lib.indexByte (p ++ 10 :: q) 10 = p.length := by
  have h1 : (p ++ 10 :: q)[p.length]? = some 10 := by simp
  have hm : ∀ j : Nat, p[j]? ≠ some 10 := fun j h => hp 10 (List.mem_of_getElem? h) (by decide)
  by_cases h : Lib.indexByte (p ++ 10 :: q) 10 = -1
  · exact absurd h1 (Lib.indexByte_none h _)
  · obtain ⟨i, hi⟩ : ∃ i : Nat, Lib.indexByte (p ++ 10 :: q) 10 = i := ⟨(Lib.indexByte (p ++ 10 :: q) 10).toNat, by have := Lib.indexByte_ge (p ++ 10 :: q) 10; omega⟩
    obtain ⟨h2, h3⟩ := Lib.indexByte_some hi
    rw [hi]
    rcases Nat.lt_trichotomy i p.length with hl | hl | hl
    · rw [List.getElem?_append_left hl] at h2; exact absurd h2 (hm i)
    · omega
    · exact absurd h1 (h3 _ hl)
theorem nl_cases (l : List UInt8) : (Lib.indexByte l 10 = -1 ∧ ∀ c ∈ l, c.toNat ≠ 10) ∨ ∃ p q, l = p ++ 10 :: q ∧ (∀ c ∈ p, c.toNat ≠ 10) := by
  induction l with
  | nil => exact .inl ⟨by rfl, by simp⟩
  | cons c r ih =>
    by_cases hc : c.toNat = 10
    · exact .inr ⟨[], r, by rw [List.nil_append, show c = 10 from UInt8.toNat_inj.1 hc], by simp⟩
    · rcases ih with ⟨h1, h2⟩ | ⟨p, q, e, hp⟩
      · left
        have hm : ∀ x ∈ c :: r, x.toNat ≠ 10 := fun x hx => by
          rcases List.mem_cons.1 hx with e | e
          · rw [e]; exact hc
          · exact h2 x e
        refine ⟨?_, hm⟩
        refine Classical.byContradiction fun h => ?_
        obtain ⟨i, hi⟩ : ∃ i : Nat, Lib.indexByte (c :: r) 10 = i := ⟨(Lib.indexByte (c :: r) 10).toNat, by have := Lib.indexByte_ge (c :: r) 10; omega⟩
        obtain ⟨g1, -⟩ := Lib.indexByte_some hi
        exact hm 10 (List.mem_of_getElem? g1) (by decide)
      · refine .inr ⟨c :: p, q, by rw [e]; rfl, fun x hx => ?_⟩
        rcases List.mem_cons.1 hx with e | e
        · rw [e]; exact hc
        · exact hp x e
theorem rjF_none {l : List UInt8} (h : ∀ c ∈ l, c.toNat ≠ 10) (f : Nat) : rjF f l = ([], 0) := by
  cases f with
  | zero => rfl
  | succ f =>
    rcases nl_cases l with ⟨e, -⟩ | ⟨p, q, e, -⟩
    · rw [rjF, e, if_neg (by omega)]
    · exact absurd rfl (h 10 (by rw [e]; simp))
theorem take_len {p q : List UInt8} {c : UInt8} : (p ++ c :: q).take p.length = p ∧ (p ++ c :: q).drop (p.length + 1) = q := by constructor <;> simp
theorem rjF_no {p q : List UInt8} (hp : ∀ c ∈ p, c.toNat ≠ 10) (h : rdB p = false) (f : Nat) : rjF f (p ++ 10 :: q) = ([], 0) := by
  cases f with
  | zero => rfl
  | succ f => rw [rjF, nl_index hp, Int.toNat_natCast, take_len.1, h, if_neg (by simp)]
theorem rjF_yes {p q : List UInt8} (hp : ∀ c ∈ p, c.toNat ≠ 10) (h : rdB p = true) (f : Nat) : rjF (f + 1) (p ++ 10 :: q) = (rdV p :: (rjF f q).1, p.length + 1 + (rjF f q).2) := by
  rw [rjF, nl_index hp, Int.toNat_natCast, take_len.1, take_len.2, if_pos ⟨by omega, h⟩]
theorem rjF_fuel : ∀ (n : Nat) (l : List UInt8), l.length ≤ n → rjF n l = rj l := by
  intro n
  induction n using Nat.strongRecOn with
  | _ n ih =>
    intro l hl
    rcases nl_cases l with ⟨-, h⟩ | ⟨p, q, e, hp⟩
    · unfold rj; rw [rjF_none h, rjF_none h]
    · subst e
      unfold rj
      cases hb : rdB p
      · rw [rjF_no hp hb, rjF_no hp hb]
      · have hlen : (p ++ 10 :: q).length = (p.length + q.length) + 1 := by simp; omega
        obtain ⟨m, rfl⟩ : ∃ m, n = m + 1 := ⟨n - 1, by omega⟩
        rw [hlen, rjF_yes hp hb, rjF_yes hp hb, ih m (by omega) q (by omega)]
        by_cases hm : p.length + q.length < m + 1
        · rw [ih (p.length + q.length) (by omega) q (by omega)]
        · omega
theorem rj_none {l : List UInt8} (h : ∀ c ∈ l, c.toNat ≠ 10) : rj l = ([], 0) := rjF_none h _
theorem rj_no {p q : List UInt8} (hp : ∀ c ∈ p, c.toNat ≠ 10) (h : rdB p = false) : rj (p ++ 10 :: q) = ([], 0) := rjF_no hp h _
theorem rj_yes {p q : List UInt8} (hp : ∀ c ∈ p, c.toNat ≠ 10) (h : rdB p = true) : rj (p ++ 10 :: q) = (rdV p :: (rj q).1, p.length + 1 + (rj q).2) := by
  have hlen : (p ++ 10 :: q).length = (p.length + q.length) + 1 := by simp; omega
  have e : rj (p ++ 10 :: q) = rjF ((p.length + q.length) + 1) (p ++ 10 :: q) := by unfold rj; rw [hlen]
  rw [e, rjF_yes hp h, rjF_fuel _ q (by omega)]
theorem deed_no_nl (a : Dd) : ∀ c ∈ deedL a, c.toNat ≠ 10 := (deed_bytes a).1
/-- What was read is what stands there. -/
theorem rj_text : ∀ (n : Nat) (l : List UInt8), l.length ≤ n → (rj l).2 ≤ l.length ∧ jFlat (rj l).1 = l.take (rj l).2 ∧ (∀ a ∈ (rj l).1, deedL a ≠ []) ∧ (rj l).1.length ≤ l.length := by
  intro n
  induction n with
  | zero =>
    intro l hl
    have e : l = [] := List.eq_nil_of_length_eq_zero (by omega)
    subst e
    rw [rj_none (by simp)]
    exact ⟨Nat.le_refl _, rfl, by simp, Nat.le_refl _⟩
  | succ n ih =>
    intro l hl
    rcases nl_cases l with ⟨-, h⟩ | ⟨p, q, e, hp⟩
    · rw [rj_none h]; exact ⟨Nat.zero_le _, by simp [jFlat], by simp, Nat.zero_le _⟩
    · subst e
      cases hb : rdB p
      · rw [rj_no hp hb]; exact ⟨Nat.zero_le _, by simp [jFlat], by simp, Nat.zero_le _⟩
      · have hlen : (p ++ 10 :: q).length = (p.length + q.length) + 1 := by simp; omega
        obtain ⟨h1, h2, h3, h4⟩ := ih q (by omega)
        obtain ⟨t1, t2⟩ := rd_text hb
        rw [rj_yes hp hb]
        refine ⟨by rw [hlen]; dsimp only; omega, ?_, fun a ha => ?_, by rw [hlen]; simp only [List.length_cons]; omega⟩
        · dsimp only
          rw [jFlat_cons, t1, h2, show p.length + 1 + (rj q).2 = p.length + (1 + (rj q).2) by omega, List.take_length_add_append, Nat.add_comm 1, List.take_succ_cons]
        · rcases List.mem_cons.1 ha with e | e
          · rw [e, t1]; exact t2
          · exact h3 a e
/-- A journal is read, and what stands behind it. -/
theorem rj_flat (L : List Dd) (r : List UInt8) (h : ∀ a ∈ L, deedL a ≠ []) : rj (jFlat L ++ r) = (L ++ (rj r).1, (jFlat L).length + (rj r).2) := by
  induction L with
  | nil => simp [jFlat]
  | cons a L ih =>
    have ha := h a (List.mem_cons_self ..)
    obtain ⟨hb, hv⟩ := rd_deed (a := a) rfl ha
    rw [jFlat_cons, List.append_assoc, List.cons_append, rj_yes (deed_no_nl a) hb, hv, ih (fun x hx => h x (List.mem_cons_of_mem _ hx))]
    simp only [List.cons_append, List.length_append, List.length_cons]
    refine Prod.ext rfl ?_
    dsimp only
    omega
theorem rj_back (l : List UInt8) : jL (rj l).1 = l.take (rj l).2 := by
  obtain ⟨-, h2, h3, -⟩ := rj_text _ l (Nat.le_refl _)
  unfold jL
  rw [if_pos (jOk_iff.2 h3), h2]
/-- Wherever it is cut. -/
theorem rj_cut : ∀ (n : Nat) (l : List UInt8), l.length ≤ n → ∀ k : Nat, (rj (l.take k)).1.length ≤ (rj l).1.length ∧ (rj (l.take k)).1 = (rj l).1.take (rj (l.take k)).1.length ∧ (rj (l.take k)).2 ≤ k := by
  intro n
  induction n with
  | zero =>
    intro l hl k
    have e : l = [] := List.eq_nil_of_length_eq_zero (by omega)
    subst e
    rw [List.take_nil, rj_none (by simp)]
    exact ⟨Nat.le_refl _, rfl, Nat.zero_le _⟩
  | succ n ih =>
    intro l hl k
    rcases nl_cases l with ⟨-, h⟩ | ⟨p, q, e, hp⟩
    · rw [rj_none (l := l.take k) (fun c hc => h c (List.mem_of_mem_take hc))]
      exact ⟨Nat.zero_le _, by simp, Nat.zero_le _⟩
    · subst e
      have hlen : (p ++ 10 :: q).length = (p.length + q.length) + 1 := by simp; omega
      by_cases hk : k ≤ p.length
      · rw [List.take_append_of_le_length hk, rj_none (l := p.take k) (fun c hc => hp c (List.mem_of_mem_take hc))]
        exact ⟨Nat.zero_le _, by simp, Nat.zero_le _⟩
      · obtain ⟨j, rfl⟩ : ∃ j, k = p.length + (j + 1) := ⟨k - p.length - 1, by omega⟩
        rw [List.take_length_add_append, List.take_succ_cons]
        cases hb : rdB p
        · rw [rj_no hp hb]
          exact ⟨Nat.zero_le _, by simp, Nat.zero_le _⟩
        · obtain ⟨h1, h2, h3⟩ := ih q (by omega) j
          rw [rj_yes hp hb, rj_yes hp hb]
          dsimp only
          refine ⟨by simp only [List.length_cons]; omega, ?_, by omega⟩
          rw [List.length_cons, List.take_succ_cons, ← h2]
end Go.Proofs.YtmhgpbfogdoaeaaGreatDoor
