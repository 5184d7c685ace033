/-
  Journals as plain mathematics: lines of deeds, put together and read again, wherever they are cut.
-/
import Derived.Test.YtfmdbmhakkajfaaDoorMathX
namespace Go.Proofs.YtfmdbmhakkajfaaDoor
open Go.RowKit

def lineL (a : Dd) : List UInt8 := deedL a ++ [10]
def jFlat (l : List Dd) : List UInt8 := (l.map lineL).flatten
def jOk (l : List Dd) : Bool := l.all fun a => decide (deedL a ≠ [])
def jL (l : List Dd) : List UInt8 := if jOk l = true then jFlat l else []
theorem jOk_iff {l : List Dd} : jOk l = true ↔ ∀ a ∈ l, deedL a ≠ [] := by unfold jOk; simp
theorem jFlat_cons (a : Dd) (l : List Dd) : jFlat (a :: l) = deedL a ++ 10 :: jFlat l := by unfold jFlat lineL; simp
theorem jFlat_snoc (l : List Dd) (a : Dd) : jFlat (l ++ [a]) = jFlat l ++ lineL a := by unfold jFlat; simp

def rjF : Nat → List UInt8 → List Dd × Nat
  | 0, _ => ([], 0)
  | f + 1, l => if 0 ≤ Lib.indexByte l 10 ∧ rdB (l.take (Lib.indexByte l 10).toNat) = true then (rdV (l.take (Lib.indexByte l 10).toNat) :: (rjF f (l.drop ((Lib.indexByte l 10).toNat + 1))).1, (Lib.indexByte l 10).toNat + 1 + (rjF f (l.drop ((Lib.indexByte l 10).toNat + 1))).2) else ([], 0)
/-- The deeds of the lines with which a text begins, and how many bytes these have. -/
def rj (l : List UInt8) : List Dd × Nat := rjF l.length l
theorem nl_index {p q : List UInt8} (hp : ∀ c ∈ p, c.toNat ≠ 10) : Lib.indexByte (p ++ 10 :: q) 10 = p.length := by
  have h1 : (p ++ 10 :: q)[p.length]? = some 10 := by simp
  have hm : ∀ j : Nat, p[j]? ≠ some 10 := fun j h => hp 10 (List.mem_of_getElem? h) (by decide)
  by_cases h : Lib.indexByte (p ++ 10 :: q) 10 = -1
  · exact absurd h1 (Lib.indexByte_none h _)
  · obtain ⟨i, hi⟩ : ∃ i : Nat, Lib.indexByte (p ++ 10 :: q) 10 = i := ⟨(Lib.indexByte (p ++ 10 :: q) 10).toNat, by have := Lib.indexByte_ge (p ++ 10 :: q) 10; omega⟩
    obtain ⟨h2, h3⟩ := Lib.indexByte_some hi
    rw [hi]
    rcases Nat.lt_trichotomy i p.length with hl | hl | hl
    · rw [List.getElem?_append_left hl] at h2; exact absurd h2 (hm i)
    · omega
    · exact absurd h1 (h3 _ hl)
theorem nl_cases (l : List UInt8) : (Lib.indexByte l 10 = -1 ∧ ∀ c ∈ l, c.toNat ≠ 10) ∨ ∃ p q, l = p ++ 10 :: q ∧ (∀ c ∈ p, c.toNat ≠ 10) := by
  induction l with
  | nil => exact .inl ⟨by rfl, by simp⟩
  | cons c r ih =>
    by_cases hc : c.toNat = 10
    · exact .inr ⟨[], r, by rw [List.nil_append, show c = 10 from UInt8.toNat_inj.1 hc], by simp⟩
    · rcases ih with ⟨h1, h2⟩ | ⟨p, q, e, hp⟩
      · left
        have hm : ∀ x ∈ c :: r, x.toNat ≠ 10 := fun x hx => by
          rcases List.mem_cons.1 hx with e | e
          · rw [e]; exact hc
          · exact h2 x e
        refine ⟨?_, hm⟩
        refine Classical.byContradiction fun h => ?_
        obtain ⟨i, hi⟩ : ∃ i : Nat, Lib.indexByte (c :: r) 10 = i := ⟨(Lib.indexByte (c :: r) 10).toNat, by have := Lib.indexByte_ge (c :: r) 10; omega⟩
        obtain ⟨g1, -⟩ := Lib.indexByte_some hi
        exact hm 10 (List.mem_of_getElem? g1) (by decide)
      · refine .inr ⟨c :: p, q, by rw [e]; rfl, fun x hx => ?_⟩
        rcases List.mem_cons.1 hx with e | e
        · rw [e]; exact hc
        · exact hp x e
theorem rjF_none {l : List UInt8} (h : ∀ c ∈ l, c.toNat ≠ 10) (f : Nat) : rjF f l = ([], 0) := by
  cases f with
  | zero => rfl
  | succ f =>
    rcases nl_cases l with ⟨e, -⟩ | ⟨p, q, e, -⟩
    · rw [rjF, e, if_neg (by omega)]
    · exact absurd rfl (h 10 (by rw [e]; simp))
theorem take_len {p q : List UInt8} {c : UInt8} : (p ++ c :: q).take p.length = p ∧ (p ++ c :: q).drop (p.length + 1) = q := by constructor <;> simp
theorem rjF_no {p q : List UInt8} (hp : ∀ c ∈ p, c.toNat ≠ 10) (h : rdB p = false) (f : Nat) : rjF f (p ++ 10 :: q) = ([], 0) := by
  cases f with
  | zero => rfl
  | succ f => rw [rjF, nl_index hp, Int.toNat_natCast, take_len.1, h, if_neg (by simp)]
theorem rjF_yes {p q : List UInt8} (hp : ∀ c ∈ p, c.toNat ≠ 10) (h : rdB p = true) (f : Nat) : rjF (f + 1) (p ++ 10 :: q) = (rdV p :: (rjF f q).1, p.length + 1 + (rjF f q).2) := by
  rw [rjF, nl_index hp, Int.toNat_natCast, take_len.1, take_len.2, if_pos ⟨by omega, h⟩]
theorem rjF_fuel : ∀ (n : Nat) (l : List UInt8), l.length ≤ n → rjF n l = rj l := by
  intro n
  induction n using Nat.strongRecOn with
  | _ n ih =>
    intro l hl
    rcases nl_cases l with ⟨-, h⟩ | ⟨p, q, e, hp⟩
    · unfold rj; rw [rjF_none h, rjF_none h]
    · subst e
      unfold rj
      cases hb : rdB p
      · rw [rjF_no hp hb, rjF_no hp hb]
      · have hlen : (p ++ 10 :: q).length = (p.length + q.length) + 1 := by simp; omega
        obtain ⟨m, rfl⟩ : ∃ m, n = m + 1 := ⟨n - 1, by omega⟩
        rw [hlen, rjF_yes hp hb, rjF_yes hp hb, ih m (by omega) q (by omega)]
        by_cases hm : p.length + q.length < m + 1
        · rw [ih (p.length + q.length) (by omega) q (by omega)]
        · omega
theorem rj_none {l : List UInt8} (h : ∀ c ∈ l, c.toNat ≠ 10) : rj l = ([], 0) := rjF_none h _
theorem rj_no {p q : List UInt8} (hp : ∀ c ∈ p, c.toNat ≠ 10) (h : rdB p = false) : rj (p ++ 10 :: q) = ([], 0) := rjF_no hp h _
theorem rj_yes {p q : List UInt8} (hp : ∀ c ∈ p, c.toNat ≠ 10) (h : rdB p = true) : rj (p ++ 10 :: q) = (rdV p :: (rj q).1, p.length + 1 + (rj q).2) := by
  have hlen : (p ++ 10 :: q).length = (p.length + q.length) + 1 := by simp; omega
  have e : rj (p ++ 10 :: q) = rjF ((p.length + q.length) + 1) (p ++ 10 :: q) := by unfold rj; rw [hlen]
  rw [e, rjF_yes hp h, rjF_fuel _ q (by omega)]
theorem deed_no_nl (a : Dd) : ∀ c ∈ deedL a, c.toNat ≠ 10 := (deed_bytes a).1
/-- What was read is what stands there. -/
theorem rj_text : ∀ (n : Nat) (l : List UInt8), l.length ≤ n → (rj l).2 ≤ l.length ∧ jFlat (rj l).1 = l.take (rj l).2 ∧ (∀ a ∈ (rj l).1, deedL a ≠ []) ∧ (rj l).1.length ≤ l.length := by
  intro n
  induction n with
  | zero =>
    intro l hl
    have e : l = [] := List.eq_nil_of_length_eq_zero (by omega)
    subst e
    rw [rj_none (by simp)]
    exact ⟨Nat.le_refl _, rfl, by simp, Nat.le_refl _⟩
  | succ n ih =>
    intro l hl
    rcases nl_cases l with ⟨-, h⟩ | ⟨p, q, e, hp⟩
    · rw [rj_none h]; exact ⟨Nat.zero_le _, by simp [jFlat], by simp, Nat.zero_le _⟩
    · subst e
      cases hb : rdB p
      · rw [rj_no hp hb]; exact ⟨Nat.zero_le _, by simp [jFlat], by simp, Nat.zero_le _⟩
      · have hlen : (p ++ 10 :: q).length = (p.length + q.length) + 1 := by simp; omega
        obtain ⟨h1, h2, h3, h4⟩ := ih q (by omega)
        obtain ⟨t1, t2⟩ := rd_text hb
        rw [rj_yes hp hb]
        refine ⟨by rw [hlen]; dsimp only; omega, ?_, fun a ha => ?_, by rw [hlen]; simp only [List.length_cons]; omega⟩
        · dsimp only
          rw [jFlat_cons, t1, h2, show p.length + 1 + (rj q).2 = p.length + (1 + (rj q).2) by omega, List.take_length_add_append, Nat.add_comm 1, List.take_succ_cons]
        · rcases List.mem_cons.1 ha with e | e
          · rw [e, t1]; exact t2
          · exact h3 a e
/-- A journal is read, and what stands behind it. -/
theorem rj_flat (L : List Dd) (r : List UInt8) (h : ∀ a ∈ L, deedL a ≠ []) : rj (jFlat L ++ r) = (L ++ (rj r).1, (jFlat L).length + (rj r).2) := by
  induction L with
  | nil => simp [jFlat]
  | cons a L ih =>
    have ha := h a (List.mem_cons_self ..)
    obtain ⟨hb, hv⟩ := rd_deed (a := a) rfl ha
    rw [jFlat_cons, List.append_assoc, List.cons_append, rj_yes (deed_no_nl a) hb, hv, ih (fun x hx => h x (List.mem_cons_of_mem _ hx))]
    simp only [List.cons_append, List.length_append, List.length_cons]
    refine Prod.ext rfl ?_
    dsimp only
    omega
theorem rj_written {L : List Dd} (h : jL L ≠ []) : rj (jL L) = (L, (jL L).length) := by
  unfold jL at h ⊢
  by_cases ho : jOk L = true
  · rw [if_pos ho]
    have := rj_flat L [] (jOk_iff.1 ho)
    rw [List.append_nil, rj_none (l := []) (by simp), List.append_nil] at this
    exact this
  · rw [if_neg ho] at h; exact absurd rfl h
theorem rj_back (l : List UInt8) : jL (rj l).1 = l.take (rj l).2 := by
  obtain ⟨-, h2, h3, -⟩ := rj_text _ l (Nat.le_refl _)
  unfold jL
  rw [if_pos (jOk_iff.2 h3), h2]
/-- Wherever it is cut. -/
theorem rj_cut : ∀ (n : Nat) (l : List UInt8), l.length ≤ n → ∀ k : Nat, (rj (l.take k)).1.length ≤ (rj l).1.length ∧ (rj (l.take k)).1 = (rj l).1.take (rj (l.take k)).1.length ∧ (rj (l.take k)).2 ≤ k := by
  intro n
  induction n with
  | zero =>
    intro l hl k
    have e : l = [] := List.eq_nil_of_length_eq_zero (by omega)
    subst e
    rw [List.take_nil, rj_none (by simp)]
    exact ⟨Nat.le_refl _, rfl, Nat.zero_le _⟩
  | succ n ih =>
    intro l hl k
    rcases nl_cases l with ⟨-, h⟩ | ⟨p, q, e, hp⟩
    · rw [rj_none (l := l.take k) (fun c hc => h c (List.mem_of_mem_take hc))]
      exact ⟨Nat.zero_le _, by simp, Nat.zero_le _⟩
    · subst e
      have hlen : (p ++ 10 :: q).length = (p.length + q.length) + 1 := by simp; omega
      by_cases hk : k ≤ p.length
      · rw [List.take_append_of_le_length hk, rj_none (l := p.take k) (fun c hc => hp c (List.mem_of_mem_take hc))]
        exact ⟨Nat.zero_le _, by simp, Nat.zero_le _⟩
      · obtain ⟨j, rfl⟩ : ∃ j, k = p.length + (j + 1) := ⟨k - p.length - 1, by omega⟩
        rw [List.take_length_add_append, List.take_succ_cons]
        cases hb : rdB p
        · rw [rj_no hp hb]
          exact ⟨Nat.zero_le _, by simp, Nat.zero_le _⟩
        · obtain ⟨h1, h2, h3⟩ := ih q (by omega) j
          rw [rj_yes hp hb, rj_yes hp hb]
          dsimp only
          refine ⟨by simp only [List.length_cons]; omega, ?_, by omega⟩
          rw [List.length_cons, List.take_succ_cons, ← h2]
end Go.Proofs.YtfmdbmhakkajfaaDoor
