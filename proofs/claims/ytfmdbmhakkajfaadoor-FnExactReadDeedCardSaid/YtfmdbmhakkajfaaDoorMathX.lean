/-
  Texts of deeds and their reading, as plain mathematics: a text of a deed is read as that deed, whichever way.
-/
import Derived.Test.YtfmdbmhakkajfaaDoorCutR
import Derived.Test.YtfmdbmhakkajfaaDoorMathDd
import Derived.Lib.ItoaNum
import Derived.Lib.AtoiAll
namespace Go.Proofs.YtfmdbmhakkajfaaDoor
open Go.RowKit

theorem digit_nat {d : Nat} (h : d < 10) : (UInt8.ofNat (48 + d)).toNat = 48 + d := by
  show (48 + d) % 256 = _; omega
theorem dig_all (u : Nat) : ∀ c ∈ Lib.decDigits u, 48 ≤ c.toNat ∧ c.toNat ≤ 57 := by
  induction u using Nat.strongRecOn with
  | _ u ih =>
    rw [Lib.decDigits]
    split
    · intro c hc
      rw [List.mem_singleton] at hc
      subst hc
      rw [digit_nat (by omega)]; omega
    · intro c hc
      rcases List.mem_append.1 hc with h | h
      · exact ih _ (by omega) c h
      · rw [List.mem_singleton] at h
        subst h
        rw [digit_nat (by omega)]; omega
theorem dig_form (u : Nat) : ∃ c r, Lib.decDigits u = c :: r ∧ (1 ≤ u → c.toNat ≠ 48) := by
  induction u using Nat.strongRecOn with
  | _ u ih =>
    rw [Lib.decDigits]
    split
    · exact ⟨_, [], rfl, fun h => by rw [digit_nat (by omega)]; omega⟩
    · obtain ⟨c, r, e, h⟩ := ih (u / 10) (by omega)
      rw [e]
      exact ⟨c, r ++ [UInt8.ofNat (48 + u % 10)], rfl, fun _ => h (by omega)⟩
theorem dig_len : ∀ (k u : Nat), u < 10 ^ k → 1 ≤ k → (Lib.decDigits u).length ≤ k := by
  intro k
  induction k with
  | zero => intro u _ h; omega
  | succ k ih =>
    intro u h _
    rw [Lib.decDigits]
    split
    · simp
    · rw [List.length_append, List.length_singleton]
      have h1 : u / 10 < 10 ^ k := by rw [Nat.pow_succ] at h; omega
      have hk : 1 ≤ k := by
        rcases Nat.eq_zero_or_pos k with e | e
        · subst e; simp at h; omega
        · exact e
      have := ih (u / 10) h1 hk
      omega
/-- What digits spell. -/
def foldD (l : List UInt8) (acc : Nat) : Nat := l.foldl (fun n c => n * 10 + (c.toNat - 48)) acc
theorem fold_dig (u : Nat) : foldD (Lib.decDigits u) 0 = u := by
  induction u using Nat.strongRecOn with
  | _ u ih =>
    rw [Lib.decDigits]
    split
    · show 0 * 10 + ((UInt8.ofNat (48 + u)).toNat - 48) = u
      rw [digit_nat (by omega)]; omega
    · have h := ih (u / 10) (by omega)
      unfold foldD at h ⊢
      rw [List.foldl_append, h]
      show u / 10 * 10 + ((UInt8.ofNat (48 + u % 10)).toNat - 48) = u
      rw [digit_nat (by omega)]; omega
theorem fold_ge : ∀ (l : List UInt8) (acc : Nat), acc ≤ foldD l acc := by
  intro l
  induction l with
  | nil => intro acc; exact Nat.le_refl _
  | cons c r ih =>
    intro acc
    have := ih (acc * 10 + (c.toNat - 48))
    show acc ≤ foldD r (acc * 10 + (c.toNat - 48))
    omega
theorem parse_fold : ∀ (l : List UInt8) (acc : Nat), (∀ c ∈ l, 48 ≤ c.toNat ∧ c.toNat ≤ 57) → foldD l acc < 1000000000000000000 → Lib.parseUint10 acc l = .ok (foldD l acc) := by
  intro l
  induction l with
  | nil => intro acc _ _; rfl
  | cons c r ih =>
    intro acc hc hl
    have hg := fold_ge r (acc * 10 + (c.toNat - 48))
    have hl' : foldD r (acc * 10 + (c.toNat - 48)) < 1000000000000000000 := hl
    have h1 := hc c (List.mem_cons_self ..)
    rw [Lib.parseUint10, if_pos h1, if_neg (by omega), if_neg (by omega)]
    exact ih _ (fun x hx => hc x (List.mem_cons_of_mem _ hx)) hl'
theorem atoi_dig {u : Nat} (h : u < 1000000000000000000) : Lib.atoiAll (Lib.decDigits u) = .ok (u : Int) := by
  have hp := parse_fold (Lib.decDigits u) 0 (dig_all u) (by rw [fold_dig]; exact h)
  rw [fold_dig] at hp
  obtain ⟨c, r, e, -⟩ := dig_form u
  have hd := dig_all u c (by rw [e]; exact List.mem_cons_self ..)
  rw [e] at hp ⊢
  unfold Lib.atoiAll
  dsimp only
  rw [if_neg (show ¬ (c.toNat = 43 ∨ c.toNat = 45) by omega)]
  have hm : Lib.parseMag (c :: r) = .ok u := by unfold Lib.parseMag; rw [if_neg (by simp)]; exact hp
  rw [hm]
  dsimp only
  rw [if_neg (by omega), if_neg (by omega), if_neg (by omega)]
/-- What strconv.Atoi gives beside its error. -/
def atoiV (l : List UInt8) : Int := match Lib.atoiAll l with | .ok v => v | .range => Lib.atoiSat l | _ => 0
theorem atoiV_dig {u : Nat} (h : u < 1000000000000000000) : atoiV (Lib.decDigits u) = u := by unfold atoiV; rw [atoi_dig h]
theorem atoiV_nil : atoiV [] = 0 := rfl
/-- The number of one to six digits, without leading zeros; -1 for others. -/
def digV (l : List UInt8) : Int := if (1 ≤ l.length ∧ l.length ≤ 6) ∧ ¬ (1 < l.length ∧ (l.getD 0 0).toNat = 48) ∧ (∀ c ∈ l, 48 ≤ c.toNat ∧ c.toNat ≤ 57) then (foldD l 0 : Nat) else -1
theorem digV_dig {u : Nat} (h : u ≤ 999999) : digV (Lib.decDigits u) = u := by
  obtain ⟨c, r, e, h1⟩ := dig_form u
  have hl := dig_len 6 u (by omega) (by omega)
  have hc : ¬ (1 < (Lib.decDigits u).length ∧ ((Lib.decDigits u).getD 0 0).toNat = 48) := by
    rintro ⟨g1, g2⟩
    rcases Nat.eq_zero_or_pos u with e0 | e0
    · subst e0
      rw [Lib.decDigits, dif_pos (by omega)] at g1
      simp at g1
    · rw [e] at g2; exact h1 e0 g2
  unfold digV
  rw [if_pos ⟨⟨by rw [e]; simp, hl⟩, hc, dig_all u⟩, fold_dig]

/-! Texts of deeds. -/
def wordL (k : Int) : List UInt8 := if k = 0 then [116, 111] else if k = 1 then [109, 111, 114, 101] else if k = 2 then [108, 101, 115, 115] else if k = 3 then [108, 101, 116, 116, 101, 114, 115] else if k = 4 then [98, 97, 99, 107] else []
def deedL (a : Dd) : List UInt8 :=
  if (0 ≤ a.kind ∧ a.kind ≤ 2) ∧ (0 ≤ a.n ∧ a.n ≤ 999999) then wordL a.kind ++ 32 :: Lib.decDigits a.n.toNat
  else if (a.kind = 3 ∨ a.kind = 4) ∧ a.n = 0 then wordL a.kind else []
def deedT (a : Dd) : ByteArray := ⟨(deedL a).toArray⟩
def kindL (l : List UInt8) : Int := if l = wordL 0 then 0 else if l = wordL 1 then 1 else if l = wordL 2 then 2 else if l = wordL 3 then 3 else if l = wordL 4 then 4 else -1
theorem kind_cases {k : Int} (h : 0 ≤ k ∧ k ≤ 4) : k = 0 ∨ k = 1 ∨ k = 2 ∨ k = 3 ∨ k = 4 := by omega
theorem kind_word {k : Int} (h : 0 ≤ k ∧ k ≤ 4) : kindL (wordL k) = k := by
  rcases kind_cases h with rfl | rfl | rfl | rfl | rfl <;> decide
theorem kind_bd (l : List UInt8) : -1 ≤ kindL l ∧ kindL l ≤ 4 := by
  unfold kindL
  repeat' split
  all_goals omega
theorem word_bytes (k : Int) : ∀ c ∈ wordL k, 97 ≤ c.toNat := by
  unfold wordL
  repeat' split
  all_goals decide
theorem word_no_space (k : Int) : ∀ j : Nat, (wordL k)[j]? ≠ some 32 := fun j h => by
  have := word_bytes k 32 (List.mem_of_getElem? h)
  revert this; decide
theorem dig_no_space (u : Nat) : ∀ j : Nat, (Lib.decDigits u)[j]? ≠ some 32 := fun j h => by
  have := (dig_all u 32 (List.mem_of_getElem? h)).1
  revert this; decide
/-- A text cut at its first space. -/
def cut1 (l : List UInt8) : List UInt8 × List UInt8 := if 0 ≤ Lib.indexByte l 32 then (l.take (Lib.indexByte l 32).toNat, l.drop ((Lib.indexByte l 32).toNat + 1)) else (l, [])
theorem cut1_of {p q : List UInt8} (hp : ∀ j : Nat, p[j]? ≠ some 32) : cut1 (p ++ 32 :: q) = (p, q) := by
  have h1 : (p ++ 32 :: q)[p.length]? = some 32 := by simp
  rcases space_cases (p ++ 32 :: q) with ⟨-, h, -⟩ | ⟨i, h, h2, h3, -⟩
  · exact absurd h1 (h _)
  · have hi : i = p.length := by
      rcases Nat.lt_trichotomy i p.length with hl | hl | hl
      · rw [List.getElem?_append_left hl] at h2; exact absurd h2 (hp i)
      · exact hl
      · exact absurd h1 (h3 _ hl)
    subst hi
    unfold cut1
    rw [h, if_pos (by omega)]
    simp
theorem cut1_none {p : List UInt8} (hp : ∀ j : Nat, p[j]? ≠ some 32) : cut1 p = (p, []) := by
  rcases space_cases p with ⟨h, -, -⟩ | ⟨i, -, h2, -⟩
  · unfold cut1; rw [h]; rfl
  · exact absurd h2 (hp i)
theorem cutR_of {p q : List UInt8} (hp : ∀ j : Nat, p[j]? ≠ some 32) (hq : ∀ j : Nat, q[j]? ≠ some 32) : cutR (p ++ 32 :: q) = [p, q] := by
  rw [cutR_hit (i := p.length) (by simp) (fun k hk => by rw [List.getElem?_append_left hk]; exact hp k)]
  have e1 : (p ++ 32 :: q).take p.length = p := by simp
  have e2 : (p ++ 32 :: q).drop (p.length + 1) = q := by simp
  rw [e1, e2, cutR_miss hq]
def candP (l : List UInt8) : Dd := ⟨kindL (cut1 l).1, atoiV (cut1 l).2⟩
theorem deed_cases (a : Dd) : ((0 ≤ a.kind ∧ a.kind ≤ 2) ∧ (0 ≤ a.n ∧ a.n ≤ 999999) ∧ deedL a = wordL a.kind ++ 32 :: Lib.decDigits a.n.toNat) ∨ ((a.kind = 3 ∨ a.kind = 4) ∧ a.n = 0 ∧ deedL a = wordL a.kind) ∨ deedL a = [] := by
  by_cases h : (0 ≤ a.kind ∧ a.kind ≤ 2) ∧ (0 ≤ a.n ∧ a.n ≤ 999999)
  · exact .inl ⟨h.1, h.2, by unfold deedL; rw [if_pos h]⟩
  · by_cases h2 : (a.kind = 3 ∨ a.kind = 4) ∧ a.n = 0
    · exact .inr (.inl ⟨h2.1, h2.2, by unfold deedL; rw [if_neg h, if_pos h2]⟩)
    · exact .inr (.inr (by unfold deedL; rw [if_neg h, if_neg h2]))
/-- The text of a deed gives the deed back. -/
theorem cand_deed {a : Dd} (h : deedL a ≠ []) : candP (deedL a) = a := by
  rcases deed_cases a with ⟨hk, hn, e⟩ | ⟨hk, hn, e⟩ | e
  · obtain ⟨k, n⟩ := a
    rw [e]
    unfold candP
    rw [cut1_of (word_no_space k)]
    dsimp only at hk hn ⊢
    rw [kind_word ⟨hk.1, by omega⟩, atoiV_dig (by omega)]
    rw [show ((n.toNat : Nat) : Int) = n by omega]
  · obtain ⟨k, n⟩ := a
    dsimp only at hk hn
    subst hn
    rw [e]
    unfold candP
    rw [cut1_none (word_no_space k)]
    dsimp only
    rw [kind_word (by omega), atoiV_nil]
  · exact absurd e h
def rdB (l : List UInt8) : Bool := decide (l ≠ [] ∧ deedL (candP l) = l)
def rdV (l : List UInt8) : Dd := if rdB l = true then candP l else ⟨0, 0⟩
theorem rd_deed {a : Dd} {l : List UInt8} (h : deedL a = l) (hl : l ≠ []) : rdB l = true ∧ rdV l = a := by
  subst h
  have e := cand_deed hl
  have hb : rdB (deedL a) = true := by unfold rdB; rw [e]; exact decide_eq_true ⟨hl, rfl⟩
  exact ⟨hb, by unfold rdV; rw [if_pos hb, e]⟩
theorem rd_text {l : List UInt8} (h : rdB l = true) : deedL (rdV l) = l ∧ l ≠ [] := by
  have h0 := h
  unfold rdB at h
  obtain ⟨h1, h2⟩ := of_decide_eq_true h
  unfold rdV
  rw [if_pos h0]
  exact ⟨h2, h1⟩
theorem rd_no {l : List UInt8} (h : rdB l = false) : rdV l = ⟨0, 0⟩ := by unfold rdV; rw [h]; rfl
theorem deed_inj {a b : Dd} (h : deedL a = deedL b) (hne : deedL a ≠ []) : a = b := by
  have h1 := (rd_deed (a := a) rfl hne).2
  have h2 := (rd_deed (a := b) h.symm hne).2
  rw [← h1, ← h2]
/-- The last byte of a deed's text is no space, no newline. -/
theorem deed_bytes (a : Dd) : (∀ c ∈ deedL a, c.toNat ≠ 10) ∧ ∀ m, deedL a ≠ m ++ [32] := by
  have hw : ∀ k : Int, ∀ m, wordL k ≠ m ++ [32] := fun k m h => by
    have := word_bytes k 32 (by rw [h]; simp)
    revert this; decide
  rcases deed_cases a with ⟨-, -, e⟩ | ⟨-, -, e⟩ | e
  · rw [e]
    refine ⟨fun c hc => ?_, fun m h => ?_⟩
    · rcases List.mem_append.1 hc with h | h
      · have := word_bytes _ c h; omega
      · rcases List.mem_cons.1 h with h | h
        · subst h; decide
        · have := dig_all _ c h; omega
    · rcases List.eq_nil_or_concat (Lib.decDigits a.n.toNat) with e2 | ⟨i, z, e2⟩
      · obtain ⟨c, r, e3, -⟩ := dig_form a.n.toNat
        rw [e2] at e3; cases e3
      · have hz := (dig_all a.n.toNat z (by rw [e2]; simp)).1
        rw [e2, List.concat_eq_append, ← List.cons_append, ← List.append_assoc] at h
        have e4 := List.append_inj_right' h rfl
        simp only [List.cons.injEq, and_true] at e4
        rw [e4] at hz
        revert hz; decide
  · rw [e]
    refine ⟨fun c hc => ?_, fun m h => hw _ m h⟩
    have := word_bytes _ c hc; omega
  · rw [e]
    exact ⟨by simp, fun m h => by simp at h⟩
/-- With a space behind it a text is refused. -/
theorem rd_space (l : List UInt8) : rdB (l ++ [32]) = false := by
  cases h : rdB (l ++ [32])
  · rfl
  · exact absurd (rd_text h).1 ((deed_bytes _).2 l)

/-! The model's way: deeds that are tried. -/
def tryL (l : List UInt8) : List Dd := [⟨3, 0⟩, ⟨4, 0⟩] ++ (if (cutR l).length = 2 then [⟨0, digV ((cutR l).getD 1 [])⟩, ⟨1, digV ((cutR l).getD 1 [])⟩, ⟨2, digV ((cutR l).getD 1 [])⟩] else [])
theorem rd_tried {l : List UInt8} (h : rdB l = true) : rdV l ∈ tryL l := by
  obtain ⟨h1, h2⟩ := rd_text h
  generalize rdV l = a at *
  obtain ⟨k, n⟩ := a
  rcases deed_cases ⟨k, n⟩ with ⟨hk, hn, e⟩ | ⟨hk, hn, e⟩ | e
  · have hc : cutR l = [wordL k, Lib.decDigits n.toNat] := by rw [← h1, e]; exact cutR_of (word_no_space _) (dig_no_space _)
    have hd : digV (Lib.decDigits n.toNat) = n := by
      dsimp only at hn
      rw [digV_dig (by omega)]; omega
    unfold tryL
    rw [hc]
    show _ ∈ [_, _] ++ (if 2 = 2 then [(⟨0, digV (Lib.decDigits n.toNat)⟩ : Dd), ⟨1, digV (Lib.decDigits n.toNat)⟩, ⟨2, digV (Lib.decDigits n.toNat)⟩] else [])
    rw [if_pos rfl, hd]
    dsimp only at hk
    obtain rfl | rfl | rfl : k = 0 ∨ k = 1 ∨ k = 2 := by omega
    all_goals simp
  · dsimp only at hk hn
    subst hn
    unfold tryL
    rcases hk with rfl | rfl <;> simp
  · rw [e] at h1; exact absurd h1.symm h2
end Go.Proofs.YtfmdbmhakkajfaaDoor
