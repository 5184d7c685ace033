/-
  Names by taking away, as plain mathematics.
-/
import Derived.Test.YtebfoofiaokhdaaMathV
namespace Go.Proofs.Ytebfoofiaokhdaa
open Go.RowKit

/-- What lacks from a number to the next greater multiple of a base. -/
def lackB (t : Tg) (n k : Nat) : Nat := bN t k - n % bN t k
/-- The least that lacks, of the bases from the second one on, among the first k. -/
def leastTo (t : Tg) (n : Nat) : Nat → Nat
  | 0 => 0
  | k + 1 => if k = 0 then 0 else if k = 1 then lackB t n 1 else min (leastTo t n k) (lackB t n k)
def upTo (t : Tg) (n k : Nat) : Nat := if k ≤ 1 then 0 else n + leastTo t n k
def capTo (t : Tg) (n k : Nat) : Nat := if k ≤ 1 then 101 else min 101 (leastTo t n k)
def leastN (t : Tg) (n : Nat) : Nat := leastTo t n t.bs.length
theorem least_two (t : Tg) (n : Nat) : leastTo t n 2 = lackB t n 1 := rfl
theorem least_go {t : Tg} {n k : Nat} (h : 2 ≤ k) : leastTo t n (k + 1) = min (leastTo t n k) (lackB t n k) := by
  rw [leastTo, if_neg (by omega), if_neg (by omega)]
theorem lack_bd {t : Tg} (hb : basesOk t.bs = true) (n : Nat) {k : Nat} (hk : k < t.bs.length) : 1 ≤ lackB t n k ∧ lackB t n k ≤ bN t k := by
  have h1 := (bN_int hb hk).2
  have h2 := Nat.mod_lt n (show 0 < bN t k by omega)
  unfold lackB; omega
theorem least_bd {t : Tg} (hb : basesOk t.bs = true) (n : Nat) : ∀ k, 2 ≤ k → k ≤ t.bs.length → 1 ≤ leastTo t n k ∧ leastTo t n k ≤ bN t 1 := by
  intro k
  induction k with
  | zero => intro h; omega
  | succ k ih =>
    intro h2 hk
    by_cases e : k = 1
    · subst e; rw [least_two]; exact lack_bd hb n hk
    · rw [least_go (by omega)]
      have i := ih (by omega) (by omega)
      have l := lack_bd hb n (k := k) (by omega)
      omega
/-- One round of the model: the multiple to which least lacks. -/
theorem up_go {t : Tg} (hb : basesOk t.bs = true) {n k : Nat} (h1 : 1 ≤ k) (hk : k < t.bs.length) :
    (upTo t n k = 0 → upTo t n (k + 1) = n + lackB t n k) ∧ (upTo t n k ≠ 0 → n + lackB t n k - n < upTo t n k - n → upTo t n (k + 1) = n + lackB t n k) ∧
    (upTo t n k ≠ 0 → ¬ (n + lackB t n k - n < upTo t n k - n) → upTo t n (k + 1) = upTo t n k) := by
  unfold upTo
  rw [if_neg (show ¬ k + 1 ≤ 1 by omega)]
  by_cases e : k = 1
  · subst e
    rw [if_pos (Nat.le_refl _), least_two]
    exact ⟨fun _ => rfl, fun h => absurd rfl h, fun h => absurd rfl h⟩
  · rw [if_neg (by omega), least_go (by omega)]
    have := least_bd hb n k (by omega) (by omega)
    refine ⟨fun h => ?_, fun _ h => ?_, fun _ h => ?_⟩ <;> omega
/-- One round of the program. -/
theorem cap_go {t : Tg} (_hb : basesOk t.bs = true) {n k : Nat} (h1 : 1 ≤ k) : min (capTo t n k) (lackB t n k) = capTo t n (k + 1) ∨ (k = 1 ∧ min 101 (lackB t n k) = capTo t n (k + 1)) := by
  unfold capTo
  rw [if_neg (show ¬ k + 1 ≤ 1 by omega)]
  by_cases e : k = 1
  · subst e; right; rw [least_two]; exact ⟨rfl, rfl⟩
  · left
    rw [if_neg (by omega), least_go (by omega)]; omega
theorem cap_step {t : Tg} {n k : Nat} (h1 : 1 ≤ k) : min (capTo t n k) (lackB t n k) = capTo t n (k + 1) := by
  unfold capTo
  rw [if_neg (show ¬ k + 1 ≤ 1 by omega)]
  by_cases e : k = 1
  · subst e; rw [if_pos (Nat.le_refl _), least_two]
  · rw [if_neg (by omega), least_go (by omega)]; omega
theorem up_bd {t : Tg} (hb : basesOk t.bs = true) (n k : Nat) (hk : k ≤ t.bs.length) : upTo t n k ≤ n + 999999 ∧ (upTo t n k ≠ 0 → n < upTo t n k) := by
  unfold upTo
  by_cases h : k ≤ 1
  · rw [if_pos h]; omega
  · rw [if_neg h]
    have h1 := least_bd hb n k (by omega) hk
    have h2 := bases_pos hb 1 (by omega)
    have h3 : bN t 1 ≤ 999999 := by unfold bN; omega
    omega
theorem least_21 {t : Tg} (hok : t.ok = true) (h2 : 2 ≤ t.bs.length) (n : Nat) : 1 ≤ leastN t n ∧ leastN t n ≤ 21 ∧ leastN t n ≤ bN t 1 := by
  have h1 := least_bd (ok_shape hok).bs n t.bs.length h2 (Nat.le_refl _)
  have h3 := b1_us hok h2
  have h4 := (ok_shape hok).us
  unfold leastN; omega
/-- What lacks has a name. -/
theorem lack_named {t : Tg} (hok : t.ok = true) (h2 : 2 ≤ t.bs.length) (n : Nat) : namedB t (leastN t n) = true := by
  obtain ⟨h1, h21, hb1⟩ := least_21 hok h2 n
  have hs := ok_shape hok
  have hb := hs.bs
  refine named_of hok h1 (by omega) ?_
  unfold nameT
  refine named_below hb h2 (hs.two h2) _ h1 ?_
  have hg := (gr_at h2).1
  have g1 := hg.1
  have g2 := hg.2.1
  have hm : t.bs.getD 1 0 ≤ t.bs.getD (grAt t.bs) 0 := by
    by_cases e : grAt t.bs = 1
    · rw [e]; exact Int.le_refl _
    · exact Int.le_of_lt (bases_mono hb 1 _ (by omega) g2)
  have hu := b1_us hok h2
  have hub := hs.us
  have hi := (bN_int hb (k := 1) (by omega)).1
  have hq := Int.mul_le_mul_of_nonneg_right (show (2 : Int) ≤ t.bs.getD (grAt t.bs) 0 by omega) (show (0 : Int) ≤ t.bs.getD (grAt t.bs) 0 by omega)
  omega

/-- May a tongue's numbers be named by taking away, with this word? -/
def fitsW (t : Tg) (x : ByteArray) : Bool := t.ok && strangerB t x
def fitsA (t : Tg) (x : ByteArray) (b : Int) : Bool := fitsW t x && decide (0 ≤ b ∧ b ≤ 100)
def askA (t : Tg) (n : Int) (x : ByteArray) (b : Int) : Bool := fitsA t x b && decide (1 ≤ n ∧ n ≤ 99999)
def condA (t : Tg) (n : Int) (b : Int) : Bool := decide (2 ≤ t.bs.length) && (decide ((leastN t n.toNat : Int) ≤ b) && namedB t (n + leastN t n.toNat))
/-- The words of a number by taking away; none if there are none. -/
def takenOf (t : Tg) (n : Int) (x : ByteArray) (b : Int) : List ByteArray := if askA t n x b && condA t n b then nameOf t (leastN t n.toNat) ++ [x] ++ nameOf t (n + leastN t n.toNat) else []
def takenB (t : Tg) (n : Int) (x : ByteArray) (b : Int) : Bool := decide (0 < (takenOf t n x b).length)
def lessB (xs ys : List ByteArray) : Bool := decide (0 < xs.length) && (!decide (0 < ys.length) || decide (xs.length < ys.length))
/-- The shorter one of the two names. -/
def shortOf (t : Tg) (n : Int) (x : ByteArray) (b : Int) : List ByteArray := if askA t n x b then (if lessB (takenOf t n x b) (nameOf t n) then takenOf t n x b else nameOf t n) else []
def shortB (t : Tg) (n : Int) (x : ByteArray) (b : Int) : Bool := decide (0 < (shortOf t n x b).length)

section
variable {t : Tg} {x : ByteArray} {n b : Int}
theorem fitsA_parts (h : fitsA t x b = true) : t.ok = true ∧ wordOk x = true ∧ x ∉ t.words ∧ 0 ≤ b ∧ b ≤ 100 := by
  unfold fitsA fitsW strangerB at h
  simp only [Bool.and_eq_true, decide_eq_true_eq, Bool.not_eq_true', hasB_not] at h
  exact ⟨h.1.1, h.1.2.1, h.1.2.2, h.2.1, h.2.2⟩
theorem askA_parts (h : askA t n x b = true) : fitsA t x b = true ∧ 1 ≤ n ∧ n ≤ 99999 := by
  unfold askA at h
  rw [Bool.and_eq_true, decide_eq_true_eq] at h
  exact h
theorem askA_of (h : fitsA t x b = true) (h1 : 1 ≤ n) (h2 : n ≤ 99999) : askA t n x b = true := by unfold askA; rw [h, decide_eq_true ⟨h1, h2⟩]; rfl
theorem askA_no (h : askA t n x b = false) : takenOf t n x b = [] ∧ takenB t n x b = false ∧ shortOf t n x b = [] ∧ shortB t n x b = false := by
  have e1 : takenOf t n x b = [] := by unfold takenOf; rw [h]; rfl
  have e2 : shortOf t n x b = [] := by unfold shortOf; rw [h]; rfl
  exact ⟨e1, by unfold takenB; rw [e1]; rfl, e2, by unfold shortB; rw [e2]; rfl⟩
theorem fits_zero (h : fitsA t x b = true) : fitsA t x 0 = true := by
  unfold fitsA at h ⊢
  rw [Bool.and_eq_true] at h
  rw [h.1]; rfl
theorem taken_no (h : takenB t n x b = false) : takenOf t n x b = [] := List.eq_nil_of_length_eq_zero (by unfold takenB at h; have := of_decide_eq_false h; omega)
theorem short_no (h : shortB t n x b = false) : shortOf t n x b = [] := List.eq_nil_of_length_eq_zero (by unfold shortB at h; have := of_decide_eq_false h; omega)
theorem named_no (h : namedB t n = false) : nameOf t n = [] := List.eq_nil_of_length_eq_zero (by unfold namedB at h; have := of_decide_eq_false h; omega)
theorem noword (hf : fitsA t x b = true) (m : Int) : x ∉ nameOf t m := by
  obtain ⟨hok, -, hx, -, -⟩ := fitsA_parts hf
  cases ho : okN t m
  · rw [(nameOf_no ho).1]; simp
  · have hh := ho
    unfold okN at hh
    rw [Bool.and_eq_true, decide_eq_true_eq] at hh
    obtain ⟨k, rfl⟩ : ∃ k : Nat, m = k := ⟨m.toNat, by omega⟩
    rw [nameOf_yes ho]
    exact fun e => hx (nameT_mem hok (by omega) x e)
/-- What a name by taking away is. -/
theorem taken_form (h : takenB t n x b = true) : ∃ m L : Nat, n = m ∧ 1 ≤ m ∧ m ≤ 99999 ∧ L = leastN t m ∧ 1 ≤ L ∧ L ≤ 21 ∧ (L : Int) ≤ b ∧ 2 ≤ t.bs.length ∧ askA t n x b = true ∧ namedB t L = true ∧ namedB t (n + L) = true ∧ takenOf t n x b = nameOf t L ++ [x] ++ nameOf t (n + L) := by
  have ht : (askA t n x b && condA t n b) = true := by
    cases hc : askA t n x b && condA t n b
    · unfold takenB takenOf at h; rw [hc] at h; simp at h
    · rfl
  have e : takenOf t n x b = nameOf t (leastN t n.toNat) ++ [x] ++ nameOf t (n + leastN t n.toNat) := by unfold takenOf; rw [if_pos ht]
  rw [Bool.and_eq_true] at ht
  obtain ⟨ha, hc⟩ := ht
  unfold condA at hc
  simp only [Bool.and_eq_true, decide_eq_true_eq] at hc
  obtain ⟨hf, h1, h2⟩ := askA_parts ha
  obtain ⟨m, rfl⟩ : ∃ m : Nat, n = m := ⟨n.toNat, by omega⟩
  have hok := (fitsA_parts hf).1
  rw [Int.toNat_natCast] at hc e
  obtain ⟨l1, l2, -⟩ := least_21 hok hc.1 m
  exact ⟨m, leastN t m, rfl, by omega, by omega, rfl, l1, l2, hc.2.1, hc.1, ha, lack_named hok hc.1 m, hc.2.2, e⟩
theorem takenB_of (ha : askA t n x b = true) (hc : condA t n b = true) : takenOf t n x b = nameOf t (leastN t n.toNat) ++ [x] ++ nameOf t (n + leastN t n.toNat) ∧ takenB t n x b = true := by
  have e : takenOf t n x b = nameOf t (leastN t n.toNat) ++ [x] ++ nameOf t (n + leastN t n.toNat) := by unfold takenOf; rw [ha, hc]; rfl
  exact ⟨e, by unfold takenB; rw [e, decide_eq_true_eq]; simp; omega⟩
theorem condA_no (hc : condA t n b = false) : takenOf t n x b = [] ∧ takenB t n x b = false := by
  have e : takenOf t n x b = [] := by unfold takenOf; rw [hc, Bool.and_false]; rfl
  exact ⟨e, by unfold takenB; rw [e]; rfl⟩
theorem short_len_named (t : Tg) (n : Int) : namedB t n = decide (0 < (nameOf t n).length) := rfl
/-- What the shorter name is. -/
theorem short_form (h : shortB t n x b = true) : askA t n x b = true ∧ ((namedB t n = true ∧ shortOf t n x b = nameOf t n) ∨ (takenB t n x b = true ∧ shortOf t n x b = takenOf t n x b ∧ (namedB t n = true → (takenOf t n x b).length < (nameOf t n).length))) := by
  cases ha : askA t n x b
  · rw [(askA_no ha).2.2.2] at h; cases h
  · refine ⟨rfl, ?_⟩
    unfold shortB shortOf at h
    unfold shortOf
    rw [ha, if_pos rfl] at h ⊢
    cases hl : lessB (takenOf t n x b) (nameOf t n)
    · left
      rw [hl, if_neg (by decide)] at h
      exact ⟨h, if_neg (by decide)⟩
    · right
      unfold lessB at hl
      rw [Bool.and_eq_true, Bool.or_eq_true, Bool.not_eq_true', ← short_len_named] at hl
      refine ⟨hl.1, if_pos rfl, fun hn => ?_⟩
      rcases hl.2 with h | h
      · rw [hn] at h; cases h
      · exact of_decide_eq_true h
theorem short_named (ha : askA t n x b = true) (hn : namedB t n = true) : shortB t n x b = true := by
  unfold shortB shortOf
  rw [ha, if_pos rfl]
  cases hl : lessB (takenOf t n x b) (nameOf t n)
  · rw [if_neg (by decide)]; exact hn
  · rw [if_pos rfl]
    unfold lessB at hl
    rw [Bool.and_eq_true] at hl
    exact hl.1
theorem short_one (hf : fitsA t x b = true) : shortB t 1 x b = true := by
  have hok := (fitsA_parts hf).1
  exact short_named (askA_of hf (by omega) (by omega)) (greatest_named hok).2.2.2

theorem getD_in {l : List ByteArray} {k : Nat} (h : k < l.length) : l.getD k ByteArray.empty ∈ l := by
  rw [List.getD_eq_getElem?_getD, List.getElem?_eq_getElem h]; exact List.getElem_mem h
theorem place_mid {a c : List ByteArray} (ha : x ∉ a) : place (a ++ [x] ++ c) x = a.length := by
  have hl : (a ++ [x] ++ c).length = a.length + 1 + c.length := by simp; omega
  refine place_eq (by omega) (fun i hi => ?_) ?_
  · rw [List.append_assoc, getD_app_left hi]
    exact fun e => ha (by rw [← e]; exact getD_in hi)
  · rw [List.append_assoc]
    have := getD_app_right (a := a) (b := [x] ++ c) (k := 0)
    rw [Nat.add_zero] at this
    rw [this]; rfl
theorem take_mid (a c : List ByteArray) : (a ++ [x] ++ c).take a.length = a := by rw [List.append_assoc, List.take_left]
theorem drop_mid (a c : List ByteArray) : (a ++ [x] ++ c).drop (a.length + 1) = c := by
  have : (a ++ [x]).length = a.length + 1 := by simp
  rw [← this, List.drop_left]

/-- The number that words tell, by the model. -/
def valS (t : Tg) (l : List ByteArray) (x : ByteArray) : Int :=
  if place l x < l.length then (if valV t (l.take (place l x)) < 0 ∨ valV t (l.drop (place l x + 1)) < 0 then -1 else valV t (l.drop (place l x + 1)) - valV t (l.take (place l x))) else valV t l
def okLA (t : Tg) (l : List ByteArray) : Bool := okL t l
def readSB (t : Tg) (l : List ByteArray) (x : ByteArray) (b : Int) : Bool := okL t l && shortB t (valS t l x) x b && decide (shortOf t (valS t l x) x b = l)
def readSV (t : Tg) (l : List ByteArray) (x : ByteArray) (b : Int) : Int := if readSB t l x b then valS t l x else -1
theorem readS_no {l : List ByteArray} (h : readSB t l x b = false) : readSV t l x b = -1 := by unfold readSV; rw [h]; rfl
theorem readS_yes {l : List ByteArray} (h : readSB t l x b = true) : readSV t l x b = valS t l x ∧ shortB t (readSV t l x b) x b = true ∧ shortOf t (readSV t l x b) x b = l ∧ 1 ≤ l.length ∧ l.length ≤ 40 := by
  have e : readSV t l x b = valS t l x := by unfold readSV; rw [h, if_pos rfl]
  rw [e]
  unfold readSB okL at h
  simp only [Bool.and_eq_true, decide_eq_true_eq] at h
  exact ⟨rfl, h.1.2, h.2, h.1.1.2.1, h.1.1.2.2⟩
theorem valS_bd (hok : t.ok = true) (l : List ByteArray) : -1000000 ≤ valS t l x ∧ valS t l x ≤ 1000000 := by
  have h1 := valV_bd hok l
  have h2 := valV_bd hok (l.take (place l x))
  have h3 := valV_bd hok (l.drop (place l x + 1))
  unfold valS
  split
  · split <;> omega
  · omega
theorem readSV_bd (l : List ByteArray) : -1 ≤ readSV t l x b ∧ readSV t l x b ≤ 99999 := by
  cases h : readSB t l x b
  · rw [readS_no h]; omega
  · have := askA_parts (short_form (readS_yes h).2.1).1; omega
/-- How the program reads. -/
def apV (t : Tg) (l : List ByteArray) (x : ByteArray) : Int := if place l x < l.length then readV t (l.drop (place l x + 1)) - readV t (l.take (place l x)) else readV t l
def apB (t : Tg) (l : List ByteArray) (x : ByteArray) : Bool := if place l x < l.length then readB t (l.take (place l x)) && readB t (l.drop (place l x + 1)) else readB t l
theorem apV_bd (t : Tg) (l : List ByteArray) (x : ByteArray) : -100000 ≤ apV t l x ∧ apV t l x ≤ 100000 := by
  have h1 := readV_bd t l
  have h2 := readV_bd t (l.take (place l x))
  have h3 := readV_bd t (l.drop (place l x + 1))
  unfold apV
  split <;> omega
/-- A shorter name is read as its number, by both. -/
theorem read_short (h : shortB t n x b = true) : valS t (shortOf t n x b) x = n ∧ apV t (shortOf t n x b) x = n ∧ apB t (shortOf t n x b) x = true := by
  obtain ⟨ha, hc⟩ := short_form h
  obtain ⟨hf, h1, h2⟩ := askA_parts ha
  rcases hc with ⟨hn, e⟩ | ⟨ht, e, -⟩
  · rw [e]
    have hp : ¬ place (nameOf t n) x < (nameOf t n).length := fun h => noword hf n (place_mem.1 h)
    obtain ⟨r1, r2⟩ := read_name hn (nameOf_short _ _)
    unfold valS apV apB
    rw [if_neg hp, if_neg hp, if_neg hp]
    exact ⟨val_nameOf hn, r2, r1⟩
  · obtain ⟨m, L, rfl, -, -, -, l1, l2, -, -, -, n1, n2, e2⟩ := taken_form ht
    rw [e, e2]
    have hp := place_mid (c := nameOf t (m + L)) (noword hf (L : Int))
    have hlt : (nameOf t (L : Int)).length < (nameOf t L ++ [x] ++ nameOf t (m + L)).length := by simp
    have e3 : (nameOf t (L : Int) ++ [x] ++ nameOf t (m + L)).take (nameOf t (L : Int)).length = nameOf t L := take_mid _ _
    have e4 : (nameOf t (L : Int) ++ [x] ++ nameOf t (m + L)).drop ((nameOf t (L : Int)).length + 1) = nameOf t (m + L) := drop_mid _ _
    obtain ⟨r1, r2⟩ := read_name n1 (nameOf_short _ _)
    obtain ⟨r3, r4⟩ := read_name n2 (nameOf_short _ _)
    unfold valS apV apB
    rw [hp, if_pos hlt, if_pos hlt, if_pos hlt, e3, e4, val_nameOf n1, val_nameOf n2, r1, r2, r3, r4, if_neg (by omega)]
    exact ⟨by omega, by omega, rfl⟩
theorem shortOf_pos {l : List ByteArray} (h : shortOf t n x b = l) (h1 : 1 ≤ l.length) : shortB t n x b = true := by
  unfold shortB; rw [h, decide_eq_true_eq]; exact h1
/-- How the program reads: what is read is named again, and must be the words. -/
theorem readA {l : List ByteArray} (hl : okL t l = true) : readSB t l x b = (apB t l x && decide (shortOf t (apV t l x) x b = l)) ∧ (readSB t l x b = true → readSV t l x b = apV t l x) := by
  have hl1 : 1 ≤ l.length := by unfold okL at hl; simp only [Bool.and_eq_true, decide_eq_true_eq] at hl; exact hl.2.1
  have hfw : readSB t l x b = true → apB t l x = true ∧ apV t l x = readSV t l x b := by
    intro h
    obtain ⟨-, y1, y2, -, -⟩ := readS_yes h
    obtain ⟨-, p2, p3⟩ := read_short y1
    rw [y2] at p2 p3
    exact ⟨p3, p2⟩
  refine ⟨?_, fun h => (hfw h).2.symm⟩
  rw [Bool.eq_iff_iff, Bool.and_eq_true, decide_eq_true_eq]
  constructor
  · intro h
    obtain ⟨h1, h2⟩ := hfw h
    exact ⟨h1, by rw [h2]; exact (readS_yes h).2.2.1⟩
  · rintro ⟨-, h2⟩
    have h3 := shortOf_pos h2 hl1
    have p1 := (read_short h3).1
    rw [h2] at p1
    unfold readSB
    rw [hl, p1, h3, decide_eq_true h2]; rfl
theorem readSB_fits {l : List ByteArray} (h : readSB t l x b = true) : fitsA t x b = true ∧ okL t l = true := by
  have h1 := (askA_parts (short_form (readS_yes h).2.1).1).1
  unfold readSB at h
  simp only [Bool.and_eq_true] at h
  exact ⟨h1, h.1.1⟩

/-- Is the name by taking away shorter than the name? -/
def cutB (t : Tg) (n : Int) (x : ByteArray) (b : Int) : Bool := namedB t n && decide ((shortOf t n x b).length < (nameOf t n).length)
def countTo (t : Tg) (x : ByteArray) (b : Int) : Nat → Nat
  | 0 => 0
  | m + 1 => if cutB t (m + 1 : Nat) x b then countTo t x b m + 1 else countTo t x b m
def okCA (t : Tg) (most : Int) (x : ByteArray) (b : Int) : Bool := fitsA t x b && decide (1 ≤ most ∧ most ≤ 2000)
def countA (t : Tg) (most : Int) (x : ByteArray) (b : Int) : Int := if okCA t most x b then countTo t x b most.toNat else -1
theorem countTo_le (t : Tg) (x : ByteArray) (b : Int) : ∀ m, countTo t x b m ≤ m := by
  intro m
  induction m with
  | zero => exact Nat.le_refl _
  | succ m ih => rw [countTo]; split <;> omega
theorem countA_no {most : Int} (h : okCA t most x b = false) : countA t most x b = -1 := by unfold countA; rw [h]; rfl
theorem countA_yes {most : Nat} (h : okCA t most x b = true) : countA t most x b = countTo t x b most := by unfold countA; rw [h, if_pos rfl]; rfl
theorem okCA_parts {most : Int} (h : okCA t most x b = true) : fitsA t x b = true ∧ 1 ≤ most ∧ most ≤ 2000 := by
  unfold okCA at h
  rw [Bool.and_eq_true, decide_eq_true_eq] at h
  exact h
theorem countA_bd (most : Int) : -1 ≤ countA t most x b ∧ countA t most x b ≤ 2000 := by
  cases h : okCA t most x b
  · rw [countA_no h]; omega
  · obtain ⟨-, h1, h2⟩ := okCA_parts h
    obtain ⟨m, rfl⟩ : ∃ m : Nat, most = m := ⟨most.toNat, by omega⟩
    rw [countA_yes h]
    have := countTo_le t x b m
    omega
/-- How the program counts: a number without a name is -1 words long. -/
theorem cut_long : decide (((shortOf t n x b).length : Int) < longOf t n) = cutB t n x b := by
  unfold cutB
  cases hn : namedB t n
  · rw [longOf_no hn]
    exact decide_eq_false (by omega)
  · rw [longOf_yes hn, Bool.true_and]
    rw [Bool.eq_iff_iff, decide_eq_true_eq, decide_eq_true_eq]; omega
theorem cut_spec (ha : askA t n x b = true) : (shortB t n x b && namedB t n && decide ((shortOf t n x b).length < (nameOf t n).length)) = cutB t n x b := by
  unfold cutB
  cases hn : namedB t n
  · simp
  · rw [short_named ha hn]; rfl
theorem cut_mono {b' : Int} (ha : askA t n x b = true) (ha' : askA t n x b' = true) (hb : b ≤ b') (h : cutB t n x b = true) : cutB t n x b' = true := by
  unfold cutB at h
  rw [Bool.and_eq_true, decide_eq_true_eq] at h
  obtain ⟨hn, hl⟩ := h
  rcases (short_form (short_named ha hn)).2 with ⟨-, e⟩ | ⟨ht, -, hlt⟩
  · rw [e] at hl; omega
  · obtain ⟨m, L, rfl, -, -, eL, l1, l2, lb, h2, -, n1, n2, e2⟩ := taken_form ht
    have hc : condA t m b' = true := by
      unfold condA
      rw [Int.toNat_natCast, ← eL, decide_eq_true h2, n2, decide_eq_true (show (L : Int) ≤ b' by omega)]; rfl
    obtain ⟨e3, t3⟩ := takenB_of ha' hc
    rw [Int.toNat_natCast, ← eL, ← e2] at e3
    have hlt' := hlt hn
    rw [← e3] at hlt'
    have hs : shortOf t m x b' = takenOf t m x b' := by
      unfold shortOf
      rw [ha', if_pos rfl, if_pos]
      unfold lessB
      unfold takenB at t3
      rw [t3, decide_eq_true hlt', Bool.or_true]; rfl
    unfold cutB
    rw [hn, hs, decide_eq_true hlt']; rfl
theorem countTo_mono {b' : Int} (hf : fitsA t x b = true) (hf' : fitsA t x b' = true) (hb : b ≤ b') : ∀ m : Nat, m ≤ 99999 → countTo t x b m ≤ countTo t x b' m := by
  intro m
  induction m with
  | zero => intro _; exact Nat.le_refl _
  | succ m ih =>
    intro hm
    have i := ih (by omega)
    have c := cut_mono (n := (m + 1 : Nat)) (askA_of hf (by omega) (by omega)) (askA_of hf' (by omega) (by omega)) hb
    rw [countTo, countTo]
    cases h1 : cutB t (m + 1 : Nat) x b
    · rw [if_neg (by decide)]
      split <;> omega
    · rw [c h1, if_pos rfl, if_pos rfl]; omega
theorem cut_zero (ha : askA t n x 0 = true) : shortOf t n x 0 = nameOf t n ∧ cutB t n x 0 = false := by
  have hn : takenB t n x 0 = false := by
    cases h : takenB t n x 0
    · rfl
    · obtain ⟨m, L, -, -, -, -, l1, -, lb, -⟩ := taken_form h; omega
  have e : shortOf t n x 0 = nameOf t n := by
    unfold shortOf
    rw [ha, if_pos rfl, if_neg]
    unfold lessB
    unfold takenB at hn
    rw [hn, Bool.false_and]; decide
  refine ⟨e, ?_⟩
  unfold cutB
  rw [e, decide_eq_false (by omega), Bool.and_false]
theorem countTo_zero (hf : fitsA t x 0 = true) : ∀ m : Nat, m ≤ 99999 → countTo t x 0 m = 0 := by
  intro m
  induction m with
  | zero => intro _; rfl
  | succ m ih =>
    intro hm
    rw [countTo, (cut_zero (n := (m + 1 : Nat)) (askA_of hf (by omega) (by omega))).2, if_neg (by decide)]
    exact ih (by omega)
/-- What the promise asks of counts. -/
theorem count_law {most : Int} (h : 0 ≤ countA t most x b) :
    (countA t most x (b + 1) < 0 ∨ countA t most x b ≤ countA t most x (b + 1)) ∧ (countA t (most + 1) x b < 0 ∨ countA t most x b ≤ countA t (most + 1) x b) ∧ countA t most x 0 = 0 ∧ countA t most x b ≤ most := by
  have hk : okCA t most x b = true := by
    cases hk : okCA t most x b
    · rw [countA_no hk] at h; omega
    · rfl
  obtain ⟨hf, h1, h2⟩ := okCA_parts hk
  obtain ⟨m, rfl⟩ : ∃ m : Nat, most = m := ⟨most.toNat, by omega⟩
  have hd : decide (1 ≤ (m : Int) ∧ (m : Int) ≤ 2000) = true := decide_eq_true ⟨h1, h2⟩
  refine ⟨?_, ?_, ?_, ?_⟩
  · cases hk' : okCA t m x (b + 1)
    · left; rw [countA_no hk']; omega
    · right
      rw [countA_yes hk, countA_yes hk']
      have := countTo_mono hf (okCA_parts hk').1 (by omega) m (by omega)
      omega
  · cases hk' : okCA t (m + 1) x b
    · left; rw [countA_no hk']; omega
    · right
      have hk2 : okCA t ((m + 1 : Nat) : Int) x b = true := hk'
      have e : countA t ((m : Int) + 1) x b = countTo t x b (m + 1) := countA_yes hk2
      rw [countA_yes hk, e, countTo]
      split <;> omega
  · have hk0 : okCA t m x 0 = true := by unfold okCA; rw [fits_zero hf, hd]; rfl
    rw [countA_yes hk0, countTo_zero (fits_zero hf) m (by omega)]; rfl
  · rw [countA_yes hk]
    have := countTo_le t x b m
    omega
/-- What the promise asks of names by taking away. -/
theorem short_law (h : shortB t n x b = true) :
    (namedB t n = true → (shortOf t n x b).length ≤ (nameOf t n).length) ∧ ((namedB t n = true ∧ shortOf t n x b = nameOf t n) ∨ (takenB t n x b = true ∧ shortOf t n x b = takenOf t n x b)) ∧
    (namedB t n = true → shortB t n x 0 = true ∧ shortOf t n x 0 = nameOf t n) := by
  obtain ⟨ha, hc⟩ := short_form h
  obtain ⟨hf, h1, h2⟩ := askA_parts ha
  have ha0 := askA_of (fits_zero hf) h1 h2
  refine ⟨fun hn => ?_, ?_, fun hn => ?_⟩
  · rcases hc with ⟨-, e⟩ | ⟨-, e, hl⟩
    · rw [e]; exact Nat.le_refl _
    · rw [e]; exact Nat.le_of_lt (hl hn)
  · rcases hc with hc | ⟨h3, h4, -⟩
    · exact .inl hc
    · exact .inr ⟨h3, h4⟩
  · exact ⟨short_named ha0 hn, (cut_zero ha0).1⟩
/-- How long these names may be. -/
theorem taken_len (t : Tg) (n : Int) (x : ByteArray) (b : Int) : (takenOf t n x b).length ≤ 63 := by
  cases h : takenB t n x b
  · rw [taken_no h]; simp
  · obtain ⟨m, L, -, -, -, -, -, -, -, -, -, -, -, e⟩ := taken_form h
    have h1 := nameOf_31 t L
    have h2 := nameOf_31 t (n + L)
    rw [e]; simp; omega
theorem short_len (t : Tg) (n : Int) (x : ByteArray) (b : Int) : (shortOf t n x b).length ≤ 63 := by
  have h1 := taken_len t n x b
  have h2 := nameOf_31 t n
  unfold shortOf
  split
  · split <;> omega
  · simp
theorem short_size (t : Tg) (n : Int) (x : ByteArray) (b : Int) : ∀ y ∈ shortOf t n x b, 1 ≤ y.size ∧ y.size ≤ 8 := by
  intro y hy
  cases h : shortB t n x b
  · rw [short_no h] at hy; cases hy
  · obtain ⟨ha, hc⟩ := short_form h
    rcases hc with ⟨-, e⟩ | ⟨ht, e, -⟩
    · rw [e] at hy; exact nameOf_size t n y hy
    · obtain ⟨m, L, -, -, -, -, -, -, -, -, -, -, -, e2⟩ := taken_form ht
      rw [e, e2] at hy
      rcases List.mem_append.1 hy with hy | hy
      · rcases List.mem_append.1 hy with hy | hy
        · exact nameOf_size t _ y hy
        · obtain rfl : y = x := by simpa using hy
          have hw := (fitsA_parts (askA_parts ha).1).2.1
          unfold wordOk at hw
          rw [Bool.and_eq_true, decide_eq_true_eq] at hw
          exact hw.1
      · exact nameOf_size t _ y hy
end
end Go.Proofs.Ytebfoofiaokhdaa
