/-
  Names with the unit first: what may be asked, and how such names are read back, as plain mathematics.
-/
import Derived.Test.YtebfoofiaokhdaaMathU
namespace Go.Proofs.Ytebfoofiaokhdaa
open Go.RowKit

/-- Is a text among these? -/
def hasB (l : List ByteArray) (x : ByteArray) : Bool := decide (place l x < l.length)
theorem hasB_iff {l : List ByteArray} {x : ByteArray} : hasB l x = true ↔ x ∈ l := by unfold hasB; rw [decide_eq_true_eq]; exact place_mem
theorem hasB_not {l : List ByteArray} {x : ByteArray} : hasB l x = false ↔ x ∉ l := by rw [← hasB_iff]; simp
/-- A word that is none of a tongue. -/
def strangerB (t : Tg) (x : ByteArray) : Bool := wordOk x && !hasB t.words x
/-- May names of a tongue be turned with this word between? -/
def fitsT (t : Tg) (x : ByteArray) : Bool := t.ok && decide (2 ≤ t.bs.length) && nested t.bs && strangerB t x
def askT (t : Tg) (n : Int) (x : ByteArray) : Bool := fitsT t x && decide (1 ≤ n ∧ n ≤ 99999)
/-- The words of a number with its unit first; none if there are none. -/
def turnedOf (t : Tg) (n : Int) (x : ByteArray) : List ByteArray := if askT t n x then turnT t x n.toNat else []
def turnedB (t : Tg) (n : Int) (x : ByteArray) : Bool := decide (0 < (turnedOf t n x).length)
def isTurnedB (t : Tg) (n : Int) (x : ByteArray) : Bool := hasB (turnedOf t n x) x

theorem ask_of {t : Tg} {x : ByteArray} {n : Int} {a b : Bool} (hf : fitsT t x = a) (hd : decide (1 ≤ n ∧ n ≤ 99999) = b) : askT t n x = (a && b) := by unfold askT; rw [hf, hd]
section
variable {t : Tg} {x : ByteArray}
theorem fits_parts (h : fitsT t x = true) : t.ok = true ∧ 2 ≤ t.bs.length ∧ nested t.bs = true ∧ wordOk x = true ∧ x ∉ t.words := by
  unfold fitsT strangerB at h
  simp only [Bool.and_eq_true, decide_eq_true_eq, Bool.not_eq_true', hasB_not] at h
  exact ⟨h.1.1.1, h.1.1.2, h.1.2, h.2.1, h.2.2⟩
theorem fits_off {b : Bool} (hb : b = false) (h : fitsT t x = true → b = true) : fitsT t x = false := by
  cases hf : fitsT t x
  · rfl
  · rw [h hf] at hb; cases hb
theorem fits_rest (hok : t.ok = true) (h2 : 2 ≤ t.bs.length) (hn : nested t.bs = true) : fitsT t x = strangerB t x := by
  unfold fitsT; rw [hok, hn, decide_eq_true h2]; rfl
theorem stranger_eq (hok : t.ok = true) (hw : wordOk x = true) : strangerB t x = (!unitB t x && !baseB t x) := by
  unfold strangerB unitB baseB
  rw [hok, hw, Bool.true_and, Bool.true_and, Bool.true_and]
  show (!hasB (t.us ++ t.ns) x) = (!hasB t.us x && !hasB t.ns x)
  rw [← Bool.not_or, Bool.not_inj_iff, Bool.eq_iff_iff, Bool.or_eq_true, hasB_iff, hasB_iff, hasB_iff]
  exact List.mem_append
theorem ask_no {n : Int} (h : askT t n x = false) : turnedOf t n x = [] ∧ turnedB t n x = false ∧ isTurnedB t n x = false := by
  have e : turnedOf t n x = [] := by unfold turnedOf; rw [h]; rfl
  exact ⟨e, by unfold turnedB; rw [e]; rfl, by unfold isTurnedB; rw [e]; rfl⟩
theorem ask_yes {n : Nat} (h : askT t n x = true) : turnedOf t n x = turnT t x n := by unfold turnedOf; rw [h, if_pos rfl]; rfl
theorem ask_parts {n : Int} (h : askT t n x = true) : fitsT t x = true ∧ 1 ≤ n ∧ n ≤ 99999 := by
  unfold askT at h
  rw [Bool.and_eq_true, decide_eq_true_eq] at h
  exact h
theorem turned_ask {n : Int} (h : turnedB t n x = true) : askT t n x = true ∧ turnedOf t n x ≠ [] := by
  cases ha : askT t n x
  · rw [(ask_no ha).2.1] at h; cases h
  · refine ⟨rfl, fun e => ?_⟩
    unfold turnedB at h; rw [e] at h; simp at h

/-- The words of a name are of the tongue. -/
theorem nameT_mem (hok : t.ok = true) {n : Nat} (h1 : 1 ≤ n) : ∀ y ∈ nameT t n, y ∈ t.words := by
  have hs := ok_shape hok
  exact name_mem t.us t.bs t.ns hs.bs hs.ns n h1
theorem unitU_mem (hok : t.ok = true) (h2 : 2 ≤ t.bs.length) {n : Nat} (h0 : lowU t n ≠ 0) : unitU t n ∈ t.us := by
  have h1 := low_lt hok h2 n
  have hb1 := b1_us hok h2
  have hlt : lowU t n - 1 < t.us.length := by omega
  unfold unitU
  rw [List.getD_eq_getElem?_getD, List.getElem?_eq_getElem hlt]
  exact List.getElem_mem hlt
theorem frontU_mem (hok : t.ok = true) {n : Nat} : ∀ y ∈ frontU t n, y ∈ t.words := by
  intro y hy
  unfold frontU at hy
  split at hy
  · exact nameT_mem hok (by omega) y hy
  · cases hy
theorem metU_mem (hok : t.ok = true) (h2 : 2 ≤ t.bs.length) (hn : nested t.bs = true) {n : Nat} (h : n ≤ 999999) (hi : isT t n) : ∀ y ∈ metU t n, y ∈ t.words := by
  have := tens_big hok h2 hn h hi
  have := b1_ge hok h2
  exact nameT_mem hok (by omega)
theorem word_size (hok : t.ok = true) {y : ByteArray} (hy : y ∈ t.words) : 1 ≤ y.size ∧ y.size ≤ 8 := by
  have := ((ok_iff t).1 hok).2.2.2.2.1 y hy
  unfold wordOk at this
  rw [Bool.and_eq_true, decide_eq_true_eq] at this
  exact this.1

/-- What a turned name is: either the name, without the word between, or the front, the unit, the word, and the rest. -/
theorem turned_form {n : Int} (h : turnedB t n x = true) : ∃ m : Nat, n = m ∧ 1 ≤ m ∧ m ≤ 99999 ∧ fitsT t x = true ∧ turnedOf t n x = turnT t x m ∧
    ((¬ isT t m ∧ turnedOf t n x = nameOf t n ∧ nameOf t n ≠ []) ∨
     (isT t m ∧ ¬ noT t m ∧ turnedOf t n x = frontU t m ++ [unitU t m, x] ++ metU t m ∧ nameOf t n = frontU t m ++ metU t m ++ [unitU t m])) := by
  obtain ⟨ha, hne⟩ := turned_ask h
  obtain ⟨hf, h1, h2⟩ := ask_parts ha
  obtain ⟨m, rfl⟩ : ∃ m : Nat, n = m := ⟨n.toNat, by omega⟩
  obtain ⟨hok, hl2, hn, -, -⟩ := fits_parts hf
  have e := ask_yes ha
  have hko : okN t m = true := okN_of hok (by omega) (by omega)
  refine ⟨m, rfl, by omega, by omega, hf, e, ?_⟩
  rw [e] at hne ⊢
  rw [nameOf_yes hko]
  by_cases hi : isT t m
  · right
    unfold turnT at hne ⊢
    rw [if_pos hi] at hne ⊢
    by_cases hno : noT t m
    · rw [if_pos hno] at hne; exact absurd rfl hne
    · rw [if_neg hno]
      refine ⟨hi, hno, rfl, ?_⟩
      rw [name_turn hok hl2 hn m (by omega) (by omega) hi, if_neg hno]
  · left
    unfold turnT at hne ⊢
    rw [if_neg hi] at hne ⊢
    exact ⟨hi, rfl, hne⟩

/-- The program puts the unit behind again. -/
def plainI (x : ByteArray) (l : List ByteArray) : List ByteArray := if 1 ≤ place l x ∧ place l x < l.length then l.take (place l x - 1) ++ l.drop (place l x + 1) ++ (l.take (place l x)).drop (place l x - 1) else l
/-- The model puts the unit behind again, word by word. -/
def plTo (x : ByteArray) (l : List ByteArray) : Nat → List ByteArray × ByteArray
  | 0 => ([], ByteArray.empty)
  | k + 1 => if k + 1 < l.length ∧ l.getD (k + 1) ByteArray.empty = x ∧ (plTo x l k).2 = ByteArray.empty then ((plTo x l k).1, l.getD k ByteArray.empty)
    else if ¬ l.getD k ByteArray.empty = x ∨ (plTo x l k).2 = ByteArray.empty then ((plTo x l k).1 ++ [l.getD k ByteArray.empty], (plTo x l k).2) else plTo x l k
def plainS (x : ByteArray) (l : List ByteArray) : List ByteArray := if (plTo x l l.length).2 = ByteArray.empty then (plTo x l l.length).1 else (plTo x l l.length).1 ++ [(plTo x l l.length).2]
theorem plTo_len (x : ByteArray) (l : List ByteArray) : ∀ k, (plTo x l k).1.length ≤ k := by
  intro k
  induction k with
  | zero => exact Nat.le_refl _
  | succ k ih =>
    rw [plTo]
    split
    · simp; omega
    · split
      · simp; omega
      · omega
theorem plTo_size {l : List ByteArray} {B : Nat} (h : ∀ k, (l.getD k ByteArray.empty).size ≤ B) : ∀ k, (∀ y ∈ (plTo x l k).1, y.size ≤ B) ∧ (plTo x l k).2.size ≤ B := by
  intro k
  induction k with
  | zero => exact ⟨(by intro y hy; cases hy), Nat.zero_le _⟩
  | succ k ih =>
    rw [plTo]
    split
    · exact ⟨ih.1, h k⟩
    · split
      · refine ⟨fun y hy => ?_, ih.2⟩
        rcases List.mem_append.1 hy with hy | hy
        · exact ih.1 y hy
        · have : y = l.getD k ByteArray.empty := by simpa using hy
          rw [this]; exact h k
      · exact ih
theorem plain_same {l : List ByteArray} (h : x ∉ l) : plainI x l = l ∧ plainS x l = l := by
  constructor
  · unfold plainI
    rw [if_neg]
    rintro ⟨-, h2⟩
    exact h (place_mem.1 h2)
  · have hk : ∀ k, k ≤ l.length → plTo x l k = (l.take k, ByteArray.empty) := by
      intro k
      induction k with
      | zero => intro _; rfl
      | succ k ih =>
        intro hk
        have hm : ∀ j, j < l.length → ¬ l.getD j ByteArray.empty = x := fun j hj e => by
          rw [List.getD_eq_getElem?_getD, List.getElem?_eq_getElem hj] at e
          exact h (by rw [← e]; exact List.getElem_mem hj)
        rw [plTo, ih (by omega), if_neg (fun hc => hm _ hc.1 hc.2.1), if_pos (.inl (hm k (by omega)))]
        rw [List.take_succ_eq_append_getElem (by omega), List.getD_eq_getElem?_getD, List.getElem?_eq_getElem (by omega)]; rfl
    unfold plainS
    rw [hk _ (Nat.le_refl _), if_pos rfl, List.take_length]
theorem getD_app_left {a b : List ByteArray} {k : Nat} (h : k < a.length) : (a ++ b).getD k ByteArray.empty = a.getD k ByteArray.empty := by
  rw [List.getD_eq_getElem?_getD, List.getElem?_append_left h, ← List.getD_eq_getElem?_getD]
theorem getD_app_right {a b : List ByteArray} {k : Nat} : (a ++ b).getD (a.length + k) ByteArray.empty = b.getD k ByteArray.empty := by
  rw [List.getD_eq_getElem?_getD, List.getElem?_append_right (by omega), ← List.getD_eq_getElem?_getD]; congr 1; omega
theorem plain_back {a c : List ByteArray} {u : ByteArray} (ha : x ∉ a) (hc : x ∉ c) (hu : u ≠ x) (hz : u ≠ ByteArray.empty) :
    plainI x (a ++ [u, x] ++ c) = a ++ c ++ [u] ∧ plainS x (a ++ [u, x] ++ c) = a ++ c ++ [u] := by
  have hl : (a ++ [u, x] ++ c).length = a.length + 2 + c.length := by simp; omega
  have hg : ∀ j, (a ++ [u, x] ++ c).getD (a.length + j) ByteArray.empty = ([u, x] ++ c).getD j ByteArray.empty := fun j => by rw [List.append_assoc]; exact getD_app_right
  have hA : ∀ j, j < a.length → (a ++ [u, x] ++ c).getD j ByteArray.empty = a.getD j ByteArray.empty := fun j hj => by rw [List.append_assoc]; exact getD_app_left hj
  have hA' : ∀ j, j < a.length → ¬ a.getD j ByteArray.empty = x := fun j hj e => by
    rw [List.getD_eq_getElem?_getD, List.getElem?_eq_getElem hj] at e
    exact ha (by rw [← e]; exact List.getElem_mem hj)
  have hC' : ∀ j, j < c.length → ¬ c.getD j ByteArray.empty = x := fun j hj e => by
    rw [List.getD_eq_getElem?_getD, List.getElem?_eq_getElem hj] at e
    exact hc (by rw [← e]; exact List.getElem_mem hj)
  have g0 : (a ++ [u, x] ++ c).getD a.length ByteArray.empty = u := by have := hg 0; rw [Nat.add_zero] at this; rw [this]; rfl
  have g1 : (a ++ [u, x] ++ c).getD (a.length + 1) ByteArray.empty = x := by rw [hg 1]; rfl
  have g2 : ∀ j, (a ++ [u, x] ++ c).getD (a.length + 2 + j) ByteArray.empty = c.getD j ByteArray.empty := fun j => by
    rw [Nat.add_assoc, hg (2 + j)]; exact getD_app_right (a := [u, x])
  constructor
  · have hp : place (a ++ [u, x] ++ c) x = a.length + 1 := place_eq (by omega) (fun i hi => by
      by_cases h : i < a.length
      · rw [hA i h]; exact hA' i h
      · obtain rfl : i = a.length := by omega
        rw [g0]; exact hu) g1
    unfold plainI
    rw [hp, if_pos ⟨by omega, by omega⟩]
    have e1 : (a ++ [u, x] ++ c).take (a.length + 1 - 1) = a := by rw [Nat.add_sub_cancel, List.append_assoc, List.take_left]
    have e2 : (a ++ [u, x] ++ c).drop (a.length + 1 + 1) = c := by
      have : (a ++ [u, x]).length = a.length + 1 + 1 := by simp
      rw [← this, List.drop_left]
    have e3 : ((a ++ [u, x] ++ c).take (a.length + 1)).drop (a.length + 1 - 1) = [u] := by
      have h1 : (a ++ [u]).length = a.length + 1 := by simp
      have h2 : a ++ [u, x] ++ c = (a ++ [u]) ++ ([x] ++ c) := by simp
      rw [h2, ← h1, List.take_left, h1, Nat.add_sub_cancel, List.drop_left]
    rw [e1, e2, e3]
  · have p1 : ∀ k, k ≤ a.length → plTo x (a ++ [u, x] ++ c) k = (a.take k, ByteArray.empty) := by
      intro k
      induction k with
      | zero => intro _; rfl
      | succ k ih =>
        intro hk
        rw [plTo, ih (by omega), if_neg, if_pos, hA k (by omega), List.take_succ_eq_append_getElem (by omega), List.getD_eq_getElem?_getD, List.getElem?_eq_getElem (by omega)]
        · rfl
        · left; rw [hA k (by omega)]; exact hA' k (by omega)
        · rintro ⟨-, h2, -⟩
          by_cases h : k + 1 < a.length
          · rw [hA _ h] at h2; exact hA' _ h h2
          · have : k + 1 = a.length := by omega
            rw [this, g0] at h2; exact hu h2
    have p2 : plTo x (a ++ [u, x] ++ c) (a.length + 1) = (a, u) := by
      rw [plTo, p1 _ (Nat.le_refl _), if_pos ⟨by omega, g1, rfl⟩, g0, List.take_length]
    have p3 : plTo x (a ++ [u, x] ++ c) (a.length + 2) = (a, u) := by
      show plTo x (a ++ [u, x] ++ c) (a.length + 1 + 1) = _
      rw [plTo, p2, if_neg (fun h => hz h.2.2), g1, if_neg (fun h => h.elim (fun h => h rfl) hz)]
    have p4 : ∀ k, k ≤ c.length → plTo x (a ++ [u, x] ++ c) (a.length + 2 + k) = (a ++ c.take k, u) := by
      intro k
      induction k with
      | zero => intro _; rw [Nat.add_zero, p3]; simp
      | succ k ih =>
        intro hk
        show plTo x (a ++ [u, x] ++ c) (a.length + 2 + k + 1) = _
        rw [plTo, ih (by omega), if_neg (fun h => hz h.2.2), g2, if_pos (.inl (hC' k (by omega)))]
        rw [List.take_succ_eq_append_getElem (by omega), List.getD_eq_getElem?_getD, List.getElem?_eq_getElem (by omega)]; simp
    unfold plainS
    rw [hl, p4 _ (Nat.le_refl _), if_neg hz, List.take_length]

theorem not_word (hf : fitsT t x = true) {l : List ByteArray} (h : ∀ y ∈ l, y ∈ t.words) : x ∉ l := fun e => (fits_parts hf).2.2.2.2 (h x e)
/-- A turned name put back is the name. -/
theorem plain_turned {n : Int} (h : turnedB t n x = true) : plainI x (turnedOf t n x) = nameOf t n ∧ plainS x (turnedOf t n x) = nameOf t n ∧ namedB t n = true := by
  obtain ⟨m, rfl, h1, h2, hf, -, hc⟩ := turned_form h
  obtain ⟨hok, hl2, hn, -, hx⟩ := fits_parts hf
  have hko : okN t m = true := okN_of hok h1 h2
  rcases hc with ⟨-, e, hne⟩ | ⟨hi, -, e, e2⟩
  · have hnx : x ∉ nameOf t m := by rw [nameOf_yes hko]; exact not_word hf (nameT_mem hok h1)
    obtain ⟨p1, p2⟩ := plain_same hnx
    rw [e, p1, p2]
    refine ⟨rfl, rfl, named_of hok h1 h2 ?_⟩
    rwa [nameOf_yes hko] at hne
  · have hum := unitU_mem hok hl2 hi.1
    have huw : unitU t m ∈ t.words := List.mem_append.2 (.inl hum)
    have hus := (word_size hok huw).1
    obtain ⟨p1, p2⟩ := plain_back (x := x) (a := frontU t m) (c := metU t m) (u := unitU t m) (not_word hf (frontU_mem hok)) (not_word hf (metU_mem hok hl2 hn (by omega) hi)) (fun e => hx (e ▸ huw)) (fun e => by rw [e] at hus; simp at hus)
    rw [e, e2, p1, p2]
    refine ⟨rfl, rfl, named_of hok h1 h2 ?_⟩
    rw [nameOf_yes hko] at e2
    rw [e2]; simp
theorem nameOf_31 (t : Tg) (n : Int) : (nameOf t n).length ≤ 31 := by
  by_cases ho : okN t n = true
  · have hh := ho
    unfold okN at hh
    rw [Bool.and_eq_true, decide_eq_true_eq] at hh
    obtain ⟨hok, h1, h2⟩ := hh
    obtain ⟨m, rfl⟩ : ∃ m : Nat, n = m := ⟨n.toNat, by omega⟩
    have hs := ok_shape hok
    rw [nameOf_yes ho]
    have hb := hs.bs
    have hl := bases_len hb
    have h := name_short t.us t.bs t.ns hb m (by omega)
    have htop : topOf t.bs m ≤ 4 := by
      by_cases ht : topOf t.bs m = 0
      · omega
      · have := (base_facts hb ht).2.2.2.1; omega
    have hp : 2 ^ (topOf t.bs m + 1) ≤ 2 ^ 5 := Nat.pow_le_pow_right (by omega) (by omega)
    have h5 : (2 : Nat) ^ 5 = 32 := rfl
    unfold nameT
    omega
  · rw [(nameOf_no (by simpa using ho)).1]; simp
theorem turned_short {n : Int} (h : turnedB t n x = true) : 1 ≤ (turnedOf t n x).length ∧ (turnedOf t n x).length ≤ 32 := by
  obtain ⟨m, rfl, -, -, -, -, hc⟩ := turned_form h
  have h1 := nameOf_31 t m
  refine ⟨by unfold turnedB at h; rw [decide_eq_true_eq] at h; exact h, ?_⟩
  rcases hc with ⟨-, e, -⟩ | ⟨-, -, e, e2⟩
  · rw [e]; omega
  · rw [e2] at h1; rw [e]; simp at h1 ⊢; omega
theorem turned_len (t : Tg) (n : Int) (x : ByteArray) : (turnedOf t n x).length ≤ 32 := by
  cases h : turnedB t n x
  · unfold turnedB at h; have := of_decide_eq_false h; omega
  · exact (turned_short h).2
theorem turned_size (n : Int) : ∀ y ∈ turnedOf t n x, 1 ≤ y.size ∧ y.size ≤ 8 := by
  intro y hy
  cases h : turnedB t n x
  · unfold turnedB at h
    have := of_decide_eq_false h
    rw [List.eq_nil_of_length_eq_zero (show (turnedOf t n x).length = 0 by omega)] at hy; cases hy
  · obtain ⟨m, rfl, h1, h2, hf, -, hc⟩ := turned_form h
    obtain ⟨hok, hl2, hn, hw, hx⟩ := fits_parts hf
    rcases hc with ⟨-, e, -⟩ | ⟨hi, -, e, -⟩
    · rw [e] at hy; exact nameOf_size t m y hy
    · rw [e] at hy
      rcases List.mem_append.1 hy with hy | hy
      · rcases List.mem_append.1 hy with hy | hy
        · exact word_size hok (frontU_mem hok y hy)
        · rcases List.mem_cons.1 hy with rfl | hy
          · exact word_size hok (List.mem_append.2 (.inl (unitU_mem hok hl2 hi.1)))
          · obtain rfl : y = x := by simpa using hy
            unfold wordOk at hw
            rw [Bool.and_eq_true, decide_eq_true_eq] at hw
            exact hw.1
      · exact word_size hok (metU_mem hok hl2 hn (by omega) hi y hy)

/-- Are words a turned name? -/
def okLT (t : Tg) (l : List ByteArray) (x : ByteArray) : Bool := fitsT t x && decide (1 ≤ l.length ∧ l.length ≤ 40)
def readUB (t : Tg) (l : List ByteArray) (x : ByteArray) : Bool := okLT t l x && turnedB t (valV t (plainS x l)) x && decide (turnedOf t (valV t (plainS x l)) x = l)
def readUV (t : Tg) (l : List ByteArray) (x : ByteArray) : Int := if readUB t l x then valV t (plainS x l) else -1
theorem readU_no {l : List ByteArray} (h : readUB t l x = false) : readUV t l x = -1 := by unfold readUV; rw [h]; rfl
theorem readU_yes {l : List ByteArray} (h : readUB t l x = true) : turnedB t (readUV t l x) x = true ∧ turnedOf t (readUV t l x) x = l ∧ fitsT t x = true ∧ 1 ≤ l.length ∧ l.length ≤ 40 := by
  have e : readUV t l x = valV t (plainS x l) := by unfold readUV; rw [h, if_pos rfl]
  rw [e]
  unfold readUB okLT at h
  simp only [Bool.and_eq_true, decide_eq_true_eq] at h
  exact ⟨h.1.2, h.2, h.1.1.1, h.1.1.2.1, h.1.1.2.2⟩
theorem val_nameOf {n : Int} (h : namedB t n = true) : valV t (nameOf t n) = n := by
  obtain ⟨hok, h1, h2⟩ := named_ok h
  obtain ⟨m, rfl⟩ : ∃ m : Nat, n = m := ⟨n.toNat, by omega⟩
  obtain ⟨ho, hne⟩ := named_ne h
  rw [nameOf_yes ho]
  exact val_name hok m (by omega) (by omega) hne
/-- A turned name is read as its number. -/
theorem read_turned {n : Int} (h : turnedB t n x = true) : readUB t (turnedOf t n x) x = true ∧ readUV t (turnedOf t n x) x = n := by
  obtain ⟨-, p2, p3⟩ := plain_turned h
  have hv : valV t (plainS x (turnedOf t n x)) = n := by rw [p2]; exact val_nameOf p3
  obtain ⟨s1, s2⟩ := turned_short h
  have hf := (ask_parts (turned_ask h).1).1
  have hb : readUB t (turnedOf t n x) x = true := by
    unfold readUB okLT
    rw [hv, hf, h, decide_eq_true ⟨s1, by omega⟩, decide_eq_true rfl]; rfl
  exact ⟨hb, by unfold readUV; rw [hb, if_pos rfl, hv]⟩
theorem readUV_bd (t : Tg) (l : List ByteArray) (x : ByteArray) : -1 ≤ readUV t l x ∧ readUV t l x ≤ 99999 := by
  cases h : readUB t l x
  · rw [readU_no h]; omega
  · have := (ask_parts (turned_ask (readU_yes h).1).1).2; omega
/-- How the program reads: the words put back are read, and the number's turned name must be the words. -/
theorem readI {l : List ByteArray} (hl : okLT t l x = true) : readUB t l x = (readB t (plainI x l) && decide (turnedOf t (readV t (plainI x l)) x = l)) ∧ (readUB t l x = true → readUV t l x = readV t (plainI x l)) := by
  have hl0 : l ≠ [] := fun e => by unfold okLT at hl; rw [e] at hl; simp at hl
  have hfw : readUB t l x = true → readB t (plainI x l) = true ∧ readV t (plainI x l) = readUV t l x := by
    intro h
    obtain ⟨y1, y2, -, -, -⟩ := readU_yes h
    obtain ⟨p1, -, p3⟩ := plain_turned y1
    rw [y2] at p1
    rw [p1]
    exact read_name p3 (nameOf_short _ _)
  refine ⟨?_, fun h => (hfw h).2.symm⟩
  rw [Bool.eq_iff_iff, Bool.and_eq_true, decide_eq_true_eq]
  constructor
  · intro h
    obtain ⟨h1, h2⟩ := hfw h
    exact ⟨h1, by rw [h2]; exact (readU_yes h).2.1⟩
  · rintro ⟨h1, h2⟩
    have h3 : turnedB t (readV t (plainI x l)) x = true := by
      unfold turnedB; rw [h2, decide_eq_true_eq]
      exact Nat.pos_of_ne_zero fun e => hl0 (List.eq_nil_of_length_eq_zero e)
    have := (read_turned h3).1
    rwa [h2] at this
theorem turned_nat {n : Nat} (hf : fitsT t x = true) (h1 : 1 ≤ n) (h2 : n ≤ 99999) : turnedOf t n x = turnT t x n := ask_yes (by unfold askT; rw [hf, decide_eq_true (by omega)]; rfl)
/-- Turned: the word between is there. -/
theorem isTurned_iff {n : Int} (h : turnedB t n x = true) : isTurnedB t n x = true ↔ isT t n.toNat := by
  obtain ⟨m, rfl, h1, h2, hf, -, hc⟩ := turned_form h
  obtain ⟨hok, hl2, hn, hw, hx⟩ := fits_parts hf
  unfold isTurnedB
  rw [hasB_iff, Int.toNat_natCast]
  rcases hc with ⟨hi, e, -⟩ | ⟨hi, -, e, -⟩
  · rw [e, nameOf_yes (okN_of hok h1 h2)]
    exact ⟨fun hm => absurd hm (not_word hf (nameT_mem hok h1)), fun hm => absurd hm hi⟩
  · rw [e]; simp [hi]
theorem turned_not {n : Int} (h : turnedB t n x = false) : turnedOf t n x = [] ∧ isTurnedB t n x = false := by
  have e : turnedOf t n x = [] := List.eq_nil_of_length_eq_zero (by unfold turnedB at h; have := of_decide_eq_false h; omega)
  exact ⟨e, by unfold isTurnedB; rw [e]; rfl⟩
end
end Go.Proofs.Ytebfoofiaokhdaa
