/-
  Names read back, as plain mathematics.
-/
import Derived.Test.YteemgkabhkdeaaaDoorMathG
import Derived.Test.YteemgkabhkdeaaaDoorUnitsM
namespace Go.Proofs.YteemgkabhkdeaaaDoor
open Go.RowKit

/-- Which base a word names, by its place; 0 if it names none. -/
def bv (t : Tg) (x : ByteArray) : Nat := if baseB t x then (baseV t x).toNat else 0
/-- The greatest base among the first k words, and where it stands first. -/
def scanTo (t : Tg) (l : List ByteArray) : Nat → Nat × Nat
  | 0 => (0, 0)
  | k + 1 => if (scanTo t l k).1 < bv t (l.getD k ByteArray.empty) then (bv t (l.getD k ByteArray.empty), k) else scanTo t l k
theorem scanTo_at (t : Tg) (l : List ByteArray) : ∀ k, (scanTo t l k).1 ≠ 0 → (scanTo t l k).2 < k := by
  intro k
  induction k with
  | zero => intro h; exact absurd rfl h
  | succ k ih =>
    intro h
    rw [scanTo] at h ⊢
    split
    · exact Nat.lt_succ_self k
    · rename_i hc
      rw [if_neg hc] at h
      have := ih h
      omega
/-- The number that words tell, if the greatest base among them is taken first. -/
def valV (t : Tg) (l : List ByteArray) : Int :=
  if l = [] then 0
  else if _h : (scanTo t l l.length).1 = 0 then (if unitB t (l.getD 0 ByteArray.empty) = true ∧ l.length = 1 then unitV t (l.getD 0 ByteArray.empty) else -1)
  else
    if (if 0 < (scanTo t l l.length).2 then valV t (l.take (scanTo t l l.length).2) else 1) < 0 ∨ valV t (l.drop ((scanTo t l l.length).2 + 1)) < 0 ∨ 99999 < (if 0 < (scanTo t l l.length).2 then valV t (l.take (scanTo t l l.length).2) else 1) then -1
    else min ((if 0 < (scanTo t l l.length).2 then valV t (l.take (scanTo t l l.length).2) else 1) * t.bs.getD (scanTo t l l.length).1 0 + valV t (l.drop ((scanTo t l l.length).2 + 1))) 1000000
termination_by l.length
decreasing_by
  all_goals have hs := scanTo_at t l l.length _h
  all_goals simp
  all_goals omega

theorem valV_nil (t : Tg) : valV t [] = 0 := by rw [valV, if_pos rfl]
theorem valV_unit {t : Tg} {l : List ByteArray} (hl : l ≠ []) (h : (scanTo t l l.length).1 = 0) : valV t l = if unitB t (l.getD 0 ByteArray.empty) = true ∧ l.length = 1 then unitV t (l.getD 0 ByteArray.empty) else -1 := by
  rw [valV, if_neg hl, dif_pos h]
theorem valV_top {t : Tg} {l : List ByteArray} {top p : Nat} (hl : l ≠ []) (h : scanTo t l l.length = (top, p)) (h0 : top ≠ 0) {many rest : Int} (hm : many = if 0 < p then valV t (l.take p) else 1) (hr : rest = valV t (l.drop (p + 1))) :
    valV t l = if many < 0 ∨ rest < 0 ∨ 99999 < many then -1 else min (many * t.bs.getD top 0 + rest) 1000000 := by
  rw [valV, if_neg hl, dif_neg (by rw [h]; exact h0), h, hm, hr]

/-- Where the greatest base stands. -/
theorem scan_split {t : Tg} {hd tl : List ByteArray} {x : ByteArray} {k : Nat} (hx : bv t x = k) (h1 : ∀ y ∈ hd, bv t y < k) (h2 : ∀ y ∈ tl, bv t y ≤ k) (hk : 0 < k) :
    scanTo t (hd ++ [x] ++ tl) (hd ++ [x] ++ tl).length = (k, hd.length) := by
  have a1 : ∀ j, j ≤ hd.length → (scanTo t (hd ++ [x] ++ tl) j).1 < k := by
    intro j
    induction j with
    | zero => intro _; exact hk
    | succ j ih =>
      intro hj
      rw [scanTo]
      have hg : (hd ++ [x] ++ tl).getD j ByteArray.empty = hd[j] := by
        rw [List.getD_eq_getElem?_getD, List.append_assoc, List.getElem?_append_left (by omega), List.getElem?_eq_getElem (by omega)]; rfl
      split
      · rw [hg]; exact h1 _ (List.getElem_mem _)
      · exact ih (by omega)
  have hgx : (hd ++ [x] ++ tl).getD hd.length ByteArray.empty = x := by
    rw [List.getD_eq_getElem?_getD, List.append_assoc, List.getElem?_append_right (Nat.le_refl _)]; simp
  have a2 : scanTo t (hd ++ [x] ++ tl) (hd.length + 1) = (k, hd.length) := by
    rw [scanTo, hgx, hx, if_pos (a1 _ (Nat.le_refl _))]
  have a3 : ∀ j, j ≤ tl.length → scanTo t (hd ++ [x] ++ tl) (hd.length + 1 + j) = (k, hd.length) := by
    intro j
    induction j with
    | zero => intro _; exact a2
    | succ j ih =>
      intro hj
      have hg : (hd ++ [x] ++ tl).getD (hd.length + 1 + j) ByteArray.empty = tl[j] := by
        rw [List.getD_eq_getElem?_getD, List.getElem?_append_right (by simp), List.getElem?_eq_getElem (by simp; omega)]
        simp
      show scanTo t (hd ++ [x] ++ tl) ((hd.length + 1 + j) + 1) = _
      rw [scanTo, ih (by omega), hg, if_neg (by have := h2 _ (List.getElem_mem (show j < tl.length by omega)); simp; omega)]
  have := a3 tl.length (Nat.le_refl _)
  rwa [show hd.length + 1 + tl.length = (hd ++ [x] ++ tl).length by simp; omega] at this

theorem bv_name {t : Tg} (hok : t.ok = true) {j : Nat} (hj : j < t.ns.length) : bv t (t.ns.getD j ByteArray.empty) = j + 1 := by
  have hd : t.ns.Nodup := (List.nodup_append.1 ((ok_iff t).1 hok).2.2.2.2.2).2.1
  obtain ⟨h1, h2⟩ := base_at (t := t) (x := t.ns.getD j ByteArray.empty) (k := j) hok hj (fun i hi e => by
    have hi' : i < t.ns.length := by omega
    rw [List.getD_eq_getElem?_getD, List.getD_eq_getElem?_getD, List.getElem?_eq_getElem hi', List.getElem?_eq_getElem hj] at e
    exact (List.pairwise_iff_getElem.1 hd) i j hi' hj hi (by simpa using e)) rfl
  unfold bv
  rw [h1, if_pos rfl, h2]
  omega
theorem bv_unit {t : Tg} (hok : t.ok = true) {x : ByteArray} (hx : x ∈ t.us) : bv t x = 0 := by
  have hd := List.nodup_append.1 ((ok_iff t).1 hok).2.2.2.2.2
  have hn := (base_no (t := t) (x := x) (.inr fun i hi e => by
    have hm : t.ns.getD i ByteArray.empty ∈ t.ns := by rw [List.getD_eq_getElem?_getD, List.getElem?_eq_getElem hi]; exact List.getElem_mem hi
    rw [e] at hm
    exact hd.2.2 x hx x hm rfl)).1
  unfold bv; rw [hn]; rfl
theorem topOf_lt {bs : List Int} (hb : basesOk bs = true) {n : Nat} {k : Nat} (_hk : k < bs.length) (h1 : 1 ≤ k) (h : (n : Int) < bs.getD k 0) : topOf bs n < k := by
  rcases topTo_at bs n bs.length with e | ⟨a1, a2, a3⟩
  · have e' : topOf bs n = 0 := e
    omega
  · rcases Nat.lt_or_ge (topOf bs n) k with h2 | h2
    · exact h2
    · have a2' : topOf bs n < bs.length := a2
      have a3' : bs.getD (topOf bs n) 0 ≤ n := a3
      by_cases e : k = topOf bs n
      · rw [← e] at a3'; omega
      · have := bases_mono hb k (topOf bs n) (by omega) a2'; omega
/-- The words of a name are of no greater base than its greatest one. -/
theorem name_bv {t : Tg} (hok : t.ok = true) : ∀ n : Nat, 1 ≤ n → ∀ x ∈ nameT t n, bv t x ≤ topOf t.bs n := by
  have hs := ok_shape hok
  have hb := hs.bs
  have hns := hs.ns
  intro n
  induction n using Nat.strongRecOn with
  | _ n ih =>
    intro hn x hx
    by_cases ht : topOf t.bs n = 0
    · rw [nameT, name_unit ht] at hx
      split at hx
      · cases hx
      · have hlt : n - 1 < t.us.length := by omega
        have : x = t.us[n - 1] := by simpa [List.getD_eq_getElem?_getD, hlt] using hx
        rw [this, bv_unit hok (List.getElem_mem hlt)]; exact Nat.zero_le _
    · have hf := base_facts hb ht
      have hd := div_pos' hf.1 hf.2.1
      rw [nameT, name_top hb ht] at hx
      split at hx
      · cases hx
      · rename_i h0
        split at hx
        · cases hx
        · split at hx
          · cases hx
          · have hq : topOf t.bs (n / baseN t.bs n : Nat) < topOf t.bs n := topOf_lt hb hf.2.2.2.1 hf.2.2.2.2 (by rw [← hf.2.2.1]; omega)
            have hr : topOf t.bs (n % baseN t.bs n : Nat) < topOf t.bs n := topOf_lt hb hf.2.2.2.1 hf.2.2.2.2 (by rw [← hf.2.2.1]; have := Nat.mod_lt n (show 0 < baseN t.bs n by omega); omega)
            rcases List.mem_append.1 hx with h | h
            · rcases List.mem_append.1 h with h | h
              · split at h
                · have := ih _ hd.2.1 hd.1 x h; omega
                · cases h
              · have : x = t.ns.getD (topOf t.bs n - 1) ByteArray.empty := by simpa using h
                rw [this, bv_name hok (by omega)]; omega
            · split at h
              · cases h
              · have := ih _ hd.2.2.1 (by omega) x h; omega
/-- The name of a number tells the number. -/
theorem val_name {t : Tg} (hok : t.ok = true) : ∀ n : Nat, 1 ≤ n → n ≤ 99999 → nameT t n ≠ [] → valV t (nameT t n) = n := by
  have hs := ok_shape hok
  have hb := hs.bs
  have hns := hs.ns
  intro n
  induction n using Nat.strongRecOn with
  | _ n ih =>
    intro hn hn2 hne
    by_cases ht : topOf t.bs n = 0
    · have hu := name_unit (us := t.us) (ns := t.ns) ht
      have hlt : ¬ t.us.length < n := fun h => by rw [nameT, hu, if_pos h] at hne; exact hne rfl
      have hn1 : n - 1 < t.us.length := by omega
      have e : nameT t n = [t.us.getD (n - 1) ByteArray.empty] := by rw [nameT, hu, if_neg hlt]
      have hm : t.us.getD (n - 1) ByteArray.empty ∈ t.us := by rw [List.getD_eq_getElem?_getD, List.getElem?_eq_getElem hn1]; exact List.getElem_mem hn1
      have hz := bv_unit hok hm
      have hdd : t.us.Nodup := (List.nodup_append.1 ((ok_iff t).1 hok).2.2.2.2.2).1
      obtain ⟨u1, u2⟩ := unit_at (t := t) (x := t.us.getD (n - 1) ByteArray.empty) (k := n - 1) hok hn1 (fun i hi e => by
        have hi' : i < t.us.length := by omega
        rw [List.getD_eq_getElem?_getD, List.getD_eq_getElem?_getD, List.getElem?_eq_getElem hi', List.getElem?_eq_getElem hn1] at e
        exact (List.pairwise_iff_getElem.1 hdd) i (n - 1) hi' hn1 hi (by simpa using e)) rfl
      have hsc : (scanTo t (nameT t n) (nameT t n).length).1 = 0 := by
        rw [e]
        show (scanTo t [_] 1).1 = 0
        rw [scanTo]
        show (if 0 < bv t (t.us.getD (n - 1) ByteArray.empty) then (_, 0) else ((0 : Nat), (0 : Nat))).1 = 0
        rw [hz, if_neg (by omega)]
      have hl1 : (nameT t n).length = 1 := by rw [e]; rfl
      have hg1 : (nameT t n).getD 0 ByteArray.empty = t.us.getD (n - 1) ByteArray.empty := by rw [e]; rfl
      rw [valV_unit hne hsc, hg1, if_pos ⟨u1, hl1⟩, u2]
      omega
    · obtain ⟨g1, g2, g3⟩ := name_some hb ht hne
      have hf := base_facts hb ht
      have hd := div_pos' hf.1 hf.2.1
      have hp := name_parts hb ht g1 g2 g3
      have hq : topOf t.bs (n / baseN t.bs n : Nat) < topOf t.bs n := topOf_lt hb hf.2.2.2.1 hf.2.2.2.2 (by rw [← hf.2.2.1]; omega)
      have hr : topOf t.bs (n % baseN t.bs n : Nat) < topOf t.bs n := topOf_lt hb hf.2.2.2.1 hf.2.2.2.2 (by rw [← hf.2.2.1]; have := Nat.mod_lt n (show 0 < baseN t.bs n by omega); omega)
      have hsc := scan_split (t := t) (k := topOf t.bs n) (hd := if 1 < n / baseN t.bs n then nameN t.us t.bs t.ns (n / baseN t.bs n) else []) (tl := if n % baseN t.bs n = 0 then [] else nameN t.us t.bs t.ns (n % baseN t.bs n)) (x := t.ns.getD (topOf t.bs n - 1) ByteArray.empty)
        (by rw [bv_name hok (by omega)]; omega)
        (fun y hy => by
          split at hy
          · have := name_bv hok _ hd.1 y hy; omega
          · cases hy)
        (fun y hy => by
          split at hy
          · cases hy
          · have := name_bv hok _ (by omega) y hy; omega)
        (by omega)
      have hp' : nameT t n = _ := hp
      have hne' := hne
      rw [hp'] at hne' ⊢
      have hmul : (baseN t.bs n : Int) * ((n / baseN t.bs n : Nat) : Int) + ((n % baseN t.bs n : Nat) : Int) = n := by
        have := Nat.div_add_mod n (baseN t.bs n)
        exact_mod_cast this
      rw [valV_top hne' hsc ht (many := ((n / baseN t.bs n : Nat) : Int)) (rest := ((n % baseN t.bs n : Nat) : Int)) ?hm ?hr, if_neg (by omega), ← hf.2.2.1, Int.mul_comm, hmul]
      · omega
      case hm =>
        by_cases h1 : 1 < n / baseN t.bs n
        · have hv := ih _ hd.2.1 hd.1 (by omega) (g2 h1)
          have hpos : 0 < (nameN t.us t.bs t.ns (n / baseN t.bs n)).length := by
            have : (nameN t.us t.bs t.ns (n / baseN t.bs n)).length ≠ 0 := fun e => g2 h1 (List.eq_nil_of_length_eq_zero e)
            omega
          rw [if_pos h1, if_pos hpos, List.append_assoc, List.take_left]
          exact hv.symm
        · rw [if_neg h1, if_neg (by simp)]
          omega
      case hr =>
        have hl : ((if 1 < n / baseN t.bs n then nameN t.us t.bs t.ns (n / baseN t.bs n) else []) ++ [t.ns.getD (topOf t.bs n - 1) ByteArray.empty]).length = (if 1 < n / baseN t.bs n then nameN t.us t.bs t.ns (n / baseN t.bs n) else []).length + 1 := by simp
        rw [← hl, List.drop_left]
        by_cases h0 : n % baseN t.bs n = 0
        · rw [if_pos h0, valV_nil, h0]; rfl
        · rw [if_neg h0]
          exact (ih _ hd.2.2.1 (by omega) (by omega) (g3 h0)).symm
end Go.Proofs.YteemgkabhkdeaaaDoor
