/-
  GN: MathN N3 N4 N5 N6 MathG MathR MathS R5m THold R9m R4 R5 R6 R7 R8 R9 Same.
-/
import Derived.Test.YtmhgpbfogdoaeaaGreatDoorRjGA
import Derived.Test.YtmhgpbfogdoaeaaGreatDoorRjGB
import Derived.Lib.QuietBelow
import Derived.Test.YtmhgpbfogdoaeaaGreatDoorRjRcut
import Derived.Deep.RegionHeld3
/- MathN -/
namespace Go.Proofs.YtmhgpbfogdoaeaaGreatDoor

/-- The place of the greatest base that is at most a number, among the first k; 0 if there is none but the first. -/
def topTo (bs : List Int) (n : Int) : Nat → Nat
  | 0 => 0
  | k + 1 => if 1 ≤ k ∧ bs.getD k 0 ≤ n then k else topTo bs n k
def topOf (bs : List Int) (n : Int) : Nat := topTo bs n bs.length

theorem topTo_at (bs : List Int) (n : Int) : ∀ k, topTo bs n k = 0 ∨ (1 ≤ topTo bs n k ∧ topTo bs n k < k ∧ bs.getD (topTo bs n k) 0 ≤ n) := by
  intro k
  induction k with
  | zero => exact .inl rfl
  | succ k ih =>
    rw [topTo]
    by_cases h : 1 ≤ k ∧ bs.getD k 0 ≤ n
    · rw [if_pos h]; exact .inr ⟨h.1, by omega, h.2⟩
    · rw [if_neg h]
      rcases ih with e | ⟨h1, h2, h3⟩
      · exact .inl e
      · exact .inr ⟨h1, by omega, h3⟩
theorem topTo_above (bs : List Int) (n : Int) : ∀ k i, topTo bs n k < i → i < k → n < bs.getD i 0 := by
  intro k
  induction k with
  | zero => intro i _ h; omega
  | succ k ih =>
    intro i h1 h2
    rw [topTo] at h1
    by_cases h : 1 ≤ k ∧ bs.getD k 0 ≤ n
    · rw [if_pos h] at h1; omega
    · rw [if_neg h] at h1
      by_cases e : i = k
      · subst e
        have : ¬ bs.getD i 0 ≤ n := fun hn => h ⟨by omega, hn⟩
        omega
      · exact ih i h1 (by omega)
theorem topOf_eq {bs : List Int} {n : Int} {k : Nat} (h1 : 1 ≤ k) (hk : k < bs.length) (hn : bs.getD k 0 ≤ n) (ha : ∀ i, k < i → i < bs.length → n < bs.getD i 0) : topOf bs n = k := by
  rcases Nat.lt_trichotomy (topOf bs n) k with h | h | h
  · have := topTo_above bs n bs.length k h hk; omega
  · exact h
  · rcases topTo_at bs n bs.length with e | ⟨_, h2, h3⟩
    · have : topOf bs n = 0 := e
      omega
    · have h2' : topOf bs n < bs.length := h2
      have h3' : bs.getD (topOf bs n) 0 ≤ n := h3
      have := ha _ h h2'; omega
theorem topOf_zero {bs : List Int} {n : Int} (ha : ∀ i, 1 ≤ i → i < bs.length → n < bs.getD i 0) : topOf bs n = 0 := by
  rcases topTo_at bs n bs.length with e | ⟨h1, h2, h3⟩
  · exact e
  · have := ha _ h1 h2; omega

/-- The greatest base that is at most a number. -/
def baseN (bs : List Int) (n : Nat) : Nat := (bs.getD (topOf bs n) 0).toNat
theorem bases_mono {bs : List Int} (hb : basesOk bs = true) : ∀ i j, i < j → j < bs.length → bs.getD i 0 < bs.getD j 0 := by
  intro i j hij
  induction j with
  | zero => omega
  | succ j ih =>
    intro hj
    have hs := bases_lt hb hj
    by_cases e : i = j
    · subst e; exact hs
    · have := ih (by omega) (by omega); omega
theorem base_facts {bs : List Int} (hb : basesOk bs = true) {n : Nat} (ht : topOf bs n ≠ 0) : 2 ≤ baseN bs n ∧ baseN bs n ≤ n ∧ (baseN bs n : Int) = bs.getD (topOf bs n) 0 ∧ topOf bs n < bs.length ∧ 1 ≤ topOf bs n := by
  rcases topTo_at bs n bs.length with e | ⟨h1, h2, h3⟩
  · exact absurd e ht
  · have h1' : 1 ≤ topOf bs n := h1
    have h2' : topOf bs n < bs.length := h2
    have h3' : bs.getD (topOf bs n) 0 ≤ n := h3
    have hm := bases_mono hb 0 (topOf bs n) (by omega) h2'
    rw [bases_one hb] at hm
    unfold baseN
    omega
theorem div_pos' {n b : Nat} (h1 : 2 ≤ b) (h2 : b ≤ n) : 1 ≤ n / b ∧ n / b < n ∧ n % b < n ∧ n / b + n % b + 1 ≤ n := by
  have h := Nat.div_add_mod n b
  have h3 : 1 ≤ n / b := (Nat.one_le_div_iff (by omega)).2 h2
  have h4 : n % b < b := Nat.mod_lt _ (by omega)
  have h5 : 2 * (n / b) ≤ b * (n / b) := Nat.mul_le_mul_right _ h1
  refine ⟨h3, by omega, by omega, by omega⟩

/-- The words of the name of a number; none if it has none. -/
def nameN (us : List ByteArray) (bs : List Int) (ns : List ByteArray) (n : Nat) : List ByteArray :=
  if topOf bs n = 0 then (if us.length < n then [] else [us.getD (n - 1) ByteArray.empty])
  else if _h : 2 ≤ baseN bs n ∧ baseN bs n ≤ n then
    if baseN bs n ≤ n / baseN bs n then [] else
    if 1 < n / baseN bs n ∧ nameN us bs ns (n / baseN bs n) = [] then [] else
    if n % baseN bs n ≠ 0 ∧ nameN us bs ns (n % baseN bs n) = [] then [] else
    (if 1 < n / baseN bs n then nameN us bs ns (n / baseN bs n) else []) ++ [ns.getD (topOf bs n - 1) ByteArray.empty] ++ (if n % baseN bs n = 0 then [] else nameN us bs ns (n % baseN bs n))
  else []
termination_by n
decreasing_by
  all_goals have hd := div_pos' _h.1 _h.2
  all_goals omega

section
variable {us : List ByteArray} {bs : List Int} {ns : List ByteArray} {n : Nat}
theorem name_unit (ht : topOf bs n = 0) : nameN us bs ns n = if us.length < n then [] else [us.getD (n - 1) ByteArray.empty] := by
  rw [nameN, if_pos ht]
theorem name_top (hb : basesOk bs = true) (ht : topOf bs n ≠ 0) : nameN us bs ns n =
    if baseN bs n ≤ n / baseN bs n then [] else
    if 1 < n / baseN bs n ∧ nameN us bs ns (n / baseN bs n) = [] then [] else
    if n % baseN bs n ≠ 0 ∧ nameN us bs ns (n % baseN bs n) = [] then [] else
    (if 1 < n / baseN bs n then nameN us bs ns (n / baseN bs n) else []) ++ [ns.getD (topOf bs n - 1) ByteArray.empty] ++ (if n % baseN bs n = 0 then [] else nameN us bs ns (n % baseN bs n)) := by
  have h := base_facts hb ht
  rw [nameN, if_neg ht, dif_pos ⟨h.1, h.2.1⟩]
theorem name_over (hb : basesOk bs = true) (ht : topOf bs n ≠ 0) (h : baseN bs n ≤ n / baseN bs n) : nameN us bs ns n = [] := by
  rw [name_top hb ht, if_pos h]
theorem name_nohead (hb : basesOk bs = true) (ht : topOf bs n ≠ 0) (h1 : 1 < n / baseN bs n) (h : nameN us bs ns (n / baseN bs n) = []) : nameN us bs ns n = [] := by
  rw [name_top hb ht]
  split
  · rfl
  · rw [if_pos ⟨h1, h⟩]
theorem name_norest (hb : basesOk bs = true) (ht : topOf bs n ≠ 0) (h1 : n % baseN bs n ≠ 0) (h : nameN us bs ns (n % baseN bs n) = []) : nameN us bs ns n = [] := by
  rw [name_top hb ht]
  split
  · rfl
  · split
    · rfl
    · rw [if_pos ⟨h1, h⟩]
/-- The parts of a name. -/
theorem name_parts (hb : basesOk bs = true) (ht : topOf bs n ≠ 0) (h0 : n / baseN bs n < baseN bs n) (h1 : 1 < n / baseN bs n → nameN us bs ns (n / baseN bs n) ≠ []) (h2 : n % baseN bs n ≠ 0 → nameN us bs ns (n % baseN bs n) ≠ []) :
    nameN us bs ns n = (if 1 < n / baseN bs n then nameN us bs ns (n / baseN bs n) else []) ++ [ns.getD (topOf bs n - 1) ByteArray.empty] ++ (if n % baseN bs n = 0 then [] else nameN us bs ns (n % baseN bs n)) := by
  rw [name_top hb ht, if_neg (by omega), if_neg (fun h => h1 h.1 h.2), if_neg (fun h => h2 h.1 h.2)]
theorem name_len (us : List ByteArray) (bs : List Int) (ns : List ByteArray) (hb : basesOk bs = true) : ∀ n, 1 ≤ n → (nameN us bs ns n).length ≤ n := by
  intro n
  induction n using Nat.strongRecOn with
  | _ n ih =>
    intro hn
    by_cases ht : topOf bs n = 0
    · rw [name_unit ht]; split <;> simp <;> omega
    · have hf := base_facts hb ht
      have hd := div_pos' hf.1 hf.2.1
      have i1 := ih _ hd.2.1 hd.1
      rw [name_top hb ht]
      split
      · simp
      · split
        · simp
        · split
          · simp
          · by_cases h0 : n % baseN bs n = 0
            · rw [if_pos h0]
              split <;> simp <;> omega
            · have i2 := ih _ hd.2.2.1 (by omega)
              rw [if_neg h0]
              split <;> simp <;> omega
theorem name_mem (us : List ByteArray) (bs : List Int) (ns : List ByteArray) (hb : basesOk bs = true) (hns : ns.length + 1 = bs.length) : ∀ n, 1 ≤ n → ∀ x ∈ nameN us bs ns n, x ∈ us ++ ns := by
  intro n
  induction n using Nat.strongRecOn with
  | _ n ih =>
    intro hn x hx
    by_cases ht : topOf bs n = 0
    · rw [name_unit ht] at hx
      split at hx
      · cases hx
      · have hlt : n - 1 < us.length := by omega
        have : x = us[n - 1] := by simpa [List.getD_eq_getElem?_getD, hlt] using hx
        rw [this]; exact List.mem_append.2 (.inl (List.getElem_mem hlt))
    · have hf := base_facts hb ht
      have hd := div_pos' hf.1 hf.2.1
      rw [name_top hb ht] at hx
      split at hx
      · cases hx
      · split at hx
        · cases hx
        · split at hx
          · cases hx
          · rcases List.mem_append.1 hx with h | h
            · rcases List.mem_append.1 h with h | h
              · split at h
                · exact ih _ hd.2.1 hd.1 x h
                · cases h
              · have hlt : topOf bs n - 1 < ns.length := by omega
                have : x = ns[topOf bs n - 1] := by simpa [List.getD_eq_getElem?_getD, hlt] using h
                rw [this]; exact List.mem_append.2 (.inr (List.getElem_mem hlt))
            · split at h
              · cases h
              · rename_i h0; exact ih _ hd.2.2.1 (by omega) x h
end

/-- The place of the base that bounds what is named. -/
def grGo (bs : List Int) (k : Nat) : Nat → Nat
  | 0 => k
  | f + 1 => if k + 1 < bs.length ∧ bs.getD (k + 1) 0 ≤ bs.getD k 0 * bs.getD k 0 then grGo bs (k + 1) f else k
def grAt (bs : List Int) : Nat := grGo bs 1 bs.length
/-- What is known of the place k while it is looked for. -/
def GrTo (bs : List Int) (k : Nat) : Prop := 1 ≤ k ∧ k < bs.length ∧ ∀ i, 1 ≤ i → i < k → bs.getD (i + 1) 0 ≤ bs.getD i 0 * bs.getD i 0
theorem grGo_spec (bs : List Int) : ∀ f k, GrTo bs k → bs.length ≤ k + f → GrTo bs (grGo bs k f) ∧ (grGo bs k f + 1 < bs.length → bs.getD (grGo bs k f) 0 * bs.getD (grGo bs k f) 0 < bs.getD (grGo bs k f + 1) 0) := by
  intro f
  induction f with
  | zero => intro k h hl; exact ⟨h, fun h2 => by unfold grGo at h2; omega⟩
  | succ f ih =>
    intro k h hl
    rw [grGo]
    by_cases hc : k + 1 < bs.length ∧ bs.getD (k + 1) 0 ≤ bs.getD k 0 * bs.getD k 0
    · rw [if_pos hc]
      refine ih (k + 1) ⟨by omega, hc.1, fun i h1 h2 => ?_⟩ (by omega)
      by_cases e : i = k
      · subst e; exact hc.2
      · exact h.2.2 i h1 (by omega)
    · rw [if_neg hc]
      exact ⟨h, fun h2 => by
        have : ¬ bs.getD (k + 1) 0 ≤ bs.getD k 0 * bs.getD k 0 := fun h3 => hc ⟨h2, h3⟩
        omega⟩
theorem gr_at {bs : List Int} (hl : 2 ≤ bs.length) : GrTo bs (grAt bs) ∧ (grAt bs + 1 < bs.length → bs.getD (grAt bs) 0 * bs.getD (grAt bs) 0 < bs.getD (grAt bs + 1) 0) :=
  grGo_spec bs bs.length 1 ⟨Nat.le_refl _, by omega, fun i _ _ => by omega⟩ (by omega)

section
variable {us : List ByteArray} {bs : List Int} {ns : List ByteArray}
theorem mul_nat {x : Int} {b : Nat} (h : (b : Int) = x) : x * x = ((b * b : Nat) : Int) := by rw [← h]; push_cast; rfl
/-- The number behind the last one that is named has no name. -/
theorem unnamed_at (hb : basesOk bs = true) (h2 : 2 ≤ bs.length) {n : Nat} (hn : (n : Int) = bs.getD (grAt bs) 0 * bs.getD (grAt bs) 0) : nameN us bs ns n = [] := by
  obtain ⟨hg, hge⟩ := gr_at h2
  have hp := bases_pos hb (grAt bs) hg.2.1
  have hle : bs.getD (grAt bs) 0 ≤ n := by
    rw [hn]
    have := Int.mul_le_mul_of_nonneg_right hp.1 (show (0 : Int) ≤ bs.getD (grAt bs) 0 by omega)
    omega
  have ht : topOf bs n = grAt bs := topOf_eq hg.1 hg.2.1 hle (fun i hi hl => by
    have h5 := hge (by omega)
    have h6 : bs.getD (grAt bs + 1) 0 ≤ bs.getD i 0 := by
      by_cases e : grAt bs + 1 = i
      · rw [e]; exact Int.le_refl _
      · exact Int.le_of_lt (bases_mono hb _ _ (by omega) hl)
    omega)
  have h0 : topOf bs n ≠ 0 := by have := hg.1; omega
  have hf := base_facts hb h0
  have hbb : n = baseN bs n * baseN bs n := by
    have hm := mul_nat hf.2.2.1
    rw [ht, ← hn] at hm
    omega
  refine name_over hb h0 ?_
  exact Nat.le_of_eq (Nat.div_eq_of_eq_mul_left (by omega) hbb).symm
end
end Go.Proofs.YtmhgpbfogdoaeaaGreatDoor

/- N3 -/
namespace Go.Proofs.YtmhgpbfogdoaeaaGreatDoor
open Go.RowKit

theorem topTo_one (bs : List Int) (n : Int) : topTo bs n 1 = 0 := by simp [topTo]

set_option maxHeartbeats 1000000 in
theorem specTop_any (v : Value) (t : Tg) (n : Int) (w : World) (h : Tng w v t) (hl : 1 ≤ t.bs.length) (hl5 : t.bs.length ≤ 1048576) :
    Calls Tryz.prog 131 #[v, .int .i64 n] w fun e w' => e = .returned (.int .i64 (topOf t.bs n)) ∧ Below w.heap.size w w' := by
  obtain ⟨A1, c1, A2, c2, A3, c3, rfl, -, h2, -⟩ := h.ex
  have hBel := (Below.refl w.heap.size w).alloc (Nat.le_refl _) (.cells #[.slice A1 t.us.length c1, .slice A2 t.bs.length c2, .slice A3 t.ns.length c3] 31)
  have HI := h2.below hBel (Nat.le_refl _)
  have HX := Blk.new w 31 #[.slice A1 t.us.length c1, .slice A2 t.bs.length c2, .slice A3 t.ns.length c3]
  replace hBel := Lib.hid hBel
  replace HX := Lib.hid HX
  replace HI := Lib.hid HI
  clear h h2
  go_enter Tryz.func131, Tryz.ntmps131
  go_upto_region 1 with (fail)
  generalize w.alloc (.cells #[.slice A1 t.us.length c1, .slice A2 t.bs.length c2, .slice A3 t.ns.length c3] 31) = W at *
  obtain ⟨b, o, rfl, -, hc⟩ := HI.out.at_ (by omega)
  obtain ⟨x0, x1, x2, -, -, -⟩ := blk3 HX.out
  replace hc := Lib.hid hc
  clear HX HI
  go_wp2
  go_loop [5, 6] (fun s5 s6 => ∃ k : Nat, 1 ≤ k ∧ k ≤ t.bs.length ∧ s6 = .int .i64 k ∧ s5 = .int .i64 (topTo t.bs n k)) (fun _ i => t.bs.length - (intOf i).toNat)
  case atStart => exact ⟨1, Nat.le_refl _, hl, rfl, by rw [topTo_one]; rfl⟩
  case round =>
    obtain ⟨k, h1, hk, rfl, rfl⟩ := hrel
    by_cases hlt : k < t.bs.length
    · have ck := hc.out k hlt
      have HT : topTo t.bs n (k + 1) = if 1 ≤ k ∧ t.bs.getD k 0 ≤ n then k else topTo t.bs n k := rfl
      generalize t.bs.getD k 0 = x at *
      by_cases hx : x ≤ n
      · rw [if_pos ⟨h1, hx⟩] at HT
        replace HT := Lib.hid HT
        go_wp2
        go_round
        case rel => exact ⟨k + 1, by omega, by omega, by go_num, by rw [HT.out]⟩
        case measure => simp [intOf]; omega
      · rw [if_neg (fun h => hx h.2)] at HT
        replace HT := Lib.hid HT
        go_wp2
        go_round
        case rel => exact ⟨k + 1, by omega, by omega, by go_num, by rw [HT.out]⟩
        case measure => simp [intOf]; omega
    · obtain rfl : k = t.bs.length := by omega
      go_wp2
      go_ret
      exact ⟨rfl, hBel.out⟩

theorem ret_none {w w1 : World} (hb : Below w.heap.size w w1) : RetStrs w [] (.returned (.slice (some ⟨w1.heap.size, 0, none⟩) 0 0)) (w1.alloc (.cells #[] 9)) :=
  ⟨_, rfl, owns_empty (Blk.new _ _ _) hb.size, hb.alloc hb.size _⟩
theorem ret_one {w w1 : World} (hb : Below w.heap.size w w1) (x : ByteArray) : RetStrs w [x] (.returned (.slice (some ⟨w1.heap.size, 0, none⟩) 1 1)) (w1.alloc (.cells #[.string x] 9)) :=
  ⟨_, rfl, owns_blk (xs := [.string x]) (Blk.new _ _ _) rfl hb.size (by unfold maxLen; omega), hb.alloc hb.size _⟩
abbrev nameT (t : Tg) (n : Nat) : List ByteArray := nameN t.us t.bs t.ns n

set_option maxRecDepth 100000 in
set_option maxHeartbeats 4000000 in
theorem specName_any {t : Tg} (hok : t.ok = true) : ∀ n : Nat, 1 ≤ n → n ≤ 99999 → ∀ (v : Value) (w : World), Tng w v t →
    Calls Tryz.prog 102 #[v, .int .i64 n] w (RetStrs w (nameT t n)) := by
  obtain ⟨i0, hi, hz0, hz1, hz2⟩ := info_parts str_info
  intro n
  induction n using Nat.strongRecOn with
  | _ n ih =>
    intro hn1 hn2 v w h
    have hsh := ok_shape hok
    have hul := hsh.us
    have hbs := hsh.bs
    have hbl := bases_len hbs
    have hns := hsh.ns
    have IH := Lib.hid (fun m (h1 : m < n) (h2 : 1 ≤ m) => ih m h1 h2 (by omega))
    have HL := Lib.hid (name_len t.us t.bs t.ns hbs)
    obtain ⟨A1, c1, A2, c2, A3, c3, rfl, -⟩ := h.ex
    have hB := (Below.refl w.heap.size w).alloc (Nat.le_refl _) (.cells #[.slice A1 t.us.length c1, .slice A2 t.bs.length c2, .slice A3 t.ns.length c3] 31)
    have HX := Blk.new w 31 #[.slice A1 t.us.length c1, .slice A2 t.bs.length c2, .slice A3 t.ns.length c3]
    have HT := h.below hB (Nat.le_refl _)
    have K1 := Lib.hid (specTop_any _ t n _ HT (by omega) (by omega))
    replace hB := Lib.hid hB
    replace HX := Lib.hid HX
    replace HT := Lib.hid HT
    replace hbs := Lib.hid hbs
    clear ih h hsh
    go_enter Tryz.func102, Tryz.ntmps102
    go_upto_region 1 with (fail)
    generalize w.alloc (.cells #[.slice A1 t.us.length c1, .slice A2 t.bs.length c2, .slice A3 t.ns.length c3] 31) = W at *
    obtain ⟨x0, x1, x2, -, -, -⟩ := blk3 HX.out
    go_wp2_with (fail)
    refine K1.out.mono ?_
    rintro e w1 ⟨rfl, b1⟩
    replace hB := Lib.hid (hB.out.trans (b1.mono hB.out.size))
    replace HX := Lib.hid (HX.out.below b1 HX.out.lt)
    replace HT := Lib.hid (HT.out.below b1 (Nat.le_refl _))
    clear b1 x0 x1 x2 K1
    obtain ⟨x0, x1, x2, -, -, -⟩ := blk3 HX.out
    obtain ⟨_, _, _, _, _, _, ev, S1, I2, S3⟩ := HT.out.ex
    cases ev
    by_cases ht : topOf t.bs n = 0
    · have hN := name_unit (us := t.us) (ns := t.ns) ht
      rw [ht]
      replace ht := Lib.hid ht
      by_cases hgt : t.us.length < n
      · rw [if_pos hgt] at hN
        have hgt' : (t.us.length : Int) < n := by omega
        replace hN := Lib.hid hN
        clear S1 I2 S3
        go_wp2
        go_ret
        rw [nameT, hN.out]
        exact ret_none hB.out
      · rw [if_neg hgt] at hN
        have hgt' : ¬ (t.us.length : Int) < n := by omega
        obtain ⟨b, o, rfl, -, hc⟩ := S1.at_ (by omega)
        have ck := hc (n - 1) (by omega)
        generalize t.us.getD (n - 1) ByteArray.empty = x at *
        replace hN := Lib.hid hN
        clear S1 I2 S3 hc
        go_wp2
        go_ret
        rw [nameT, hN.out]
        exact ret_one hB.out x
    · obtain ⟨f1, f2, f3, f4, f5⟩ := base_facts hbs.out ht
      have hd' := div_pos' f1 f2
      have N1 := fun h => name_over (us := t.us) (ns := t.ns) hbs.out ht h
      have N2 := fun h => name_nohead (us := t.us) (ns := t.ns) hbs.out ht h
      have N3 := fun h => name_norest (us := t.us) (ns := t.ns) hbs.out ht h
      have N4 := fun h => name_parts (us := t.us) (ns := t.ns) hbs.out ht h
      have e1 : (n : Int) / (baseN t.bs n : Int) = ((n / baseN t.bs n : Nat) : Int) := rfl
      have e2 : (n : Int) % (baseN t.bs n : Int) = ((n % baseN t.bs n : Nat) : Int) := rfl
      obtain ⟨b2, o2, rfl, hb2, hc2⟩ := I2.at_ (by omega)
      have ck2 := hc2 _ f4
      rw [← f3] at ck2
      obtain ⟨b3, o3, rfl, hb3, hc3⟩ := S3.at_ (by omega)
      have ck3 := hc3 (topOf t.bs n - 1) (by omega)
      have hk0 : ((topOf t.bs n : Int) == 0) = false := by rw [beq_eq_false_iff_ne]; omega
      obtain ⟨d1, d2, d3, d4⟩ := hd'
      have L1 := HL.out _ d1
      have L2 : n % baseN t.bs n ≠ 0 → (nameN t.us t.bs t.ns (n % baseN t.bs n)).length ≤ n := fun h0 => by have := HL.out _ (Nat.one_le_iff_ne_zero.2 h0); omega
      have hbn : baseN t.bs n ≤ 99999 := by omega
      generalize hq : n / baseN t.bs n = q at *
      generalize hr : n % baseN t.bs n = r at *
      generalize baseN t.bs n = b at *
      generalize topOf t.bs n = k at *
      generalize t.ns.getD (k - 1) ByteArray.empty = nm at *
      replace N1 := Lib.hid N1
      replace N2 := Lib.hid N2
      replace N3 := Lib.hid N3
      replace N4 := Lib.hid N4
      replace L1 := Lib.hid L1
      replace L2 := Lib.hid L2
      replace e1 := Lib.hid e1
      replace e2 := Lib.hid e2
      replace ht := Lib.hid ht
      replace hq := Lib.hid hq
      replace hr := Lib.hid hr
      replace f3 := Lib.hid f3
      clear hc2 hc3 S1 I2 S3 HL
      have IHq : ∀ (v : Value) (w : World), Tng w v t → Calls Tryz.prog 102 #[v, .int .i64 q] w (RetStrs w (nameN t.us t.bs t.ns q)) := fun v w h => IH.out q d2 d1 v w h
      have IHr : r ≠ 0 → ∀ (v : Value) (w : World), Tng w v t → Calls Tryz.prog 102 #[v, .int .i64 r] w (RetStrs w (nameN t.us t.bs t.ns r)) := fun h0 v w h => IH.out r d3 (Nat.one_le_iff_ne_zero.2 h0) v w h
      replace IHq := Lib.hid IHq
      replace IHr := Lib.hid IHr
      generalize nameN t.us t.bs t.ns q = qs at *
      generalize nameN t.us t.bs t.ns r = rs at *
      clear IH
      go_upto_region 7 with (fail)
      have hA := (Below.refl w1.heap.size w1).alloc (Nat.le_refl _) (.cells #[] 9)
      have own6 := owns_empty (Blk.new w1 9 #[]) hB.out.size
      have hs17 : w1.heap.size < (w1.alloc (.cells #[] 9)).heap.size := by simp
      replace hB := Lib.hid (hB.out.trans (hA.mono hB.out.size))
      replace HX := Lib.hid (HX.out.below hA HX.out.lt)
      replace HT := Lib.hid (HT.out.below hA (Nat.le_refl _))
      replace ck2 := (hA.cell (p := ⟨b2, o2 + k, none⟩) hb2).trans ck2
      replace ck3 := (hA.cell (p := ⟨b3, o3 + (k - 1), none⟩) hb3).trans ck3
      replace hb2 : b2 < (w1.alloc (.cells #[] 9)).heap.size := Nat.lt_of_lt_of_le hb2 hA.size
      replace hb3 : b3 < (w1.alloc (.cells #[] 9)).heap.size := Nat.lt_of_lt_of_le hb3 hA.size
      replace own6 := Lib.hid own6
      clear hA x0 x1 x2
      generalize w1.alloc (.cells #[] 9) = W7 at *
      obtain ⟨x0, x1, x2, -, -, -⟩ := blk3 HX.out
      have q0 : (0 : Int) ≤ (n : Int) / (b : Int) := by rw [e1.out]; omega
      have q1 : (n : Int) / (b : Int) ≤ 99999 := by rw [e1.out]; omega
      go_upto_region 8 with (fail)
      rw [e1.out]
      clear q0 q1
      by_cases hov : b ≤ q
      · have hov' : (b : Int) ≤ (q : Int) := by omega
        have hno := Lib.hid (N1.out hov)
        go_wp2
        go_ret
        rw [nameT, hno.out]
        exact ret_none hB.out
      · have hov' : ¬ (b : Int) ≤ (q : Int) := by omega
        by_cases h1 : 1 < q
        · have h1' : (1 : Int) < (q : Int) := by omega
          have K6 := Lib.hid (IHq.out _ W7 HT.out)
          go_wp2_with (fail)
          refine K6.out.mono ?_
          rintro e W2 ⟨v6, rfl, o6, b6⟩
          obtain ⟨A6, c6, rfl, -⟩ := o6.strs
          by_cases hqs : qs = []
          · have hl0 : qs.length = 0 := by rw [hqs]; rfl
            have o6' : OwnStrs W2 w.heap.size (.slice A6 0 c6) [] := by
              have := o6.mono hB.out.size
              rw [hqs] at this
              exact this
            have hno := Lib.hid (N2.out h1 hqs)
            have hB6 := Lib.hid (hB.out.trans (b6.mono hB.out.size))
            rw [hl0]
            replace o6' := Lib.hid o6'
            replace hqs := Lib.hid hqs
            clear o6 b6 hl0
            go_wp2
            go_ret
            rw [nameT, hno.out]
            exact ⟨_, rfl, o6'.out, hB6.out⟩
          · have hl0 : qs.length ≠ 0 := fun h => hqs (List.eq_nil_of_length_eq_zero h)
            have hl0' : ((qs.length : Int) == 0) = false := by rw [beq_eq_false_iff_ne]; omega
            obtain ⟨hd, hhd⟩ : ∃ hd, hd = qs := ⟨_, rfl⟩
            have hNN : (r ≠ 0 → rs ≠ []) → nameN t.us t.bs t.ns n = hd ++ [nm] ++ (if r = 0 then [] else rs) := fun h => by
              have := N4.out (by omega) (fun _ => hqs) h
              rw [if_pos h1] at this
              rw [this, hhd]
            have hdl : hd.length ≤ 99999 := by rw [hhd]; have := L1.out; omega
            have own6 := Lib.hid (o6.mono hB.out.size)
            have hB2 := Lib.hid (hB.out.trans (b6.mono hB.out.size))
            have HX2 := Lib.hid (HX.out.below b6 HX.out.lt)
            have HT2 := Lib.hid (HT.out.below b6 (Nat.le_refl _))
            replace ck2 := (b6.cell (p := ⟨b2, o2 + k, none⟩) hb2).trans ck2
            replace ck3 := (b6.cell (p := ⟨b3, o3 + (k - 1), none⟩) hb3).trans ck3
            replace hb2 : b2 < W2.heap.size := Nat.lt_of_lt_of_le hb2 b6.size
            replace hb3 : b3 < W2.heap.size := Nat.lt_of_lt_of_le hb3 b6.size
            have hw2 := Lib.hid hB2.out.size
            rw [← hhd] at own6 hl0' ⊢
            replace hNN := Lib.hid hNN
            replace hqs := Lib.hid hqs
            replace hhd := Lib.hid hhd
            clear o6 b6 hl0 x0 x1 x2 hB HX HT
            obtain ⟨_, _, ev6, s6⟩ := own6.out.strs
            cases ev6
            have HX2c := blk3 HX2.out
            obtain ⟨x0, x1, x2, -, -, -⟩ := HX2c
            have hXlt := HX2.out.lt
            have HSrc := Lib.hid (fun W' (hb : Below W2.heap.size W2 W') => (s6.below hb (Nat.le_refl _)).src)
            have hXk := Lib.hid (fun W' (hb : Below W2.heap.size W2 W') => blk3 (HX2.out.below hb HX2.out.lt))
            have hnk := Lib.hid (fun W' (hb : Below W2.heap.size W2 W') => (hb.cell (p := ⟨b3, o3 + (k - 1), none⟩) hb3).trans ck3)
            have k1 := Lib.hid (show 0 + hd.length ≤ maxLen by unfold maxLen; omega)
            have k2 := Lib.hid (show (0 + hd.length) * 16 ≤ 140737488355328 by omega)
            have k3 := Lib.hid (show 0 + hd.length + 1 ≤ maxLen by unfold maxLen; omega)
            have k4 := Lib.hid (show (0 + hd.length + 1) * 16 ≤ 140737488355328 by omega)
            have ck3' := ck3
            clear s6 ck3
            have kk1 : (0 : Int) ≤ (k : Int) - 1 := by omega
            have kk2 : (k : Int) - 1 < (t.ns.length : Int) := by omega
            have kk3 : ((k : Int) - 1).toNat = k - 1 := by omega
            have kk4 : IntKind.i64.wrap ((k : Int) - 1) = (k : Int) - 1 := IntWalk.i64_in _ (by omega)
            have kk5 : (1 : Int) ≤ (k : Int) := by omega
            have bA := Lib.hid (((Below.refl W2.heap.size W2).alloc (Nat.le_refl _) (.cells #[] 9)).drew)
            have bB := Lib.hid ((((Below.refl W2.heap.size W2).alloc (Nat.le_refl _) (.cells #[] 9)).alloc (by simp) (.cells #[.string nm] 9)).drew)
            have bC := Lib.hid ((((Below.refl W2.heap.size W2).alloc (Nat.le_refl _) (.cells #[.string nm] 9)).alloc (by simp) (.cells #[] 9)).drew)
            have bk0 : Blk (W2.alloc (.cells #[] 9)) W2.heap.size 9 #[] := Blk.new _ _ _
            have bk1 : Blk (W2.alloc (.cells #[.string nm] 9)) W2.heap.size 9 #[.string nm] := Blk.new _ _ _
            have bkB := Lib.hid ((blk_new_at (w := W2.alloc (.cells #[] 9)) (t := 9) (cs := #[.string nm]) (W2.heap.size + 1) (by simp)).drew)
            have bkC := Lib.hid ((bk1.alloc (.cells #[] 9)).drew)
            have oA := Lib.hid (owns_empty (B := W2.heap.size) bk0.drew (Nat.le_refl _))
            have oB := Lib.hid (owns_empty (B := W2.heap.size) (bk0.alloc (.cells #[.string nm] 9)).drew (Nat.le_refl _))
            have oC := Lib.hid (owns_empty (B := W2.heap.size) ((blk_new_at (w := W2.alloc (.cells #[.string nm] 9)) (t := 9) (cs := #[]) (W2.heap.size + 1) (by simp)).drew) (by omega))
            clear bk0 bk1
            go_upto_region 14 with (fail)
            go_region_held3 (fun w' => (w'.cell? ⟨w.heap.size, 0, none⟩ = some (.slice A1 t.us.length c1) ∧ w'.cell? ⟨w.heap.size, 1, none⟩ = some (.slice (some ⟨b2, o2, none⟩) t.bs.length c2) ∧ w'.cell? ⟨w.heap.size, 2, none⟩ = some (.slice (some ⟨b3, o3, none⟩) t.ns.length c3)) ∧ w'.cell? ⟨b3, o3 + (k - 1), none⟩ = some (.string nm))
              (first | go_keep | exact hS5 | exact hS6)
              (first
                | (refine step_app _ (by rfl) (.tmp 53) (.tmp 54) _ (by rfl) W2.heap.size 9 i0 _ 16 Tryz.underlying28 hi hz0 hz1 hz2 rfl (.slice (some ⟨W2.heap.size, 0, none⟩) 0 0) 0 [] (by rfl) oA.out A6 _ c6 _ (by rfl) (HSrc.out _ bA.out) k1.out k2.out bA.out.size ?_; intro v5 w5 ho5 hg5 _; have hB5 := below_own (w := W2) (S := W2.heap.size) bA.out oA.out hg5 bA.out.size (Nat.le_refl _); have hk5 : True := trivial; obtain ⟨x0', x1', x2', -, -, -⟩ := hXk.out _ hB5; have hS5 := And.intro (And.intro x0' (And.intro x1' x2')) (hnk.out _ hB5); replace ho5 := Lib.hid ho5; replace hB5 := Lib.hid hB5; replace hk5 := Lib.hid hk5; clear hg5)
                | (refine step_app _ (by rfl) (.tmp 53) (.tmp 54) _ (by rfl) W2.heap.size 9 i0 _ 16 Tryz.underlying28 hi hz0 hz1 hz2 rfl (.slice (some ⟨W2.heap.size, 0, none⟩) 0 0) 0 [] (by rfl) oB.out A6 _ c6 _ (by rfl) (HSrc.out _ bB.out) k1.out k2.out bB.out.size ?_; intro v5 w5 ho5 hg5 _; have hB5 := below_own (w := W2) (S := W2.heap.size) bB.out oB.out hg5 bB.out.size (Nat.le_refl _); have hk5 : Blk w5 (W2.heap.size + 1) 9 #[.string nm] := bkB.out.grown hg5 (by simp [Value.ownBlock]); obtain ⟨x0', x1', x2', -, -, -⟩ := hXk.out _ hB5; have hS5 := And.intro (And.intro x0' (And.intro x1' x2')) (hnk.out _ hB5); replace ho5 := Lib.hid ho5; replace hB5 := Lib.hid hB5; replace hk5 := Lib.hid hk5; clear hg5)
                | (refine step_app _ (by rfl) (.tmp 53) (.tmp 54) _ (by rfl) W2.heap.size 9 i0 _ 16 Tryz.underlying28 hi hz0 hz1 hz2 rfl (.slice (some ⟨W2.heap.size + 1, 0, none⟩) 0 0) 0 [] (by rfl) oC.out A6 _ c6 _ (by rfl) (HSrc.out _ bC.out) k1.out k2.out bC.out.size ?_; intro v5 w5 ho5 hg5 _; have hB5 := below_own (w := W2) (S := W2.heap.size) bC.out oC.out hg5 bC.out.size (Nat.le_refl _); have hk5 : Blk w5 W2.heap.size 9 #[.string nm] := bkC.out.grown hg5 (by simp [Value.ownBlock]); obtain ⟨x0', x1', x2', -, -, -⟩ := hXk.out _ hB5; have hS5 := And.intro (And.intro x0' (And.intro x1' x2')) (hnk.out _ hB5); replace ho5 := Lib.hid ho5; replace hB5 := Lib.hid hB5; replace hk5 := Lib.hid hk5; clear hg5)
                | (refine step_app _ (by rfl) (.tmp 55) (.tmp 62) _ (by rfl) W2.heap.size 9 i0 _ 16 Tryz.underlying28 hi hz0 hz1 hz2 rfl v5 _ _ (by rfl) (World.ownsRow.alloc ho5.out _) (some ⟨w5.heap.size, 0, none⟩) 1 1 [.string nm] (by rfl) (Src.one (Blk.new _ _ _) rfl) k3.out k4.out (by have := hB5.out.size; simp; omega) ?_; intro v6 w6 ho6 hg6 _; have hB6 := below_own (w := W2) (S := W2.heap.size) (hB5.out.alloc hB5.out.size _) (World.ownsRow.alloc ho5.out _) hg6 (by have := hB5.out.size; simp; omega) (Nat.le_refl _); obtain ⟨x0', x1', x2', -, -, -⟩ := hXk.out _ hB6; have hS6 := And.intro (And.intro x0' (And.intro x1' x2')) (hnk.out _ hB6); replace ho6 := Lib.hid ho6; replace hB6 := Lib.hid hB6; clear hg6)
                | (refine step_app _ (by rfl) (.tmp 55) (.tmp 62) _ (by rfl) W2.heap.size 9 i0 _ 16 Tryz.underlying28 hi hz0 hz1 hz2 rfl v5 _ _ (by rfl) ho5.out _ 1 1 [.string nm] (by rfl) (Src.one hk5.out rfl) k3.out k4.out hB5.out.size ?_; intro v6 w6 ho6 hg6 _; have hB6 := below_own (w := W2) (S := W2.heap.size) hB5.out ho5.out hg6 hB5.out.size (Nat.le_refl _); obtain ⟨x0', x1', x2', -, -, -⟩ := hXk.out _ hB6; have hS6 := And.intro (And.intro x0' (And.intro x1' x2')) (hnk.out _ hB6); replace ho6 := Lib.hid ho6; replace hB6 := Lib.hid hB6; clear hg6))
            all_goals
              have ho7 : OwnStrs w6 W2.heap.size v6 (hd ++ [nm]) := by
                have := ho6.out
                unfold OwnStrs
                simpa using this
              have hl7 : (hd ++ [nm]).length = hd.length + 1 := by simp
              have hNN7 := hNN.out
              generalize hd ++ [nm] = hm at *
              obtain ⟨A7, c7, rfl, -⟩ := ho7.strs
              have hB7 := Lib.hid (hB2.out.trans (hB6.out.mono hB2.out.size))
              have HX7 := HX2.out.below hB6.out HX2.out.lt
              have HT7 := Lib.hid (HT2.out.below hB6.out (Nat.le_refl _))
              have ck7 := (hB6.out.cell (p := ⟨b2, o2 + k, none⟩) hb2).trans ck2
              have hs26 := Lib.hid hB6.out.size
              obtain ⟨x0, x1, x2, -, -, -⟩ := blk3 HX7
              clear kk1 kk2 kk3 kk4 kk5
              replace hl7 := Lib.hid hl7
              replace hNN7 := Lib.hid hNN7
              clear hNN
              replace ho7 := Lib.hid ho7
              clear bA bB bC bkB bkC oA oB oC hS5 hS6 ho5 ho6 hB5 hk5 hB6 HX7 HX2 HT2 hB2 HSrc hXk hnk k1 k2 k3 k4 ck3' x0' x1' x2'
              have q0 : (0 : Int) ≤ (n : Int) % (b : Int) := by rw [e2.out]; omega
              have q1 : (n : Int) % (b : Int) ≤ 99999 := by rw [e2.out]; omega
              go_upto_region 16 with (fail)
              rw [e2.out]
              clear q0 q1
              by_cases hr0 : r = 0
              · have hr0' : ((r : Int) == 0) = true := by rw [beq_iff_eq]; omega
                have hNN' := hNN7.out (fun h => absurd hr0 h)
                rw [if_pos hr0, List.append_nil] at hNN'
                replace hNN' := Lib.hid hNN'
                go_wp2
                go_ret
                rw [nameT, hNN'.out]
                exact ⟨_, rfl, ho7.out.mono hw2.out, hB7.out⟩
              · have hr0' : ((r : Int) == 0) = false := by rw [beq_eq_false_iff_ne]; omega
                have K9 := Lib.hid (IHr.out hr0 _ w6 HT7.out)
                have L2' := L2.out hr0
                go_wp2_with (fail)
                refine K9.out.mono ?_
                rintro e w9 ⟨v9, rfl, o9, b9⟩
                obtain ⟨A9, c9, rfl, s9⟩ := o9.strs
                have ho9 := Lib.hid (ho7.out.below b9 (Nat.le_refl _))
                have hB9 := Lib.hid (hB7.out.trans (b9.mono hB7.out.size))
                have hs69 := b9.size
                by_cases hrs : rs = []
                · have hl0 : rs.length = 0 := by rw [hrs]; rfl
                  have o9' : OwnStrs w9 w.heap.size (.slice A9 0 c9) [] := by
                    have := o9.mono hB7.out.size
                    rw [hrs] at this
                    exact this
                  have hno := Lib.hid (N3.out hr0 hrs)
                  rw [hl0]
                  replace o9' := Lib.hid o9'
                  replace hrs := Lib.hid hrs
                  clear o9 s9 ho9 ho7 hl0 b9
                  go_wp2
                  go_ret
                  rw [nameT, hno.out]
                  exact ⟨_, rfl, o9'.out, hB9.out⟩
                · have hl0 : rs.length ≠ 0 := fun h => hrs (List.eq_nil_of_length_eq_zero h)
                  have hl0' : ((rs.length : Int) == 0) = false := by rw [beq_eq_false_iff_ne]; omega
                  have hNN' := hNN7.out (fun _ => hrs)
                  rw [if_neg hr0] at hNN'
                  replace hNN' := Lib.hid hNN'
                  have hs9 := Lib.hid s9.src
                  have m1 := Lib.hid (show hm.length + rs.length ≤ maxLen by rw [hl7.out]; unfold maxLen; omega)
                  have m2 := Lib.hid (show (hm.length + rs.length) * 16 ≤ 140737488355328 by rw [hl7.out]; omega)
                  have m3 := Lib.hid (show W2.heap.size ≤ w9.heap.size by have := hs26.out; omega)
                  replace hrs := Lib.hid hrs
                  clear o9 s9 ho7 b9
                  go_wp2_with (at_builtin; refine wpList_app _ rfl (.tmp 81) (.tmp 82) _ rfl W2.heap.size 9 i0 _ 16 Tryz.underlying28 hi hz0 hz1 hz2 rfl (.slice A7 hm.length c7) _ _ rfl ho9.out A9 rs.length c9 _ rfl hs9.out m1.out m2.out m3.out ?_; intro v10 w10 ho10 hg10 _)
                  have hB10 := Lib.hid (below_own hB9.out ho9.out hg10 hB9.out.size hw2.out)
                  have ho11 : OwnStrs w10 W2.heap.size v10 (hm ++ rs) := by
                    unfold OwnStrs
                    simpa using ho10
                  obtain ⟨A10, c10, rfl, -⟩ := ho11.strs
                  replace ho11 := Lib.hid ho11
                  clear hg10 ho10
                  go_wp2
                  go_ret
                  rw [nameT, hNN'.out]
                  exact ⟨_, rfl, ho11.out.mono hw2.out, hB10.out⟩
        · have h1' : ¬ (1 : Int) < (q : Int) := by omega
          obtain ⟨hd, hhd⟩ : ∃ hd : List ByteArray, hd = [] := ⟨_, rfl⟩
          have hd0 : hd.length = 0 := by rw [hhd]; rfl
          have hdl : hd.length ≤ 99999 := by omega
          have e6 : Value.slice (some ⟨w1.heap.size, 0, none⟩) 0 0 = Value.slice (some ⟨w1.heap.size, 0, none⟩) hd.length 0 := by rw [hd0]
          replace own6 : Hid (OwnStrs W7 w.heap.size (.slice (some ⟨w1.heap.size, 0, none⟩) hd.length 0) hd) := Lib.hid (by rw [hhd]; exact own6.out)
          have hNN : (r ≠ 0 → rs ≠ []) → nameN t.us t.bs t.ns n = hd ++ [nm] ++ (if r = 0 then [] else rs) := fun h => by
            have := N4.out (by omega) (fun h => absurd h h1) h
            rw [if_neg h1] at this
            rw [this, hhd]
          rw [e6]
          have hB2 := hB
          have HX2 := HX
          have HT2 := HT
          have hw2 := Lib.hid hB2.out.size
          replace hNN := Lib.hid hNN
          replace hhd := Lib.hid hhd
          clear e6 hd0 x0 x1 x2 hB HX HT
          obtain ⟨_, _, ev6, s6⟩ := own6.out.strs
          cases ev6
          have HX2c := blk3 HX2.out
          obtain ⟨x0, x1, x2, -, -, -⟩ := HX2c
          have hXlt := HX2.out.lt
          have HSrc := Lib.hid (fun W' (hb : Below W7.heap.size W7 W') => (s6.below hb (Nat.le_refl _)).src)
          have hXk := Lib.hid (fun W' (hb : Below W7.heap.size W7 W') => blk3 (HX2.out.below hb HX2.out.lt))
          have hnk := Lib.hid (fun W' (hb : Below W7.heap.size W7 W') => (hb.cell (p := ⟨b3, o3 + (k - 1), none⟩) hb3).trans ck3)
          have k1 := Lib.hid (show 0 + hd.length ≤ maxLen by unfold maxLen; omega)
          have k2 := Lib.hid (show (0 + hd.length) * 16 ≤ 140737488355328 by omega)
          have k3 := Lib.hid (show 0 + hd.length + 1 ≤ maxLen by unfold maxLen; omega)
          have k4 := Lib.hid (show (0 + hd.length + 1) * 16 ≤ 140737488355328 by omega)
          have ck3' := ck3
          clear s6 ck3
          have kk1 : (0 : Int) ≤ (k : Int) - 1 := by omega
          have kk2 : (k : Int) - 1 < (t.ns.length : Int) := by omega
          have kk3 : ((k : Int) - 1).toNat = k - 1 := by omega
          have kk4 : IntKind.i64.wrap ((k : Int) - 1) = (k : Int) - 1 := IntWalk.i64_in _ (by omega)
          have kk5 : (1 : Int) ≤ (k : Int) := by omega
          have bA := Lib.hid (((Below.refl W7.heap.size W7).alloc (Nat.le_refl _) (.cells #[] 9)).drew)
          have bB := Lib.hid ((((Below.refl W7.heap.size W7).alloc (Nat.le_refl _) (.cells #[] 9)).alloc (by simp) (.cells #[.string nm] 9)).drew)
          have bC := Lib.hid ((((Below.refl W7.heap.size W7).alloc (Nat.le_refl _) (.cells #[.string nm] 9)).alloc (by simp) (.cells #[] 9)).drew)
          have bk0 : Blk (W7.alloc (.cells #[] 9)) W7.heap.size 9 #[] := Blk.new _ _ _
          have bk1 : Blk (W7.alloc (.cells #[.string nm] 9)) W7.heap.size 9 #[.string nm] := Blk.new _ _ _
          have bkB := Lib.hid ((blk_new_at (w := W7.alloc (.cells #[] 9)) (t := 9) (cs := #[.string nm]) (W7.heap.size + 1) (by simp)).drew)
          have bkC := Lib.hid ((bk1.alloc (.cells #[] 9)).drew)
          have oA := Lib.hid (owns_empty (B := W7.heap.size) bk0.drew (Nat.le_refl _))
          have oB := Lib.hid (owns_empty (B := W7.heap.size) (bk0.alloc (.cells #[.string nm] 9)).drew (Nat.le_refl _))
          have oC := Lib.hid (owns_empty (B := W7.heap.size) ((blk_new_at (w := W7.alloc (.cells #[.string nm] 9)) (t := 9) (cs := #[]) (W7.heap.size + 1) (by simp)).drew) (by omega))
          clear bk0 bk1
          go_upto_region 14 with (fail)
          go_region_held3 (fun w' => (w'.cell? ⟨w.heap.size, 0, none⟩ = some (.slice A1 t.us.length c1) ∧ w'.cell? ⟨w.heap.size, 1, none⟩ = some (.slice (some ⟨b2, o2, none⟩) t.bs.length c2) ∧ w'.cell? ⟨w.heap.size, 2, none⟩ = some (.slice (some ⟨b3, o3, none⟩) t.ns.length c3)) ∧ w'.cell? ⟨b3, o3 + (k - 1), none⟩ = some (.string nm))
            (first | go_keep | exact hS5 | exact hS6)
            (first
              | (refine step_app _ (by rfl) (.tmp 53) (.tmp 54) _ (by rfl) W7.heap.size 9 i0 _ 16 Tryz.underlying28 hi hz0 hz1 hz2 rfl (.slice (some ⟨W7.heap.size, 0, none⟩) 0 0) 0 [] (by rfl) oA.out (some ⟨w1.heap.size, 0, none⟩) _ 0 _ (by rfl) (HSrc.out _ bA.out) k1.out k2.out bA.out.size ?_; intro v5 w5 ho5 hg5 _; have hB5 := below_own (w := W7) (S := W7.heap.size) bA.out oA.out hg5 bA.out.size (Nat.le_refl _); have hk5 : True := trivial; obtain ⟨x0', x1', x2', -, -, -⟩ := hXk.out _ hB5; have hS5 := And.intro (And.intro x0' (And.intro x1' x2')) (hnk.out _ hB5); replace ho5 := Lib.hid ho5; replace hB5 := Lib.hid hB5; replace hk5 := Lib.hid hk5; clear hg5)
              | (refine step_app _ (by rfl) (.tmp 53) (.tmp 54) _ (by rfl) W7.heap.size 9 i0 _ 16 Tryz.underlying28 hi hz0 hz1 hz2 rfl (.slice (some ⟨W7.heap.size, 0, none⟩) 0 0) 0 [] (by rfl) oB.out (some ⟨w1.heap.size, 0, none⟩) _ 0 _ (by rfl) (HSrc.out _ bB.out) k1.out k2.out bB.out.size ?_; intro v5 w5 ho5 hg5 _; have hB5 := below_own (w := W7) (S := W7.heap.size) bB.out oB.out hg5 bB.out.size (Nat.le_refl _); have hk5 : Blk w5 (W7.heap.size + 1) 9 #[.string nm] := bkB.out.grown hg5 (by simp [Value.ownBlock]); obtain ⟨x0', x1', x2', -, -, -⟩ := hXk.out _ hB5; have hS5 := And.intro (And.intro x0' (And.intro x1' x2')) (hnk.out _ hB5); replace ho5 := Lib.hid ho5; replace hB5 := Lib.hid hB5; replace hk5 := Lib.hid hk5; clear hg5)
              | (refine step_app _ (by rfl) (.tmp 53) (.tmp 54) _ (by rfl) W7.heap.size 9 i0 _ 16 Tryz.underlying28 hi hz0 hz1 hz2 rfl (.slice (some ⟨W7.heap.size + 1, 0, none⟩) 0 0) 0 [] (by rfl) oC.out (some ⟨w1.heap.size, 0, none⟩) _ 0 _ (by rfl) (HSrc.out _ bC.out) k1.out k2.out bC.out.size ?_; intro v5 w5 ho5 hg5 _; have hB5 := below_own (w := W7) (S := W7.heap.size) bC.out oC.out hg5 bC.out.size (Nat.le_refl _); have hk5 : Blk w5 W7.heap.size 9 #[.string nm] := bkC.out.grown hg5 (by simp [Value.ownBlock]); obtain ⟨x0', x1', x2', -, -, -⟩ := hXk.out _ hB5; have hS5 := And.intro (And.intro x0' (And.intro x1' x2')) (hnk.out _ hB5); replace ho5 := Lib.hid ho5; replace hB5 := Lib.hid hB5; replace hk5 := Lib.hid hk5; clear hg5)
              | (refine step_app _ (by rfl) (.tmp 55) (.tmp 62) _ (by rfl) W7.heap.size 9 i0 _ 16 Tryz.underlying28 hi hz0 hz1 hz2 rfl v5 _ _ (by rfl) (World.ownsRow.alloc ho5.out _) (some ⟨w5.heap.size, 0, none⟩) 1 1 [.string nm] (by rfl) (Src.one (Blk.new _ _ _) rfl) k3.out k4.out (by have := hB5.out.size; simp; omega) ?_; intro v6 w6 ho6 hg6 _; have hB6 := below_own (w := W7) (S := W7.heap.size) (hB5.out.alloc hB5.out.size _) (World.ownsRow.alloc ho5.out _) hg6 (by have := hB5.out.size; simp; omega) (Nat.le_refl _); obtain ⟨x0', x1', x2', -, -, -⟩ := hXk.out _ hB6; have hS6 := And.intro (And.intro x0' (And.intro x1' x2')) (hnk.out _ hB6); replace ho6 := Lib.hid ho6; replace hB6 := Lib.hid hB6; clear hg6)
              | (refine step_app _ (by rfl) (.tmp 55) (.tmp 62) _ (by rfl) W7.heap.size 9 i0 _ 16 Tryz.underlying28 hi hz0 hz1 hz2 rfl v5 _ _ (by rfl) ho5.out _ 1 1 [.string nm] (by rfl) (Src.one hk5.out rfl) k3.out k4.out hB5.out.size ?_; intro v6 w6 ho6 hg6 _; have hB6 := below_own (w := W7) (S := W7.heap.size) hB5.out ho5.out hg6 hB5.out.size (Nat.le_refl _); obtain ⟨x0', x1', x2', -, -, -⟩ := hXk.out _ hB6; have hS6 := And.intro (And.intro x0' (And.intro x1' x2')) (hnk.out _ hB6); replace ho6 := Lib.hid ho6; replace hB6 := Lib.hid hB6; clear hg6))
          all_goals
            have ho7 : OwnStrs w6 W7.heap.size v6 (hd ++ [nm]) := by
              have := ho6.out
              unfold OwnStrs
              simpa using this
            have hl7 : (hd ++ [nm]).length = hd.length + 1 := by simp
            have hNN7 := hNN.out
            generalize hd ++ [nm] = hm at *
            obtain ⟨A7, c7, rfl, -⟩ := ho7.strs
            have hB7 := Lib.hid (hB2.out.trans (hB6.out.mono hB2.out.size))
            have HX7 := HX2.out.below hB6.out HX2.out.lt
            have HT7 := Lib.hid (HT2.out.below hB6.out (Nat.le_refl _))
            have ck7 := (hB6.out.cell (p := ⟨b2, o2 + k, none⟩) hb2).trans ck2
            have hs26 := Lib.hid hB6.out.size
            obtain ⟨x0, x1, x2, -, -, -⟩ := blk3 HX7
            clear kk1 kk2 kk3 kk4 kk5
            replace hl7 := Lib.hid hl7
            replace hNN7 := Lib.hid hNN7
            clear hNN
            replace ho7 := Lib.hid ho7
            clear bA bB bC bkB bkC oA oB oC hS5 hS6 ho5 ho6 hB5 hk5 hB6 HX7 HX2 HT2 hB2 HSrc hXk hnk k1 k2 k3 k4 ck3' x0' x1' x2'
            have q0 : (0 : Int) ≤ (n : Int) % (b : Int) := by rw [e2.out]; omega
            have q1 : (n : Int) % (b : Int) ≤ 99999 := by rw [e2.out]; omega
            go_upto_region 16 with (fail)
            rw [e2.out]
            clear q0 q1
            by_cases hr0 : r = 0
            · have hr0' : ((r : Int) == 0) = true := by rw [beq_iff_eq]; omega
              have hNN' := hNN7.out (fun h => absurd hr0 h)
              rw [if_pos hr0, List.append_nil] at hNN'
              replace hNN' := Lib.hid hNN'
              go_wp2
              go_ret
              rw [nameT, hNN'.out]
              exact ⟨_, rfl, ho7.out.mono hw2.out, hB7.out⟩
            · have hr0' : ((r : Int) == 0) = false := by rw [beq_eq_false_iff_ne]; omega
              have K9 := Lib.hid (IHr.out hr0 _ w6 HT7.out)
              have L2' := L2.out hr0
              go_wp2_with (fail)
              refine K9.out.mono ?_
              rintro e w9 ⟨v9, rfl, o9, b9⟩
              obtain ⟨A9, c9, rfl, s9⟩ := o9.strs
              have ho9 := Lib.hid (ho7.out.below b9 (Nat.le_refl _))
              have hB9 := Lib.hid (hB7.out.trans (b9.mono hB7.out.size))
              have hs69 := b9.size
              by_cases hrs : rs = []
              · have hl0 : rs.length = 0 := by rw [hrs]; rfl
                have o9' : OwnStrs w9 w.heap.size (.slice A9 0 c9) [] := by
                  have := o9.mono hB7.out.size
                  rw [hrs] at this
                  exact this
                have hno := Lib.hid (N3.out hr0 hrs)
                rw [hl0]
                replace o9' := Lib.hid o9'
                replace hrs := Lib.hid hrs
                clear o9 s9 ho9 ho7 hl0 b9
                go_wp2
                go_ret
                rw [nameT, hno.out]
                exact ⟨_, rfl, o9'.out, hB9.out⟩
              · have hl0 : rs.length ≠ 0 := fun h => hrs (List.eq_nil_of_length_eq_zero h)
                have hl0' : ((rs.length : Int) == 0) = false := by rw [beq_eq_false_iff_ne]; omega
                have hNN' := hNN7.out (fun _ => hrs)
                rw [if_neg hr0] at hNN'
                replace hNN' := Lib.hid hNN'
                have hs9 := Lib.hid s9.src
                have m1 := Lib.hid (show hm.length + rs.length ≤ maxLen by rw [hl7.out]; unfold maxLen; omega)
                have m2 := Lib.hid (show (hm.length + rs.length) * 16 ≤ 140737488355328 by rw [hl7.out]; omega)
                have m3 := Lib.hid (show W7.heap.size ≤ w9.heap.size by have := hs26.out; omega)
                replace hrs := Lib.hid hrs
                clear o9 s9 ho7 b9
                go_wp2_with (at_builtin; refine wpList_app _ rfl (.tmp 81) (.tmp 82) _ rfl W7.heap.size 9 i0 _ 16 Tryz.underlying28 hi hz0 hz1 hz2 rfl (.slice A7 hm.length c7) _ _ rfl ho9.out A9 rs.length c9 _ rfl hs9.out m1.out m2.out m3.out ?_; intro v10 w10 ho10 hg10 _)
                have hB10 := Lib.hid (below_own hB9.out ho9.out hg10 hB9.out.size hw2.out)
                have ho11 : OwnStrs w10 W7.heap.size v10 (hm ++ rs) := by
                  unfold OwnStrs
                  simpa using ho10
                obtain ⟨A10, c10, rfl, -⟩ := ho11.strs
                replace ho11 := Lib.hid ho11
                clear hg10 ho10
                go_wp2
                go_ret
                rw [nameT, hNN'.out]
                exact ⟨_, rfl, ho11.out.mono hw2.out, hB10.out⟩
end Go.Proofs.YtmhgpbfogdoaeaaGreatDoor

/- N4 -/
namespace Go.Proofs.YtmhgpbfogdoaeaaGreatDoor
open Go.RowKit

def okN (t : Tg) (n : Int) : Bool := t.ok && decide (1 ≤ n ∧ n ≤ 99999)
def nameOf (t : Tg) (n : Int) : List ByteArray := if okN t n then nameT t n.toNat else []
def namedB (t : Tg) (n : Int) : Bool := decide (0 < (nameOf t n).length)
theorem nameOf_no {t : Tg} {n : Int} (h : okN t n = false) : nameOf t n = [] ∧ namedB t n = false := by
  have e : nameOf t n = [] := by unfold nameOf; rw [h]; rfl
  exact ⟨e, by unfold namedB; rw [e]; rfl⟩
theorem nameOf_yes {t : Tg} {m : Nat} (h : okN t m = true) : nameOf t m = nameT t m := by
  unfold nameOf; rw [h, if_pos rfl]; rfl
def RetStrs2 (w : World) (xs : List ByteArray) (b : Bool) (e : Ending) (w' : World) : Prop := ∃ v, e = .returned (.tuple #[v, .bool b]) ∧ OwnStrs w' w.heap.size v xs ∧ Below w.heap.size w w'
theorem ret_none2 {w w1 : World} {t : Tg} {n : Int} (hb : Below w.heap.size w w1) (h : okN t n = false) : RetStrs2 w (nameOf t n) (namedB t n) (.returned (.tuple #[.slice (some ⟨w1.heap.size, 0, none⟩) 0 0, .bool false])) (w1.alloc (.cells #[] 9)) :=
  ⟨_, by rw [(nameOf_no h).2], by rw [(nameOf_no h).1]; exact owns_empty (Blk.new _ _ _) hb.size, hb.alloc hb.size _⟩

set_option maxRecDepth 100000 in
set_option maxHeartbeats 2000000 in
theorem specNameOf_any (v : Value) (t : Tg) (n : Int) (w : World) (h : Tng w v t) (hf : t.Fine) (_hn : -9223372036854775808 ≤ n ∧ n ≤ 9223372036854775807) :
    Calls Tryz.prog 50 #[v, .int .i64 n] w (RetStrs2 w (nameOf t n) (namedB t n)) := by
  obtain ⟨A1, c1, A2, c2, A3, c3, rfl, -⟩ := h.ex
  have hB := (Below.refl w.heap.size w).alloc (Nat.le_refl _) (.cells #[.slice A1 t.us.length c1, .slice A2 t.bs.length c2, .slice A3 t.ns.length c3] 31)
  have HX := Blk.new w 31 #[.slice A1 t.us.length c1, .slice A2 t.bs.length c2, .slice A3 t.ns.length c3]
  have HT := h.below hB (Nat.le_refl _)
  have K1 := Lib.hid (specTongueOk_any _ t _ HT hf)
  replace hB := Lib.hid hB
  replace HX := Lib.hid HX
  replace HT := Lib.hid HT
  clear h hf
  go_enter Tryz.func50, Tryz.ntmps50
  go_upto_region 1 with (fail)
  generalize w.alloc (.cells #[.slice A1 t.us.length c1, .slice A2 t.bs.length c2, .slice A3 t.ns.length c3] 31) = W at *
  obtain ⟨x0, x1, x2, -, -, -⟩ := blk3 HX.out
  go_wp2_with (fail)
  refine K1.out.mono ?_
  rintro e w1 ⟨rfl, b1⟩
  replace hB := Lib.hid (hB.out.trans (b1.mono hB.out.size))
  replace HX := Lib.hid (HX.out.below b1 HX.out.lt)
  replace HT := Lib.hid (HT.out.below b1 (Nat.le_refl _))
  clear b1 x0 x1 x2 K1
  obtain ⟨x0, x1, x2, -, -, -⟩ := blk3 HX.out
  cases hok : t.ok
  · have hno := Lib.hid (show okN t n = false by unfold okN; rw [hok]; rfl)
    replace hok := Lib.hid hok
    go_wp2
    go_ret2
    exact ret_none2 hB.out hno.out
  · by_cases hd : 1 ≤ n ∧ n ≤ 99999
    · obtain ⟨m, rfl⟩ : ∃ m : Nat, n = m := ⟨n.toNat, by omega⟩
      have hyes := Lib.hid (show okN t m = true by unfold okN; rw [hok, decide_eq_true hd]; rfl)
      have K2 := Lib.hid (specName_any hok m (by omega) (by omega) _ w1 HT.out)
      have hdb := decide_eq_true hd
      replace hok := Lib.hid hok
      replace hd := Lib.hid hd
      go_wp2_with (fail)
      refine (in_any _ _ _ _).mono ?_
      rintro e _ ⟨rfl, rfl⟩
      rw [hdb]
      clear hdb
      go_wp2_with (fail)
      refine K2.out.mono ?_
      rintro e w3 ⟨v3, rfl, o3, b3⟩
      obtain ⟨A, c, rfl, -⟩ := o3.strs
      have HR : RetStrs2 w (nameOf t m) (namedB t m) (.returned (.tuple #[.slice A (nameT t m).length c, .bool (decide (0 < (nameT t m).length))])) w3 :=
        ⟨_, by unfold namedB; rw [nameOf_yes hyes.out], by rw [nameOf_yes hyes.out]; exact o3.mono hB.out.size, hB.out.trans (b3.mono hB.out.size)⟩
      replace HR := Lib.hid HR
      clear o3 b3 x0 x1 x2
      generalize nameT t m = xs at *
      generalize xs.length = L at *
      go_wp2
      go_ret2
      exact HR.out
    · have hno := Lib.hid (show okN t n = false by unfold okN; rw [hok, decide_eq_false hd]; rfl)
      have hdb := decide_eq_false hd
      replace hok := Lib.hid hok
      replace hd := Lib.hid hd
      go_wp2_with (fail)
      refine (in_any _ _ _ _).mono ?_
      rintro e _ ⟨rfl, rfl⟩
      rw [hdb]
      clear hdb
      go_wp2
      go_ret2
      exact ret_none2 hB.out hno.out

end Go.Proofs.YtmhgpbfogdoaeaaGreatDoor

/- N5 -/
namespace Go.Proofs.YtmhgpbfogdoaeaaGreatDoor
open Go.RowKit

/-- What LongOf answers. -/
def longOf (t : Tg) (n : Int) : Int := if namedB t n then (nameOf t n).length else -1
theorem longOf_bd (t : Tg) (n : Int) : -1 ≤ longOf t n ∧ longOf t n ≤ 99999 := by
  unfold longOf
  split
  · refine ⟨by omega, ?_⟩
    unfold nameOf
    split
    · rename_i h
      unfold okN at h
      rw [Bool.and_eq_true, decide_eq_true_eq] at h
      have := name_len t.us t.bs t.ns (ok_shape h.1).bs n.toNat (by omega)
      unfold nameT
      omega
    · simp
  · omega
theorem named_ne {t : Tg} {n : Int} (h : namedB t n = true) : okN t n = true ∧ nameT t n.toNat ≠ [] := by
  unfold namedB nameOf at h
  cases ho : okN t n
  · rw [ho] at h; simp at h
  · rw [ho, if_pos rfl, decide_eq_true_eq] at h
    exact ⟨rfl, fun e => by rw [e] at h; simp at h⟩

end Go.Proofs.YtmhgpbfogdoaeaaGreatDoor

/- N6 -/
namespace Go.Proofs.YtmhgpbfogdoaeaaGreatDoor
open Go.RowKit

theorem nameOf_size (t : Tg) (n : Int) : ∀ x ∈ nameOf t n, 1 ≤ x.size ∧ x.size ≤ 8 := by
  intro x hx
  unfold nameOf at hx
  by_cases ho : okN t n = true
  · rw [if_pos ho] at hx
    unfold okN at ho
    rw [Bool.and_eq_true, decide_eq_true_eq] at ho
    obtain ⟨_, hb, hns, _, hw, _⟩ := (ok_iff t).1 ho.1
    exact wordOk_len (hw x (name_mem t.us t.bs t.ns hb hns n.toNat (by omega) x hx))
  · rw [if_neg ho] at hx; cases hx
theorem nameOf_at (t : Tg) (n : Int) (k : Nat) : ((nameOf t n).getD k ByteArray.empty).size ≤ 8 := by
  by_cases hk : k < (nameOf t n).length
  · rw [List.getD_eq_getElem?_getD, List.getElem?_eq_getElem hk]
    exact (nameOf_size t n _ (List.getElem_mem hk)).2
  · rw [List.getD_eq_getElem?_getD, List.getElem?_eq_none (by omega)]
    exact Nat.zero_le _
end Go.Proofs.YtmhgpbfogdoaeaaGreatDoor

/- MathG -/
namespace Go.Proofs.YtmhgpbfogdoaeaaGreatDoor
open Go.RowKit

theorem named_ok {t : Tg} {n : Int} (h : namedB t n = true) : t.ok = true ∧ 1 ≤ n ∧ n ≤ 99999 := by
  have := (named_ne h).1
  unfold okN at this
  rw [Bool.and_eq_true, decide_eq_true_eq] at this
  exact this

/-- How many letters the first k words have. -/
def lettersTo' (l : List ByteArray) : Nat → Nat
  | 0 => 0
  | k + 1 => lettersTo' l k + (l.getD k ByteArray.empty).size
theorem lettersTo_le {l : List ByteArray} (h : ∀ k, (l.getD k ByteArray.empty).size ≤ 8) : ∀ k, lettersTo' l k ≤ 8 * k := by
  intro k
  induction k with
  | zero => exact Nat.le_refl _
  | succ k ih => rw [lettersTo']; have := h k; omega
end Go.Proofs.YtmhgpbfogdoaeaaGreatDoor

/- MathR -/
namespace Go.Proofs.YtmhgpbfogdoaeaaGreatDoor
open Go.RowKit

theorem topOf_lt {bs : List Int} (hb : basesOk bs = true) {n : Nat} {k : Nat} (_hk : k < bs.length) (h1 : 1 ≤ k) (h : (n : Int) < bs.getD k 0) : topOf bs n < k := by
  rcases topTo_at bs n bs.length with e | ⟨a1, a2, a3⟩
  · have e' : topOf bs n = 0 := e
    omega
  · rcases Nat.lt_or_ge (topOf bs n) k with h2 | h2
    · exact h2
    · have a2' : topOf bs n < bs.length := a2
      have a3' : bs.getD (topOf bs n) 0 ≤ n := a3
      by_cases e : k = topOf bs n
      · rw [← e] at a3'; omega
      · have := bases_mono hb k (topOf bs n) (by omega) a2'; omega
end Go.Proofs.YtmhgpbfogdoaeaaGreatDoor

/- MathS -/
namespace Go.Proofs.YtmhgpbfogdoaeaaGreatDoor
open Go.RowKit

theorem two_le {a b : Nat} (h : a < b) : 2 ^ (a + 1) ≤ 2 ^ b := Nat.pow_le_pow_right (by omega) h
theorem name_short (us : List ByteArray) (bs : List Int) (ns : List ByteArray) (hb : basesOk bs = true) : ∀ n : Nat, 1 ≤ n → (nameN us bs ns n).length + 1 ≤ 2 ^ (topOf bs n + 1) := by
  intro n
  induction n using Nat.strongRecOn with
  | _ n ih =>
    intro hn
    by_cases ht : topOf bs n = 0
    · rw [name_unit ht, ht]; split <;> simp
    · have hf := base_facts hb ht
      have hd := div_pos' hf.1 hf.2.1
      have hp : 1 ≤ 2 ^ (topOf bs n) := Nat.one_le_two_pow
      have he : 2 ^ (topOf bs n + 1) = 2 * 2 ^ (topOf bs n) := by rw [Nat.pow_succ]; omega
      have h4 : 2 ≤ 2 ^ (topOf bs n) := by have := two_le (a := 0) (b := topOf bs n) (by omega); simpa using this
      rw [name_top hb ht, he]
      split
      · simp; omega
      · rename_i h0
        have hq : topOf bs (n / baseN bs n : Nat) < topOf bs n := topOf_lt hb hf.2.2.2.1 hf.2.2.2.2 (by rw [← hf.2.2.1]; omega)
        have hr : topOf bs (n % baseN bs n : Nat) < topOf bs n := topOf_lt hb hf.2.2.2.1 hf.2.2.2.2 (by rw [← hf.2.2.1]; have := Nat.mod_lt n (show 0 < baseN bs n by omega); omega)
        have i1 := ih _ hd.2.1 hd.1
        have p1 := two_le hq
        have p2 := two_le hr
        split
        · simp; omega
        · split
          · simp; omega
          · by_cases h0 : n % baseN bs n = 0
            · rw [if_pos h0]
              split <;> simp <;> omega
            · have i2 := ih _ hd.2.2.1 (by omega)
              rw [if_neg h0]
              split <;> simp <;> omega
theorem nameOf_short (t : Tg) (n : Int) : (nameOf t n).length ≤ 40 := by
  by_cases ho : okN t n = true
  · have hh := ho
    unfold okN at hh
    rw [Bool.and_eq_true, decide_eq_true_eq] at hh
    obtain ⟨hok, h1, h2⟩ := hh
    obtain ⟨m, rfl⟩ : ∃ m : Nat, n = m := ⟨n.toNat, by omega⟩
    have hs := ok_shape hok
    rw [nameOf_yes ho]
    have hb := hs.bs
    have hl := bases_len hb
    have h := name_short t.us t.bs t.ns hb m (by omega)
    have htop : topOf t.bs m ≤ 4 := by
      by_cases ht : topOf t.bs m = 0
      · omega
      · have := (base_facts hb ht).2.2.2.1; omega
    have hp : 2 ^ (topOf t.bs m + 1) ≤ 2 ^ 5 := Nat.pow_le_pow_right (by omega) (by omega)
    have h5 : (2 : Nat) ^ 5 = 32 := rfl
    unfold nameT
    omega
  · rw [(nameOf_no (by simpa using ho)).1]; simp
end Go.Proofs.YtmhgpbfogdoaeaaGreatDoor

/- R5m -/
namespace Go.Proofs.YtmhgpbfogdoaeaaGreatDoor
open Go.RowKit

end Go.Proofs.YtmhgpbfogdoaeaaGreatDoor

/- THold -/
namespace Go.Proofs.YtmhgpbfogdoaeaaGreatDoor
open Go.RowKit

theorem takeS_go {k : Nat} (xs ys : List ByteArray) (hk : k < xs.length) (hl : xs.length = ys.length) (h : xs.take k = ys.take k) : xs.getD k ByteArray.empty = ys.getD k ByteArray.empty → xs.take (k+1) = ys.take (k+1) := by
  intro he
  rw [List.take_succ_eq_append_getElem hk, List.take_succ_eq_append_getElem (by omega : k < ys.length), h]
  simp only [List.getD_eq_getElem?_getD, List.getElem?_eq_getElem hk, List.getElem?_eq_getElem (by omega : k < ys.length), Option.getD_some] at he
  rw [he]
theorem takeS_end {k : Nat} (xs ys : List ByteArray) (hk : xs.length ≤ k) (hl : xs.length = ys.length) (h : xs.take k = ys.take k) : xs = ys := by
  rwa [List.take_of_length_le hk, List.take_of_length_le (by omega)] at h

set_option maxHeartbeats 1000000 in
theorem eqStringS_any (A A' : Option Addr) (n c n' c' : Nat) (xs ys : List ByteArray) (w : World) (h : Strs w A n c xs) (h' : Strs w A' n' c' ys) (hn : n ≤ 2097152) (hn' : n' ≤ 2097152) :
    Calls Tryz.prog 35 #[.slice A n c, .slice A' n' c'] w fun e w' => e = .returned (.bool (decide (xs = ys))) ∧ ∃ m, w' = w.drewN m := by
  obtain ⟨rfl, hcap, h⟩ := h
  obtain ⟨rfl, hcap', h'⟩ := h'
  by_cases hl : xs.length = ys.length
  · rw [← hl] at h' hcap' ⊢
    replace hl := Lib.hid hl
    have heq : ((xs.length : Int) != xs.length) = false := by simp
    go_enter Tryz.func35, Tryz.ntmps35
    go_wp2
    go_loopw [5] (fun i wr => ∃ k m : Nat, k ≤ xs.length ∧ i = .int .i64 k ∧ xs.take k = ys.take k ∧ wr = w.drewN m) (fun i _ => xs.length - (intOf i).toNat)
    case atStart => exact ⟨0, 0, Nat.zero_le _, rfl, by simp, rfl⟩
    case round =>
      obtain ⟨k, m, hk, rfl, hu, rfl⟩ := hrel
      by_cases hlt : k < xs.length
      · obtain ⟨b, o, rfl, _, h⟩ := h (by omega)
        obtain ⟨b', o', rfl, _, h'⟩ := h' (by omega)
        have c1 := h k hlt
        have c2 := h' k hlt
        have HU := takeS_go (k := k) xs ys hlt hl.out hu
        have HN : ¬ xs.getD k ByteArray.empty = ys.getD k ByteArray.empty → ¬ xs = ys := fun hn he => hn (by rw [he])
        generalize xs.getD k ByteArray.empty = x1 at *
        generalize ys.getD k ByteArray.empty = x2 at *
        replace HU := Lib.hid HU
        replace HN := Lib.hid HN
        clear h h' hu
        by_cases hx : x1 = x2
        · have hx1 : (x1.toList == x2.toList) = true := by rw [str_eq]; exact decide_eq_true hx
          have hx2 : (x1.toList != x2.toList) = false := by rw [bne, hx1]; rfl
          replace hx := Lib.hid hx
          go_wp2
          go_quiet (fail)
          go_wp2
          go_roundw
          case rel => exact ⟨k+1, m+nq, by omega, by go_num, HU.out hx.out, by simp⟩
          case measure => simp [intOf]; omega
        · have hx1 : (x1.toList == x2.toList) = false := by rw [str_eq]; exact decide_eq_false hx
          have hx2 : (x1.toList != x2.toList) = true := by rw [bne, hx1]; rfl
          go_wp2
          go_quiet (fail)
          go_wp2
          go_ret
          exact ⟨ret_bool (by rw [decide_eq_false (HN.out hx)]), m+nq, by simp⟩
      · have HE := Lib.hid (takeS_end xs ys (by omega) hl.out hu)
        clear h h' hu
        go_wp2
        go_ret
        exact ⟨ret_bool (by rw [decide_eq_true HE.out]), m, rfl⟩
  · have hne : xs ≠ ys := fun e => hl (by rw [e])
    have HN := Lib.hid hne
    have hneq : ((xs.length : Int) != ys.length) = true := by rw [bne_iff_ne]; omega
    clear hne
    go_enter Tryz.func35, Tryz.ntmps35
    go_wp2
    go_ret
    exact ⟨ret_bool (by rw [decide_eq_false HN.out]), 0, rfl⟩

end Go.Proofs.YtmhgpbfogdoaeaaGreatDoor

/- R9m -/
namespace Go.Proofs.YtmhgpbfogdoaeaaGreatDoor
open Go.RowKit

end Go.Proofs.YtmhgpbfogdoaeaaGreatDoor

/- R4 -/
namespace Go.Proofs.YtmhgpbfogdoaeaaGreatDoor
open Go.RowKit Go.Sort

end Go.Proofs.YtmhgpbfogdoaeaaGreatDoor

/- R5 -/
namespace Go.Proofs.YtmhgpbfogdoaeaaGreatDoor
open Go.RowKit

end Go.Proofs.YtmhgpbfogdoaeaaGreatDoor

/- R6 -/
namespace Go.Proofs.YtmhgpbfogdoaeaaGreatDoor
open Go.RowKit

end Go.Proofs.YtmhgpbfogdoaeaaGreatDoor

/- R7 -/
namespace Go.Proofs.YtmhgpbfogdoaeaaGreatDoor
open Go.RowKit

end Go.Proofs.YtmhgpbfogdoaeaaGreatDoor

/- R8 -/
namespace Go.Proofs.YtmhgpbfogdoaeaaGreatDoor
open Go.RowKit

end Go.Proofs.YtmhgpbfogdoaeaaGreatDoor

/- R9 -/
namespace Go.Proofs.YtmhgpbfogdoaeaaGreatDoor
open Go.RowKit

end Go.Proofs.YtmhgpbfogdoaeaaGreatDoor

/- Same -/
namespace Go.Proofs.YtmhgpbfogdoaeaaGreatDoor
open Go.RowKit

set_option maxHeartbeats 1000000 in
theorem sameTexts_any (A A' : Option Addr) (n c n' c' : Nat) (xs ys : List ByteArray) (w : World) (h : Strs w A n c xs) (h' : Strs w A' n' c' ys) (hn : n ≤ 2097152) (hn' : n' ≤ 2097152) :
    Calls Tryz.prog 27 #[.slice A n c, .slice A' n' c'] w fun e w' => e = .returned (.bool (decide (xs = ys))) ∧ ∃ m, w' = w.drewN m := by
  obtain ⟨rfl, hcap, h⟩ := h
  obtain ⟨rfl, hcap', h'⟩ := h'
  by_cases hl : xs.length = ys.length
  · rw [← hl] at h' hcap' ⊢
    replace hl := Lib.hid hl
    have heq : ((xs.length : Int) != xs.length) = false := by simp
    go_enter Tryz.func27, Tryz.ntmps27
    go_wp2
    go_loopw [5] (fun i wr => ∃ k m : Nat, k ≤ xs.length ∧ i = .int .i64 k ∧ xs.take k = ys.take k ∧ wr = w.drewN m) (fun i _ => xs.length - (intOf i).toNat)
    case atStart => exact ⟨0, 0, Nat.zero_le _, rfl, by simp, rfl⟩
    case round =>
      obtain ⟨k, m, hk, rfl, hu, rfl⟩ := hrel
      by_cases hlt : k < xs.length
      · obtain ⟨b, o, rfl, _, h⟩ := h (by omega)
        obtain ⟨b', o', rfl, _, h'⟩ := h' (by omega)
        have c1 := h k hlt
        have c2 := h' k hlt
        have HU := takeS_go (k := k) xs ys hlt hl.out hu
        have HN : ¬ xs.getD k ByteArray.empty = ys.getD k ByteArray.empty → ¬ xs = ys := fun hn he => hn (by rw [he])
        generalize xs.getD k ByteArray.empty = x1 at *
        generalize ys.getD k ByteArray.empty = x2 at *
        replace HU := Lib.hid HU
        replace HN := Lib.hid HN
        clear h h' hu
        by_cases hx : x1 = x2
        · have hx1 : (x1.toList == x2.toList) = true := by rw [str_eq]; exact decide_eq_true hx
          have hx2 : (x1.toList != x2.toList) = false := by rw [bne, hx1]; rfl
          replace hx := Lib.hid hx
          go_wp2
          go_quiet (fail)
          go_wp2
          go_roundw
          case rel => exact ⟨k+1, m+nq, by omega, by go_num, HU.out hx.out, by simp⟩
          case measure => simp [intOf]; omega
        · have hx1 : (x1.toList == x2.toList) = false := by rw [str_eq]; exact decide_eq_false hx
          have hx2 : (x1.toList != x2.toList) = true := by rw [bne, hx1]; rfl
          go_wp2
          go_quiet (fail)
          go_wp2
          go_ret
          exact ⟨ret_bool (by rw [decide_eq_false (HN.out hx)]), m+nq, by simp⟩
      · have HE := Lib.hid (takeS_end xs ys (by omega) hl.out hu)
        clear h h' hu
        go_wp2
        go_ret
        exact ⟨ret_bool (by rw [decide_eq_true HE.out]), m, rfl⟩
  · have hne : xs ≠ ys := fun e => hl (by rw [e])
    have HN := Lib.hid hne
    have hneq : ((xs.length : Int) != ys.length) = true := by rw [bne_iff_ne]; omega
    clear hne
    go_enter Tryz.func27, Tryz.ntmps27
    go_wp2
    go_ret
    exact ⟨ret_bool (by rw [decide_eq_false HN.out]), 0, rfl⟩

end Go.Proofs.YtmhgpbfogdoaeaaGreatDoor
