/-
  Codes of texts, as plain mathematics: what is a code, what words leave of each other as a list, words apart, ways by places.
-/
import Derived.Test.YtfmdbmhakkajfaaDoorMathC
import Derived.Test.YtfmdbmhakkajfaaDoorGA
namespace Go.Proofs.YtfmdbmhakkajfaaDoor

/-- The letters of a text. -/
abbrev tl (s : ByteArray) : List UInt8 := s.data.toList
theorem tl_inj {a b : ByteArray} (h : tl a = tl b) : a = b := ByteArray.ext (Array.toList_inj.1 h)
theorem tl_len (s : ByteArray) : (tl s).length = s.size := by simp
theorem tl_app (a b : ByteArray) : tl (a ++ b) = tl a ++ tl b := by simp [tl]
theorem tl_ext (s : ByteArray) (a b : Nat) : tl (s.extract a b) = ((tl s).drop a).take (b - a) := by simp [tl, List.extract_eq_take_drop]
theorem tl_from (s : ByteArray) (a : Nat) : tl (s.extract a s.size) = (tl s).drop a := by
  rw [tl_ext, List.take_of_length_le]
  rw [List.length_drop, tl_len]; omega
theorem tl_empty : tl ByteArray.empty = [] := rfl
theorem from_zero (s : ByteArray) : s.extract 0 s.size = s := tl_inj (by rw [tl_from, List.drop_zero])

def codeWord (s : ByteArray) : Bool := wordOk s && decide (s.size ≤ 4)
def codeOk (l : List ByteArray) : Bool := decide (1 ≤ l.length ∧ l.length ≤ 6) && l.all codeWord && decide l.Nodup
theorem codeOk_iff {l : List ByteArray} : codeOk l = true ↔ (1 ≤ l.length ∧ l.length ≤ 6) ∧ (∀ s ∈ l, codeWord s = true) ∧ l.Nodup := by
  simp only [codeOk, Bool.and_eq_true, decide_eq_true_eq, List.all_eq_true, and_assoc]
theorem codeOk_no {l : List ByteArray} (h : ¬ ((1 ≤ l.length ∧ l.length ≤ 6) ∧ (∀ s ∈ l, codeWord s = true) ∧ l.Nodup)) : codeOk l = false := by
  cases e : codeOk l
  · rfl
  · exact absurd (codeOk_iff.1 e) h
theorem codeWord_len {s : ByteArray} (h : codeWord s = true) : 1 ≤ s.size ∧ s.size ≤ 4 := by
  simp only [codeWord, Bool.and_eq_true, decide_eq_true_eq] at h
  exact ⟨(wordOk_len h.1).1, h.2⟩
theorem codeOk_len {l : List ByteArray} (h : codeOk l = true) {s : ByteArray} (hs : s ∈ l) : 1 ≤ s.size ∧ s.size ≤ 4 := codeWord_len ((codeOk_iff.1 h).2.1 s hs)
theorem getD_mem {l : List ByteArray} {k : Nat} (hk : k < l.length) : l.getD k ByteArray.empty ∈ l := by
  rw [List.getD_eq_getElem?_getD, List.getElem?_eq_getElem hk]; exact List.getElem_mem hk
theorem getD_inj {l : List ByteArray} (hn : l.Nodup) {j k : Nat} (hj : j < l.length) (hk : k < l.length) (h : l.getD j ByteArray.empty = l.getD k ByteArray.empty) : j = k := by
  rw [List.getD_eq_getElem?_getD, List.getElem?_eq_getElem hj, List.getD_eq_getElem?_getD, List.getElem?_eq_getElem hk] at h
  simp only [Option.getD_some] at h
  have hP := List.pairwise_iff_getElem.1 hn
  rcases Nat.lt_trichotomy j k with x | x | x
  · exact absurd h (hP j k hj hk x)
  · exact x
  · exact absurd h.symm (hP k j hk hj x)
theorem mem_getD {l : List ByteArray} {x : ByteArray} (h : x ∈ l) : ∃ k, k < l.length ∧ l.getD k ByteArray.empty = x := by
  obtain ⟨k, hk, e⟩ := List.mem_iff_getElem.1 h
  exact ⟨k, hk, by rw [List.getD_eq_getElem?_getD, List.getElem?_eq_getElem hk]; exact e⟩

/-- A text begins with another one. -/
def beg (s h : ByteArray) : Bool := (tl h).isPrefixOf (tl s)
theorem beg_iff {s h : ByteArray} : beg s h = true ↔ ∃ r, tl s = tl h ++ r := by
  unfold beg
  rw [List.isPrefixOf_iff_prefix]
  exact ⟨fun ⟨r, e⟩ => ⟨r, e.symm⟩, fun ⟨r, e⟩ => ⟨r, e.symm⟩⟩
theorem beg_le {s h : ByteArray} (hb : beg s h = true) : h.size ≤ s.size := by
  obtain ⟨r, e⟩ := beg_iff.1 hb
  have := congrArg List.length e
  rw [List.length_append, tl_len, tl_len] at this
  omega
theorem beg_take {s h : ByteArray} : beg s h = true ↔ h.size ≤ s.size ∧ s.extract 0 h.size = h := by
  constructor
  · intro hb
    refine ⟨beg_le hb, tl_inj ?_⟩
    obtain ⟨r, e⟩ := beg_iff.1 hb
    rw [tl_ext, e, List.drop_zero, Nat.sub_zero, ← tl_len h, List.take_left]
  · rintro ⟨_, e⟩
    refine beg_iff.2 ⟨(tl s).drop h.size, ?_⟩
    have : tl h = (tl s).take h.size := by
      conv => lhs; rw [← e]
      rw [tl_ext, List.drop_zero, Nat.sub_zero]
    rw [this, List.take_append_drop]
/-- What is behind it. -/
def rest (s h : ByteArray) : ByteArray := s.extract h.size s.size
theorem rest_tl (s h : ByteArray) : tl (rest s h) = (tl s).drop h.size := tl_from s h.size
theorem beg_rest {s h : ByteArray} (hb : beg s h = true) : tl s = tl h ++ tl (rest s h) := by
  obtain ⟨r, e⟩ := beg_iff.1 hb
  rw [rest_tl, e, ← tl_len h, List.drop_left]
theorem beg_self (s : ByteArray) : beg s s = true := beg_iff.2 ⟨[], by simp⟩
theorem beg_both {s h : ByteArray} (h1 : beg s h = true) (h2 : beg h s = true) : s = h := by
  have a := beg_le h1
  have b := beg_le h2
  obtain ⟨r, e⟩ := beg_iff.1 h1
  have := congrArg List.length e
  rw [List.length_append, tl_len, tl_len] at this
  have : r = [] := List.eq_nil_of_length_eq_zero (by omega)
  rw [this, List.append_nil] at e
  exact tl_inj e
theorem rest_size (s h : ByteArray) : (rest s h).size = s.size - h.size := by rw [← tl_len, rest_tl, List.length_drop, tl_len]

/-- The words as lists of letters. -/
abbrev wl (l : List ByteArray) : List (List UInt8) := l.map tl
theorem wl_ne {l : List ByteArray} (h : codeOk l = true) : ∀ x ∈ wl l, x ≠ [] := fun x hx e => by
  obtain ⟨s, hs, rfl⟩ := List.mem_map.1 hx
  have := (codeOk_len h hs).1
  rw [← tl_len, e] at this
  simp at this
theorem wl_nodup {l : List ByteArray} (h : codeOk l = true) : (wl l).Nodup := by
  have hn := (codeOk_iff.1 h).2.2
  unfold wl
  rw [List.nodup_iff_pairwise_ne, List.pairwise_map]
  exact List.Pairwise.imp (fun hne e => hne (tl_inj e)) hn
theorem wl_mem {l : List ByteArray} {s : ByteArray} : tl s ∈ wl l ↔ s ∈ l := by
  constructor
  · intro h
    obtain ⟨x, hx, e⟩ := List.mem_map.1 h
    rwa [← tl_inj e]
  · exact fun h => List.mem_map.2 ⟨s, h, rfl⟩

/-- A text that words leave of each other. -/
def DangB (l : List ByteArray) (d : ByteArray) : Prop := Dang (wl l) (tl d)
section
variable {l : List ByteArray} {u v d : ByteArray}
theorem dang_init (hu : u ∈ l) (hv : v ∈ l) (hne : u ≠ v) (hb : beg v u = true) : DangB l (rest v u) :=
  .init (wl_mem.2 hu) (wl_mem.2 hv) (fun e => hne (tl_inj e)) (beg_rest hb)
theorem dang_grow (hd : DangB l d) (hu : u ∈ l) (hb : beg u d = true) : DangB l (rest u d) := .grow hd (wl_mem.2 hu) (beg_rest hb)
theorem dang_eat (hd : DangB l d) (hu : u ∈ l) (hb : beg d u = true) : DangB l (rest d u) := .eat hd (wl_mem.2 hu) (beg_rest hb)
end
/-- A list that holds all that is left at once, and all that is left of what it holds, holds all. -/
theorem dang_all {l S : List ByteArray} (h1 : ∀ u ∈ l, ∀ v ∈ l, u ≠ v → beg v u = true → rest v u ∈ S) (h2 : ∀ d ∈ S, ∀ u ∈ l, beg u d = true → rest u d ∈ S) (h3 : ∀ d ∈ S, ∀ u ∈ l, beg d u = true → rest d u ∈ S) :
    ∀ x, Dang (wl l) x → ∃ d ∈ S, tl d = x := by
  intro x hx
  induction hx with
  | @init u v d hu hv hne e =>
    obtain ⟨u, hu', rfl⟩ := List.mem_map.1 hu
    obtain ⟨v, hv', rfl⟩ := List.mem_map.1 hv
    have hb : beg v u = true := beg_iff.2 ⟨d, e⟩
    refine ⟨rest v u, h1 u hu' v hv' (fun h => hne (by rw [h])) hb, ?_⟩
    have := beg_rest hb
    rw [e] at this
    exact (List.append_cancel_left this).symm
  | @grow u d e _ hu he ih =>
    obtain ⟨d, hd, rfl⟩ := ih
    obtain ⟨u, hu', rfl⟩ := List.mem_map.1 hu
    have hb : beg u d = true := beg_iff.2 ⟨e, he⟩
    refine ⟨rest u d, h2 d hd u hu' hb, ?_⟩
    have := beg_rest hb
    rw [he] at this
    exact (List.append_cancel_left this).symm
  | @eat u d e _ hu he ih =>
    obtain ⟨d, hd, rfl⟩ := ih
    obtain ⟨u, hu', rfl⟩ := List.mem_map.1 hu
    have hb : beg d u = true := beg_iff.2 ⟨e, he⟩
    refine ⟨rest d u, h3 d hd u hu' hb, ?_⟩
    have := beg_rest hb
    rw [he] at this
    exact (List.append_cancel_left this).symm

/-- The ends of a list. -/
def sufs : List UInt8 → List (List UInt8)
  | [] => [[]]
  | a :: r => (a :: r) :: sufs r
theorem sufs_len (x : List UInt8) : (sufs x).length = x.length + 1 := by induction x <;> simp [sufs, *]
theorem sufs_self (x : List UInt8) : x ∈ sufs x := by cases x <;> simp [sufs]
theorem sufs_app (a b : List UInt8) : b ∈ sufs (a ++ b) := by
  induction a with
  | nil => exact sufs_self b
  | cons c a ih => exact List.mem_cons_of_mem _ ih
theorem sufs_of {x y : List UInt8} (h : y ∈ sufs x) : ∃ a, x = a ++ y := by
  induction x with
  | nil => simp [sufs] at h; exact ⟨[], by simp [h]⟩
  | cons c x ih =>
    simp only [sufs, List.mem_cons] at h
    rcases h with rfl | h
    · exact ⟨[], rfl⟩
    · obtain ⟨a, e⟩ := ih h
      exact ⟨c :: a, by rw [e]; rfl⟩
def allSufs (l : List ByteArray) : List (List UInt8) := l.flatMap fun s => sufs (tl s)
theorem allSufs_len {l : List ByteArray} (h : ∀ s ∈ l, s.size ≤ 4) : (allSufs l).length ≤ 5 * l.length := by
  induction l with
  | nil => simp [allSufs]
  | cons s l ih =>
    have h1 := h s (by simp)
    have h2 := ih (fun x hx => h x (by simp [hx]))
    unfold allSufs at h2 ⊢
    rw [List.flatMap_cons, List.length_append, sufs_len, tl_len, List.length_cons]
    omega
theorem dang_suf {l : List ByteArray} {x : List UInt8} (h : Dang (wl l) x) : x ∈ allSufs l := by
  have key : ∃ s ∈ l, ∃ a, tl s = a ++ x := by
    induction h with
    | @init u v d hu hv hne e =>
      obtain ⟨v, hv', rfl⟩ := List.mem_map.1 hv
      exact ⟨v, hv', u, e⟩
    | @grow u d e _ hu he ih =>
      obtain ⟨u, hu', rfl⟩ := List.mem_map.1 hu
      exact ⟨u, hu', d, he⟩
    | @eat u d e _ hu he ih =>
      obtain ⟨s, hs, a, e'⟩ := ih
      exact ⟨s, hs, a ++ u, by rw [e', he, List.append_assoc]⟩
  obtain ⟨s, hs, a, e⟩ := key
  exact List.mem_flatMap.2 ⟨s, hs, by rw [e]; exact sufs_app a x⟩
theorem nodup_le {α : Type} [DecidableEq α] {a b : List α} (hn : a.Nodup) (h : ∀ x ∈ a, x ∈ b) : a.length ≤ b.length := by
  induction a generalizing b with
  | nil => simp
  | cons x a ih =>
    obtain ⟨h1, h2⟩ := List.nodup_cons.1 hn
    have hx : x ∈ b := h x (by simp)
    have := ih (b := b.erase x) h2 (fun y hy => by
      have hne : y ≠ x := fun e => h1 (e ▸ hy)
      exact (List.mem_erase_of_ne hne).2 (h y (by simp [hy])))
    rw [List.length_erase_of_mem hx] at this
    have h3 : 0 < b.length := List.length_pos_of_mem hx
    simp only [List.length_cons]; omega
/-- There are no more than 30 such texts. -/
theorem dang_few {l S : List ByteArray} (h : codeOk l = true) (hn : S.Nodup) (hS : ∀ d ∈ S, DangB l d) : S.length ≤ 30 := by
  have h1 : (S.map tl).length ≤ (allSufs l).length := nodup_le (by
    rw [List.nodup_iff_pairwise_ne, List.pairwise_map]
    exact List.Pairwise.imp (fun hne e => hne (tl_inj e)) hn) (fun x hx => by
      obtain ⟨d, hd, rfl⟩ := List.mem_map.1 hx
      exact dang_suf (hS d hd))
  have h2 := allSufs_len (l := l) (fun s hs => (codeOk_len h hs).2)
  have h3 := (codeOk_iff.1 h).1.2
  rw [List.length_map] at h1
  omega
theorem dang_size {l : List ByteArray} {d : ByteArray} (h : codeOk l = true) (hd : DangB l d) : d.size ≤ 4 := by
  obtain ⟨s, hs, hx⟩ := List.mem_flatMap.1 (dang_suf hd)
  obtain ⟨a, e⟩ := sufs_of hx
  have := congrArg List.length e
  have h4 := (codeOk_len h hs).2
  rw [List.length_append, tl_len, tl_len] at this
  omega

open Classical in
/-- No text is made of words in two ways. -/
noncomputable def readOk (l : List ByteArray) : Bool := codeOk l && decide (¬ Dang (wl l) [])
def apartOk (l : List ByteArray) : Bool := codeOk l && l.all fun u => l.all fun v => decide (u = v) || !beg v u
theorem readOk_iff {l : List ByteArray} : readOk l = true ↔ codeOk l = true ∧ ¬ Dang (wl l) [] := by
  simp [readOk]
theorem readOk_ud {l : List ByteArray} : readOk l = true ↔ codeOk l = true ∧ UD (wl l) := by
  rw [readOk_iff]
  exact ⟨fun ⟨h1, h2⟩ => ⟨h1, (ud_iff (wl_ne h1)).2 h2⟩, fun ⟨h1, h2⟩ => ⟨h1, (ud_iff (wl_ne h1)).1 h2⟩⟩
theorem readOk_yes {l S : List ByteArray} (hc : codeOk l = true) (h1 : ∀ u ∈ l, ∀ v ∈ l, u ≠ v → beg v u = true → rest v u ∈ S) (h2 : ∀ d ∈ S, ∀ u ∈ l, beg u d = true → rest u d ∈ S) (h3 : ∀ d ∈ S, ∀ u ∈ l, beg d u = true → rest d u ∈ S) (h4 : ByteArray.empty ∉ S) : readOk l = true :=
  readOk_iff.2 ⟨hc, fun h => by
    obtain ⟨d, hd, e⟩ := dang_all h1 h2 h3 [] h
    have : d = ByteArray.empty := tl_inj e
    exact h4 (this ▸ hd)⟩
theorem readOk_no {l : List ByteArray} {d : ByteArray} (h : DangB l d) (e : d = ByteArray.empty) : readOk l = false := by
  cases hr : readOk l
  · rfl
  · subst e; exact absurd h (readOk_iff.1 hr).2
theorem readOk_code {l : List ByteArray} (h : codeOk l = false) : readOk l = false := by simp [readOk, h]
theorem apartOk_iff {l : List ByteArray} : apartOk l = true ↔ codeOk l = true ∧ ∀ u ∈ l, ∀ v ∈ l, u ≠ v → beg v u = false := by
  simp only [apartOk, Bool.and_eq_true, List.all_eq_true, Bool.or_eq_true, decide_eq_true_eq, Bool.not_eq_true']
  exact ⟨fun ⟨h1, h2⟩ => ⟨h1, fun u hu v hv hne => (h2 u hu v hv).resolve_left hne⟩, fun ⟨h1, h2⟩ => ⟨h1, fun u hu v hv => by
    by_cases e : u = v
    · exact .inl e
    · exact .inr (h2 u hu v hv e)⟩⟩
theorem apartOk_no {l : List ByteArray} {u v : ByteArray} (hu : u ∈ l) (hv : v ∈ l) (hne : u ≠ v) (hb : beg v u = true) : apartOk l = false := by
  cases h : apartOk l
  · rfl
  · rw [(apartOk_iff.1 h).2 u hu v hv hne] at hb; cases hb
theorem apartOk_code {l : List ByteArray} (h : codeOk l = false) : apartOk l = false := by simp [apartOk, h]
/-- Words that are apart can be read. -/
theorem apart_read {l : List ByteArray} (h : apartOk l = true) : readOk l = true := by
  obtain ⟨h1, h2⟩ := apartOk_iff.1 h
  refine readOk_yes (S := []) h1 (fun u hu v hv hne hb => ?_) (by simp) (by simp) (by simp)
  rw [h2 u hu v hv hne] at hb; cases hb
/-- Words of as many letters each are apart. -/
theorem alike_apart {l : List ByteArray} (h : codeOk l = true) {n : Nat} (ha : ∀ s ∈ l, s.size = n) : apartOk l = true :=
  apartOk_iff.2 ⟨h, fun u hu v hv hne => by
    cases hb : beg v u
    · rfl
    · exfalso
      obtain ⟨_, e⟩ := beg_take.1 hb
      rw [ha u hu, ← ha v hv, from_zero] at e
      exact hne e.symm⟩
/-- A code without its last word is one. -/
theorem codeOk_init {l : List ByteArray} (h : codeOk l = true) (h2 : 2 ≤ l.length) : codeOk (l.take (l.length - 1)) = true := by
  obtain ⟨h1, hw, hn⟩ := codeOk_iff.1 h
  have hs := List.take_sublist (l.length - 1) l
  exact codeOk_iff.2 ⟨by rw [List.length_take]; omega, fun s m => hw s (hs.subset m), hn.sublist hs⟩

/-- Words turned round. -/
def rev (s : ByteArray) : ByteArray := ⟨s.data.reverse⟩
theorem rev_tl (s : ByteArray) : tl (rev s) = (tl s).reverse := by simp [rev, tl]
theorem rev_rev (s : ByteArray) : rev (rev s) = s := tl_inj (by rw [rev_tl, rev_tl, List.reverse_reverse])
theorem rev_size (s : ByteArray) : (rev s).size = s.size := by rw [← tl_len, rev_tl, List.length_reverse, tl_len]
theorem rev_word (s : ByteArray) : codeWord (rev s) = codeWord s := by
  unfold codeWord wordOk
  rw [rev_size]
  have e : (rev s).data.toList.all letterOk = s.data.toList.all letterOk := by
    show (tl (rev s)).all letterOk = (tl s).all letterOk
    rw [rev_tl, List.all_reverse]
  rw [e]
def roundOf (l : List ByteArray) : List ByteArray := if codeOk l then l.map rev else []
theorem round_code {l : List ByteArray} : codeOk (l.map rev) = codeOk l := by
  have key : ∀ l, codeOk l = true → codeOk (l.map rev) = true := fun l h => by
    obtain ⟨h1, hw, hn⟩ := codeOk_iff.1 h
    refine codeOk_iff.2 ⟨by rwa [List.length_map], fun s m => ?_, ?_⟩
    · obtain ⟨x, hx, rfl⟩ := List.mem_map.1 m
      rw [rev_word]; exact hw x hx
    · rw [List.nodup_iff_pairwise_ne, List.pairwise_map]
      exact List.Pairwise.imp (fun {a b} hne e => hne (by rw [← rev_rev a, e, rev_rev])) hn
  cases h : codeOk l
  · cases h2 : codeOk (l.map rev)
    · rfl
    · have := key _ h2
      rw [List.map_map] at this
      have e : l.map (rev ∘ rev) = l := by
        conv => rhs; rw [← List.map_id l]
        exact List.map_congr_left fun x _ => rev_rev x
      rw [e, h] at this; cases this
  · exact key l h
theorem round_twice {l : List ByteArray} (h : codeOk l = true) : roundOf (roundOf l) = l := by
  have h2 := round_code (l := l)
  unfold roundOf
  rw [h, if_pos rfl, h2, h, if_pos rfl, List.map_map]
  conv => rhs; rw [← List.map_id l]
  exact List.map_congr_left fun x _ => rev_rev x
theorem round_read {l : List ByteArray} (h : codeOk l = true) : readOk (roundOf l) = readOk l := by
  have e : wl (l.map rev) = (wl l).map List.reverse := by
    unfold wl
    rw [List.map_map, List.map_map]
    exact List.map_congr_left fun x _ => rev_tl x
  have key : readOk (roundOf l) = true ↔ readOk l = true := by
    unfold roundOf
    rw [h, if_pos rfl, readOk_ud, readOk_ud, round_code, e, ud_round_iff]
  cases h1 : readOk l
  · cases h2 : readOk (roundOf l)
    · rfl
    · rw [key.1 h2] at h1; cases h1
  · exact key.2 h1

/-- The ways of what is behind a place. -/
def waysN (l : List ByteArray) (s : ByteArray) : Nat := waysC (wl l) (tl s)
def wf (l : List ByteArray) (s : ByteArray) (p : Nat) : Nat := waysC (wl l) ((tl s).drop p)
def waysV (l : List ByteArray) (s : ByteArray) : Int := if codeOk l && decide (s.size ≤ 24) then (waysN l s : Int) else -1
theorem wf_zero (l : List ByteArray) (s : ByteArray) : wf l s 0 = waysN l s := rfl
theorem wf_from (l : List ByteArray) (s : ByteArray) (p : Nat) : wf l s p = waysN l (s.extract p s.size) := by unfold wf waysN; rw [tl_from]
theorem wf_end (l : List ByteArray) (s : ByteArray) : wf l s s.size = 1 := by
  unfold wf
  rw [List.drop_eq_nil_of_le (by rw [tl_len]; exact Nat.le_refl _)]
  unfold waysC; exact ways_nil _ _
/-- A word fits at a place. -/
def fitsAt (s : ByteArray) (p : Nat) (u : ByteArray) : Bool := beg (s.extract p s.size) u
theorem fits_le {s u : ByteArray} {p : Nat} (hp : p ≤ s.size) (h : fitsAt s p u = true) : p + u.size ≤ s.size := by
  have := beg_le h
  rw [ByteArray.size_extract] at this
  omega
/-- The ways by the first k words. -/
def wayTo (l : List ByteArray) (s : ByteArray) (p k : Nat) : Nat := ((l.take k).map fun u => if fitsAt s p u then wf l s (p + u.size) else 0).sum
theorem wayTo_zero (l : List ByteArray) (s : ByteArray) (p : Nat) : wayTo l s p 0 = 0 := by simp [wayTo]
theorem wayTo_go {l : List ByteArray} (s : ByteArray) (p : Nat) {k : Nat} (hk : k < l.length) :
    wayTo l s p (k + 1) = wayTo l s p k + if fitsAt s p (l.getD k ByteArray.empty) then wf l s (p + (l.getD k ByteArray.empty).size) else 0 := by
  unfold wayTo
  rw [List.take_succ_eq_append_getElem hk, List.map_append, List.sum_append]
  simp [List.getD_eq_getElem?_getD, hk]
theorem sum_filter {ι : Type} (l : List ι) (p : ι → Bool) (f : ι → Nat) : ((l.filter p).map f).sum = (l.map fun u => if p u then f u else 0).sum := by
  induction l with
  | nil => rfl
  | cons a l ih =>
    rw [List.filter_cons, List.map_cons, List.sum_cons, ← ih]
    cases p a <;> simp
theorem wayTo_end {l : List ByteArray} (h : codeOk l = true) {s : ByteArray} {p : Nat} (hp : p < s.size) : wayTo l s p l.length = wf l s p := by
  have hne : (tl s).drop p ≠ [] := fun e => by
    have := congrArg List.length e
    rw [List.length_drop, tl_len] at this
    simp at this; omega
  unfold wayTo
  rw [List.take_length]
  conv => rhs; unfold wf; rw [ways_go (wl_ne h) hne, sum_filter]
  unfold wl
  rw [List.map_map]
  congr 1
  refine List.map_congr_left fun u _ => ?_
  show _ = if (tl u).isPrefixOf ((tl s).drop p) = true then _ else 0
  unfold fitsAt beg wf
  rw [tl_from, List.drop_drop, tl_len]
theorem wayTo_mono (l : List ByteArray) (s : ByteArray) (p k : Nat) (hk : k ≤ l.length) : wayTo l s p k ≤ wayTo l s p l.length := by
  have h : ∀ d, k + d ≤ l.length → wayTo l s p k ≤ wayTo l s p (k + d) := by
    intro d
    induction d with
    | zero => intro _; exact Nat.le_refl _
    | succ d ih => intro h; have := ih (by omega); rw [show k + (d + 1) = (k + d) + 1 by omega, wayTo_go s p (show k + d < l.length by omega)]; omega
  have := h (l.length - k) (by omega)
  rwa [show k + (l.length - k) = l.length by omega] at this
theorem sum_leN {ι : Type} (l : List ι) (f : ι → Nat) (m : Nat) (h : ∀ x ∈ l, f x ≤ m) : (l.map f).sum ≤ l.length * m := by
  induction l with
  | nil => simp
  | cons a l ih =>
    rw [List.map_cons, List.sum_cons, List.length_cons, Nat.succ_mul]
    have := h a (by simp)
    have := ih fun x hx => h x (by simp [hx])
    omega
theorem wf_bd {l : List ByteArray} (h : codeOk l = true) (s : ByteArray) : ∀ n p, s.size ≤ p + n → wf l s p ≤ 6 ^ n := by
  intro n
  induction n with
  | zero =>
    intro p hp
    unfold wf
    rw [List.drop_eq_nil_of_le (by rw [tl_len]; omega)]
    unfold waysC; rw [ways_nil]; exact Nat.le_refl _
  | succ n ih =>
    intro p hp
    by_cases hlt : p < s.size
    · rw [← wayTo_end h hlt]
      unfold wayTo
      rw [List.take_length]
      have h6 := (codeOk_iff.1 h).1.2
      have := sum_leN l (fun u => if fitsAt s p u then wf l s (p + u.size) else 0) (6 ^ n) (fun u hu => by
        show (if _ then _ else _) ≤ _
        split
        · have := (codeOk_len h hu).1
          exact ih _ (by omega)
        · exact Nat.zero_le _)
      refine Nat.le_trans this ?_
      rw [Nat.pow_succ, Nat.mul_comm]
      exact Nat.mul_le_mul_left _ h6
    · have := ih p (by omega)
      refine Nat.le_trans this ?_
      rw [Nat.pow_succ]; omega
theorem wf_small {l : List ByteArray} (h : codeOk l = true) {s : ByteArray} (hs : s.size ≤ 24) (p : Nat) : wf l s p ≤ 4738381338321616896 := by
  have := wf_bd h s 24 p (by omega)
  exact Nat.le_trans this (by decide)
theorem wayTo_small {l : List ByteArray} (h : codeOk l = true) {s : ByteArray} (hs : s.size ≤ 24) {p : Nat} (hp : p < s.size) {k : Nat} (hk : k ≤ l.length) : wayTo l s p k ≤ 4738381338321616896 := by
  have h1 := wayTo_mono l s p k hk
  rw [wayTo_end h hp] at h1
  exact Nat.le_trans h1 (wf_small h hs p)
end Go.Proofs.YtfmdbmhakkajfaaDoor
