/-
  Rows of digits as plain mathematics: their runs, what is said of them, what is put back, said again, parts that never meet.
-/
import Derived.Test.YtfcjhelhhefkkaaMathD
namespace Go.Proofs.Ytfcjhelhhefkkaa

/-- A run: how often, and which byte. -/
abbrev RunB := Nat × UInt8
def push (b : UInt8) : List RunB → List RunB
  | [] => [(1, b)]
  | (t, c) :: q => if b = c then (t + 1, c) :: q else (1, b) :: (t, c) :: q
def runs : List UInt8 → List RunB
  | [] => []
  | b :: r => push b (runs r)
def flat : List RunB → List UInt8
  | [] => []
  | (t, c) :: q => List.replicate t c ++ flat q
/-- Runs as they may stand behind each other. -/
def Wf : List RunB → Prop
  | [] => True
  | (t, c) :: q => 1 ≤ t ∧ (∀ x, q.head? = some x → x.2 ≠ c) ∧ Wf q

theorem push_ne (b : UInt8) (q : List RunB) : push b q ≠ [] := by
  unfold push; split
  · simp
  · split <;> simp
theorem push_app (b : UInt8) {q : List RunB} (h : q ≠ []) (r : List RunB) : push b (q ++ r) = push b q ++ r := by
  cases q with
  | nil => exact absurd rfl h
  | cons x q =>
    obtain ⟨t, c⟩ := x
    simp only [push, List.cons_append]
    split <;> rfl
theorem runs_ne {l : List UInt8} (h : l ≠ []) : runs l ≠ [] := by
  cases l with
  | nil => exact absurd rfl h
  | cons b r => exact push_ne _ _
theorem flat_push (b : UInt8) (q : List RunB) : flat (push b q) = b :: flat q := by
  unfold push; split
  · rfl
  · rename_i t c q
    split
    · rename_i e
      subst e
      simp [flat, List.replicate_succ]
    · simp [flat]
theorem flat_runs (l : List UInt8) : flat (runs l) = l := by
  induction l with
  | nil => rfl
  | cons b r ih => rw [runs, flat_push, ih]
theorem flat_app (p q : List RunB) : flat (p ++ q) = flat p ++ flat q := by
  induction p with
  | nil => rfl
  | cons x p ih => obtain ⟨t, c⟩ := x; simp [flat, ih, List.append_assoc]
theorem push_wf (b : UInt8) {q : List RunB} (h : Wf q) : Wf (push b q) := by
  unfold push; split
  · exact ⟨Nat.le_refl _, by simp, trivial⟩
  · rename_i t c q
    obtain ⟨h1, h2, h3⟩ := h
    split
    · exact ⟨by omega, h2, h3⟩
    · rename_i e
      exact ⟨Nat.le_refl _, by intro x hx; simp at hx; subst hx; exact fun k => e k.symm, h1, h2, h3⟩
theorem runs_wf (l : List UInt8) : Wf (runs l) := by
  induction l with
  | nil => trivial
  | cons b r ih => exact push_wf b ih
theorem runs_rep (n : Nat) (c : UInt8) {q : List RunB} (h : ∀ x, q.head? = some x → x.2 ≠ c) (r : List UInt8) (hr : runs r = q) : runs (List.replicate (n + 1) c ++ r) = (n + 1, c) :: q := by
  induction n with
  | zero =>
    simp only [List.replicate_succ, List.replicate_zero, List.cons_append, List.nil_append, runs, hr]
    cases q with
    | nil => rfl
    | cons x q =>
      obtain ⟨t, d⟩ := x
      have := h (t, d) rfl
      simp only [push]
      rw [if_neg (fun e => this e.symm)]
  | succ n ih =>
    rw [List.replicate_succ, List.cons_append, runs, ih, push, if_pos rfl]
theorem runs_flat {q : List RunB} (h : Wf q) : runs (flat q) = q := by
  induction q with
  | nil => rfl
  | cons x q ih =>
    obtain ⟨t, c⟩ := x
    obtain ⟨h1, h2, h3⟩ := h
    obtain ⟨n, rfl⟩ : ∃ n, t = n + 1 := ⟨t - 1, by omega⟩
    exact runs_rep n c h2 _ (ih h3)
theorem wf_inj {p q : List RunB} (hp : Wf p) (hq : Wf q) (h : flat p = flat q) : p = q := by rw [← runs_flat hp, ← runs_flat hq, h]
theorem push_head (b : UInt8) (q : List RunB) : (push b q).head?.map (·.2) = some b := by
  unfold push; split
  · rfl
  · split
    · rename_i e; simp [e]
    · rfl
theorem runs_head (l : List UInt8) : (runs l).head?.map (·.2) = l.head? := by
  cases l with
  | nil => rfl
  | cons b r => exact push_head _ _
theorem runs_app {x y : List UInt8} (h : ∀ a, x.getLast? = some a → y.head? ≠ some a) : runs (x ++ y) = runs x ++ runs y := by
  induction x with
  | nil => rfl
  | cons a x ih =>
    cases x with
    | nil =>
      have hy := h a rfl
      rw [← runs_head] at hy
      simp only [List.cons_append, List.nil_append, runs]
      cases e : runs y with
      | nil => rfl
      | cons z q =>
        obtain ⟨t, c⟩ := z
        rw [e] at hy
        simp only [push]
        rw [if_neg (fun k => hy (by simp [k]))]
        rfl
    | cons b x =>
      have := ih (fun a' h' => h a' (by simpa using h'))
      rw [List.cons_append, runs, this, push_app _ (runs_ne (by simp))]
      rfl
theorem runs_snoc_new {l : List UInt8} {b : UInt8} (h : l.getLast? ≠ some b) : runs (l ++ [b]) = runs l ++ [(1, b)] := by
  rw [runs_app (fun a ha e => h (by rw [ha]; simpa using e.symm))]; rfl
theorem wf_front {p q : List RunB} (h : Wf (p ++ q)) : Wf p := by
  induction p with
  | nil => trivial
  | cons x p ih =>
    obtain ⟨t, c⟩ := x
    obtain ⟨h1, h2, h3⟩ := h
    refine ⟨h1, ?_, ih h3⟩
    intro x hx
    refine h2 x ?_
    cases p with
    | nil => cases hx
    | cons y p => exact hx
theorem wf_more {p : List RunB} {t : Nat} {c : UInt8} (h : Wf (p ++ [(t, c)])) : Wf (p ++ [(t + 1, c)]) := by
  induction p with
  | nil => exact ⟨by omega, h.2.1, trivial⟩
  | cons x p ih =>
    obtain ⟨t', c'⟩ := x
    obtain ⟨h1, h2, h3⟩ := h
    refine ⟨h1, ?_, ih h3⟩
    intro x hx
    cases p with
    | nil => simp at hx; subst hx; exact h2 (t, c) rfl
    | cons y p => exact h2 x hx
theorem rep_last {t : Nat} {c : UInt8} (h : 1 ≤ t) : (List.replicate t c).getLast? = some c := by
  obtain ⟨n, rfl⟩ : ∃ n, t = n + 1 := ⟨t - 1, by omega⟩
  rw [List.replicate_succ']; simp
theorem wf_mem {q : List RunB} (h : Wf q) : ∀ x ∈ q, 1 ≤ x.1 := by
  induction q with
  | nil => intro x hx; cases hx
  | cons y q ih =>
    obtain ⟨t, c⟩ := y
    obtain ⟨h1, _, h3⟩ := h
    intro x hx
    rcases List.mem_cons.1 hx with rfl | hx
    · exact h1
    · exact ih h3 x hx
/-- The last byte belongs to the last run. -/
theorem runs_last {l : List UInt8} {b : UInt8} (h : l.getLast? = some b) : ∃ q t, runs l = q ++ [(t, b)] ∧ 1 ≤ t := by
  have hne : runs l ≠ [] := runs_ne (by rintro rfl; cases h)
  obtain ⟨q, x, e⟩ : ∃ q x, runs l = q ++ [x] := ⟨_, _, (List.dropLast_concat_getLast hne).symm⟩
  obtain ⟨t, c⟩ := x
  have ht : 1 ≤ t := wf_mem (runs_wf l) (t, c) (by rw [e]; simp)
  have hl := flat_runs l
  rw [e, flat_app] at hl
  have h2 : (flat [(t, c)]) = List.replicate t c := by simp [flat]
  rw [h2] at hl
  rw [← hl, List.getLast?_append, rep_last ht] at h
  simp at h
  subst h
  exact ⟨q, t, e, ht⟩
theorem runs_snoc_same {l : List UInt8} {b : UInt8} {q : List RunB} {t : Nat} (e : runs l = q ++ [(t, b)]) : runs (l ++ [b]) = q ++ [(t + 1, b)] := by
  have hw := runs_wf l
  rw [e] at hw
  have hf : flat (q ++ [(t + 1, b)]) = l ++ [b] := by
    have := flat_runs l
    rw [e] at this
    rw [← this, flat_app, flat_app]
    simp [flat, List.replicate_succ', List.append_assoc]
  rw [← hf]
  exact runs_flat (wf_more hw)
theorem last_runs {l : List UInt8} {q : List RunB} {t : Nat} {b : UInt8} (e : runs l = q ++ [(t, b)]) : l.getLast? = some b := by
  have ht : 1 ≤ t := wf_mem (runs_wf l) (t, b) (by rw [e]; simp)
  have hl := flat_runs l
  rw [e, flat_app] at hl
  rw [← hl, List.getLast?_append]
  simp [flat, rep_last ht]

/-- A run of a row: a digit from 1 to 9, at most nine times. -/
def okRun (x : RunB) : Bool := decide (49 ≤ x.2.toNat ∧ x.2.toNat ≤ 57 ∧ x.1 ≤ 9)
theorem okRun_iff (x : RunB) : okRun x = true ↔ 49 ≤ x.2.toNat ∧ x.2.toNat ≤ 57 ∧ x.1 ≤ 9 := by simp [okRun]
def fine (l : List UInt8) : Bool := (runs l).all okRun
def rowL (l : List UInt8) : Bool := decide (l.length ≤ 60) && fine l
theorem rowL_iff {l : List UInt8} : rowL l = true ↔ l.length ≤ 60 ∧ ∀ x ∈ runs l, okRun x = true := by simp [rowL, fine]
theorem fine_snoc {l : List UInt8} {b : UInt8} (h : fine (l ++ [b]) = true) : fine l = true := by
  unfold fine at h ⊢
  by_cases hb : l.getLast? = some b
  · obtain ⟨q, t, e, ht⟩ := runs_last hb
    rw [runs_snoc_same e] at h
    rw [e]
    simp only [List.all_append, List.all_cons, List.all_nil, Bool.and_true, Bool.and_eq_true] at h ⊢
    refine ⟨h.1, ?_⟩
    have := (okRun_iff _).1 h.2
    exact (okRun_iff _).2 ⟨this.1, this.2.1, by have := this.2.2; simp only at this ⊢; omega⟩
  · rw [runs_snoc_new hb, List.all_append, Bool.and_eq_true] at h
    exact h.1
theorem fine_front {l r : List UInt8} (h : fine (l ++ r) = true) : fine l = true := by
  suffices ∀ (n : Nat) (r : List UInt8), r.length = n → fine (l ++ r) = true → fine l = true from this _ r rfl h
  intro n
  induction n with
  | zero => intro r hr h; rw [List.eq_nil_of_length_eq_zero hr, List.append_nil] at h; exact h
  | succ n ih =>
    intro r hr h
    have hne : r ≠ [] := by rintro rfl; cases hr
    rw [← List.dropLast_concat_getLast hne, ← List.append_assoc] at h
    exact ih _ (by rw [List.length_dropLast]; omega) (fine_snoc h)
theorem fine_take {l : List UInt8} (k : Nat) (h : fine l = true) : fine (l.take k) = true := by
  rw [← List.take_append_drop k l] at h; exact fine_front h
theorem row_take {l : List UInt8} (k : Nat) (h : rowL l = true) : rowL (l.take k) = true := by
  unfold rowL at h ⊢
  simp only [Bool.and_eq_true, decide_eq_true_eq] at h ⊢
  exact ⟨by rw [List.length_take]; omega, fine_take k h.2⟩
theorem row_long {l : List UInt8} (h : ¬ l.length ≤ 60) : rowL l = false := by simp [rowL, h]
theorem row_bad {l : List UInt8} (h : fine l = false) : rowL l = false := by simp [rowL, h]
theorem row_len {l : List UInt8} (h : rowL l = true) : l.length ≤ 60 := (rowL_iff.1 h).1

def said : List RunB → List UInt8
  | [] => []
  | (t, c) :: q => UInt8.ofNat (48 + t) :: c :: said q
theorem said_len (q : List RunB) : (said q).length = 2 * q.length := by
  induction q with
  | nil => rfl
  | cons x q ih => obtain ⟨t, c⟩ := x; simp [said, ih]; omega
theorem said_app (p q : List RunB) : said (p ++ q) = said p ++ said q := by
  induction p with
  | nil => rfl
  | cons x p ih => obtain ⟨t, c⟩ := x; simp [said, ih]
def saidL (l : List UInt8) : Option (List UInt8) := if (rowL l && rowL (said (runs l))) = true then some (said (runs l)) else none
theorem saidL_some {l x : List UInt8} : saidL l = some x ↔ rowL l = true ∧ rowL (said (runs l)) = true ∧ x = said (runs l) := by
  unfold saidL
  constructor
  · intro h
    split at h
    · rename_i hh
      rw [Bool.and_eq_true] at hh
      exact ⟨hh.1, hh.2, by cases h; rfl⟩
    · cases h
  · rintro ⟨h1, h2, rfl⟩
    rw [h1, h2]; rfl
theorem saidL_yes {l : List UInt8} (h1 : rowL l = true) (h2 : rowL (said (runs l)) = true) : saidL l = some (said (runs l)) := saidL_some.2 ⟨h1, h2, rfl⟩
theorem saidL_no {l : List UInt8} (h1 : rowL l = false) : saidL l = none := by unfold saidL; rw [h1]; rfl
theorem saidL_long {l : List UInt8} (h1 : rowL (said (runs l)) = false) : saidL l = none := by unfold saidL; rw [h1, Bool.and_false]; rfl
theorem saidL_ne {l x : List UInt8} (hl : l ≠ []) (h : saidL l = some x) : x ≠ [] := by
  obtain ⟨_, _, rfl⟩ := saidL_some.1 h
  intro e
  have := said_len (runs l)
  rw [e] at this
  have h2 := runs_ne hl
  cases e2 : runs l with
  | nil => exact h2 e2
  | cons a b => rw [e2] at this; simp at this

/-- What is put back. -/
def putBack : List UInt8 → List UInt8
  | t :: d :: r => List.replicate (t.toNat - 48) d ++ putBack r
  | _ => []
def unsaidL (l : List UInt8) : Option (List UInt8) := if (rowL l && decide (saidL (putBack l) = some l)) = true then some (putBack l) else none
theorem unsaidL_some {l x : List UInt8} : unsaidL l = some x ↔ rowL l = true ∧ saidL (putBack l) = some l ∧ x = putBack l := by
  unfold unsaidL
  constructor
  · intro h
    split at h
    · rename_i hh
      rw [Bool.and_eq_true, decide_eq_true_eq] at hh
      exact ⟨hh.1, hh.2, by cases h; rfl⟩
    · cases h
  · rintro ⟨h1, h2, rfl⟩
    rw [h1, decide_eq_true h2]; rfl
theorem unsaidL_no {l : List UInt8} (h : rowL l = false) : unsaidL l = none := by unfold unsaidL; rw [h]; rfl
theorem unsaidL_other {l : List UInt8} (h : saidL (putBack l) ≠ some l) : unsaidL l = none := by unfold unsaidL; rw [decide_eq_false h, Bool.and_false]; rfl
theorem unsaidL_yes {l : List UInt8} (h1 : rowL l = true) (h2 : saidL (putBack l) = some l) : unsaidL l = some (putBack l) := unsaidL_some.2 ⟨h1, h2, rfl⟩
theorem said_even {l x : List UInt8} (h : saidL l = some x) : x.length % 2 = 0 := by
  obtain ⟨_, _, rfl⟩ := saidL_some.1 h
  rw [said_len]; omega
theorem unsaid_odd {l : List UInt8} (h : l.length % 2 ≠ 0) : unsaidL l = none := unsaidL_other fun e => h (said_even e)
theorem ofNat_48 {t : Nat} (h : t ≤ 9) : (UInt8.ofNat (48 + t)).toNat = 48 + t := by
  rw [UInt8.toNat_ofNat']; omega
theorem back_said {q : List RunB} (h : ∀ x ∈ q, x.1 ≤ 9) : putBack (said q) = flat q := by
  induction q with
  | nil => rfl
  | cons x q ih =>
    obtain ⟨t, c⟩ := x
    have ht := h (t, c) (by simp)
    simp only [said, putBack, flat, ofNat_48 ht]
    rw [ih (fun x hx => h x (by simp [hx])), show 48 + t - 48 = t by omega]
theorem row_runs {l : List UInt8} (h : rowL l = true) : ∀ x ∈ runs l, x.1 ≤ 9 := fun x hx => ((okRun_iff x).1 ((rowL_iff.1 h).2 x hx)).2.2
theorem said_back {l x : List UInt8} (h : saidL l = some x) : unsaidL x = some l := by
  obtain ⟨h1, h2, rfl⟩ := saidL_some.1 h
  have hb : putBack (said (runs l)) = l := by rw [back_said (row_runs h1), flat_runs]
  exact unsaidL_some.2 ⟨h2, by rw [hb]; exact h, hb.symm⟩

/-! What is said of a row has no byte four times at once. -/
def Four (l : List UInt8) : Prop := ∃ p q b, l = p ++ b :: b :: b :: b :: q
theorem said_four {q : List RunB} (h : Wf q) : ¬ Four (said q) := by
  induction q with
  | nil => rintro ⟨p, r, b, e⟩; simp [said] at e
  | cons x q ih =>
    obtain ⟨t, c⟩ := x
    obtain ⟨h1, h2, h3⟩ := h
    rintro ⟨p, r, b, e⟩
    rw [said] at e
    cases p with
    | nil =>
      cases q with
      | nil => simp [said] at e
      | cons y q =>
        obtain ⟨t', c'⟩ := y
        simp only [said, List.nil_append, List.cons.injEq] at e
        exact h2 (t', c') rfl (e.2.2.2.1.trans e.2.1.symm)
    | cons a p =>
      cases p with
      | nil =>
        cases q with
        | nil => simp [said] at e
        | cons y q =>
          obtain ⟨t', c'⟩ := y
          simp only [said, List.nil_append, List.cons_append, List.cons.injEq] at e
          exact h2 (t', c') rfl (e.2.2.2.1.trans e.2.1.symm)
      | cons a' p =>
        simp only [List.cons_append, List.cons.injEq] at e
        exact ih h3 ⟨p, r, b, e.2.2⟩
theorem mem_split_flat {q : List RunB} {x : RunB} (h : x ∈ q) : ∃ a b, flat q = a ++ List.replicate x.1 x.2 ++ b := by
  induction q with
  | nil => cases h
  | cons y q ih =>
    rcases List.mem_cons.1 h with rfl | h
    · exact ⟨[], flat q, by obtain ⟨t, c⟩ := x; simp [flat]⟩
    · obtain ⟨a, b, e⟩ := ih h
      obtain ⟨t, c⟩ := y
      exact ⟨List.replicate t c ++ a, b, by simp [flat, e, List.append_assoc]⟩
theorem three {l : List UInt8} (h : ¬ Four l) : ∀ x ∈ runs l, x.1 ≤ 3 := by
  intro x hx
  rcases Nat.lt_or_ge 3 x.1 with hlt | hge
  · exfalso
    obtain ⟨a, b, e⟩ := mem_split_flat hx
    rw [flat_runs] at e
    obtain ⟨n, hn⟩ : ∃ n, x.1 = n + 4 := ⟨x.1 - 4, by omega⟩
    rw [hn] at e
    exact h ⟨a, List.replicate n x.2 ++ b, x.2, by rw [e]; simp [List.replicate_succ, List.append_assoc]⟩
  · exact hge
theorem mem_runs {l : List UInt8} {x : RunB} (h : x ∈ runs l) : x.2 ∈ l := by
  obtain ⟨a, b, e⟩ := mem_split_flat h
  rw [flat_runs] at e
  have := wf_mem (runs_wf l) x h
  rw [e]
  simp only [List.mem_append, List.mem_replicate]
  exact .inl (.inr ⟨by omega, trivial⟩)
theorem said_small {q : List RunB} (h : ∀ x ∈ q, x.1 ≤ 3 ∧ x.2.toNat ≤ 51) : ∀ b ∈ said q, b.toNat ≤ 51 := by
  induction q with
  | nil => intro b hb; cases hb
  | cons x q ih =>
    obtain ⟨t, c⟩ := x
    have hx := h (t, c) (by simp)
    intro b hb
    simp only [said, List.mem_cons] at hb
    rcases hb with rfl | rfl | hb
    · rw [ofNat_48 (by have := hx.1; simp only at this; omega)]; have := hx.1; simp only at this; omega
    · exact hx.2
    · exact ih (fun x hx => h x (by simp [hx])) b hb

/-! Said again. -/
def agN (l : List UInt8) : Nat → Option (List UInt8)
  | 0 => some l
  | n + 1 => (agN l n).bind saidL
def againL (l : List UInt8) (n : Int) : Option (List UInt8) := if (rowL l && decide (0 ≤ n ∧ n ≤ 10)) = true then agN l n.toNat else none
theorem again_no {l : List UInt8} {n : Int} (h : rowL l = false) : againL l n = none := by unfold againL; rw [h]; rfl
theorem again_out {l : List UInt8} {n : Int} (h : ¬ (0 ≤ n ∧ n ≤ 10)) : againL l n = none := by unfold againL; rw [decide_eq_false h, Bool.and_false]; rfl
theorem again_in {l : List UInt8} {n : Int} (h : rowL l = true) (hn : 0 ≤ n ∧ n ≤ 10) : againL l n = agN l n.toNat := by unfold againL; rw [h, decide_eq_true hn]; rfl
theorem again_some {l x : List UInt8} {n : Int} (h : againL l n = some x) : rowL l = true ∧ (0 ≤ n ∧ n ≤ 10) ∧ agN l n.toNat = some x := by
  unfold againL at h
  split at h
  · rename_i hh
    rw [Bool.and_eq_true, decide_eq_true_eq] at hh
    exact ⟨hh.1, hh.2, h⟩
  · cases h
theorem agN_succ (l : List UInt8) (n : Nat) : agN l (n + 1) = (agN l n).bind saidL := rfl
theorem agN_none {l : List UInt8} {k : Nat} (h : agN l k = none) : ∀ n, k ≤ n → agN l n = none := by
  intro n hn
  induction n with
  | zero => obtain rfl : k = 0 := by omega
            exact h
  | succ n ih =>
    by_cases e : k = n + 1
    · rw [← e]; exact h
    · rw [agN_succ, ih (by omega)]; rfl
theorem agN_row {l x : List UInt8} (hl : rowL l = true) : ∀ n, agN l n = some x → rowL x = true := by
  intro n
  cases n with
  | zero => intro h; cases h; exact hl
  | succ n =>
    intro h
    rw [agN_succ] at h
    cases e : agN l n with
    | none => rw [e] at h; cases h
    | some y =>
      rw [e] at h
      obtain ⟨_, h2, rfl⟩ := saidL_some.1 (show saidL y = some x from h)
      exact h2
theorem agN_ne {l x : List UInt8} (hl : l ≠ []) : ∀ n, agN l n = some x → x ≠ [] := by
  intro n
  induction n generalizing x with
  | zero => intro h; cases h; exact hl
  | succ n ih =>
    intro h
    rw [agN_succ] at h
    cases e : agN l n with
    | none => rw [e] at h; cases h
    | some y => rw [e] at h; exact saidL_ne (ih e) (show saidL y = some x from h)
theorem agN_back {l x : List UInt8} {n : Nat} (h : agN l (n + 1) = some x) : ∃ y, agN l n = some y ∧ saidL y = some x := by
  rw [agN_succ] at h
  cases e : agN l n with
  | none => rw [e] at h; cases h
  | some y => rw [e] at h; exact ⟨y, rfl, h⟩
theorem agN_nil (n : Nat) : agN [] n = some [] := by
  induction n with
  | zero => rfl
  | succ n ih => rw [agN_succ, ih]; rfl

/-! Parts that never meet. -/
def meetNot : Option (List UInt8) → Option (List UInt8) → Bool
  | some a, some b => decide (a ≠ [] ∧ b ≠ [] ∧ a.getLast? ≠ b.head?)
  | _, _ => false
def apartUp (a b : List UInt8) (k : Nat) : Bool := (List.range k).all fun j => meetNot (againL a j) (againL b j)
def apartL (a b : List UInt8) (n : Int) : Bool := decide (0 ≤ n ∧ n ≤ 10) && apartUp a b (n.toNat + 1)
theorem apartUp_iff {a b : List UInt8} {k : Nat} : apartUp a b k = true ↔ ∀ j, j < k → meetNot (againL a j) (againL b j) = true := by simp [apartUp]
theorem apartUp_succ {a b : List UInt8} {k : Nat} (h : apartUp a b k = true) (hk : meetNot (againL a k) (againL b k) = true) : apartUp a b (k + 1) = true :=
  apartUp_iff.2 fun j hj => by
    by_cases e : j = k
    · subst e; exact hk
    · exact apartUp_iff.1 h j (by omega)
theorem apart_out {a b : List UInt8} {n : Int} (h : ¬ (0 ≤ n ∧ n ≤ 10)) : apartL a b n = false := by unfold apartL; rw [decide_eq_false h]; rfl
theorem apart_no {a b : List UInt8} {n : Int} {k : Nat} (hk : (k : Int) ≤ n) (h : meetNot (againL a k) (againL b k) = false) : apartL a b n = false := by
  cases e : apartL a b n
  · rfl
  · unfold apartL at e
    rw [Bool.and_eq_true] at e
    have := apartUp_iff.1 e.2 k (by omega)
    rw [h] at this; cases this
theorem apart_yes {a b : List UInt8} {n : Int} (hn : 0 ≤ n ∧ n ≤ 10) (h : apartUp a b (n.toNat + 1) = true) : apartL a b n = true := by unfold apartL; rw [decide_eq_true hn, h]; rfl
theorem apart_empty {a b : List UInt8} {n : Int} (h : a = [] ∨ b = []) : apartL a b n = false := by
  by_cases hn : 0 ≤ n ∧ n ≤ 10
  · refine apart_no (k := 0) (by omega) ?_
    cases e1 : againL a (0 : Nat) with
    | none => rfl
    | some x =>
      cases e2 : againL b (0 : Nat) with
      | none => rfl
      | some y =>
        have h1 := (again_some e1).2.2
        have h2 := (again_some e2).2.2
        cases h1
        cases h2
        simp only [meetNot]
        rw [decide_eq_false]
        rintro ⟨h1, h2, _⟩
        rcases h with h | h
        · exact h1 h
        · exact h2 h
  · exact apart_out hn
end Go.Proofs.Ytfcjhelhhefkkaa
