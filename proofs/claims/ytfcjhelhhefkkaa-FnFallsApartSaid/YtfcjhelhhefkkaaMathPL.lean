/-
  What the great laws of chapter 11 ask, as plain mathematics.
-/
import Derived.Test.YtfcjhelhhefkkaaMathP
namespace Go.Proofs.Ytfcjhelhhefkkaa

theorem wf_at {q : List RunB} (h : Wf q) {k : Nat} {x y : RunB} (hx : q[k]? = some x) (hy : q[k + 1]? = some y) : y.2 ≠ x.2 := by
  induction q generalizing k with
  | nil => cases hx
  | cons z q ih =>
    obtain ⟨t, c⟩ := z
    obtain ⟨h1, h2, h3⟩ := h
    cases k with
    | zero =>
      simp only [List.getElem?_cons_zero, Option.some.injEq] at hx
      subst hx
      refine h2 y ?_
      rw [List.head?_eq_getElem?]
      simpa using hy
    | succ k => exact ih h3 (by simpa using hx) (by simpa using hy)
/-- Only two twos are said as themselves. -/
theorem fixed {q : List RunB} (hw : Wf q) (h9 : ∀ x ∈ q, x.1 ≤ 9) (h : said q = flat q) : q = [] ∨ q = [(2, 50)] := by
  induction q with
  | nil => exact .inl rfl
  | cons z q ih =>
    obtain ⟨t, c⟩ := z
    obtain ⟨h1, h2, h3⟩ := hw
    have ht9 := h9 (t, c) (by simp)
    simp only at ht9
    have hc0 := ofNat_48 ht9
    simp only [said, flat] at h
    match t, h1, ht9, hc0, h with
    | 1, _, _, hc0, h =>
      exfalso
      simp only [List.replicate_succ, List.replicate_zero, List.cons_append, List.nil_append, List.cons.injEq] at h
      cases q with
      | nil => simp [said, flat] at h
      | cons y q =>
        obtain ⟨t', c'⟩ := y
        have ht' := h3.1
        obtain ⟨m, rfl⟩ : ∃ m, t' = m + 1 := ⟨t' - 1, by omega⟩
        simp only [flat, List.replicate_succ, List.cons_append, List.cons.injEq] at h
        exact h2 (m + 1, c') rfl h.2.1.symm
    | 2, _, _, hc0, h =>
      simp only [List.replicate_succ, List.replicate_zero, List.cons_append, List.nil_append, List.cons.injEq] at h
      have hc : c = 50 := by
        have := h.1
        subst this
        exact UInt8.toNat_inj.1 (by rw [hc0]; rfl)
      rcases ih h3 (fun x hx => h9 x (by simp [hx])) h.2.2 with e | e
      · rw [e, hc]; exact .inr rfl
      · exfalso
        exact h2 (2, 50) (by rw [e]; rfl) hc.symm
    | 3, _, _, hc0, h =>
      exfalso
      simp only [List.replicate_succ, List.replicate_zero, List.cons_append, List.nil_append, List.cons.injEq] at h
      obtain ⟨e0, -, h⟩ := h
      cases q with
      | nil => simp [said, flat] at h
      | cons y q =>
        obtain ⟨t', c'⟩ := y
        have ht9' := h9 (t', c') (by simp)
        simp only at ht9'
        simp only [said, flat, List.cons.injEq] at h
        obtain ⟨e1, h⟩ := h
        have h48 := ofNat_48 ht9'
        rw [e1, ← e0, hc0] at h48
        obtain rfl : t' = 3 := by omega
        simp only [List.replicate_succ, List.replicate_zero, List.cons_append, List.nil_append, List.cons.injEq, true_and] at h
        cases q with
        | nil => simp [said] at h
        | cons y q =>
          obtain ⟨t'', c''⟩ := y
          simp only [said, List.cons.injEq] at h
          exact h3.2.1 (t'', c'') rfl h.2.1
    | n + 4, _, _, _, h =>
      exfalso
      simp only [List.replicate_succ, List.cons_append, List.cons.injEq] at h
      obtain ⟨-, -, h⟩ := h
      cases q with
      | nil => simp [said] at h
      | cons y q =>
        obtain ⟨t', c'⟩ := y
        simp only [said, List.cons.injEq] at h
        exact h2 (t', c') rfl h.2.1
theorem said_fixed {l x : List UInt8} (h : saidL l = some x) : x = l ↔ (l = [] ∨ l = [50, 50]) := by
  obtain ⟨h1, h2, rfl⟩ := saidL_some.1 h
  constructor
  · intro e
    have := fixed (runs_wf l) (row_runs h1) (by rw [e, flat_runs])
    rcases this with e | e
    · left
      rw [← flat_runs l, e]; rfl
    · right
      rw [← flat_runs l, e]; rfl
  · rintro (rfl | rfl)
    · rfl
    · decide
theorem said_two {l x : List UInt8} (h : saidL l = some x) : x.length = 2 * (runs l).length := by
  obtain ⟨_, _, rfl⟩ := saidL_some.1 h
  exact said_len _
theorem unsaid_said {l x : List UInt8} (h : unsaidL l = some x) : saidL x = some l ∧ l.length % 2 = 0 := by
  obtain ⟨_, h2, rfl⟩ := unsaidL_some.1 h
  exact ⟨h2, said_even h2⟩

theorem again_more {l x m : List UInt8} {n : Int} (h : againL l n = some x) (hm : againL l (n + 1) = some m) : saidL x = some m := by
  obtain ⟨_, h2, h3⟩ := again_some h
  obtain ⟨_, _, h3'⟩ := again_some hm
  rw [show (n + 1).toNat = n.toNat + 1 by omega, agN_succ, h3] at h3'
  exact h3'
theorem agN_three {l x : List UInt8} {n : Nat} (h : agN l (n + 1) = some x) : ∀ r ∈ runs x, r.1 ≤ 3 := by
  obtain ⟨y, _, hy⟩ := agN_back h
  obtain ⟨_, _, rfl⟩ := saidL_some.1 hy
  exact three (said_four (runs_wf y))
theorem agN_small {l : List UInt8} (hs : ∀ r ∈ runs l, r.1 ≤ 3 ∧ r.2.toNat ≤ 51) : ∀ (n : Nat) (x : List UInt8), agN l n = some x → ∀ r ∈ runs x, r.1 ≤ 3 ∧ r.2.toNat ≤ 51 := by
  intro n
  induction n with
  | zero => intro x h; cases h; exact hs
  | succ n ih =>
    intro x h r hr
    have h3 := agN_three h r hr
    obtain ⟨y, hy1, hy⟩ := agN_back h
    obtain ⟨_, _, rfl⟩ := saidL_some.1 hy
    exact ⟨h3, said_small (ih y hy1) r.2 (mem_runs hr)⟩
theorem again_three {l x : List UInt8} {n : Int} (h : againL l n = some x) (hn : 1 ≤ n) : ∀ r ∈ runs x, r.1 ≤ 3 := by
  obtain ⟨_, h2, h3⟩ := again_some h
  obtain ⟨k, hk⟩ : ∃ k, n.toNat = k + 1 := ⟨n.toNat - 1, by omega⟩
  rw [hk] at h3
  exact agN_three h3
theorem again_small {l x : List UInt8} {n : Int} (h : againL l n = some x) (hs : ∀ r ∈ runs l, r.1 ≤ 3 ∧ r.2.toNat ≤ 51) : ∀ r ∈ runs x, r.1 ≤ 3 ∧ r.2.toNat ≤ 51 :=
  agN_small hs _ _ (again_some h).2.2
theorem again_row {l x : List UInt8} {n : Int} (h : againL l n = some x) : rowL x = true := by
  obtain ⟨h1, _, h3⟩ := again_some h
  exact agN_row h1 _ h3

/-- The first k runs are of the digits 1 to 3, at most three times. -/
def smallTo (q : List RunB) (k : Nat) : Bool := (q.take k).all fun x => decide (x.1 ≤ 3) && decide (x.2.toNat ≤ 51)
theorem smallTo_go {q : List RunB} {x : RunB} {k : Nat} (h : q[k]? = some x) : smallTo q (k + 1) = (smallTo q k && (decide (x.1 ≤ 3) && decide (x.2.toNat ≤ 51))) := by
  unfold smallTo
  rw [List.take_add_one, h, List.all_append]
  simp
theorem small_all {q : List RunB} (h : smallTo q q.length = true) : ∀ r ∈ q, r.1 ≤ 3 ∧ r.2.toNat ≤ 51 := by
  unfold smallTo at h
  rw [List.take_length, List.all_eq_true] at h
  intro r hr
  simpa using h r hr
theorem meet_some {o p : Option (List UInt8)} (h : meetNot o p = true) : ∃ a b, o = some a ∧ p = some b ∧ a ≠ [] ∧ b ≠ [] ∧ a.getLast? ≠ b.head? := by
  match o, p, h with
  | some a, some b, h =>
    have := of_decide_eq_true h
    exact ⟨a, b, rfl, rfl, this.1, this.2.1, this.2.2⟩
theorem apart_at {a b : List UInt8} {n : Int} (h : apartL a b n = true) : (0 ≤ n ∧ n ≤ 10) ∧ ∀ j : Nat, (j : Int) ≤ n → meetNot (againL a j) (againL b j) = true := by
  unfold apartL at h
  rw [Bool.and_eq_true, decide_eq_true_eq] at h
  exact ⟨h.1, fun j hj => apartUp_iff.1 h.2 j (by omega)⟩
theorem apart_told {a b : List UInt8} {n : Int} (h : apartL a b n = true) : ∃ x y, againL a n = some x ∧ againL b n = some y := by
  obtain ⟨hn, hm⟩ := apart_at h
  obtain ⟨x, y, h1, h2, _⟩ := meet_some (hm n.toNat (by omega))
  rw [show ((n.toNat : Nat) : Int) = n by omega] at h1 h2
  exact ⟨x, y, h1, h2⟩
theorem apart_less {a b : List UInt8} {n : Int} (h : apartL a b n = true) (hn : n ≠ 0) : apartL a b (n - 1) = true := by
  obtain ⟨h1, hm⟩ := apart_at h
  exact apart_yes (by omega) (apartUp_iff.2 fun j hj => hm j (by omega))
theorem apart_both {a b x y z : List UInt8} {n : Int} (h : apartL a b n = true) (hx : againL a n = some x) (hy : againL b n = some y) (hz : againL (a ++ b) n = some z) : z = x ++ y := by
  obtain ⟨h1, hm⟩ := apart_at h
  obtain ⟨ra, _, hx⟩ := again_some hx
  obtain ⟨rb, _, hy⟩ := again_some hy
  obtain ⟨rc, _, hz⟩ := again_some hz
  have key : ∀ (k : Nat), (k : Int) ≤ n → ∀ x y z, agN a k = some x → agN b k = some y → agN (a ++ b) k = some z → z = x ++ y := by
    intro k
    induction k with
    | zero => intro _ x y z e1 e2 e3; cases e1; cases e2; cases e3; rfl
    | succ k ih =>
      intro hk x y z e1 e2 e3
      obtain ⟨x0, f1, g1⟩ := agN_back e1
      obtain ⟨y0, f2, g2⟩ := agN_back e2
      obtain ⟨z0, f3, g3⟩ := agN_back e3
      have hz0 := ih (by omega) x0 y0 z0 f1 f2 f3
      subst hz0
      obtain ⟨p, q, m1, m2, _, _, m5⟩ := meet_some (hm k (by omega))
      rw [again_in ra (by omega), Int.toNat_natCast, f1] at m1
      rw [again_in rb (by omega), Int.toNat_natCast, f2] at m2
      cases m1
      cases m2
      obtain ⟨_, _, rfl⟩ := saidL_some.1 g1
      obtain ⟨_, _, rfl⟩ := saidL_some.1 g2
      obtain ⟨_, _, rfl⟩ := saidL_some.1 g3
      rw [runs_app (fun c hc e => m5 (by rw [hc, e])), said_app]
  exact key n.toNat (by omega) x y z hx hy hz
end Go.Proofs.Ytfcjhelhhefkkaa
