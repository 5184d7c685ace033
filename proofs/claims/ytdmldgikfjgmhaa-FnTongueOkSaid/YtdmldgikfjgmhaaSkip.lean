/-
  A law for regions that draw their order: operations that their guards pass over, taken many at once.
-/
import Derived.Test.YtdmldgikfjgmhaaKit
import Derived.Deep.RegionHeld3
namespace Go.Proofs.Ytdmldgikfjgmhaa
open Go.RowKit

section
variable {P : Program} {ops : Array Oper} {Q : Exit → Act → World → Prop} {md : Region.Mode} {S : World → Prop}

def undefB : Value → Bool
  | .tuple cs => cs.isEmpty
  | _ => false
theorem undefB_eq {v : Value} (h : undefB v = true) : v = undef := by
  unfold undefB at h
  split at h
  · rename_i cs; have := Array.isEmpty_iff.1 h; subst this; rfl
  · cases h
def staysB (a : Act) : Option Tmp → Bool
  | none => true
  | some d => ((a.tmps[d]?).map undefB).getD true
theorem put_stays {a : Act} {d : Option Tmp} (h : staysB a d = true) : a.put d undef = a := by
  cases d with
  | none => rfl
  | some d =>
    obtain ⟨ts, ds⟩ := a
    show Act.mk (ts.setIfInBounds d undef) ds = Act.mk ts ds
    congr 1
    apply Array.ext_getElem?
    intro i
    rw [Array.getElem?_setIfInBounds]
    by_cases e : d = i
    · subst e
      rw [if_pos rfl]
      by_cases hd : d < ts.size
      · rw [if_pos hd]
        have h' : ((ts[d]?).map undefB).getD true = true := h
        rw [Array.getElem?_eq_getElem hd] at h' ⊢
        rw [undefB_eq (v := ts[d]) (by simpa using h')]
      · rw [if_neg hd, Array.getElem?_eq_none (Nat.le_of_not_lt hd)]
    · rw [if_neg e]
def skipB (md : Region.Mode) (ops : Array Oper) (a : Act) : List Nat → Array Bool → Bool
  | [], _ => true
  | i :: is, l => (match ops[i]? with
    | none => false
    | some o => !(Region.wanted o (yielded ops a.tmps)) && staysB a o.dst && ((Region.free md ops l i && (Region.ready md ops l).contains i) || decide (Region.ready md ops l = [i]))) && skipB md ops a is (l.setIfInBounds i true)
def skipL : List Nat → Array Bool → Array Bool
  | [], l => l
  | i :: is, l => skipL is (l.setIfInBounds i true)
/-- Operations that their guards pass over leave the frame as it is. -/
theorem wpAnyH_skips (hs : Region.noSelect ops = true) (hQ : ∀ c (a : Act) (t : Tmp) w, Q (.panic c) (a.put (some t) undef) w → Q (.panic c) a w) :
    ∀ (is : List Nat) (n fuel : Nat) (listed : Array Bool) (a : Act) (w : World), n = fuel + is.length → skipB md ops a is listed = true → S w → wpAnyH P md ops Q S fuel (skipL is listed) a w → wpAnyH P md ops Q S n listed a w := by
  intro is
  induction is with
  | nil => intro n fuel listed a w e _ _ h; subst e; exact h
  | cons i is ih =>
    intro n fuel listed a w e hb hS h
    have e' : n = (fuel + is.length) + 1 := by rw [e]; rfl
    subst e'
    cases ho : ops[i]? with
    | none => simp [skipB, ho] at hb
    | some o =>
      simp only [skipB, ho, Bool.and_eq_true, Bool.or_eq_true, Bool.not_eq_true', decide_eq_true_eq] at hb
      obtain ⟨⟨⟨hw, hst⟩, hc⟩, hr⟩ := hb
      have hp := put_stays hst
      have hn : wpAnyH P md ops Q S (fuel + is.length) (listed.setIfInBounds i true) a w := ih _ fuel _ a w rfl hr hS h
      rcases hc with ⟨hf, hm⟩ | hm
      · exact wpAnyH_take ho hs hf hm (fun c a w => by cases o.dst with | none => exact id | some t => exact hQ c a t w) (Or.inr ⟨hw, rfl⟩) hS (by rw [hp]; exact hn)
      · refine wpAnyH_ready hm (by simp) (AllReadyH.cons ho (fun K hK => ?_) AllReadyH.nil)
        rw [if_neg (by rw [hw]; exact Bool.false_ne_true), hp]
        exact hK.out _ _ hS (fun _ => hn)
end
end Go.Proofs.Ytdmldgikfjgmhaa
