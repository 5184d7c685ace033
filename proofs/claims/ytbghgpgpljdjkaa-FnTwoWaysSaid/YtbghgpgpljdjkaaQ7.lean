/-
  The model's TwoWays.
-/
import Derived.Test.YtbghgpgpljdjkaaQ5
import Derived.Test.YtbghgpgpljdjkaaQ6
namespace Go.Proofs.Ytbghgpgpljdjkaa
open Go.RowKit

/-- A text and a Bool are told. -/
def RetTwo (w : World) (x : ByteArray) (b : Bool) (e : Ending) (w' : World) : Prop := e = .returned (.tuple #[.string x, .bool b]) ∧ Below w.heap.size w w'
theorem two_vals {a b a' b' : Value} (h : a = a') (h' : b = b') : Ending.returned (.tuple #[a, b]) = .returned (.tuple #[a', b']) := by rw [h, h']
theorem first_two {l T : List ByteArray} {n k : Nat} (h : TextsAre l n T) (hk : k < T.length) (h2 : 2 ≤ waysN l (T.getD k ByteArray.empty)) (hno : ∀ i, i < k → waysN l (T.getD i ByteArray.empty) ≤ 1) : FirstTwo l n (T.getD k ByteArray.empty) := by
  refine ⟨((h.mem _).1 (getD_mem hk)).1, h2, fun y hy h3 => ?_⟩
  have hm : y ∈ T := (h.mem y).2 ⟨hy, by omega⟩
  obtain ⟨i, hi, rfl⟩ := mem_getD hm
  rcases Nat.lt_trichotomy i k with e | e | e
  · have := hno i e; omega
  · subst e; exact List.lt_irrefl _
  · exact h.srt i hi k e
theorem no_two {l T : List ByteArray} {n : Nat} (h : TextsAre l n T) (hno : ∀ i, i < T.length → waysN l (T.getD i ByteArray.empty) ≤ 1) : NoTwo l n := fun y hy => by
  by_cases h1 : 1 ≤ waysN l y
  · obtain ⟨i, hi, rfl⟩ := mem_getD ((h.mem y).2 ⟨hy, h1⟩)
    exact hno i hi
  · omega

set_option maxRecDepth 100000 in
set_option maxHeartbeats 2000000 in
theorem specTwoWays_any (A : Option Addr) (n c : Nat) (l : List ByteArray) (w : World) (h : Strs w A n c l) (hn : n ≤ 2097152) (hs : ∀ x ∈ l, x.size ≤ 1048576) :
    Calls Try.prog 42 #[.slice A n c] w (RetTwo w (twoX l) (twoB l)) := by
  have HC := Lib.hid (fun W (hb : Below w.heap.size w W) => specCodeOk_any A n c l W (h.below hb (Nat.le_refl _)) hn hs)
  have HWa := Lib.hid (fun s' W (hb : Below w.heap.size w W) (hz : s'.size ≤ 1048576) => specWaysOf_any A n c l s' W (h.below hb (Nat.le_refl _)) hn hs hz)
  have hln := h.len
  subst hln
  have HTx := Lib.hid (fun hok m (hm : m ≤ 6) W (hb : Below w.heap.size w W) => texts_any (l := l) hok m hm A c W (h.below hb (Nat.le_refl _)))
  clear h hs
  by_cases hcl : codeOk l = true ∧ l.length ≤ 4
  · obtain ⟨hok, hl4⟩ := hcl
    have HTy := Lib.hid (HTx.out hok)
    have HWy := Lib.hid (fun (s' : ByteArray) W (hb : Below w.heap.size w W) (hz : s'.size ≤ 24) => by
      have := HWa.out s' W hb (by omega)
      rw [waysV_yes hok hz] at this
      exact this)
    have HYes := Lib.hid (fun m x (h1 : 1 ≤ m) (h2 : m ≤ 6) (hf : FirstTwo l m x) (hno : ∀ j, 1 ≤ j → j < m → NoTwo l j) => two_eq (l := l) (x := x) (b := true) (.inl ⟨rfl, hok, hl4, m, h1, h2, hf, hno⟩))
    have HNo := Lib.hid (fun (hno : ∀ j, 1 ≤ j → j < 7 → NoTwo l j) => two_eq (l := l) (x := ByteArray.empty) (b := false) (.inr ⟨rfl, rfl, fun _ _ j h1 h2 => hno j h1 (by omega)⟩))
    have HC2 := HC.out
    rw [hok] at HC2
    replace HC2 := Lib.hid HC2
    have hl4' : (l.length : Int) ≤ 4 := by omega
    clear HC HTx HWa
    replace hok := Lib.hid hok
    go_enter Try.func42, Try.ntmps42
    go_wp2
    go_loopw [4] (fun s4 wr => ∃ m : Nat, 1 ≤ m ∧ m ≤ 7 ∧ s4 = .int .i64 m ∧ Below w.heap.size w wr ∧ ∀ j, 1 ≤ j → j < m → NoTwo l j) (fun i _ => 8 - (intOf i).toNat)
    case atStart => exact ⟨1, Nat.le_refl _, by omega, rfl, Below.refl _ _, fun j h1 h2 => by omega⟩
    case round =>
      obtain ⟨m, hm1, hm7, rfl, hb, hno⟩ := hrel
      by_cases h6 : m ≤ 6
      · have h6' : (m : Int) ≤ 6 := by omega
        have KC := Lib.hid (HC2.out wr hb)
        have HYm := Lib.hid (fun x hf => HYes.out m x hm1 h6 hf hno)
        have HNx : Hid (NoTwo l m → ∀ j, 1 ≤ j → j < m + 1 → NoTwo l j) := fun hh j h1 h2 => by
          by_cases e : j = m
          · subst e; exact hh
          · exact hno j h1 (by omega)
        replace hb := Lib.hid hb
        clear hno
        go_wp2_with (fail)
        refine KC.out.mono ?_
        rintro e _ ⟨rfl, d, rfl⟩
        have hb1 := below_drewN hb.out d
        have KT := Lib.hid (HTy.out m h6 _ hb1)
        clear KC hb
        replace hb1 := Lib.hid hb1
        go_wp2_with (fail)
        refine KT.out.mono ?_
        rintro e w2 ⟨v, T, rfl, ho, b2, hT⟩
        obtain ⟨A5, c5, rfl, -⟩ := ho.strs
        have hb2 := hb1.out.trans (b2.mono hb1.out.size)
        have ho2 : OwnStrs w2 w.heap.size (.slice A5 T.length c5) T := ho.mono hb1.out.size
        have hTl := hT.len
        have hp6 := pow6 h6
        have HFT := Lib.hid (fun k hk h2 hno => first_two (k := k) hT hk h2 hno)
        have HNT := Lib.hid (no_two hT)
        have HTz := Lib.hid (fun k (hk : k < T.length) => ((hT.mem _).1 (getD_mem hk)).1)
        have hW : LW w (.slice A5 T.length c5) T w2 := ⟨ho2, hb2⟩
        clear ho b2 hb2 ho2 KT hb1 hT
        replace hW := Lib.hid hW
        go_wp2
        go_loopw [6] (fun s6 wr => ∃ k : Nat, k ≤ T.length ∧ s6 = .int .i64 k ∧ LW w (.slice A5 T.length c5) T wr ∧ ∀ i, i < k → waysN l (T.getD i ByteArray.empty) ≤ 1) (fun i _ => T.length - (intOf i).toNat)
        case atStart => exact ⟨0, Nat.zero_le _, rfl, hW.out, fun i hi => absurd hi (by omega)⟩
        case round =>
          clear hW
          obtain ⟨k, hk, rfl, hW, hd⟩ := hrel
          by_cases hkt : k < T.length
          · obtain ⟨b5, o5, rfl, ck⟩ := hW.cellAt hkt
            have hz := HTz.out k hkt
            have KW := Lib.hid (HWy.out (T.getD k ByteArray.empty) wr hW.low (by omega))
            have HFk := Lib.hid (fun h2 => HYm.out _ (HFT.out k hkt h2 hd))
            have HNk : Hid (waysN l (T.getD k ByteArray.empty) ≤ 1 → ∀ i, i < k + 1 → waysN l (T.getD i ByteArray.empty) ≤ 1) := fun hh i hi => by
              by_cases e : i = k
              · subst e; exact hh
              · exact hd i (by omega)
            have hkk := Lib.hid (fun wr (hW : LW w (.slice (some ⟨b5, o5, none⟩) T.length c5) T wr) => hW.cellAt hkt)
            clear hd
            generalize T.getD k ByteArray.empty = x at *
            generalize waysN l x = V at *
            replace hW := Lib.hid hW
            replace hz := Lib.hid hz
            go_wp2_with (fail)
            refine KW.out.mono ?_
            rintro e w3 ⟨rfl, b3⟩
            have hW3 := hW.out.below b3
            obtain ⟨b6, o6, e6, ck3⟩ := hkk.out w3 hW3
            cases e6
            replace hW3 := Lib.hid hW3
            clear hW b3 KW ck
            by_cases hV : 2 ≤ V
            · have hV' : (1 : Int) < (V : Int) := by omega
              obtain ⟨r1, r2⟩ := HFk.out hV
              replace r1 := Lib.hid r1
              replace r2 := Lib.hid r2
              go_wp2
              go_ret2
              exact ⟨two_vals (by rw [r1.out]; rfl) (by rw [r2.out]; rfl), hW3.out.low⟩
            · have hV' : ¬ (1 : Int) < (V : Int) := by omega
              have hg := Lib.hid (HNk.out (by omega))
              go_wp2
              go_roundw
              case rel => exact ⟨k+1, by omega, by go_num, hW3.out, hg.out⟩
              case measure => simp [intOf]; omega
          · obtain rfl : k = T.length := by omega
            have hg := Lib.hid (HNx.out (HNT.out hd))
            replace hW := Lib.hid hW
            clear hd
            go_wp2
            go_roundw
            case rel => exact ⟨m+1, by omega, by omega, by go_num, hW.out.low, hg.out⟩
            case measure => simp [intOf]; omega
      · obtain rfl : m = 7 := by omega
        obtain ⟨r1, r2⟩ := HNo.out hno
        replace r1 := Lib.hid r1
        replace r2 := Lib.hid r2
        replace hb := Lib.hid hb
        clear hno
        go_wp2
        go_ret2
        exact ⟨two_vals (by rw [r1.out]; rfl) (by rw [r2.out]; rfl), hb.out⟩
  · obtain ⟨r1, r2⟩ := two_eq (l := l) (x := ByteArray.empty) (b := false) (.inr ⟨rfl, rfl, fun h1 h2 => absurd ⟨h1, h2⟩ hcl⟩)
    rw [r1, r2]
    replace r1 := Lib.hid r1
    replace r2 := Lib.hid r2
    have HC0 := HC.out w (Below.refl _ _)
    clear HTx HWa HC
    cases hok : codeOk l
    · rw [hok] at HC0
      replace hok := Lib.hid hok
      replace HC0 := Lib.hid HC0
      clear hcl
      go_enter Try.func42, Try.ntmps42
      go_wp2
      refine wp_loop_rounds 1 ?_
      rw [rounds_succ]
      go_wp2_with (fail)
      refine HC0.out.mono ?_
      rintro e _ ⟨rfl, d, rfl⟩
      go_wp2
      go_ret2
      exact ⟨rfl, below_drewN (Below.refl _ _) d⟩
    · have hl4 : ¬ (l.length : Int) ≤ 4 := fun h => hcl ⟨hok, by omega⟩
      rw [hok] at HC0
      replace hok := Lib.hid hok
      replace HC0 := Lib.hid HC0
      clear hcl
      go_enter Try.func42, Try.ntmps42
      go_wp2
      refine wp_loop_rounds 1 ?_
      rw [rounds_succ]
      go_wp2_with (fail)
      refine HC0.out.mono ?_
      rintro e _ ⟨rfl, d, rfl⟩
      go_wp2
      go_ret2
      exact ⟨rfl, below_drewN (Below.refl _ _) d⟩
end Go.Proofs.Ytbghgpgpljdjkaa
