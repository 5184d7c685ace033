/-
  RingsUpTo of the program.
-/
import Derived.Test.YtfnpkmlgklameaaM5
import Derived.Test.YtfnpkmlgklameaaSortI
namespace Go.Proofs.Ytfnpkmlgklameaa
open Go.RowKit Go.WideMaps Go.Maps

set_option maxRecDepth 100000 in
set_option maxHeartbeats 8000000 in
theorem implRingsUpTo_any (v : Value) (t : Tg) (m : Int) (w : World) (h : Tng w v t) (hf : t.Fine) (_hn : -9223372036854775808 ≤ m ∧ m ≤ 9223372036854775807) :
    Calls Try.prog 38 #[v, .int .i64 m] w (RetO1 w (ringsF (lettersOf t) m)) := by
  obtain ⟨i0, hi, hz0, hz1, hz2⟩ := info_parts int_info
  obtain ⟨A1, c1, A2, c2, A3, c3, rfl, -⟩ := h.ex
  have hB := (Below.refl w.heap.size w).alloc (Nat.le_refl _) (.cells #[.slice A1 t.us.length c1, .slice A2 t.bs.length c2, .slice A3 t.ns.length c3] 26)
  have HX := Blk.new w 26 #[.slice A1 t.us.length c1, .slice A2 t.bs.length c2, .slice A3 t.ns.length c3]
  have HT := h.below hB (Nat.le_refl _)
  have KP := Lib.hid (pathIn_any (lettersOf t) A1 A2 A3 t.us.length t.bs.length t.ns.length c1 c2 c3 (w.alloc (.cells #[.slice A1 t.us.length c1, .slice A2 t.bs.length c2, .slice A3 t.ns.length c3] 26)))
  have KR := Lib.hid (fun b N (hN : N ≤ 40000000) n hn W hp => ringFrom_any _ A1 A2 A3 c1 c2 c3 t HT hf b N hN n hn W hp)
  have hbd := Lib.hid (letters_bd t)
  have hneg := Lib.hid (letters_neg t)
  generalize lettersOf t = f at *
  replace hB := Lib.hid hB
  replace HX := Lib.hid HX
  clear h HT hf
  go_enter Try.func38, Try.ntmps38
  go_upto_region 1 with (fail)
  obtain ⟨x0, x1, x2, -, -, -⟩ := blk3 HX.out
  generalize w.alloc (.cells #[.slice A1 t.us.length c1, .slice A2 t.bs.length c2, .slice A3 t.ns.length c3] 26) = W at *
  by_cases hm : 1 ≤ m ∧ m ≤ 500
  · obtain ⟨hm1, hm2⟩ := hm
    obtain ⟨M, rfl⟩ : ∃ M : Nat, m = M := ⟨m.toNat, by omega⟩
    have hE := Lib.hid (fun l (ha : allOk f M) (hl : IsUp f M l) => rings_yes (m := M) (by omega) (by omega) ha hl)
    have hE0 := Lib.hid (fun (hn : ¬ allOk f M) => rings_no (f := f) (m := M) (fun hh => hn (by simpa using hh.2)))
    have n1 : ¬ (M : Int) < 1 := by omega
    have n2 : ¬ (500 : Int) < (M : Int) := by omega
    go_wp2_with (fail)
    refine KP.out.mono ?_
    rintro e w1 ⟨b, rfl, p1⟩
    have hA := (Below.refl w1.heap.size w1).alloc (Nat.le_refl _) (.cells #[.slice A1 t.us.length c1, .slice A2 t.bs.length c2, .slice A3 t.ns.length c3, .map (some b)] 62)
    have hbl := p1.lt
    have hlow1 := p1.low.size
    have R0 : RS W f b (3000 * 0) w1.heap.size #[.slice A1 t.us.length c1, .slice A2 t.bs.length c2, .slice A3 t.ns.length c3, .map (some b)] (w1.alloc (.cells #[.slice A1 t.us.length c1, .slice A2 t.bs.length c2, .slice A3 t.ns.length c3, .map (some b)] 62)) (w1.heap.size + 1) (.slice none 0 0) [] (w1.alloc (.cells #[.slice A1 t.us.length c1, .slice A2 t.bs.length c2, .slice A3 t.ns.length c3, .map (some b)] 62)) :=
      ⟨⟨p1.kept hA, Blk.new _ _ _, World.grownBy.refl _ _⟩, owns_none _ _ _⟩
    have hzb : w1.heap.size ≠ b := by omega
    have hs2 : (w1.alloc (.cells #[.slice A1 t.us.length c1, .slice A2 t.bs.length c2, .slice A3 t.ns.length c3, .map (some b)] 62)).heap.size = w1.heap.size + 1 := by simp
    have hwW := hB.out.size
    replace R0 := Lib.hid R0
    clear p1 hA KP x0 x1 x2 HX
    go_upto_region 4 with (fail)
    generalize w1.alloc (.cells #[.slice A1 t.us.length c1, .slice A2 t.bs.length c2, .slice A3 t.ns.length c3, .map (some b)] 62) = W2 at *
    generalize w1.heap.size = z at *
    go_wp2
    go_loopw [6, 7] (fun s6 s7 wr => ∃ (k : Nat) (out : List Int), k ≤ M ∧ s7 = .int .i64 ((k : Int) + 1) ∧ RS W f b (3000 * k) z #[.slice A1 t.us.length c1, .slice A2 t.bs.length c2, .slice A3 t.ns.length c3, .map (some b)] W2 (z + 1) s6 out wr ∧ out.length = k ∧ (∀ i, i < k → out.getD i 0 = leastF f ((i + 1 : Nat) : Int)) ∧ allOk f k) (fun _ s7 _ => M + 1 - (intOf s7).toNat)
    case atStart => exact ⟨0, [], Nat.zero_le _, rfl, R0.out, rfl, fun i hi => by omega, fun i h1 h2 => by omega⟩
    case round =>
      clear R0
      obtain ⟨k, out, hk, rfl, R, hol, hat, hak⟩ := hrel
      obtain ⟨A6, c6, rfl, -⟩ := R.own.ints
      rw [hol]
      have ho : wr.ownsRow (z + 1) 3 1 (.slice A6 k c6) k (out.map (Value.int .i64)) := by have := R.own; unfold OwnI at this; rw [hol] at this; exact this
      by_cases hlt : k < M
      · have KR1 := Lib.hid (KR.out b (3000 * k) (by omega) ((k : Int) + 1) (by omega) wr R.es.ps)
        obtain ⟨x0, x1, x2, x3⟩ := Blk4 R.es.bx
        have hlt' : (k : Int) + 1 ≤ (M : Int) := by omega
        have e1 : IntKind.i64.wrap ((k : Int) + 1 + 1) = (k : Int) + 1 + 1 := IntWalk.i64_in _ (by omega)
        have hpos := ringF_pos (n := (k : Int) + 1) hbd.out
        have hrl := ringF_le (n := (k : Int) + 1) hbd.out
        have hlow : Hid (leastF f ((k + 1 : Nat) : Int) = lowL (ringF f ((k : Int) + 1))) := rfl
        have hlb := Lib.hid (fun ho => least_bd hbd.out hneg.out (n := ((k + 1 : Nat) : Int)) (by omega) ho)
        replace hat := Lib.hid hat
        replace hak := Lib.hid hak
        replace R := Lib.hid R
        replace ho := Lib.hid ho
        go_wp2_with (fail)
        refine KR1.out.mono ?_
        rintro e w3 ⟨v3, rfl, o3, p3, g3⟩
        have hBw3 : Below w.heap.size w w3 := hB.out.trans (p3.low.mono hB.out.size)
        have R3 := R.out.next p3 g3 hzb (by omega)
        rw [hol] at R3
        have ho3 := own_gr ho.out g3 (show b < z + 1 by omega)
        obtain ⟨A8, c8, rfl, i8⟩ := o3.ints
        replace R3 := Lib.hid R3
        replace ho3 := Lib.hid ho3
        clear R ho p3 g3 KR1 x0 x1 x2 x3 o3
        cases hok : okF f ((k : Int) + 1)
        · have hr := Lib.hid (hE0.out (fun ha => by have := ha (k + 1) (by omega) (by omega); rw [show ((k + 1 : Nat) : Int) = (k : Int) + 1 by omega, hok] at this; cases this))
          rw [hok] at hpos
          have hl0 : (ringF f ((k : Int) + 1)).length = 0 := by have := of_decide_eq_false hpos; omega
          rw [hl0]
          replace hBw3 := Lib.hid hBw3
          clear i8 hl0 hpos hrl R3 ho3
          go_wp2
          go_ret
          exact ⟨_, rfl, by rw [hr.out]; exact owns_none _ _ _, hBw3.out⟩
        · rw [hok] at hpos
          have hl1 : 0 < (ringF f ((k : Int) + 1)).length := of_decide_eq_true hpos
          have KM := minI_any A8 _ c8 (ringF f ((k : Int) + 1)) w3 i8 hl1 (by omega)
          have hlb1 := hlb.out hok
          have hak2 : Hid (allOk f (k + 1)) := fun i h1 h2 => by
            by_cases e : i = k + 1
            · subst e; exact hok
            · exact hak.out i h1 (by omega)
          rw [← hlow.out] at KM
          have hat2 : Hid (∀ i, i < k + 1 → (out ++ [leastF f ((k + 1 : Nat) : Int)]).getD i 0 = leastF f ((i + 1 : Nat) : Int)) := fun i hi => by
            by_cases e : i = k
            · subst e; rw [List.getD_eq_getElem?_getD, List.getElem?_append_right (by omega), hol]; simp
            · rw [List.getD_eq_getElem?_getD, List.getElem?_append_left (by omega), ← List.getD_eq_getElem?_getD]; exact hat.out i (by omega)
          generalize leastF f ((k + 1 : Nat) : Int) = low at *
          generalize (ringF f ((k : Int) + 1)).length = L at *
          have hL0 : ((L : Int) == 0) = false := by rw [beq_eq_false_iff_ne]; omega
          have hsz : z + 1 ≤ w3.heap.size := by have := R3.out.es.gr.size; omega
          have m1 := Lib.hid (show k + 1 ≤ maxLen by unfold maxLen; omega)
          have m2 := Lib.hid (show (k + 1) * 8 ≤ 140737488355328 by omega)
          replace KM := Lib.hid KM
          replace hol := Lib.hid hol
          clear i8 hpos
          go_upto_region 7 with (first
            | (at_builtin; refine wpList_app _ rfl (.tmp 32) (.tmp 35) _ rfl (z + 1) 3 i0 _ 8 Try.underlying24 hi hz0 hz1 hz2 rfl (.slice A6 k c6) _ _ rfl (World.ownsRow.alloc ho3.out _) (some ⟨w3.heap.size, 0, none⟩) 1 1 [.int .i64 low] rfl (Src.one (Blk.new _ _ _) rfl) m1.out m2.out (by simp; omega) ?_; intro v6 w6 ho6 hg6 _)
            | (go_at_call 58; refine KM.out.mono ?_; rintro e _ ⟨rfl, rfl⟩))
          have R6 := Lib.hid ((R3.out.al _).push (own_snocW ho6) hg6 (by omega) (by omega) (by omega))
          have hol2 : Hid ((out ++ [low]).length = k + 1) := by rw [List.length_append, hol.out]; rfl
          clear ho6 hg6 R3 ho3
          go_wp2
          go_roundw
          case rel => exact ⟨k + 1, _, by omega, by go_num, ⟨R6.out.es.mono (by omega), R6.out.own⟩, hol2.out, hat2.out, hak2.out⟩
          case measure => simp [intOf]; omega
      · obtain rfl : k = M := by omega
        have hup := up_of_list hol hat
        have hr := Lib.hid (hE.out _ hak hup)
        obtain ⟨g, c, eg, hgB, hgl⟩ := World.ownsRow.form ho (by omega)
        cases eg
        have ho2 : OwnI wr (z + 1) (.slice (some ⟨g, 0, none⟩) out.length c6) out := by unfold OwnI; rw [hol]; exact ho
        have hsl : (out.mergeSort fun x y => decide (x ≤ y)).length = out.length := List.length_mergeSort _
        have KS := sortI_any ho2 (by omega)
        have hBw : Below w.heap.size w wr := hB.out.trans (R.es.ps.low.mono hB.out.size)
        have hlt' : ¬ (k : Int) + 1 ≤ (k : Int) := by omega
        rw [hol] at KS
        replace KS := Lib.hid KS
        replace hBw := Lib.hid hBw
        clear ho ho2 R hat hak hup
        go_wp2_with (fail)
        refine KS.out.mono ?_
        rintro e w3 ⟨rfl, o3, g3⟩
        have hB3 := hBw.out.grown g3 hBw.out.size (fun j e => by cases e; omega)
        have KC := compI_any (xs := out.mergeSort fun x y => decide (x ≤ y)) (by rw [hsl, hol]; exact o3) (by omega)
        rw [hsl, hol] at KC
        rw [hsl, hol] at hr
        replace KC := Lib.hid KC
        replace hB3 := Lib.hid hB3
        clear o3 g3 KS
        go_wp2_with (fail)
        refine KC.out.mono ?_
        rintro e w4 ⟨v4, rfl, o4, g4⟩
        have hB4 := Lib.hid (hB3.out.grown g4 hB3.out.size (fun j e => by cases e; omega))
        have o5 := Lib.hid (o4.mono (show w.heap.size ≤ z + 1 by omega))
        clear o4 g4 KC
        go_wp2
        go_ret
        exact ⟨_, rfl, by rw [hr.out]; exact o5.out, hB4.out⟩
  · have hE := Lib.hid (rings_no (f := f) (m := m) (fun hh => hm hh.1))
    by_cases h1 : m < 1
    · clear hm
      go_wp2
      go_ret
      exact ⟨_, rfl, by rw [hE.out]; exact owns_none _ _ _, hB.out⟩
    · have h2 : 500 < m := by omega
      clear hm
      go_wp2
      go_ret
      exact ⟨_, rfl, by rw [hE.out]; exact owns_none _ _ _, hB.out⟩
end Go.Proofs.Ytfnpkmlgklameaa
