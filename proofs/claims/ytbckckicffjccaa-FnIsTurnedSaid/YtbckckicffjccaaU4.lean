/-
  The contract of ReadTurned of the model.
-/
import Derived.Test.YtbckckicffjccaaU3
namespace Go.Proofs.Ytbckckicffjccaa
open Go.RowKit

theorem str_empty (u : ByteArray) : u.toList.isEmpty = decide (u = ByteArray.empty) := by
  rw [← str_eq, show ByteArray.empty.toList = [] by unfold ByteArray.toList; rw [ByteArray.toList.loop]; rfl]
  cases u.toList <;> rfl
section
variable {x : ByteArray} {l : List ByteArray} {k : Nat}
theorem pl_unit (h1 : k + 1 < l.length) (h2 : l.getD (k + 1) ByteArray.empty = x) (h3 : (plTo x l k).2 = ByteArray.empty) : plTo x l (k + 1) = ((plTo x l k).1, l.getD k ByteArray.empty) := by
  rw [plTo, if_pos ⟨h1, h2, h3⟩]
theorem pl_word (h1 : ¬ (k + 1 < l.length ∧ l.getD (k + 1) ByteArray.empty = x ∧ (plTo x l k).2 = ByteArray.empty)) (h2 : ¬ l.getD k ByteArray.empty = x ∨ (plTo x l k).2 = ByteArray.empty) : plTo x l (k + 1) = ((plTo x l k).1 ++ [l.getD k ByteArray.empty], (plTo x l k).2) := by
  rw [plTo, if_neg h1, if_pos h2]
theorem pl_skip (h1 : ¬ (k + 1 < l.length ∧ l.getD (k + 1) ByteArray.empty = x ∧ (plTo x l k).2 = ByteArray.empty)) (h2 : l.getD k ByteArray.empty = x) (h3 : ¬ (plTo x l k).2 = ByteArray.empty) : plTo x l (k + 1) = plTo x l k := by
  rw [plTo, if_neg h1, if_neg (fun h => h.elim (fun h => h h2) h3)]
end

set_option maxRecDepth 100000 in
set_option maxHeartbeats 8000000 in
theorem specReadTurned_any (v : Value) (t : Tg) (A : Option Addr) (n c : Nat) (l : List ByteArray) (x : ByteArray) (w : World) (h : Tng w v t) (hf : t.Fine) (hl : Strs w A n c l) (hn : n ≤ 2000000) (hsz : ∀ y ∈ l, y.size ≤ maxLen) (hx : x.size ≤ maxLen) :
    Calls Try.prog 18 #[v, .slice A n c, .string x] w fun e w' => e = .returned (.tuple #[.int .i64 (readUV t l x), .bool (readUB t l x)]) ∧ Below w.heap.size w w' := by
  obtain ⟨i0, hi, hz0, hz1, hz2⟩ := info_parts str_info
  obtain ⟨A1, c1, A2, c2, A3, c3, rfl, -⟩ := h.ex
  have hln := hl.len
  have hB := (Below.refl w.heap.size w).alloc (Nat.le_refl _) (.cells #[.slice A1 t.us.length c1, .slice A2 t.bs.length c2, .slice A3 t.ns.length c3] 26)
  have HX := Blk.new w 26 #[.slice A1 t.us.length c1, .slice A2 t.bs.length c2, .slice A3 t.ns.length c3]
  have HT := h.below hB (Nat.le_refl _)
  have HL := hl.below hB (Nat.le_refl _)
  have K1 := Lib.hid (specFits_any _ t x _ HT hf hx)
  have HN : okLT t l x = false → readUB t l x = false := fun h => by unfold readUB; rw [h]; rfl
  replace HN := Lib.hid HN
  replace hB := Lib.hid hB
  replace HX := Lib.hid HX
  replace HT := Lib.hid HT
  replace HL := Lib.hid HL
  replace hsz := Lib.hid hsz
  replace hln := Lib.hid hln
  clear h hl
  go_enter Try.func18, Try.ntmps18
  go_upto_region 1 with (fail)
  generalize w.alloc (.cells #[.slice A1 t.us.length c1, .slice A2 t.bs.length c2, .slice A3 t.ns.length c3] 26) = W at *
  obtain ⟨x0, x1, x2, -, -, -⟩ := blk3 HX.out
  go_wp2_with (fail)
  refine K1.out.mono ?_
  rintro e w1 ⟨rfl, b1⟩
  replace hB := Lib.hid (hB.out.trans (b1.mono hB.out.size))
  replace HX := Lib.hid (HX.out.below b1 HX.out.lt)
  replace HT := Lib.hid (HT.out.below b1 (Nat.le_refl _))
  replace HL := Lib.hid (HL.out.below b1 (Nat.le_refl _))
  clear b1 x0 x1 x2 K1
  obtain ⟨x0, x1, x2, -, -, -⟩ := blk3 HX.out
  cases hfi : fitsT t x
  · have hno := HN.out (by unfold okLT; rw [hfi]; rfl)
    have hv := readU_no hno
    replace hno := Lib.hid hno
    replace hv := Lib.hid hv
    replace hfi := Lib.hid hfi
    go_wp2
    go_ret2
    exact ⟨two_ret hv.out.symm hno.out.symm, hB.out⟩
  · by_cases hd : 1 ≤ n ∧ n ≤ 40
    · obtain ⟨hd1, hd2⟩ := hd
      have hdb : decide ((1 : Int) ≤ (n : Int) ∧ (n : Int) ≤ 40) = true := decide_eq_true (by omega)
      have hokl : okLT t l x = true := by unfold okLT; rw [hfi, hln.out, decide_eq_true ⟨hd1, hd2⟩]; rfl
      have hok := (fits_parts hfi).1
      have hat : ∀ j, (l.getD j ByteArray.empty).size ≤ maxLen := fun j => by
        by_cases hj : j < l.length
        · rw [List.getD_eq_getElem?_getD, List.getElem?_eq_getElem hj]; exact hsz.out _ (List.getElem_mem hj)
        · rw [List.getD_eq_getElem?_getD, List.getElem?_eq_none (by omega)]; exact Nat.zero_le _
      have hps := Lib.hid (plTo_size (x := x) hat)
      have hpl := Lib.hid (plTo_len x l)
      have HKV := Lib.hid (fun (ys : List ByteArray) (hy : ys.length ≤ 41) (hz : ∀ y ∈ ys, y.size ≤ maxLen) A c W (hT : Tng W (.agg #[.slice A1 t.us.length c1, .slice A2 t.bs.length c2, .slice A3 t.ns.length c3]) t) (hS : Strs W A ys.length c ys) => specValue_any hok hf ys.length ys rfl (by omega) hz _ A c W hT hS)
      have HKT := Lib.hid (fun (z : Int) (hz : -1 ≤ z ∧ z ≤ 1000000) W (hT : Tng W (.agg #[.slice A1 t.us.length c1, .slice A2 t.bs.length c2, .slice A3 t.ns.length c3]) t) => specTurnedName_any _ t z x W hT hf (by omega) hx)
      have HVB := Lib.hid (valV_bd hok)
      have HR : readUB t l x = (turnedB t (valV t (plainS x l)) x && decide (turnedOf t (valV t (plainS x l)) x = l)) := by unfold readUB; rw [hokl, Bool.true_and]
      have HV : readUB t l x = true → readUV t l x = valV t (plainS x l) := fun h => by unfold readUV; rw [h, if_pos rfl]
      have HV0 : readUB t l x = false → readUV t l x = -1 := readU_no
      have HP : plainS x l = if (plTo x l n).2 = ByteArray.empty then (plTo x l n).1 else (plTo x l n).1 ++ [(plTo x l n).2] := by unfold plainS; rw [hln.out]
      replace HR := Lib.hid HR
      replace HV := Lib.hid HV
      replace HV0 := Lib.hid HV0
      replace HP := Lib.hid HP
      replace hok := Lib.hid hok
      replace hokl := Lib.hid hokl
      replace hfi := Lib.hid hfi
      replace hat := Lib.hid hat
      clear HN
      go_wp2_with (fail)
      refine (in_any _ _ _ _).mono ?_
      rintro e _ ⟨rfl, rfl⟩
      rw [hdb]
      clear hdb
      go_upto_region 4 with (fail)
      have hA := (Below.refl w1.heap.size w1).alloc (Nat.le_refl _) (.cells #[] 9)
      have own1 : OwnStrs (w1.alloc (.cells #[] 9)) w1.heap.size (.slice (some ⟨w1.heap.size, 0, none⟩) 0 0) [] := owns_empty (Blk.new w1 9 #[]) (Nat.le_refl _)
      replace own1 := Lib.hid own1
      replace hA := Lib.hid hA
      clear x0 x1 x2
      generalize hW4 : w1.alloc (.cells #[] 9) = W4 at *
      replace hW4 := Lib.hid hW4
      generalize hg0 : w1.heap.size = g0 at *
      replace hg0 := Lib.hid hg0
      have HLa := Lib.hid (fun W' (hb : Below g0 w1 W') => HL.out.below hb (by rw [hg0.out]; exact Nat.le_refl _))
      have HXa := Lib.hid (fun W' (hb : Below g0 w1 W') => blk3 (HX.out.below hb (by rw [← hg0.out]; exact HX.out.lt)))
      have HTa := Lib.hid (fun W' (hb : Below g0 w1 W') => HT.out.below hb (by rw [hg0.out]; exact Nat.le_refl _))
      have HXb := Lib.hid (fun W' (hb : Below g0 w1 W') => HX.out.below hb (by rw [← hg0.out]; exact HX.out.lt))
      have hBa := Lib.hid (fun W' (hb : Below g0 w1 W') => hB.out.trans (hb.mono (by rw [← hg0.out]; exact hB.out.size)))
      have hgw : w.heap.size ≤ g0 := by rw [← hg0.out]; exact hB.out.size
      clear HX HT HL hB
      go_wp2
      go_loopw [8, 9, 10] (fun s8 s9 s10 wr => ∃ (k : Nat) (A8 : Option Addr) (c8 : Nat), k ≤ n ∧ s10 = .int .i64 k ∧ s9 = .string (plTo x l k).2 ∧ s8 = .slice A8 (plTo x l k).1.length c8 ∧ OwnStrs wr g0 (.slice A8 (plTo x l k).1.length c8) (plTo x l k).1 ∧ Below g0 w1 wr) (fun _ _ i _ => n - (intOf i).toNat)
      case atStart => exact ⟨0, _, _, Nat.zero_le _, rfl, rfl, rfl, own1.out, hA.out⟩
      case round =>
        obtain ⟨k, A8, c8, hk, rfl, rfl, rfl, ho, hb⟩ := hrel
        by_cases hlt : k < n
        · obtain ⟨b, o, rfl, hbo, hc⟩ := (HLa.out _ hb).at_ (by omega)
          have ck0 := hc k hlt
          have ck1 : k + 1 < n → wr.cell? ⟨b, o + (k + 1), none⟩ = some (.string (l.getD (k + 1) ByteArray.empty)) := fun h => hc (k + 1) h
          have U1 := fun h => pl_unit (x := x) (l := l) (k := k) h
          have U2 := fun h => pl_word (x := x) (l := l) (k := k) h
          have U3 := fun h => pl_skip (x := x) (l := l) (k := k) h
          rw [hln.out] at U1 U2 U3
          have hPl := hpl.out k
          have kw : IntKind.i64.wrap ((k : Int) + 1) = (k : Int) + 1 := IntWalk.i64_in _ (by omega)
          have kn : ((k : Int) + 1).toNat = k + 1 := by omega
          have kp : (0 : Int) ≤ (k : Int) + 1 := by omega
          have hb' := hb
          generalize l.getD k ByteArray.empty = y0 at *
          generalize l.getD (k + 1) ByteArray.empty = y1 at *
          generalize hS : plTo x l k = S at *
          obtain ⟨P, u⟩ := S
          have ho : OwnStrs wr g0 (.slice A8 P.length c8) P := ho
          replace hS := Lib.hid hS
          replace U1 := Lib.hid U1
          replace U2 := Lib.hid U2
          replace U3 := Lib.hid U3
          replace hb := Lib.hid hb
          replace hb' := Lib.hid hb'
          replace ho := Lib.hid ho
          clear hc
          simp only at hPl ⊢
          by_cases a1 : k + 1 < n
          · by_cases a2 : y1 = x
            · by_cases a3 : u = ByteArray.empty
              · have t1 : (k : Int) + 1 < (n : Int) := by omega
                have d1 := ck1 (by omega)
                have e1 : (y1.toList == x.toList) = true := by rw [str_eq]; exact decide_eq_true a2
                have e3 : u.toList.isEmpty = true := by rw [str_empty]; exact decide_eq_true a3
                have hpk := U1.out a1 a2 a3
                replace hpk := Lib.hid hpk
                replace a2 := Lib.hid a2
                replace a3 := Lib.hid a3
                clear U1 U2 U3 ck1
                go_wp2
                go_roundw
                case rel => exact ⟨k + 1, A8, c8, by omega, by go_num, by rw [hpk.out], by rw [hpk.out], by rw [hpk.out]; exact ho.out, hb.out⟩
                case measure => simp [intOf]; omega
              · by_cases a4 : y0 = x
                · have t1 : (k : Int) + 1 < (n : Int) := by omega
                  have d1 := ck1 (by omega)
                  have e1 : (y1.toList == x.toList) = true := by rw [str_eq]; exact decide_eq_true a2
                  have e3 : u.toList.isEmpty = false := by rw [str_empty]; exact decide_eq_false a3
                  have e0 : (y0.toList == x.toList) = true := by rw [str_eq]; exact decide_eq_true a4
                  have e0' : (y0.toList != x.toList) = false := by rw [bne, e0]; rfl
                  have hpk := U3.out (fun h => a3 h.2.2) a4 a3
                  replace hpk := Lib.hid hpk
                  replace a2 := Lib.hid a2
                  replace a3 := Lib.hid a3
                  replace a4 := Lib.hid a4
                  clear U1 U2 U3 ck1
                  go_wp2
                  go_roundw
                  case rel => exact ⟨k + 1, A8, c8, by omega, by go_num, by rw [hpk.out], by rw [hpk.out], by rw [hpk.out]; exact ho.out, hb.out⟩
                  case measure => simp [intOf]; omega
                · have t1 : (k : Int) + 1 < (n : Int) := by omega
                  have d1 := ck1 (by omega)
                  have e1 : (y1.toList == x.toList) = true := by rw [str_eq]; exact decide_eq_true a2
                  have e3 : u.toList.isEmpty = false := by rw [str_empty]; exact decide_eq_false a3
                  have e0 : (y0.toList == x.toList) = false := by rw [str_eq]; exact decide_eq_false a4
                  have e0' : (y0.toList != x.toList) = true := by rw [bne, e0]; rfl
                  have hpk := U2.out (fun h => a3 h.2.2) (.inl a4)
                  replace hpk := Lib.hid hpk
                  replace a2 := Lib.hid a2
                  replace a3 := Lib.hid a3
                  replace a4 := Lib.hid a4
                  clear U1 U2 U3 ck1
                  have k3 := Lib.hid (show P.length + 1 ≤ maxLen by unfold maxLen; omega)
                  have k4 := Lib.hid (show (P.length + 1) * 16 ≤ 140737488355328 by omega)
                  have hs9 := Lib.hid (show g0 ≤ (wr.alloc (.cells #[.string y0] 9)).heap.size by have := hb.out.size; have := hg0.out; simp; omega)
                  have hs8 := Lib.hid (show g0 ≤ wr.heap.size by have := hb.out.size; have := hg0.out; omega)
                  go_wp2_with (at_builtin; refine wpList_app _ rfl (.tmp 66) (.tmp 71) _ rfl g0 9 i0 _ 16 Try.underlying23 hi hz0 hz1 hz2 rfl (.slice A8 P.length c8) _ _ rfl (World.ownsRow.alloc ho.out _) (some ⟨wr.heap.size, 0, none⟩) 1 1 [.string y0] rfl (Src.one (Blk.new _ _ _) rfl) k3.out k4.out hs9.out ?_; intro v10 w10 ho10 hg10 _)
                  have hB10 := Lib.hid (below_own (hb.out.alloc hs8.out _) (World.ownsRow.alloc ho.out _) hg10 hs9.out (Nat.le_refl _))
                  have ho11 : OwnStrs w10 g0 v10 (P ++ [y0]) := by
                    unfold OwnStrs
                    simpa using ho10
                  obtain ⟨A10, c10, rfl, -⟩ := ho11.strs
                  replace ho11 := Lib.hid ho11
                  clear ho10 hg10
                  generalize P ++ [y0] = P1 at *
                  go_wp2
                  go_roundw
                  case rel => exact ⟨k + 1, A10, c10, by omega, by go_num, by rw [hpk.out], by rw [hpk.out], by rw [hpk.out]; exact ho11.out, hB10.out⟩
                  case measure => simp [intOf]; omega
            · by_cases a3 : u = ByteArray.empty
              · by_cases a4 : y0 = x
                · have t1 : (k : Int) + 1 < (n : Int) := by omega
                  have d1 := ck1 (by omega)
                  have e1 : (y1.toList == x.toList) = false := by rw [str_eq]; exact decide_eq_false a2
                  have e3 : u.toList.isEmpty = true := by rw [str_empty]; exact decide_eq_true a3
                  have e0 : (y0.toList == x.toList) = true := by rw [str_eq]; exact decide_eq_true a4
                  have e0' : (y0.toList != x.toList) = false := by rw [bne, e0]; rfl
                  have hpk := U2.out (fun h => a2 h.2.1) (.inr a3)
                  replace hpk := Lib.hid hpk
                  replace a2 := Lib.hid a2
                  replace a3 := Lib.hid a3
                  replace a4 := Lib.hid a4
                  clear U1 U2 U3 ck1
                  have k3 := Lib.hid (show P.length + 1 ≤ maxLen by unfold maxLen; omega)
                  have k4 := Lib.hid (show (P.length + 1) * 16 ≤ 140737488355328 by omega)
                  have hs9 := Lib.hid (show g0 ≤ (wr.alloc (.cells #[.string y0] 9)).heap.size by have := hb.out.size; have := hg0.out; simp; omega)
                  have hs8 := Lib.hid (show g0 ≤ wr.heap.size by have := hb.out.size; have := hg0.out; omega)
                  go_wp2_with (at_builtin; refine wpList_app _ rfl (.tmp 66) (.tmp 71) _ rfl g0 9 i0 _ 16 Try.underlying23 hi hz0 hz1 hz2 rfl (.slice A8 P.length c8) _ _ rfl (World.ownsRow.alloc ho.out _) (some ⟨wr.heap.size, 0, none⟩) 1 1 [.string y0] rfl (Src.one (Blk.new _ _ _) rfl) k3.out k4.out hs9.out ?_; intro v10 w10 ho10 hg10 _)
                  have hB10 := Lib.hid (below_own (hb.out.alloc hs8.out _) (World.ownsRow.alloc ho.out _) hg10 hs9.out (Nat.le_refl _))
                  have ho11 : OwnStrs w10 g0 v10 (P ++ [y0]) := by
                    unfold OwnStrs
                    simpa using ho10
                  obtain ⟨A10, c10, rfl, -⟩ := ho11.strs
                  replace ho11 := Lib.hid ho11
                  clear ho10 hg10
                  generalize P ++ [y0] = P1 at *
                  go_wp2
                  go_roundw
                  case rel => exact ⟨k + 1, A10, c10, by omega, by go_num, by rw [hpk.out], by rw [hpk.out], by rw [hpk.out]; exact ho11.out, hB10.out⟩
                  case measure => simp [intOf]; omega
                · have t1 : (k : Int) + 1 < (n : Int) := by omega
                  have d1 := ck1 (by omega)
                  have e1 : (y1.toList == x.toList) = false := by rw [str_eq]; exact decide_eq_false a2
                  have e3 : u.toList.isEmpty = true := by rw [str_empty]; exact decide_eq_true a3
                  have e0 : (y0.toList == x.toList) = false := by rw [str_eq]; exact decide_eq_false a4
                  have e0' : (y0.toList != x.toList) = true := by rw [bne, e0]; rfl
                  have hpk := U2.out (fun h => a2 h.2.1) (.inl a4)
                  replace hpk := Lib.hid hpk
                  replace a2 := Lib.hid a2
                  replace a3 := Lib.hid a3
                  replace a4 := Lib.hid a4
                  clear U1 U2 U3 ck1
                  have k3 := Lib.hid (show P.length + 1 ≤ maxLen by unfold maxLen; omega)
                  have k4 := Lib.hid (show (P.length + 1) * 16 ≤ 140737488355328 by omega)
                  have hs9 := Lib.hid (show g0 ≤ (wr.alloc (.cells #[.string y0] 9)).heap.size by have := hb.out.size; have := hg0.out; simp; omega)
                  have hs8 := Lib.hid (show g0 ≤ wr.heap.size by have := hb.out.size; have := hg0.out; omega)
                  go_wp2_with (at_builtin; refine wpList_app _ rfl (.tmp 66) (.tmp 71) _ rfl g0 9 i0 _ 16 Try.underlying23 hi hz0 hz1 hz2 rfl (.slice A8 P.length c8) _ _ rfl (World.ownsRow.alloc ho.out _) (some ⟨wr.heap.size, 0, none⟩) 1 1 [.string y0] rfl (Src.one (Blk.new _ _ _) rfl) k3.out k4.out hs9.out ?_; intro v10 w10 ho10 hg10 _)
                  have hB10 := Lib.hid (below_own (hb.out.alloc hs8.out _) (World.ownsRow.alloc ho.out _) hg10 hs9.out (Nat.le_refl _))
                  have ho11 : OwnStrs w10 g0 v10 (P ++ [y0]) := by
                    unfold OwnStrs
                    simpa using ho10
                  obtain ⟨A10, c10, rfl, -⟩ := ho11.strs
                  replace ho11 := Lib.hid ho11
                  clear ho10 hg10
                  generalize P ++ [y0] = P1 at *
                  go_wp2
                  go_roundw
                  case rel => exact ⟨k + 1, A10, c10, by omega, by go_num, by rw [hpk.out], by rw [hpk.out], by rw [hpk.out]; exact ho11.out, hB10.out⟩
                  case measure => simp [intOf]; omega
              · by_cases a4 : y0 = x
                · have t1 : (k : Int) + 1 < (n : Int) := by omega
                  have d1 := ck1 (by omega)
                  have e1 : (y1.toList == x.toList) = false := by rw [str_eq]; exact decide_eq_false a2
                  have e3 : u.toList.isEmpty = false := by rw [str_empty]; exact decide_eq_false a3
                  have e0 : (y0.toList == x.toList) = true := by rw [str_eq]; exact decide_eq_true a4
                  have e0' : (y0.toList != x.toList) = false := by rw [bne, e0]; rfl
                  have hpk := U3.out (fun h => a2 h.2.1) a4 a3
                  replace hpk := Lib.hid hpk
                  replace a2 := Lib.hid a2
                  replace a3 := Lib.hid a3
                  replace a4 := Lib.hid a4
                  clear U1 U2 U3 ck1
                  go_wp2
                  go_roundw
                  case rel => exact ⟨k + 1, A8, c8, by omega, by go_num, by rw [hpk.out], by rw [hpk.out], by rw [hpk.out]; exact ho.out, hb.out⟩
                  case measure => simp [intOf]; omega
                · have t1 : (k : Int) + 1 < (n : Int) := by omega
                  have d1 := ck1 (by omega)
                  have e1 : (y1.toList == x.toList) = false := by rw [str_eq]; exact decide_eq_false a2
                  have e3 : u.toList.isEmpty = false := by rw [str_empty]; exact decide_eq_false a3
                  have e0 : (y0.toList == x.toList) = false := by rw [str_eq]; exact decide_eq_false a4
                  have e0' : (y0.toList != x.toList) = true := by rw [bne, e0]; rfl
                  have hpk := U2.out (fun h => a2 h.2.1) (.inl a4)
                  replace hpk := Lib.hid hpk
                  replace a2 := Lib.hid a2
                  replace a3 := Lib.hid a3
                  replace a4 := Lib.hid a4
                  clear U1 U2 U3 ck1
                  have k3 := Lib.hid (show P.length + 1 ≤ maxLen by unfold maxLen; omega)
                  have k4 := Lib.hid (show (P.length + 1) * 16 ≤ 140737488355328 by omega)
                  have hs9 := Lib.hid (show g0 ≤ (wr.alloc (.cells #[.string y0] 9)).heap.size by have := hb.out.size; have := hg0.out; simp; omega)
                  have hs8 := Lib.hid (show g0 ≤ wr.heap.size by have := hb.out.size; have := hg0.out; omega)
                  go_wp2_with (at_builtin; refine wpList_app _ rfl (.tmp 66) (.tmp 71) _ rfl g0 9 i0 _ 16 Try.underlying23 hi hz0 hz1 hz2 rfl (.slice A8 P.length c8) _ _ rfl (World.ownsRow.alloc ho.out _) (some ⟨wr.heap.size, 0, none⟩) 1 1 [.string y0] rfl (Src.one (Blk.new _ _ _) rfl) k3.out k4.out hs9.out ?_; intro v10 w10 ho10 hg10 _)
                  have hB10 := Lib.hid (below_own (hb.out.alloc hs8.out _) (World.ownsRow.alloc ho.out _) hg10 hs9.out (Nat.le_refl _))
                  have ho11 : OwnStrs w10 g0 v10 (P ++ [y0]) := by
                    unfold OwnStrs
                    simpa using ho10
                  obtain ⟨A10, c10, rfl, -⟩ := ho11.strs
                  replace ho11 := Lib.hid ho11
                  clear ho10 hg10
                  generalize P ++ [y0] = P1 at *
                  go_wp2
                  go_roundw
                  case rel => exact ⟨k + 1, A10, c10, by omega, by go_num, by rw [hpk.out], by rw [hpk.out], by rw [hpk.out]; exact ho11.out, hB10.out⟩
                  case measure => simp [intOf]; omega
          · by_cases a3 : u = ByteArray.empty
            · by_cases a4 : y0 = x
              · have t1 : ¬ (k : Int) + 1 < (n : Int) := by omega
                have e3 : u.toList.isEmpty = true := by rw [str_empty]; exact decide_eq_true a3
                have e0 : (y0.toList == x.toList) = true := by rw [str_eq]; exact decide_eq_true a4
                have e0' : (y0.toList != x.toList) = false := by rw [bne, e0]; rfl
                have hpk := U2.out (fun h => a1 h.1) (.inr a3)
                replace hpk := Lib.hid hpk
                replace a3 := Lib.hid a3
                replace a4 := Lib.hid a4
                clear U1 U2 U3 ck1
                have k3 := Lib.hid (show P.length + 1 ≤ maxLen by unfold maxLen; omega)
                have k4 := Lib.hid (show (P.length + 1) * 16 ≤ 140737488355328 by omega)
                have hs9 := Lib.hid (show g0 ≤ (wr.alloc (.cells #[.string y0] 9)).heap.size by have := hb.out.size; have := hg0.out; simp; omega)
                have hs8 := Lib.hid (show g0 ≤ wr.heap.size by have := hb.out.size; have := hg0.out; omega)
                go_wp2_with (at_builtin; refine wpList_app _ rfl (.tmp 66) (.tmp 71) _ rfl g0 9 i0 _ 16 Try.underlying23 hi hz0 hz1 hz2 rfl (.slice A8 P.length c8) _ _ rfl (World.ownsRow.alloc ho.out _) (some ⟨wr.heap.size, 0, none⟩) 1 1 [.string y0] rfl (Src.one (Blk.new _ _ _) rfl) k3.out k4.out hs9.out ?_; intro v10 w10 ho10 hg10 _)
                have hB10 := Lib.hid (below_own (hb.out.alloc hs8.out _) (World.ownsRow.alloc ho.out _) hg10 hs9.out (Nat.le_refl _))
                have ho11 : OwnStrs w10 g0 v10 (P ++ [y0]) := by
                  unfold OwnStrs
                  simpa using ho10
                obtain ⟨A10, c10, rfl, -⟩ := ho11.strs
                replace ho11 := Lib.hid ho11
                clear ho10 hg10
                generalize P ++ [y0] = P1 at *
                go_wp2
                go_roundw
                case rel => exact ⟨k + 1, A10, c10, by omega, by go_num, by rw [hpk.out], by rw [hpk.out], by rw [hpk.out]; exact ho11.out, hB10.out⟩
                case measure => simp [intOf]; omega
              · have t1 : ¬ (k : Int) + 1 < (n : Int) := by omega
                have e3 : u.toList.isEmpty = true := by rw [str_empty]; exact decide_eq_true a3
                have e0 : (y0.toList == x.toList) = false := by rw [str_eq]; exact decide_eq_false a4
                have e0' : (y0.toList != x.toList) = true := by rw [bne, e0]; rfl
                have hpk := U2.out (fun h => a1 h.1) (.inl a4)
                replace hpk := Lib.hid hpk
                replace a3 := Lib.hid a3
                replace a4 := Lib.hid a4
                clear U1 U2 U3 ck1
                have k3 := Lib.hid (show P.length + 1 ≤ maxLen by unfold maxLen; omega)
                have k4 := Lib.hid (show (P.length + 1) * 16 ≤ 140737488355328 by omega)
                have hs9 := Lib.hid (show g0 ≤ (wr.alloc (.cells #[.string y0] 9)).heap.size by have := hb.out.size; have := hg0.out; simp; omega)
                have hs8 := Lib.hid (show g0 ≤ wr.heap.size by have := hb.out.size; have := hg0.out; omega)
                go_wp2_with (at_builtin; refine wpList_app _ rfl (.tmp 66) (.tmp 71) _ rfl g0 9 i0 _ 16 Try.underlying23 hi hz0 hz1 hz2 rfl (.slice A8 P.length c8) _ _ rfl (World.ownsRow.alloc ho.out _) (some ⟨wr.heap.size, 0, none⟩) 1 1 [.string y0] rfl (Src.one (Blk.new _ _ _) rfl) k3.out k4.out hs9.out ?_; intro v10 w10 ho10 hg10 _)
                have hB10 := Lib.hid (below_own (hb.out.alloc hs8.out _) (World.ownsRow.alloc ho.out _) hg10 hs9.out (Nat.le_refl _))
                have ho11 : OwnStrs w10 g0 v10 (P ++ [y0]) := by
                  unfold OwnStrs
                  simpa using ho10
                obtain ⟨A10, c10, rfl, -⟩ := ho11.strs
                replace ho11 := Lib.hid ho11
                clear ho10 hg10
                generalize P ++ [y0] = P1 at *
                go_wp2
                go_roundw
                case rel => exact ⟨k + 1, A10, c10, by omega, by go_num, by rw [hpk.out], by rw [hpk.out], by rw [hpk.out]; exact ho11.out, hB10.out⟩
                case measure => simp [intOf]; omega
            · by_cases a4 : y0 = x
              · have t1 : ¬ (k : Int) + 1 < (n : Int) := by omega
                have e3 : u.toList.isEmpty = false := by rw [str_empty]; exact decide_eq_false a3
                have e0 : (y0.toList == x.toList) = true := by rw [str_eq]; exact decide_eq_true a4
                have e0' : (y0.toList != x.toList) = false := by rw [bne, e0]; rfl
                have hpk := U3.out (fun h => a1 h.1) a4 a3
                replace hpk := Lib.hid hpk
                replace a3 := Lib.hid a3
                replace a4 := Lib.hid a4
                clear U1 U2 U3 ck1
                go_wp2
                go_roundw
                case rel => exact ⟨k + 1, A8, c8, by omega, by go_num, by rw [hpk.out], by rw [hpk.out], by rw [hpk.out]; exact ho.out, hb.out⟩
                case measure => simp [intOf]; omega
              · have t1 : ¬ (k : Int) + 1 < (n : Int) := by omega
                have e3 : u.toList.isEmpty = false := by rw [str_empty]; exact decide_eq_false a3
                have e0 : (y0.toList == x.toList) = false := by rw [str_eq]; exact decide_eq_false a4
                have e0' : (y0.toList != x.toList) = true := by rw [bne, e0]; rfl
                have hpk := U2.out (fun h => a1 h.1) (.inl a4)
                replace hpk := Lib.hid hpk
                replace a3 := Lib.hid a3
                replace a4 := Lib.hid a4
                clear U1 U2 U3 ck1
                have k3 := Lib.hid (show P.length + 1 ≤ maxLen by unfold maxLen; omega)
                have k4 := Lib.hid (show (P.length + 1) * 16 ≤ 140737488355328 by omega)
                have hs9 := Lib.hid (show g0 ≤ (wr.alloc (.cells #[.string y0] 9)).heap.size by have := hb.out.size; have := hg0.out; simp; omega)
                have hs8 := Lib.hid (show g0 ≤ wr.heap.size by have := hb.out.size; have := hg0.out; omega)
                go_wp2_with (at_builtin; refine wpList_app _ rfl (.tmp 66) (.tmp 71) _ rfl g0 9 i0 _ 16 Try.underlying23 hi hz0 hz1 hz2 rfl (.slice A8 P.length c8) _ _ rfl (World.ownsRow.alloc ho.out _) (some ⟨wr.heap.size, 0, none⟩) 1 1 [.string y0] rfl (Src.one (Blk.new _ _ _) rfl) k3.out k4.out hs9.out ?_; intro v10 w10 ho10 hg10 _)
                have hB10 := Lib.hid (below_own (hb.out.alloc hs8.out _) (World.ownsRow.alloc ho.out _) hg10 hs9.out (Nat.le_refl _))
                have ho11 : OwnStrs w10 g0 v10 (P ++ [y0]) := by
                  unfold OwnStrs
                  simpa using ho10
                obtain ⟨A10, c10, rfl, -⟩ := ho11.strs
                replace ho11 := Lib.hid ho11
                clear ho10 hg10
                generalize P ++ [y0] = P1 at *
                go_wp2
                go_roundw
                case rel => exact ⟨k + 1, A10, c10, by omega, by go_num, by rw [hpk.out], by rw [hpk.out], by rw [hpk.out]; exact ho11.out, hB10.out⟩
                case measure => simp [intOf]; omega
        · obtain rfl : k = n := by omega
          have hPl := hpl.out k
          have hPz := hps.out k
          generalize hS : plTo x l k = S at *
          obtain ⟨P, u⟩ := S
          have ho : OwnStrs wr g0 (.slice A8 P.length c8) P := ho
          have HPu : ∀ ys, (if u = ByteArray.empty then P else P ++ [u]) = ys → plainS x l = ys := fun ys h => by rw [HP.out]; exact h
          replace hS := Lib.hid hS
          replace HPu := Lib.hid HPu
          replace ho := Lib.hid ho
          replace hb := Lib.hid hb
          replace hPz := Lib.hid hPz
          simp only at hPl ⊢
          go_upto_if 74 with (fail)
          go_cut [8] (fun s8 wx => (∃ A8 c8, s8 = .slice A8 (plainS x l).length c8 ∧ OwnStrs wx g0 (.slice A8 (plainS x l).length c8) (plainS x l)) ∧ Below g0 w1 wx ∧ (plainS x l).length ≤ 41 ∧ ∀ y ∈ plainS x l, y.size ≤ maxLen)
          case first =>
            by_cases hu : u = ByteArray.empty
            · have hue : u.toList.isEmpty = true := by rw [str_empty]; exact decide_eq_true hu
              have hue' : (!u.toList.isEmpty) = false := by rw [hue]; rfl
              rw [hue']
              have hp := HPu.out P (by rw [if_pos hu])
              replace hu := Lib.hid hu
              replace hp := Lib.hid hp
              go_wp2
              go_meet
              exact ⟨⟨_, _, by rw [hp.out], by rw [hp.out]; exact ho.out⟩, hb.out, by rw [hp.out]; omega, by rw [hp.out]; exact hPz.out.1⟩
            · have hue : u.toList.isEmpty = false := by rw [str_empty]; exact decide_eq_false hu
              have hue' : (!u.toList.isEmpty) = true := by rw [hue]; rfl
              rw [hue']
              have hp := HPu.out (P ++ [u]) (by rw [if_neg hu])
              have k3 := Lib.hid (show P.length + 1 ≤ maxLen by unfold maxLen; omega)
              have k4 := Lib.hid (show (P.length + 1) * 16 ≤ 140737488355328 by omega)
              have hs9 := Lib.hid (show g0 ≤ (wr.alloc (.cells #[.string u] 9)).heap.size by have := hb.out.size; have := hg0.out; simp; omega)
              have hs8 := Lib.hid (show g0 ≤ wr.heap.size by have := hb.out.size; have := hg0.out; omega)
              replace hu := Lib.hid hu
              replace hp := Lib.hid hp
              go_wp2_with (at_builtin; refine wpList_app _ rfl (.tmp 75) (.tmp 77) _ rfl g0 9 i0 _ 16 Try.underlying23 hi hz0 hz1 hz2 rfl (.slice A8 P.length c8) _ _ rfl (World.ownsRow.alloc ho.out _) (some ⟨wr.heap.size, 0, none⟩) 1 1 [.string u] rfl (Src.one (Blk.new _ _ _) rfl) k3.out k4.out hs9.out ?_; intro v10 w10 ho10 hg10 _)
              have hB10 := Lib.hid (below_own (hb.out.alloc hs8.out _) (World.ownsRow.alloc ho.out _) hg10 hs9.out (Nat.le_refl _))
              have ho11 : OwnStrs w10 g0 v10 (P ++ [u]) := by
                unfold OwnStrs
                simpa using ho10
              obtain ⟨A10, c10, rfl, -⟩ := ho11.strs
              have hPl1 : (P ++ [u]).length ≤ 41 := by simp; omega
              have hPz1 : ∀ y ∈ P ++ [u], y.size ≤ maxLen := fun y hy => by
                rcases List.mem_append.1 hy with hy | hy
                · exact hPz.out.1 y hy
                · have e : y = u := by simpa using hy
                  rw [e]; exact hPz.out.2
              replace ho11 := Lib.hid ho11
              replace hPz1 := Lib.hid hPz1
              clear ho10 hg10
              generalize P ++ [u] = P1 at *
              go_wp2
              go_meet
              exact ⟨⟨_, _, by rw [hp.out], by rw [hp.out]; exact ho11.out⟩, hB10.out, by rw [hp.out]; exact hPl1, by rw [hp.out]; exact hPz1.out⟩
          case rest =>
            obtain ⟨⟨A9, c9, rfl, o9⟩, b9, hy41, hyz⟩ := hcut
            clear hPl hPz HPu HP hps hpl ho hb hA own1 hat
            generalize plainS x l = ys at *
            obtain ⟨_, _, ev, s9⟩ := o9.strs
            cases ev
            have KV := Lib.hid (HKV.out ys hy41 hyz _ _ wc (HTa.out _ b9) s9)
            have hBw := Lib.hid (hBa.out _ b9)
            have HXw := Lib.hid (HXb.out _ b9)
            have HTw := Lib.hid (HTa.out _ b9)
            have HLw := Lib.hid (HLa.out _ b9)
            have hvb := HVB.out ys
            clear HKV HLa HXa HTa HXb hBa s9 o9 b9 hyz HVB
            generalize valV t ys = vv at *
            obtain ⟨x0, x1, x2, -, -, -⟩ := blk3 HXw.out
            go_wp2_with (fail)
            refine KV.out.mono ?_
            rintro e w2 ⟨rfl, b2⟩
            replace hBw := Lib.hid (hBw.out.trans (b2.mono hBw.out.size))
            replace HXw := Lib.hid (HXw.out.below b2 HXw.out.lt)
            replace HTw := Lib.hid (HTw.out.below b2 (Nat.le_refl _))
            replace HLw := Lib.hid (HLw.out.below b2 (Nat.le_refl _))
            clear b2 x0 x1 x2 KV
            obtain ⟨x0, x1, x2, -, -, -⟩ := blk3 HXw.out
            have KT := Lib.hid (HKT.out vv hvb w2 HTw.out)
            have hwl32 := turned_len t vv x
            go_wp2_with (fail)
            refine KT.out.mono ?_
            rintro e w3 ⟨v3, rfl, o3, b3⟩
            obtain ⟨A3', c3', rfl, s3⟩ := o3.strs
            replace hBw := Lib.hid (hBw.out.trans (b3.mono hBw.out.size))
            replace HLw := Lib.hid (HLw.out.below b3 (Nat.le_refl _))
            replace s3 := Lib.hid s3
            clear b3 x0 x1 x2 KT o3 HXw HTw HKT
            generalize turnedOf t vv x = ws at *
            generalize hnb : turnedB t vv x = nb at *
            generalize hwl : ws.length = L at *
            cases nb
            · have hr : readUB t l x = false := by rw [HR.out]; rfl
              have hv := Lib.hid (HV0.out hr)
              replace hr := Lib.hid hr
              go_wp2
              go_ret2
              exact ⟨two_ret hv.out.symm hr.out.symm, hBw.out⟩
            · by_cases hLn : L = k
              · have hbe : ((L : Int) != (k : Int)) = false := by rw [bne_eq_false_iff_eq]; omega
                obtain ⟨b, o, rfl, -, hc⟩ := HLw.out.at_ (by omega)
                obtain ⟨b', o', rfl, -, hc'⟩ := s3.out.at_ (by omega)
                have hwl' : ws.length = l.length := by rw [hwl, hln.out, hLn]
                have hwn : ws.length = k := by omega
                replace hLn := Lib.hid hLn
                replace hwl := Lib.hid hwl
                replace hwl' := Lib.hid hwl'
                replace hwn := Lib.hid hwn
                replace hc := Lib.hid hc
                replace hc' := Lib.hid hc'
                go_wp2
                go_loopw [14] (fun i wr => ∃ j m : Nat, j ≤ k ∧ i = .int .i64 j ∧ ws.take j = l.take j ∧ wr = w3.drewN m) (fun i _ => k - (intOf i).toNat)
                case atStart => exact ⟨0, 0, Nat.zero_le _, rfl, by simp, rfl⟩
                case round =>
                  obtain ⟨j, m, hj, rfl, hu, rfl⟩ := hrel
                  by_cases hjl : j < k
                  · have d1 := hc'.out j (by rw [hLn.out]; exact hjl)
                    have d2 := hc.out j hjl
                    have HU := takeS_go (k := j) ws l (by rw [hwn.out]; exact hjl) hwl'.out hu
                    have HNE : ¬ ws.getD j ByteArray.empty = l.getD j ByteArray.empty → ¬ ws = l := fun hn he => hn (by rw [he])
                    have hkL : j < L := by rw [hLn.out]; exact hjl
                    generalize ws.getD j ByteArray.empty = p at *
                    generalize l.getD j ByteArray.empty = q at *
                    replace HU := Lib.hid HU
                    replace HNE := Lib.hid HNE
                    clear hu
                    by_cases hx' : p = q
                    · have hx1 : (p.toList == q.toList) = true := by rw [str_eq]; exact decide_eq_true hx'
                      have hx2 : (p.toList != q.toList) = false := by rw [bne, hx1]; rfl
                      replace hx' := Lib.hid hx'
                      go_wp2
                      go_quiet (fail)
                      go_wp2
                      go_roundw
                      case rel => exact ⟨j + 1, m + nq, by omega, by go_num, HU.out hx'.out, by simp⟩
                      case measure => simp [intOf]; omega
                    · have hx1 : (p.toList == q.toList) = false := by rw [str_eq]; exact decide_eq_false hx'
                      have hx2 : (p.toList != q.toList) = true := by rw [bne, hx1]; rfl
                      have hr : readUB t l x = false := by rw [HR.out, decide_eq_false (HNE.out hx')]; rfl
                      have hv := Lib.hid (HV0.out hr)
                      replace hr := Lib.hid hr
                      replace hx' := Lib.hid hx'
                      go_wp2
                      go_quiet (fail)
                      go_wp2
                      go_ret2
                      exact ⟨two_ret hv.out.symm hr.out.symm, below_drewN (below_drewN hBw.out _) _⟩
                  · have he := takeS_end ws l (by rw [hwn.out]; omega) hwl'.out hu
                    have hr : readUB t l x = true := by rw [HR.out, decide_eq_true he]; rfl
                    have hv := Lib.hid (HV.out hr)
                    replace hr := Lib.hid hr
                    replace he := Lib.hid he
                    clear hu
                    go_wp2
                    go_ret2
                    exact ⟨two_ret hv.out.symm hr.out.symm, below_drewN hBw.out _⟩
              · have hbe : ((L : Int) != (k : Int)) = true := by rw [bne_iff_ne]; omega
                have hr : readUB t l x = false := by rw [HR.out, decide_eq_false (fun e => hLn (by rw [← hwl, e, hln.out]))]; rfl
                have hv := Lib.hid (HV0.out hr)
                replace hr := Lib.hid hr
                replace hLn := Lib.hid hLn
                go_wp2
                go_ret2
                exact ⟨two_ret hv.out.symm hr.out.symm, hBw.out⟩
    · have hdb : decide ((1 : Int) ≤ (n : Int) ∧ (n : Int) ≤ 40) = false := decide_eq_false (by omega)
      have hno := HN.out (by unfold okLT; rw [hln.out, decide_eq_false hd, Bool.and_false])
      have hv := readU_no hno
      replace hno := Lib.hid hno
      replace hv := Lib.hid hv
      replace hfi := Lib.hid hfi
      replace hd := Lib.hid hd
      clear HN
      go_wp2_with (fail)
      refine (in_any _ _ _ _).mono ?_
      rintro e _ ⟨rfl, rfl⟩
      rw [hdb]
      go_wp2
      go_ret2
      exact ⟨two_ret hv.out.symm hno.out.symm, hB.out⟩
end Go.Proofs.Ytbckckicffjccaa
