/-
  Contracts of UnitOf and BaseOf of the model.
-/
import Derived.Test.YteemgkabhkdeaaaDoorUnitsM
namespace Go.Proofs.YteemgkabhkdeaaaDoor
open Go.RowKit Go.WideMaps Go.Maps

set_option maxRecDepth 100000 in
set_option maxHeartbeats 1000000 in
theorem specUnitOf_any (v : Value) (t : Tg) (x : ByteArray) (w : World) (h : Tng w v t) (hf : t.Fine) :
    Calls Tryd.prog 64 #[v, .string x] w fun e w' => e = .returned (.tuple #[.int .i64 (unitV t x), .bool (unitB t x)]) ∧ Below w.heap.size w w' := by
  obtain ⟨A1, c1, A2, c2, A3, c3, rfl, h1, h2, h3⟩ := h.ex
  have hBel : Below w.heap.size w (w.alloc (.cells #[.slice A1 t.us.length c1, .slice A2 t.bs.length c2, .slice A3 t.ns.length c3] 26)) := (Below.refl _ _).alloc (Nat.le_refl _) _
  have HX := (Blk.new w 26 #[.slice A1 t.us.length c1, .slice A2 t.bs.length c2, .slice A3 t.ns.length c3])
  have hZ : (w.alloc (.cells #[.slice A1 t.us.length c1, .slice A2 t.bs.length c2, .slice A3 t.ns.length c3] 26)).heap.size = w.heap.size + 1 := by simp
  have HT := Lib.hid (h.below hBel (Nat.le_refl _))
  replace HX := Lib.hid HX
  replace hBel := Lib.hid hBel
  replace hZ := Lib.hid hZ
  have hu := hf.us
  have HF := Lib.hid hf
  have HS := Lib.hid (fun k => unit_at (t := t) (x := x) (k := k))
  have HN := Lib.hid (unit_no (t := t) (x := x))
  have H1 := Lib.hid (h1.below hBel.out (Nat.le_refl _))
  clear h h1 h2 h3 hf
  go_enter Tryd.func64, Tryd.ntmps64
  go_wp2
  generalize w.alloc (.cells #[.slice A1 t.us.length c1, .slice A2 t.bs.length c2, .slice A3 t.ns.length c3] 26) = W at *
  go_loopw [6] (fun i wr => ∃ k : Nat, k ≤ t.us.length ∧ i = .int .i64 k ∧ noneTo t.us x k ∧ Below W.heap.size W wr) (fun i _ => t.us.length - (intOf i).toNat)
  case atStart => exact ⟨0, Nat.zero_le _, rfl, fun i hi => absurd hi (by omega), Below.refl _ _⟩
  case round =>
    obtain ⟨k, hk, rfl, hn, hb⟩ := hrel
    have hX := HX.out.below hb (by have := hZ.out; omega)
    have x0 : wr.cell? ⟨w.heap.size, 0, none⟩ = some (.slice A1 t.us.length c1) := hX.cell 0
    have x1 : wr.cell? ⟨w.heap.size, 1, none⟩ = some (.slice A2 t.bs.length c2) := hX.cell 1
    have x2 : wr.cell? ⟨w.heap.size, 2, none⟩ = some (.slice A3 t.ns.length c3) := hX.cell 2
    have hB := hBel.out.trans (hb.mono (by have := hZ.out; omega))
    replace hB := Lib.hid hB
    by_cases hlt : k < t.us.length
    · have hT := specTongueOk_any _ t wr (HT.out.below hb (Nat.le_refl _)) HF.out
      have HSk := Lib.hid (fun ho e => HS.out k ho hlt hn e)
      have HNk := Lib.hid (none_go hn)
      have S1 := Lib.hid (H1.out.below hb (Nat.le_refl _))
      replace hb := Lib.hid hb
      replace hX := Lib.hid hX
      clear hn
      go_wp2_with (fail)
      refine hT.mono ?_
      rintro e w2 ⟨rfl, hb2⟩
      clear hT x0 x1 x2
      have hB2 := hB.out.trans (hb2.mono hB.out.size)
      have hb2' := hb.out.trans (hb2.mono hb.out.size)
      have x0 : w2.cell? ⟨w.heap.size, 0, none⟩ = some (.slice A1 t.us.length c1) := (hX.out.below hb2 hX.out.lt).cell 0
      replace S1 := S1.out.below hb2 (Nat.le_refl _)
      clear hb2
      replace hB2 := Lib.hid hB2
      replace hb2' := Lib.hid hb2'
      cases hok : t.ok
      · have HO := Lib.hid (HN.out (.inl hok))
        clear S1
        go_wp2
        go_ret2
        exact ⟨two_ret HO.out.2.symm HO.out.1.symm, hB2.out⟩
      · obtain ⟨b, o, rfl, hbo, hc⟩ := S1.at_ (by omega)
        have ck := hc k hlt
        have HSk' := HSk.out hok
        have HNk' := HNk.out
        generalize t.us.getD k ByteArray.empty = y at *
        clear hc S1
        by_cases e : y = x
        · have he : (y.toList == x.toList) = true := by rw [str_eq]; exact decide_eq_true e
          have HO := Lib.hid (HSk' e)
          clear HSk' HNk'
          replace e := Lib.hid e
          go_wp2
          go_ret2
          exact ⟨two_ret HO.out.2.symm HO.out.1.symm, hB2.out⟩
        · have he : (y.toList == x.toList) = false := by rw [str_eq]; exact decide_eq_false e
          have HO := Lib.hid (HNk' e)
          clear HSk' HNk'
          replace e := Lib.hid e
          go_wp2
          go_roundw
          case rel => exact ⟨k+1, by omega, by go_num, HO.out, hb2'.out⟩
          case measure => simp [intOf]; omega
    · obtain rfl : k = t.us.length := by omega
      have HO := Lib.hid (HN.out (.inr hn))
      clear hn hb hX x1 x2
      go_wp2
      go_ret2
      exact ⟨two_ret HO.out.2.symm HO.out.1.symm, hB.out⟩

set_option maxRecDepth 100000 in
set_option maxHeartbeats 1000000 in
theorem specBaseOf_any (v : Value) (t : Tg) (x : ByteArray) (w : World) (h : Tng w v t) (hf : t.Fine) :
    Calls Tryd.prog 63 #[v, .string x] w fun e w' => e = .returned (.tuple #[.int .i64 (baseV t x), .bool (baseB t x)]) ∧ Below w.heap.size w w' := by
  obtain ⟨A1, c1, A2, c2, A3, c3, rfl, h1, h2, h3⟩ := h.ex
  have hBel : Below w.heap.size w (w.alloc (.cells #[.slice A1 t.us.length c1, .slice A2 t.bs.length c2, .slice A3 t.ns.length c3] 26)) := (Below.refl _ _).alloc (Nat.le_refl _) _
  have HX := (Blk.new w 26 #[.slice A1 t.us.length c1, .slice A2 t.bs.length c2, .slice A3 t.ns.length c3])
  have hZ : (w.alloc (.cells #[.slice A1 t.us.length c1, .slice A2 t.bs.length c2, .slice A3 t.ns.length c3] 26)).heap.size = w.heap.size + 1 := by simp
  have HT := Lib.hid (h.below hBel (Nat.le_refl _))
  replace HX := Lib.hid HX
  replace hBel := Lib.hid hBel
  replace hZ := Lib.hid hZ
  have hu := hf.ns
  have HF := Lib.hid hf
  have HS := Lib.hid (fun k => base_at (t := t) (x := x) (k := k))
  have HN := Lib.hid (base_no (t := t) (x := x))
  have H1 := Lib.hid (h3.below hBel.out (Nat.le_refl _))
  clear h h1 h2 h3 hf
  go_enter Tryd.func63, Tryd.ntmps63
  go_wp2
  generalize w.alloc (.cells #[.slice A1 t.us.length c1, .slice A2 t.bs.length c2, .slice A3 t.ns.length c3] 26) = W at *
  go_loopw [6] (fun i wr => ∃ k : Nat, k ≤ t.ns.length ∧ i = .int .i64 k ∧ noneTo t.ns x k ∧ Below W.heap.size W wr) (fun i _ => t.ns.length - (intOf i).toNat)
  case atStart => exact ⟨0, Nat.zero_le _, rfl, fun i hi => absurd hi (by omega), Below.refl _ _⟩
  case round =>
    obtain ⟨k, hk, rfl, hn, hb⟩ := hrel
    have hX := HX.out.below hb (by have := hZ.out; omega)
    have x0 : wr.cell? ⟨w.heap.size, 0, none⟩ = some (.slice A1 t.us.length c1) := hX.cell 0
    have x1 : wr.cell? ⟨w.heap.size, 1, none⟩ = some (.slice A2 t.bs.length c2) := hX.cell 1
    have x2 : wr.cell? ⟨w.heap.size, 2, none⟩ = some (.slice A3 t.ns.length c3) := hX.cell 2
    have hB := hBel.out.trans (hb.mono (by have := hZ.out; omega))
    replace hB := Lib.hid hB
    by_cases hlt : k < t.ns.length
    · have hT := specTongueOk_any _ t wr (HT.out.below hb (Nat.le_refl _)) HF.out
      have HSk := Lib.hid (fun ho e => HS.out k ho hlt hn e)
      have HNk := Lib.hid (none_go hn)
      have S1 := Lib.hid (H1.out.below hb (Nat.le_refl _))
      replace hb := Lib.hid hb
      replace hX := Lib.hid hX
      clear hn
      go_wp2_with (fail)
      refine hT.mono ?_
      rintro e w2 ⟨rfl, hb2⟩
      clear hT x0 x1 x2
      have hB2 := hB.out.trans (hb2.mono hB.out.size)
      have hb2' := hb.out.trans (hb2.mono hb.out.size)
      have x0 : w2.cell? ⟨w.heap.size, 2, none⟩ = some (.slice A3 t.ns.length c3) := (hX.out.below hb2 hX.out.lt).cell 2
      replace S1 := S1.out.below hb2 (Nat.le_refl _)
      clear hb2
      replace hB2 := Lib.hid hB2
      replace hb2' := Lib.hid hb2'
      cases hok : t.ok
      · have HO := Lib.hid (HN.out (.inl hok))
        clear S1
        go_wp2
        go_ret2
        exact ⟨two_ret HO.out.2.symm HO.out.1.symm, hB2.out⟩
      · obtain ⟨b, o, rfl, hbo, hc⟩ := S1.at_ (by omega)
        have ck := hc k hlt
        have HSk' := HSk.out hok
        have HNk' := HNk.out
        generalize t.ns.getD k ByteArray.empty = y at *
        clear hc S1
        by_cases e : y = x
        · have he : (y.toList == x.toList) = true := by rw [str_eq]; exact decide_eq_true e
          have HO := Lib.hid (HSk' e)
          clear HSk' HNk'
          replace e := Lib.hid e
          go_wp2
          go_ret2
          exact ⟨two_ret HO.out.2.symm HO.out.1.symm, hB2.out⟩
        · have he : (y.toList == x.toList) = false := by rw [str_eq]; exact decide_eq_false e
          have HO := Lib.hid (HNk' e)
          clear HSk' HNk'
          replace e := Lib.hid e
          go_wp2
          go_roundw
          case rel => exact ⟨k+1, by omega, by go_num, HO.out, hb2'.out⟩
          case measure => simp [intOf]; omega
    · obtain rfl : k = t.ns.length := by omega
      have HO := Lib.hid (HN.out (.inr hn))
      clear hn hb hX x1 x0
      go_wp2
      go_ret2
      exact ⟨two_ret HO.out.2.symm HO.out.1.symm, hB.out⟩
end Go.Proofs.YteemgkabhkdeaaaDoor
