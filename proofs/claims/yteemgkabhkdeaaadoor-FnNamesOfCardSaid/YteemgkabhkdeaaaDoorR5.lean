/-
  The contract of ReadName of the model.
-/
import Derived.Test.YteemgkabhkdeaaaDoorR4
import Derived.Test.YteemgkabhkdeaaaDoorTHold
namespace Go.Proofs.YteemgkabhkdeaaaDoor
open Go.RowKit

def okL (t : Tg) (l : List ByteArray) : Bool := t.ok && decide (1 ≤ l.length ∧ l.length ≤ 40)
/-- Are words the name of a number? -/
def readB (t : Tg) (l : List ByteArray) : Bool := okL t l && namedB t (valV t l) && decide (nameOf t (valV t l) = l)
def readV (t : Tg) (l : List ByteArray) : Int := if readB t l then valV t l else -1
theorem read_no {t : Tg} {l : List ByteArray} (h : readB t l = false) : readV t l = -1 := by unfold readV; rw [h]; rfl
theorem read_yes {t : Tg} {l : List ByteArray} (h : readB t l = true) : t.ok = true ∧ namedB t (readV t l) = true ∧ nameOf t (readV t l) = l ∧ 1 ≤ l.length ∧ l.length ≤ 40 := by
  have e : readV t l = valV t l := by unfold readV; rw [h, if_pos rfl]
  rw [e]
  unfold readB okL at h
  rw [Bool.and_eq_true, Bool.and_eq_true, Bool.and_eq_true, decide_eq_true_eq, decide_eq_true_eq] at h
  exact ⟨h.1.1.1, h.1.2, h.2, h.1.1.2.1, h.1.1.2.2⟩
/-- The name of a number is read as it. -/
theorem read_name {t : Tg} {n : Int} (h : namedB t n = true) (h40 : (nameOf t n).length ≤ 40) : readB t (nameOf t n) = true ∧ readV t (nameOf t n) = n := by
  obtain ⟨hok, h1, h2⟩ := named_ok h
  obtain ⟨m, rfl⟩ : ∃ m : Nat, n = m := ⟨n.toNat, by omega⟩
  obtain ⟨ho, hne⟩ := named_ne h
  have e : nameOf t m = nameT t m := nameOf_yes ho
  have hv := val_name hok m (by omega) (by omega) hne
  have hl : (nameT t m).length ≠ 0 := fun e => hne (List.eq_nil_of_length_eq_zero e)
  rw [← e] at hv
  have hb : readB t (nameOf t m) = true := by
    unfold readB okL
    rw [hv, h, hok, decide_eq_true (show 1 ≤ (nameOf t m).length ∧ (nameOf t m).length ≤ 40 from ⟨by rw [e]; omega, h40⟩), decide_eq_true rfl]
    rfl
  exact ⟨hb, by unfold readV; rw [hb, if_pos rfl, hv]⟩
theorem readV_bd (t : Tg) (l : List ByteArray) : -1 ≤ readV t l ∧ readV t l ≤ 99999 := by
  cases h : readB t l
  · rw [read_no h]; omega
  · have := (named_ok (read_yes h).2.1).2; omega

set_option maxRecDepth 100000 in
set_option maxHeartbeats 4000000 in
theorem specReadName_any (v : Value) (t : Tg) (A : Option Addr) (n c : Nat) (l : List ByteArray) (w : World) (h : Tng w v t) (hf : t.Fine) (hl : Strs w A n c l) (hn : n ≤ 2000000) (hsz : ∀ x ∈ l, x.size ≤ maxLen) :
    Calls Tryd.prog 24 #[v, .slice A n c] w fun e w' => e = .returned (.tuple #[.int .i64 (readV t l), .bool (readB t l)]) ∧ Below w.heap.size w w' := by
  obtain ⟨A1, c1, A2, c2, A3, c3, rfl, -⟩ := h.ex
  have hln := hl.len
  have hB := (Below.refl w.heap.size w).alloc (Nat.le_refl _) (.cells #[.slice A1 t.us.length c1, .slice A2 t.bs.length c2, .slice A3 t.ns.length c3] 26)
  have HX := Blk.new w 26 #[.slice A1 t.us.length c1, .slice A2 t.bs.length c2, .slice A3 t.ns.length c3]
  have HT := h.below hB (Nat.le_refl _)
  have HL := hl.below hB (Nat.le_refl _)
  have K1 := Lib.hid (specTongueOk_any _ t _ HT hf)
  replace hB := Lib.hid hB
  replace HX := Lib.hid HX
  replace HT := Lib.hid HT
  replace HL := Lib.hid HL
  replace hsz := Lib.hid hsz
  replace hln := Lib.hid hln
  clear h hl
  go_enter Tryd.func24, Tryd.ntmps24
  go_upto_region 1 with (fail)
  generalize w.alloc (.cells #[.slice A1 t.us.length c1, .slice A2 t.bs.length c2, .slice A3 t.ns.length c3] 26) = W at *
  obtain ⟨x0, x1, x2, -, -, -⟩ := blk3 HX.out
  go_wp2_with (fail)
  refine K1.out.mono ?_
  rintro e w1 ⟨rfl, b1⟩
  replace hB := Lib.hid (hB.out.trans (b1.mono hB.out.size))
  replace HX := Lib.hid (HX.out.below b1 HX.out.lt)
  replace HT := Lib.hid (HT.out.below b1 (Nat.le_refl _))
  replace HL := Lib.hid (HL.out.below b1 (Nat.le_refl _))
  clear b1 x0 x1 x2 K1
  obtain ⟨x0, x1, x2, -, -, -⟩ := blk3 HX.out
  have HN : okL t l = false → readB t l = false := fun h => by unfold readB; rw [h]; rfl
  cases hok : t.ok
  · have hno := HN (by unfold okL; rw [hok]; rfl)
    have hv := read_no hno
    replace hno := Lib.hid hno
    replace hv := Lib.hid hv
    replace hok := Lib.hid hok
    clear HN
    go_wp2
    go_ret2
    exact ⟨two_ret hv.out.symm hno.out.symm, hB.out⟩
  · by_cases hd : 1 ≤ n ∧ n ≤ 40
    · have hdb : decide ((1 : Int) ≤ (n : Int) ∧ (n : Int) ≤ 40) = true := decide_eq_true (by omega)
      have hokl : okL t l = true := by unfold okL; rw [hok, hln.out, decide_eq_true hd]; rfl
      have K2 := Lib.hid (specValue_any hok hf n l hln.out (by omega) hsz.out _ A c w1 HT.out HL.out)
      have hvb := valV_bd hok l
      have HK := Lib.hid (fun (x : Int) (hx : -1 ≤ x ∧ x ≤ 1000000) W' (h : Below w1.heap.size w1 W') => specNameOf_any _ t x W' (HT.out.below h (Nat.le_refl _)) hf (by omega))
      have HR : readB t l = (namedB t (valV t l) && decide (nameOf t (valV t l) = l)) := by unfold readB; rw [hokl, Bool.true_and]
      have HV : readB t l = true → readV t l = valV t l := fun h => by unfold readV; rw [h, if_pos rfl]
      have hnl := nameOf_len t (valV t l)
      have HV0 : readB t l = false → readV t l = -1 := read_no
      generalize valV t l = vv at *
      replace hok := Lib.hid hok
      replace hokl := Lib.hid hokl
      replace HV := Lib.hid HV
      replace HV0 := Lib.hid HV0
      replace HR := Lib.hid HR
      clear HN
      go_wp2_with (fail)
      refine (in_any _ _ _ _).mono ?_
      rintro e _ ⟨rfl, rfl⟩
      rw [hdb]
      clear hdb
      go_wp2_with (fail)
      refine K2.out.mono ?_
      rintro e w2 ⟨rfl, b2⟩
      have K3 := Lib.hid (HK.out vv hvb _ b2)
      replace hB := Lib.hid (hB.out.trans (b2.mono hB.out.size))
      replace HX := Lib.hid (HX.out.below b2 HX.out.lt)
      replace HL := Lib.hid (HL.out.below b2 (Nat.le_refl _))
      clear b2 x0 x1 x2 K2 HK HT
      obtain ⟨x0, x1, x2, -, -, -⟩ := blk3 HX.out
      go_wp2_with (fail)
      refine K3.out.mono ?_
      rintro e w3 ⟨v3, rfl, o3, b3⟩
      obtain ⟨A3', c3', rfl, s3⟩ := o3.strs
      replace hB := Lib.hid (hB.out.trans (b3.mono hB.out.size))
      replace HL := Lib.hid (HL.out.below b3 (Nat.le_refl _))
      replace s3 := Lib.hid s3
      clear b3 x0 x1 x2 K3 o3 HX
      generalize nameOf t vv = ws at *
      generalize hnb : namedB t vv = nb at *
      generalize hwl : ws.length = L at *
      cases nb
      · have hr : readB t l = false := by rw [HR.out]; rfl
        have hv := Lib.hid (HV0.out hr)
        replace hr := Lib.hid hr
        go_wp2
        go_ret2
        exact ⟨two_ret hv.out.symm hr.out.symm, hB.out⟩
      · by_cases hLn : L = n
        · have hbe : ((L : Int) != (n : Int)) = false := by rw [bne_eq_false_iff_eq]; omega
          obtain ⟨b, o, rfl, -, hc⟩ := HL.out.at_ (by omega)
          obtain ⟨b', o', rfl, -, hc'⟩ := s3.out.at_ (by omega)
          have hwl' : ws.length = l.length := by rw [hwl, hln.out, hLn]
          have hwn : ws.length = n := by omega
          replace hLn := Lib.hid hLn
          replace hwl := Lib.hid hwl
          replace hwl' := Lib.hid hwl'
          replace hwn := Lib.hid hwn
          replace hc := Lib.hid hc
          replace hc' := Lib.hid hc'
          go_wp2
          go_loopw [9] (fun i wr => ∃ k m : Nat, k ≤ n ∧ i = .int .i64 k ∧ ws.take k = l.take k ∧ wr = w3.drewN m) (fun i _ => n - (intOf i).toNat)
          case atStart => exact ⟨0, 0, Nat.zero_le _, rfl, by simp, rfl⟩
          case round =>
            obtain ⟨k, m, hk, rfl, hu, rfl⟩ := hrel
            by_cases hlt : k < n
            · have d1 := hc'.out k (by rw [hLn.out]; exact hlt)
              have d2 := hc.out k hlt
              have HU := takeS_go (k := k) ws l (by rw [hwn.out]; exact hlt) hwl'.out hu
              have HNE : ¬ ws.getD k ByteArray.empty = l.getD k ByteArray.empty → ¬ ws = l := fun hn he => hn (by rw [he])
              have hkL : k < L := by rw [hLn.out]; exact hlt
              generalize ws.getD k ByteArray.empty = x at *
              generalize l.getD k ByteArray.empty = y at *
              replace HU := Lib.hid HU
              replace HNE := Lib.hid HNE
              clear hu
              by_cases hx : x = y
              · have hx1 : (x.toList == y.toList) = true := by rw [str_eq]; exact decide_eq_true hx
                have hx2 : (x.toList != y.toList) = false := by rw [bne, hx1]; rfl
                replace hx := Lib.hid hx
                go_wp2
                go_quiet (fail)
                go_wp2
                go_roundw
                case rel => exact ⟨k + 1, m + nq, by omega, by go_num, HU.out hx.out, by simp⟩
                case measure => simp [intOf]; omega
              · have hx1 : (x.toList == y.toList) = false := by rw [str_eq]; exact decide_eq_false hx
                have hx2 : (x.toList != y.toList) = true := by rw [bne, hx1]; rfl
                have hr : readB t l = false := by rw [HR.out, decide_eq_false (HNE.out hx)]; rfl
                have hv := Lib.hid (HV0.out hr)
                replace hr := Lib.hid hr
                replace hx := Lib.hid hx
                go_wp2
                go_quiet (fail)
                go_wp2
                go_ret2
                exact ⟨two_ret hv.out.symm hr.out.symm, below_drewN (below_drewN hB.out _) _⟩
            · have he := takeS_end ws l (by rw [hwn.out]; omega) hwl'.out hu
              have hr : readB t l = true := by rw [HR.out, decide_eq_true he]; rfl
              have hv := Lib.hid (HV.out hr)
              replace hr := Lib.hid hr
              replace he := Lib.hid he
              clear hu
              go_wp2
              go_ret2
              exact ⟨two_ret hv.out.symm hr.out.symm, below_drewN hB.out _⟩
        · have hbe : ((L : Int) != (n : Int)) = true := by rw [bne_iff_ne]; omega
          have hr : readB t l = false := by rw [HR.out, decide_eq_false (fun e => hLn (by rw [← hwl, e, hln.out]))]; rfl
          have hv := Lib.hid (HV0.out hr)
          replace hr := Lib.hid hr
          replace hLn := Lib.hid hLn
          go_wp2
          go_ret2
          exact ⟨two_ret hv.out.symm hr.out.symm, hB.out⟩
    · have hdb : decide ((1 : Int) ≤ (n : Int) ∧ (n : Int) ≤ 40) = false := decide_eq_false (by omega)
      have hno := HN (by unfold okL; rw [hln.out, decide_eq_false hd, Bool.and_false])
      have hv := read_no hno
      replace hno := Lib.hid hno
      replace hv := Lib.hid hv
      replace hok := Lib.hid hok
      replace hd := Lib.hid hd
      clear HN
      go_wp2_with (fail)
      refine (in_any _ _ _ _).mono ?_
      rintro e _ ⟨rfl, rfl⟩
      rw [hdb]
      go_wp2
      go_ret2
      exact ⟨two_ret hv.out.symm hno.out.symm, hB.out⟩
end Go.Proofs.YteemgkabhkdeaaaDoor
