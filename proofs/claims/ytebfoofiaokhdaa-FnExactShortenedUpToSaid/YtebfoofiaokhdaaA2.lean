/-
  The contract of TakenFrom of the model.
-/
import Derived.Test.YtebfoofiaokhdaaA1
import Derived.Test.YtebfoofiaokhdaaGN
namespace Go.Proofs.Ytebfoofiaokhdaa
open Go.RowKit

theorem askA_off {t : Tg} {x : ByteArray} {n b : Int} {c : Bool} (hc : c = false) (h : askA t n x b = true → c = true) : askA t n x b = false := by
  cases ha : askA t n x b
  · rfl
  · rw [h ha] at hc; cases hc
theorem taken_leaf {w w1 : World} {xs : List ByteArray} {c : Bool} (hb : Below w.heap.size w w1) (h : xs = []) (h' : c = false) : RetStrs2 w xs c (.returned (.tuple #[.slice (some ⟨w1.heap.size, 0, none⟩) 0 0, .bool false])) (w1.alloc (.cells #[] 9)) :=
  ⟨_, by rw [h'], by rw [h]; exact owns_empty (Blk.new _ _ _) hb.size, hb.alloc hb.size _⟩
theorem takenOf_none2 {w w1 : World} {t : Tg} {x : ByteArray} {n b : Int} (hb : Below w.heap.size w w1) (h : askA t n x b = false) : RetStrs2 w (takenOf t n x b) (takenB t n x b) (.returned (.tuple #[.slice (some ⟨w1.heap.size, 0, none⟩) 0 0, .bool false])) (w1.alloc (.cells #[] 9)) :=
  taken_leaf hb (askA_no h).1 (askA_no h).2.1
theorem shortOf_none2 {w w1 : World} {t : Tg} {x : ByteArray} {n b : Int} (hb : Below w.heap.size w w1) (h : askA t n x b = false) : RetStrs2 w (shortOf t n x b) (shortB t n x b) (.returned (.tuple #[.slice (some ⟨w1.heap.size, 0, none⟩) 0 0, .bool false])) (w1.alloc (.cells #[] 9)) :=
  taken_leaf hb (askA_no h).2.2.1 (askA_no h).2.2.2

set_option maxRecDepth 100000 in
set_option maxHeartbeats 8000000 in
theorem specTakenFrom_any (v : Value) (t : Tg) (n : Int) (x : ByteArray) (b : Int) (w : World) (h : Tng w v t) (hf : t.Fine) (hn : -9223372036854775808 ≤ n ∧ n ≤ 9223372036854775807) (hx : x.size ≤ maxLen) (hbb : -9223372036854775808 ≤ b ∧ b ≤ 9223372036854775807) :
    Calls Try.prog 87 #[v, .int .i64 n, .string x, .int .i64 b] w (RetStrs2 w (takenOf t n x b) (takenB t n x b)) := by
  obtain ⟨i0, hi, hz0, hz1, hz2⟩ := info_parts str_info
  obtain ⟨A1, c1, A2, c2, A3, c3, rfl, -⟩ := h.ex
  have hB := (Below.refl w.heap.size w).alloc (Nat.le_refl _) (.cells #[.slice A1 t.us.length c1, .slice A2 t.bs.length c2, .slice A3 t.ns.length c3] 26)
  have HX := Blk.new w 26 #[.slice A1 t.us.length c1, .slice A2 t.bs.length c2, .slice A3 t.ns.length c3]
  have HT := h.below hB (Nat.le_refl _)
  have hno := Lib.hid (fun (c : Bool) (hc : c = false) (hh : askA t n x b = true → c = true) => askA_off (t := t) (n := n) (x := x) (b := b) hc hh)
  have hnil := Lib.hid (fun (h : askA t n x b = false) (w1 : World) (hb1 : Below w.heap.size w w1) => takenOf_none2 (w := w) (w1 := w1) hb1 h)
  have hse := fun ho hw => stranger_eq (t := t) (x := x) ho hw
  replace hB := Lib.hid hB
  replace HX := Lib.hid HX
  replace HT := Lib.hid HT
  clear h
  go_enter Try.func87, Try.ntmps87
  go_upto_region 1 with (fail)
  generalize w.alloc (.cells #[.slice A1 t.us.length c1, .slice A2 t.bs.length c2, .slice A3 t.ns.length c3] 26) = W at *
  obtain ⟨x0, x1, x2, -, -, -⟩ := blk3 HX.out
  have KU := Lib.hid (specUnitOf_any _ t x W HT.out hf)
  generalize unitB t x = ub at *
  generalize unitV t x = uv at *
  go_wp2_with (fail)
  refine KU.out.mono ?_
  rintro e w1 ⟨rfl, b1⟩
  clear KU
  replace hB := Lib.hid (hB.out.trans (b1.mono hB.out.size))
  replace HX := Lib.hid (HX.out.below b1 HX.out.lt)
  replace HT := Lib.hid (HT.out.below b1 (Nat.le_refl _))
  clear b1 x0 x1 x2
  obtain ⟨x0, x1, x2, -, -, -⟩ := blk3 HX.out
  have KB := Lib.hid (specBaseOf_any _ t x w1 HT.out hf)
  generalize baseB t x = bb at *
  generalize baseV t x = bv' at *
  go_wp2_with (fail)
  refine KB.out.mono ?_
  rintro e w2 ⟨rfl, b2⟩
  clear KB
  replace hB := Lib.hid (hB.out.trans (b2.mono hB.out.size))
  replace HX := Lib.hid (HX.out.below b2 HX.out.lt)
  replace HT := Lib.hid (HT.out.below b2 (Nat.le_refl _))
  clear b2 x0 x1 x2
  obtain ⟨x0, x1, x2, -, -, -⟩ := blk3 HX.out
  have KT := Lib.hid (specTongueOk_any _ t w2 HT.out hf)
  replace hse := Lib.hid hse
  go_wp2_with (fail)
  refine KT.out.mono ?_
  rintro e w3 ⟨rfl, b3⟩
  clear KT
  replace hB := Lib.hid (hB.out.trans (b3.mono hB.out.size))
  replace HX := Lib.hid (HX.out.below b3 HX.out.lt)
  replace HT := Lib.hid (HT.out.below b3 (Nat.le_refl _))
  clear b3 x0 x1 x2
  obtain ⟨x0, x1, x2, -, -, -⟩ := blk3 HX.out
  cases hok : t.ok
  · have HR := Lib.hid (hnil.out (hno.out _ hok fun h => (fitsA_parts (askA_parts h).1).1) _ hB.out)
    replace hok := Lib.hid hok
    go_wp2
    go_ret2
    exact HR.out
  · have KW := Lib.hid (specWordOk_any x w3 hx)
    go_wp2_with (fail)
    refine KW.out.mono ?_
    rintro e _ ⟨rfl, rfl⟩
    clear KW
    cases hw : wordOk x
    · have HR := Lib.hid (hnil.out (hno.out _ hw fun h => (fitsA_parts (askA_parts h).1).2.1) _ hB.out)
      replace hw := Lib.hid hw
      replace hok := Lib.hid hok
      go_wp2
      go_ret2
      exact HR.out
    · have hse' := hse.out hok hw
      have hst : askA t n x b = true → strangerB t x = true := fun h => by
        have := (fitsA_parts (askA_parts h).1)
        unfold strangerB
        rw [hw, hasB_not.2 this.2.2.1]; rfl
      have hst2 : strangerB t x = true → 0 ≤ b ∧ b ≤ 100 → 1 ≤ n ∧ n ≤ 99999 → askA t n x b = true := fun h1 h2 h3 => by
        unfold askA fitsA fitsW
        rw [hok, h1, decide_eq_true h2, decide_eq_true h3]; rfl
      replace hw := Lib.hid hw
      cases ub
      · cases bb
        · replace hst2 := Lib.hid (hst2 hse')
          clear hse' hst
          by_cases hd : 1 ≤ n ∧ n ≤ 99999
          · have hdb := decide_eq_true hd
            obtain ⟨hd1, hd2⟩ := hd
            go_wp2_with (fail)
            refine (in_any _ _ _ _).mono ?_
            rintro e _ ⟨rfl, rfl⟩
            rw [hdb]
            clear hdb
            by_cases hq : 0 ≤ b ∧ b ≤ 100
            · have hqb := decide_eq_true hq
              obtain ⟨hq1, hq2⟩ := hq
              have ha := hst2.out ⟨hq1, hq2⟩ ⟨hd1, hd2⟩
              go_wp2_with (fail)
              refine (in_any _ _ _ _).mono ?_
              rintro e _ ⟨rfl, rfl⟩
              rw [hqb]
              clear hqb hst2 hno hnil hse
              obtain ⟨m, rfl⟩ : ∃ m : Nat, n = m := ⟨n.toNat, by omega⟩
              have KUp := Lib.hid (specUp_any hok m (by omega) _ w3 HT.out)
              have hbl := bases_len (ok_shape hok).bs
              have HN := condA_no (t := t) (n := (m : Int)) (b := b) (x := x)
              have HY := takenB_of (t := t) (n := (m : Int)) (x := x) (b := b) ha
              have HL := fun h2 => least_21 (t := t) hok h2 m
              have HNL := fun h2 => lack_named (t := t) hok h2 m
              have hcd : condA t m b = (decide (2 ≤ t.bs.length) && (decide ((leastN t m : Int) ≤ b) && namedB t (m + leastN t m))) := rfl
              have hup : upTo t m t.bs.length = if t.bs.length ≤ 1 then 0 else m + leastN t m := rfl
              rw [Int.toNat_natCast] at HY
              generalize leastN t m = L at *
              generalize upTo t m t.bs.length = U at *
              replace ha := Lib.hid ha
              replace hok := Lib.hid hok
              go_wp2_with (fail)
              refine KUp.out.mono ?_
              rintro e w4 ⟨rfl, b4⟩
              clear KUp
              replace hB := Lib.hid (hB.out.trans (b4.mono hB.out.size))
              replace HX := Lib.hid (HX.out.below b4 HX.out.lt)
              replace HT := Lib.hid (HT.out.below b4 (Nat.le_refl _))
              clear b4 x0 x1 x2
              obtain ⟨x0, x1, x2, -, -, -⟩ := blk3 HX.out
              have hleaf := fun (hc : condA t m b = false) (w1 : World) (hb1 : Below w.heap.size w w1) => taken_leaf (w := w) (w1 := w1) hb1 (HN hc).1 (HN hc).2
              by_cases h2 : 2 ≤ t.bs.length
              · rw [if_neg (by omega)] at hup
                obtain ⟨l1, l21, -⟩ := HL h2
                have hnL := HNL h2
                have u0 : ((U : Int) == 0) = false := by rw [beq_eq_false_iff_ne]; omega
                have w1' : IntKind.i64.wrap ((U : Int) - (m : Int)) = (U : Int) - (m : Int) := IntWalk.i64_in _ (by omega)
                have hz : (U : Int) - (m : Int) = (L : Int) := by omega
                have hz2 : (m : Int) + (L : Int) = (U : Int) := by omega
                rw [hz2] at HY hcd
                by_cases hle : (L : Int) ≤ b
                · have hle' : ¬ b < (U : Int) - (m : Int) := by omega
                  have K7 : Calls Try.prog 61 #[.agg #[.slice A1 t.us.length c1, .slice A2 t.bs.length c2, .slice A3 t.ns.length c3], .int .i64 ((U : Int) - (m : Int))] w4 (RetStrs2 w4 (nameOf t (L : Int)) (namedB t (L : Int))) := by
                    rw [hz]; exact specNameOf_any _ t (L : Int) w4 HT.out hf (by omega)
                  have HN2 : namedB t (U : Int) = false → condA t m b = false := fun h => by rw [hcd, h, Bool.and_false, Bool.and_false]
                  have HY2 : namedB t (U : Int) = true → takenOf t m x b = nameOf t (L : Int) ++ [x] ++ nameOf t (U : Int) ∧ takenB t m x b = true := fun h => HY (by rw [hcd, h, decide_eq_true h2, decide_eq_true hle]; rfl)
                  have hl1 := nameOf_31 t (L : Int)
                  have hl2 := nameOf_31 t (U : Int)
                  rw [hnL] at K7
                  replace K7 := Lib.hid K7
                  replace HN2 := Lib.hid HN2
                  replace HY2 := Lib.hid HY2
                  replace hleaf := Lib.hid hleaf
                  replace hz := Lib.hid hz
                  replace hz2' := Lib.hid hz2
                  replace hup := Lib.hid hup
                  clear HN HY HL HNL hcd hz2
                  generalize nameOf t (L : Int) = ls at *
                  go_wp2_with (fail)
                  refine K7.out.mono ?_
                  rintro e w5 ⟨v5, rfl, o5, b5⟩
                  obtain ⟨A5, c5, rfl, s5⟩ := o5.strs
                  clear K7 o5
                  have hbk5 := b5
                  replace s5 := Lib.hid s5
                  replace hB := Lib.hid (hB.out.trans (hbk5.mono hB.out.size))
                  replace HX := Lib.hid (HX.out.below hbk5 HX.out.lt)
                  replace HT := Lib.hid (HT.out.below hbk5 (Nat.le_refl _))
                  clear hbk5 x0 x1 x2
                  obtain ⟨x0, x1, x2, -, -, -⟩ := blk3 HX.out
                  have K8 := Lib.hid (specNameOf_any _ t (U : Int) w5 HT.out hf (by omega))
                  clear b5
                  generalize nameOf t (U : Int) = ms at *
                  generalize namedB t (U : Int) = nb at *
                  go_wp2_with (fail)
                  refine K8.out.mono ?_
                  rintro e w6 ⟨v6, rfl, o6, b6⟩
                  obtain ⟨A6, c6, rfl, s6⟩ := o6.strs
                  clear K8 o6
                  replace s5 := Lib.hid (s5.out.below b6 (Nat.le_refl _))
                  replace s6 := Lib.hid s6
                  replace hB := Lib.hid (hB.out.trans (b6.mono hB.out.size))
                  replace HX := Lib.hid (HX.out.below b6 HX.out.lt)
                  replace HT := Lib.hid (HT.out.below b6 (Nat.le_refl _))
                  clear b6 x0 x1 x2
                  obtain ⟨x0, x1, x2, -, -, -⟩ := blk3 HX.out
                  cases nb
                  · have HR := Lib.hid (hleaf.out (HN2.out rfl) _ hB.out)
                    go_wp2
                    go_ret2
                    exact HR.out
                  · obtain ⟨hr, hrb⟩ := HY2.out rfl
                    have bA := (Below.refl w6.heap.size w6).alloc (Nat.le_refl _) (.cells #[] 9)
                    have HO0 : (w6.alloc (.cells #[] 9)).ownsRow w6.heap.size 9 1 (.slice (some ⟨w6.heap.size, 0, none⟩) 0 0) 0 [] := owns_empty (Blk.new w6 9 #[]) (Nat.le_refl _)
                    have HS1 := Lib.hid ((s5.out.below bA (Nat.le_refl _)).src)
                    have HS3 := Lib.hid (fun W' (hb : Below w6.heap.size w6 W') => (s6.out.below hb (Nat.le_refl _)).src)
                    have hsz := hB.out.size
                    replace bA := Lib.hid bA
                    replace HO0 := Lib.hid HO0
                    have k1 := Lib.hid (show 0 + ls.length ≤ maxLen by unfold maxLen; omega)
                    have k2 := Lib.hid (show (0 + ls.length) * 16 ≤ 140737488355328 by omega)
                    have k3 := Lib.hid (show 0 + ls.length + 1 ≤ maxLen by unfold maxLen; omega)
                    have k4 := Lib.hid (show (0 + ls.length + 1) * 16 ≤ 140737488355328 by omega)
                    have k5 := Lib.hid (show 0 + ls.length + 1 + ms.length ≤ maxLen by unfold maxLen; omega)
                    have k6 := Lib.hid (show (0 + ls.length + 1 + ms.length) * 16 ≤ 140737488355328 by omega)
                    replace hr := Lib.hid hr
                    replace hrb := Lib.hid hrb
                    clear s5 s6 HN2 HY2 hleaf x0 x1 x2
                    go_wp2_with (at_builtin; first
                      | (refine wpList_app _ rfl (.tmp 90) (.tmp 91) _ rfl w6.heap.size 9 i0 _ 16 Try.underlying23 hi hz0 hz1 hz2 rfl (.slice (some ⟨w6.heap.size, 0, none⟩) 0 0) 0 [] rfl HO0.out A5 _ c5 _ rfl HS1.out k1.out k2.out bA.out.size ?_; intro v7 w7 ho7 hg7 _; have hB7 := below_own bA.out HO0.out hg7 bA.out.size (Nat.le_refl _); have hB7a := Lib.hid (hB7.alloc hB7.size (.cells #[.string x] 9)); have ho7a := Lib.hid (World.ownsRow.alloc ho7 (.cells #[.string x] 9)); have hk7 := Lib.hid (Src.one (Blk.new w7 9 #[.string x]) rfl); clear hg7 hB7 ho7)
                      | (refine wpList_app _ rfl (.tmp 92) (.tmp 94) _ rfl w6.heap.size 9 i0 _ 16 Try.underlying23 hi hz0 hz1 hz2 rfl v7 _ _ rfl ho7a.out (some ⟨w7.heap.size, 0, none⟩) 1 1 [.string x] rfl hk7.out k3.out k4.out hB7a.out.size ?_; intro v8 w8 ho8 hg8 _; have hB8 := Lib.hid (below_own hB7a.out ho7a.out hg8 hB7a.out.size (Nat.le_refl _)); have HS8 := Lib.hid (HS3.out _ hB8.out); replace ho8 := Lib.hid ho8; clear hg8)
                      | (refine wpList_app _ rfl (.tmp 95) (.tmp 96) _ rfl w6.heap.size 9 i0 _ 16 Try.underlying23 hi hz0 hz1 hz2 rfl v8 _ _ rfl ho8.out A6 ms.length c6 _ rfl HS8.out k5.out k6.out hB8.out.size ?_; intro v9 w9 ho9 hg9 _))
                    have hB9 := below_own hB8.out ho8.out hg9 hB8.out.size (Nat.le_refl _)
                    have hR : OwnStrs w9 w6.heap.size v9 (ls ++ [x] ++ ms) := by
                      unfold OwnStrs
                      have e : (ls ++ [x] ++ ms).length = 0 + ls.length + 1 + ms.length := by simp; omega
                      rw [e]
                      simpa using ho9
                    have HR : RetStrs2 w (takenOf t m x b) (takenB t m x b) (.returned (.tuple #[v9, .bool true])) w9 :=
                      ⟨_, by rw [hrb.out], by rw [hr.out]; exact hR.mono hsz, hB.out.trans (hB9.mono hsz)⟩
                    obtain ⟨A9, c9, rfl, -⟩ := hR.strs
                    generalize (ls ++ [x] ++ ms).length = L9 at *
                    replace HR := Lib.hid HR
                    clear ho9 hg9 hB9 hR
                    go_wp2
                    go_ret2
                    exact HR.out
                · have hle' : b < (U : Int) - (m : Int) := by omega
                  have HR := Lib.hid (hleaf (by rw [hcd, decide_eq_false hle, Bool.false_and, Bool.and_false]) _ hB.out)
                  replace hz := Lib.hid hz
                  replace hz2' := Lib.hid hz2
                  replace hup := Lib.hid hup
                  clear HN HY HL HNL hcd hz2 hleaf
                  go_wp2
                  go_ret2
                  exact HR.out
              · have HR := Lib.hid (hleaf (by rw [hcd, decide_eq_false h2, Bool.false_and]) _ hB.out)
                rw [if_pos (by omega)] at hup
                subst hup
                clear HN HY HL HNL hcd hleaf
                replace h2 := Lib.hid h2
                go_wp2
                go_ret2
                exact HR.out
            · have HR := Lib.hid (hnil.out (hno.out false rfl fun h => absurd (fitsA_parts (askA_parts h).1).2.2.2 hq) _ hB.out)
              have hqb := decide_eq_false hq
              replace hok := Lib.hid hok
              replace hq := Lib.hid hq
              go_wp2_with (fail)
              refine (in_any _ _ _ _).mono ?_
              rintro e _ ⟨rfl, rfl⟩
              rw [hqb]
              clear hqb
              go_wp2
              go_ret2
              exact HR.out
          · have HR := Lib.hid (hnil.out (hno.out false rfl fun h => absurd (askA_parts h).2 hd) _ hB.out)
            have hdb := decide_eq_false hd
            replace hok := Lib.hid hok
            replace hd := Lib.hid hd
            go_wp2_with (fail)
            refine (in_any _ _ _ _).mono ?_
            rintro e _ ⟨rfl, rfl⟩
            rw [hdb]
            clear hdb
            go_wp2
            go_ret2
            exact HR.out
        · have HR := Lib.hid (hnil.out (hno.out _ hse' hst) _ hB.out)
          replace hok := Lib.hid hok
          clear hse' hst hst2
          go_wp2
          go_ret2
          exact HR.out
      · have HR := Lib.hid (hnil.out (hno.out _ hse' hst) _ hB.out)
        replace hok := Lib.hid hok
        clear hse' hst hst2
        go_wp2
        go_ret2
        exact HR.out
end Go.Proofs.Ytebfoofiaokhdaa
