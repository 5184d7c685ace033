/-
  The contract of ReadDeed of the model.
-/
import Derived.Test.YtfmdbmhakkajfaaDoorVe
import Derived.Test.YtfmdbmhakkajfaaDoorVd
namespace Go.Proofs.YtfmdbmhakkajfaaDoor
open Go.RowKit Go.Sort

theorem try_hit {s : ByteArray} {x : Dd} (h0 : s ≠ ⟨#[]⟩) (h : deedT x = s) : rdB (tl s) = true ∧ rdV (tl s) = x :=
  rd_deed (a := x) (l := tl s) (congrArg tl h) (fun e => h0 (tl_inj e))
theorem try_none {s : ByteArray} (h : ∀ (j : Nat) x, (tryL (tl s))[j]? = some x → ¬ (s ≠ ⟨#[]⟩ ∧ deedT x = s)) : rdB (tl s) = false := by
  cases e : rdB (tl s)
  · rfl
  · exfalso
    obtain ⟨h1, h2⟩ := rd_text e
    obtain ⟨j, hj⟩ := List.mem_iff_getElem?.1 (rd_tried e)
    exact h j _ hj ⟨fun e => h2 (by rw [e]), tl_inj h1⟩
theorem try_two {s : ByteArray} (h : (cutL s).length = 2) : tryL (tl s) = [⟨3, 0⟩, ⟨4, 0⟩] ++ [⟨0, digV (tl ((cutL s).getD 1 ByteArray.empty))⟩, ⟨1, digV (tl ((cutL s).getD 1 ByteArray.empty))⟩, ⟨2, digV (tl ((cutL s).getD 1 ByteArray.empty))⟩] := by
  have hc : (cutL s).map tl = cutR (tl s) := cutL_data s
  have hl : (cutR (tl s)).length = 2 := by rw [← hc, List.length_map, h]
  have hg : (cutR (tl s)).getD 1 [] = tl ((cutL s).getD 1 ByteArray.empty) := by
    rw [← hc]
    match cutL s, h with
    | [a, b], _ => rfl
  unfold tryL
  rw [if_pos hl, hg]
theorem try_not {s : ByteArray} (h : ¬ (cutL s).length = 2) : tryL (tl s) = [⟨3, 0⟩, ⟨4, 0⟩] := by
  have hc : (cutL s).map tl = cutR (tl s) := cutL_data s
  unfold tryL
  rw [if_neg (by rw [← hc, List.length_map]; exact h)]
  rfl
theorem cutL_size {s : ByteArray} : ∀ x ∈ cutL s, x.size ≤ s.size := by
  have h1 : ∀ k, ∀ x ∈ (cutTo s k).1, x.size ≤ s.size := by
    intro k
    induction k with
    | zero => intro x hx; simp [cutTo] at hx
    | succ k ih =>
      intro x hx
      rw [cutTo] at hx
      split at hx
      · split at hx
        · rcases List.mem_append.1 hx with h | h
          · exact ih x h
          · rw [List.mem_singleton] at h
            subst h
            rw [ByteArray.size_extract]
            omega
        · exact ih x hx
      · exact ih x hx
  intro x hx
  unfold cutL at hx
  rcases List.mem_append.1 hx with h | h
  · exact h1 _ x h
  · rw [List.mem_singleton] at h
    subst h
    rw [ByteArray.size_extract]
    omega
theorem cellD_list (w : World) (cs : List Value) (t : TypeId) : ∀ j u, cs[j]? = some u → (w.alloc (.cells cs.toArray t)).cell? ((⟨w.heap.size, 0, none⟩ : Addr).add j) = some u := by
  intro j u hj
  have hb := Blk.new w t cs.toArray
  have := hb.cell j
  rw [add_plain', Nat.zero_add, this]
  simpa using hj
/-- While deeds are tried: the row, the result's block. -/
structure TrySt (w : World) (v : Value) (q : List Dd) (W : World) : Prop where
  own : OwnDds W (w.heap.size + 1) v q
  res : Blk W w.heap.size 24 #[.int .i64 0, .int .i64 0]
  low : Below w.heap.size w W
theorem TrySt.below {w W W' : World} {v : Value} {q : List Dd} (h : TrySt w v q W) (hb : Below W.heap.size W W') : TrySt w v q W' := ⟨h.own.below hb (Nat.le_refl _), h.res.below hb h.res.lt, h.low.trans (hb.mono h.low.size)⟩

set_option maxRecDepth 100000 in
set_option maxHeartbeats 4000000 in
theorem specReadDeed_any (s : ByteArray) (w : World) (hs : s.size ≤ 2000000) :
    Calls Tryd.prog 16 #[.string s] w (RetRd w s) := by
  obtain ⟨i0, hi, hz0, hz1, hz2⟩ := info_parts dd_info
  have hB := Lib.hid ((Below.refl w.heap.size w).alloc (Nat.le_refl _) (.cells #[.int .i64 0, .int .i64 0] 24))
  have HZ := Lib.hid (Blk.new w 24 #[.int .i64 0, .int .i64 0])
  have hhit := Lib.hid (fun x => try_hit (s := s) (x := x))
  have hnone := Lib.hid (try_none (s := s))
  have htwo := Lib.hid (try_two (s := s))
  have hnot := Lib.hid (try_not (s := s))
  have hcs := Lib.hid (cutL_size (s := s))
  have hrno := Lib.hid (rd_no (l := tl s))
  go_enter Tryd.func16, Tryd.ntmps16
  go_upto_region 1 with (fail)
  generalize w.alloc (.cells #[.int .i64 0, .int .i64 0] 24) = W at *
  go_wp2_with (fail)
  refine (specCut_any s W hs).mono ?_
  rintro e W1 ⟨v1, rfl, ho, hb⟩
  have hB1 := Lib.hid (hB.out.trans (hb.mono hB.out.size))
  have HZ1 := Lib.hid (HZ.out.below hb HZ.out.lt)
  obtain ⟨CA, CC, rfl, hst⟩ := ho.strs
  have hlc := cutL_len s
  clear hb hB HZ ho
  generalize cutL s = cl at *
  have hA := (Below.refl W1.heap.size W1).alloc (Nat.le_refl _) (.cells #[.int .i64 3, .int .i64 0, .int .i64 4, .int .i64 0] 24)
  have hO2 : OwnDds (W1.alloc (.cells #[.int .i64 3, .int .i64 0, .int .i64 4, .int .i64 0] 24)) (w.heap.size + 1) (.slice (some ⟨W1.heap.size, 0, none⟩) 2 2) [⟨3, 0⟩, ⟨4, 0⟩] :=
    own_of_blk (q := [⟨3, 0⟩, ⟨4, 0⟩]) (Blk.new W1 _ _) HZ1.out.lt rfl (by unfold maxLen; omega)
  have S := Lib.hid (TrySt.mk hO2 (HZ1.out.below hA HZ1.out.lt) (hB1.out.trans (hA.mono hB1.out.size)))
  replace hst := Lib.hid (hst.below hA (Nat.le_refl _))
  clear hA hO2 hB1 HZ1
  go_upto_region 3 with (fail)
  generalize W1.alloc (.cells #[.int .i64 3, .int .i64 0, .int .i64 4, .int .i64 0] 24) = W2 at *
  generalize W1.heap.size = g at *
  go_upto_if 15 with (fail)
  go_cut [5, 6] (fun s5 s6 wx => TrySt w s5 (tryL (tl s)) wx)
  case first =>
    by_cases h2 : cl.length = 2
    · have hq := htwo.out h2
      have e2 : ((cl.length : Int) == 2) = true := by rw [h2]; rfl
      have e3 : (1 : Int) < (cl.length : Int) := by omega
      have hy := hcs.out (cl.getD 1 ByteArray.empty) (by rw [List.getD_eq_getElem?_getD, List.getElem?_eq_getElem (by omega), Option.getD_some]; exact List.getElem_mem _)
      obtain ⟨b, o, rfl, hbl, hcc⟩ := hst.out.at_ (by omega)
      have c1 := hcc 1 (by omega)
      generalize cl.getD 1 ByteArray.empty = y at *
      replace hq := Lib.hid hq
      replace h2 := Lib.hid h2
      have hD := Lib.hid (fun W => digits_any y W (by omega))
      generalize digV (tl y) = dn at *
      clear hcc
      have hrow := S.out.own
      unfold OwnDds at hrow
      have hal := World.ownsRow.alloc hrow (.cells #[.int .i64 0, .int .i64 dn, .int .i64 1, .int .i64 dn, .int .i64 2, .int .i64 dn] 24)
      have hB2 := S.out.low
      have hszB : w.heap.size + 1 ≤ (W2.alloc (.cells #[.int .i64 0, .int .i64 dn, .int .i64 1, .int .i64 dn, .int .i64 2, .int .i64 dn] 24)).heap.size := by have := S.out.res.lt; simp; omega
      have HZ2 := S.out.res.alloc (.cells #[.int .i64 0, .int .i64 dn, .int .i64 1, .int .i64 dn, .int .i64 2, .int .i64 dn] 24)
      have hBa := hB2.alloc hB2.size (.cells #[.int .i64 0, .int .i64 dn, .int .i64 1, .int .i64 dn, .int .i64 2, .int .i64 dn] 24)
      replace hrow := Lib.hid hrow
      replace hal := Lib.hid hal
      replace HZ2 := Lib.hid HZ2
      replace hBa := Lib.hid hBa
      replace hszB := Lib.hid hszB
      clear hB2
      go_wp2_with (first | (go_at_call 43; refine (hD.out _).mono ?_; rintro e _ ⟨rfl, rfl⟩) | (at_builtin; refine wpList_append_own _ rfl _ _ 32 rfl (w.heap.size + 1) 24 i0 (.agg #[.int .i64 0, .int .i64 0]) 2 16 Tryd.underlying32 hi hz0 hz1 hz2 rfl (by decide) _ _ _ rfl hal.out ⟨W2.heap.size, 0, none⟩ 3 3 [.int .i64 0, .int .i64 dn, .int .i64 1, .int .i64 dn, .int .i64 2, .int .i64 dn] rfl rfl (cellD_list W2 [.int .i64 0, .int .i64 dn, .int .i64 1, .int .i64 dn, .int .i64 2, .int .i64 dn] _) (fun x hx => by simp at hx; rcases hx with rfl | rfl | rfl | rfl | rfl | rfl <;> rfl) (by unfold maxLen; simp) (by simp) hszB.out ?_; intro v' w4 hown' hg4 _))
      have ho4 : OwnDds w4 (w.heap.size + 1) v' (tryL (tl s)) := by
        rw [hq.out]
        exact hown'
      have HZ4 := HZ2.out.grown hg4 (fun e => by have h1 := (hal.out.lt w.heap.size e.symm).1; omega)
      have hB4 := hBa.out.grown hg4 hBa.out.size (fun k e => by have h1 := (hal.out.lt k e).1; omega)
      have S4 := Lib.hid (TrySt.mk ho4 HZ4 hB4)
      clear ho4 HZ4 hB4 hown' hg4 hal HZ2 hBa hrow
      go_wp2
      go_meet
      exact S4.out
    · have hq := hnot.out h2
      have e2 : ((cl.length : Int) == 2) = false := by rw [beq_eq_false_iff_ne]; omega
      go_wp2
      go_meet
      rw [hq]
      exact S.out
  case rest =>
    clear S hst hcs htwo hnot
    replace hcut := Lib.hid hcut
    obtain ⟨QA, QC, rfl, -⟩ := OwnDds.deeds hcut.out.own
    generalize hq : tryL (tl s) = q at *
    replace hq := Lib.hid hq
    have hql : q.length ≤ 5 := by rw [← hq.out]; unfold tryL; split <;> simp
    go_wp2
    go_loopw [7] (fun s7 wr => ∃ k : Nat, k ≤ q.length ∧ s7 = .int .i64 (k : Int) ∧ (∀ (j : Nat) x, j < k → q[j]? = some x → ¬ (s ≠ ⟨#[]⟩ ∧ deedT x = s)) ∧ TrySt w (.slice QA q.length QC) q wr) (fun s7 _ => q.length - (intOf s7).toNat)
    case atStart => exact ⟨0, Nat.zero_le _, rfl, fun j x hj => absurd hj (by omega), hcut.out⟩
    case round =>
      clear hcut
      obtain ⟨k, hk, rfl, hno, S⟩ := hrel
      by_cases hlt : k < q.length
      · have hx : q[k]? = some (q[k]'hlt) := List.getElem?_eq_getElem hlt
        generalize q[k]'hlt = x at *
        obtain ⟨A9, c9, e9, hd9⟩ := S.own.deeds
        cases e9
        have hdd := Lib.hid (fun W (hb : Below wr.heap.size wr W) => hd9.below hb (Nat.le_refl _))
        obtain ⟨b, o, rfl, hbl, hc⟩ := hd9.at_ (by omega)
        obtain ⟨c1, c2⟩ := hc k x hx
        have hgo : ¬ (s ≠ ⟨#[]⟩ ∧ deedT x = s) → ∀ (j : Nat) y, j < k + 1 → q[j]? = some y → ¬ (s ≠ ⟨#[]⟩ ∧ deedT y = s) := fun h j y hj hy => by
          by_cases hjk : j = k
          · subst hjk
            rw [hx] at hy
            cases hy
            exact h
          · exact hno j y (by omega) hy
        replace hgo := Lib.hid hgo
        have hht := Lib.hid (hhit.out x)
        have hfresh := Lib.hid (fun W (hb : Below wr.heap.size wr W) => (⟨(hb.cell (p := ⟨b, o + k * 2, none⟩) hbl).trans c1, (hb.cell (p := ⟨b, o + k * 2 + 1, none⟩) hbl).trans c2⟩ : W.cell? ⟨b, o + k * 2, none⟩ = some (.int .i64 x.kind) ∧ W.cell? ⟨b, o + k * 2 + 1, none⟩ = some (.int .i64 x.n)))
        have KD := Lib.hid (fun W => specDeedText_any x W)
        obtain ⟨xk, xn⟩ := x
        dsimp only at hfresh KD c1 c2
        have cs2 := dd_cells
        have hix : (k : Int) < (q.length : Int) := by omega
        have hk0 : (0 : Int) ≤ (k : Int) := by omega
        have hk1 : IntKind.i64.wrap ((k : Int) + 1) = (k : Int) + 1 := IntWalk.i64_in _ (by omega)
        replace S := Lib.hid S
        replace hno := Lib.hid hno
        clear hd9 hdd hc hx
        by_cases he : s = ⟨#[]⟩
        · have hse : s.toList.isEmpty = true := by rw [emp_iff]; exact decide_eq_true he
          have hg := Lib.hid (hgo.out (fun h => h.1 he))
          replace he := Lib.hid he
          go_wp2
          go_roundw
          case rel => exact ⟨k + 1, by omega, by go_num, hg.out, S.out⟩
          case measure => simp [intOf]; omega
        · have hse : s.toList.isEmpty = false := by rw [emp_iff]; exact decide_eq_false he
          go_wp2_with (fail)
          refine (KD.out _).mono ?_
          rintro e w5 ⟨rfl, b5⟩
          replace S := Lib.hid (S.out.below b5)
          obtain ⟨d1, d2⟩ := hfresh.out _ b5
          clear b5 c1 c2 KD hfresh
          by_cases hd : deedT ⟨xk, xn⟩ = s
          · have hq1 : ((deedT ⟨xk, xn⟩).toList == s.toList) = true := by rw [str_eq]; exact decide_eq_true hd
            obtain ⟨hf, hv⟩ := hht.out he hd
            have hg : RetRd w s (.returned (.tuple #[.agg #[.int .i64 xk, .int .i64 xn], .bool true])) ((w5.setCell ⟨w.heap.size, 0, none⟩ (.int .i64 xk)).setCell ⟨w.heap.size, 1, none⟩ (.int .i64 xn)) := ⟨by rw [hf, hv], below_dd2 S.out.low (Nat.le_refl _)⟩
            replace hg := Lib.hid hg
            replace he := Lib.hid he
            replace hd := Lib.hid hd
            replace hf := Lib.hid hf
            replace hv := Lib.hid hv
            have z0 : w5.cell? ⟨w.heap.size, 0, none⟩ = some (.int .i64 0) := S.out.res.cell 0
            have z1 : w5.cell? ⟨w.heap.size, 1, none⟩ = some (.int .i64 0) := S.out.res.cell 1
            have f0 := S.out.res.frozen 0
            have f1 := S.out.res.frozen 1
            clear S
            go_wp2
            refine bodyPost_ret (v := .tuple #[.agg #[.int .i64 xk, .int .i64 xn], .bool true]) (by simp [results, Tryd.results16, go_sem, z0, z1]) rfl ?_
            exact hg.out
          · have hq1 : ((deedT ⟨xk, xn⟩).toList == s.toList) = false := by rw [str_eq]; exact decide_eq_false hd
            have hg := Lib.hid (hgo.out (fun h => hd h.2))
            replace he := Lib.hid he
            replace hd := Lib.hid hd
            go_wp2
            go_roundw
            case rel => exact ⟨k + 1, by omega, by go_num, hg.out, S.out⟩
            case measure => simp [intOf]; omega
      · obtain rfl : k = q.length := by omega
        have hf : rdB (tl s) = false := hnone.out (fun j x hj => by
          have hjl : j < q.length := by
            rcases Nat.lt_or_ge j q.length with h1 | h1
            · exact h1
            · rw [List.getElem?_eq_none h1] at hj; cases hj
          exact hno j x hjl hj)
        have hv := hrno.out hf
        have hg : RetRd w s (.returned (.tuple #[.agg #[.int .i64 0, .int .i64 0], .bool false])) ((wr.setCell ⟨w.heap.size, 0, none⟩ (.int .i64 0)).setCell ⟨w.heap.size, 1, none⟩ (.int .i64 0)) := ⟨by rw [hf, hv], below_dd2 S.low (Nat.le_refl _)⟩
        replace hg := Lib.hid hg
        replace hf := Lib.hid hf
        replace hv := Lib.hid hv
        have z0 : wr.cell? ⟨w.heap.size, 0, none⟩ = some (.int .i64 0) := S.res.cell 0
        have z1 : wr.cell? ⟨w.heap.size, 1, none⟩ = some (.int .i64 0) := S.res.cell 1
        have f0 := S.res.frozen 0
        have f1 := S.res.frozen 1
        clear S hno
        go_wp2
        refine bodyPost_ret (v := .tuple #[.agg #[.int .i64 0, .int .i64 0], .bool false]) (by simp [results, Tryd.results16, go_sem, z0, z1]) rfl ?_
        exact hg.out
end Go.Proofs.YtfmdbmhakkajfaaDoor
