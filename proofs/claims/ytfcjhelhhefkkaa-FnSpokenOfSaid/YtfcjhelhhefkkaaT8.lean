/-
  The contract of SpokenOf of the program.
-/
import Derived.Test.YtfcjhelhhefkkaaT3
import Derived.Test.YtfcjhelhhefkkaaS8
import Derived.Test.YtfcjhelhhefkkaaGP
namespace Go.Proofs.Ytfcjhelhhefkkaa
open Go.RowKit Go.Sort

set_option maxRecDepth 100000 in
set_option maxHeartbeats 4000000 in
theorem implSpokenOf_any (v : Value) (t : Tg) (s : ByteArray) (w : World) (h : Tng w v t) (hf : t.Fine) (hs : s.size ≤ 2097152) :
    Calls Try.prog 38 #[v, .string s] w (RetStrs w (spokenL t (tl s))) := by
  obtain ⟨i0, hi, hz0, hz1, hz2⟩ := info_parts str_info
  obtain ⟨A1, c1, A2, c2, A3, c3, rfl, -⟩ := h.ex
  have hB := (Below.refl w.heap.size w).alloc (Nat.le_refl _) (.cells #[.slice A1 t.us.length c1, .slice A2 t.bs.length c2, .slice A3 t.ns.length c3] 43)
  have HX := Blk.new w 43 #[.slice A1 t.us.length c1, .slice A2 t.bs.length c2, .slice A3 t.ns.length c3]
  have HT := h.below hB (Nat.le_refl _)
  have hL60 := runsL_len' (tl s)
  have hsm := Lib.hid (fun x (h : x ∈ runsL (tl s)) => runsL_small h)
  replace hB := Lib.hid hB
  replace HX := Lib.hid HX
  replace HT := Lib.hid HT
  clear h
  unfold spokenL
  go_enter Try.func38, Try.ntmps38
  go_upto_region 1 with (fail)
  generalize w.alloc (.cells #[.slice A1 t.us.length c1, .slice A2 t.bs.length c2, .slice A3 t.ns.length c3] 43) = W at *
  have hXc := Lib.hid (fun W' (h : Below W.heap.size W W') => blk3 (HX.out.below h HX.out.lt))
  have KT := Lib.hid (fun n W' (h : Below W.heap.size W W') hn => implTextOf_any _ t n W' (HT.out.below h (Nat.le_refl _)) hf hn)
  have KR := implRunsOf_any s W hs
  generalize runsL (tl s) = q at *
  go_wp2_with (fail)
  refine KR.mono ?_
  rintro e W2 ⟨v2, rfl, ho2, b2⟩
  obtain ⟨A, c, rfl, hq⟩ := ho2.runs
  have hs2 := b2.size
  have hB2 := Lib.hid b2
  replace hq := Lib.hid hq
  clear b2 ho2 KR
  go_wp2
  go_loopw [5, 13] (fun s5 s13 wr => ∃ k : Nat, k ≤ q.length ∧ s13 = .int .i64 k ∧ okTo t q k ∧ OwnStrs wr W2.heap.size s5 (spokenTo t q k) ∧ Below W2.heap.size W2 wr) (fun _ s13 _ => q.length - (intOf s13).toNat)
  case atStart => exact ⟨0, Nat.zero_le _, rfl, fun j x hj => absurd hj (by omega), owns_none _ _ _, Below.refl _ _⟩
  case round =>
    obtain ⟨k, hk, rfl, hok, ho, hBr⟩ := hrel
    by_cases hlt : k < q.length
    · have hx : q[k]? = some q[k] := List.getElem?_eq_getElem hlt
      have hT9 := hsm.out _ (List.getElem_mem hlt)
      generalize q[k] = x at *
      obtain ⟨T, ch⟩ := x
      simp only at hT9
      have hch := UInt8.toNat_lt ch
      obtain ⟨b, o, rfl, hbl, hc⟩ := (hq.out.below hBr (Nat.le_refl _)).at_ (by omega)
      obtain ⟨r1, r2⟩ := hc k _ hx
      simp only at r1 r2
      have hgo := Lib.hid (spokenTo_go (t := t) hx)
      have hno := Lib.hid (spoken_no (t := t) hx)
      have hyes := Lib.hid (okTo_go hok hx)
      have hln := spokenTo_len t q k
      have hspk : spk t (T, ch) = textOf t (T : Int) ++ ⟨#[32]⟩ ++ textOf t ((ch.toNat : Int) - 48) := rfl
      have hspo : spkOk t (T, ch) = (decide (textOf t (T : Int) ≠ ⟨#[]⟩) && decide (textOf t ((ch.toNat : Int) - 48) ≠ ⟨#[]⟩)) := rfl
      have z1 := textOf_size t (T : Int)
      have z2 := textOf_size t ((ch.toNat : Int) - 48)
      rw [hspk] at hgo
      rw [hspo] at hno hyes
      generalize spokenTo t q k = out at *
      have cs := run_cells
      obtain ⟨A5, c5, rfl, -⟩ := ho.strs
      have hBW := hB2.out.trans (hBr.mono (by omega))
      have hBx := Lib.hid ((Below.refl wr.heap.size wr).alloc (Nat.le_refl _) (.cells #[.int .i64 (T : Int), .int .i64 ((ch.toNat : Int) - 48)] 31))
      have hXn := Blk.new wr 31 #[.int .i64 (T : Int), .int .i64 ((ch.toNat : Int) - 48)]
      replace ho := Lib.hid (ho.below hBx.out (Nat.le_refl _))
      have hBr2 := Lib.hid (hBr.trans (hBx.out.mono hBr.size))
      have hBW2 := Lib.hid (hBW.trans (hBx.out.mono hBW.size))
      replace hspk := Lib.hid hspk
      replace hspo := Lib.hid hspo
      replace hXn := Lib.hid hXn
      clear hok hc hx hBr hBW hBx
      go_upto_region 5 with (fail)
      generalize wr.alloc (.cells #[.int .i64 (T : Int), .int .i64 ((ch.toNat : Int) - 48)] 31) = wq at *
      have n0 := hXn.out.cell 0
      have n1 := hXn.out.cell 1
      simp only [List.getElem?_toArray, List.getElem?_cons_zero, List.getElem?_cons_succ] at n0 n1
      obtain ⟨x0, x1, x2, -, -, -⟩ := hXc.out _ hBW2.out
      have y0 := fun d os => cell_regrown x0 d os
      have y1 := fun d os => cell_regrown x1 d os
      have y2 := fun d os => cell_regrown x2 d os
      have y3 := fun d os => cell_regrown n0 d os
      have y4 := fun d os => cell_regrown n1 d os
      have KT1 := Lib.hid (fun n d os hn => KT.out n (grow (redrawn wq d) os) (hBW2.out.trans ((below_regrown wq d os).mono hBW2.out.size)) hn)
      clear x0 x1 x2 n0 n1 r1 r2
      refine wp_region_quiet_below (by kernel_rfl) (by kernel_rfl) ?_
      repeat (go_big_quiet_step (first | (go_at_call 41; exact Calls.regrown_of (KT1.out _ _ _ (by omega)))))
      refine wpQuiet_nil ?_
      intro _ hw'
      obtain ⟨pq, hw''⟩ := hw'
      have bq := below_regrown wq pq.d pq.os
      rw [← hw''] at bq
      clear hw'' y0 y1 y2 y3 y4 KT1
      rename_i wq2
      have ho3 := Lib.hid (ho.out.below bq (Nat.le_refl _))
      have hBr3 := Lib.hid (hBr2.out.trans (bq.mono hBr2.out.size))
      have hBW3 := Lib.hid (hBW2.out.trans (bq.mono hBW2.out.size))
      have hs3 := hBW3.out.size
      have hs4 := hBr3.out.size
      clear ho hBr2 hBW2 bq hXn
      generalize textOf t (T : Int) = tx at *
      generalize textOf t ((ch.toNat : Int) - 48) = ty at *
      by_cases he1 : tx = ⟨#[]⟩
      · have hx1 : tx.toList.isEmpty = true := by rw [empty_list]; exact decide_eq_true he1
        have hE := Lib.hid (hno.out (by simp [he1]))
        replace he1 := Lib.hid he1
        go_wp2
        go_ret
        exact ⟨_, rfl, by rw [hE.out]; exact owns_none _ _ _, hB.out.trans (hBW3.out.mono hB.out.size)⟩
      · have hx1 : tx.toList.isEmpty = false := by rw [empty_list]; exact decide_eq_false he1
        by_cases he2 : ty = ⟨#[]⟩
        · have hx2 : ty.toList.isEmpty = true := by rw [empty_list]; exact decide_eq_true he2
          have hE := Lib.hid (hno.out (by simp [he2]))
          replace he1 := Lib.hid he1
          replace he2 := Lib.hid he2
          go_wp2
          go_ret
          exact ⟨_, rfl, by rw [hE.out]; exact owns_none _ _ _, hB.out.trans (hBW3.out.mono hB.out.size)⟩
        · have hx2 : ty.toList.isEmpty = false := by rw [empty_list]; exact decide_eq_false he2
          have hE := Lib.hid (hyes.out (by simp [he1, he2]))
          replace he1 := Lib.hid he1
          replace he2 := Lib.hid he2
          have u1 : (⟨#[32]⟩ : ByteArray).size = 1 := rfl
          have u2 : (tx ++ ⟨#[32]⟩).size = tx.size + 1 := by rw [ByteArray.size_append, u1]
          have u3 : ¬ (9223372036854775807 < tx.size + 1) := by omega
          have u4 : ¬ (9223372036854775807 < tx.size + 1 + ty.size) := by omega
          have m1 := Lib.hid (show out.length + 1 ≤ maxLen by unfold maxLen; omega)
          have m2 := Lib.hid (show (out.length + 1) * 16 ≤ 140737488355328 by omega)
          go_wp2_with (at_builtin; refine wpList_app _ rfl (.tmp 31) (.tmp 36) _ rfl W2.heap.size 9 i0 _ 16 Try.underlying40 hi hz0 hz1 hz2 rfl (.slice A5 out.length c5) _ _ rfl (World.ownsRow.alloc ho3.out _) (some ⟨wq2.heap.size, 0, none⟩) 1 1 [.string (tx ++ ⟨#[32]⟩ ++ ty)] rfl (Src.one (Blk.new _ _ _) rfl) m1.out m2.out (by simp; omega) ?_; intro v6 w6 ho6 hg6 _)
          have hB7 := Lib.hid (below_own (hBr3.out.alloc hBr3.out.size _) (World.ownsRow.alloc ho3.out _) hg6 (by simp; omega) (Nat.le_refl _))
          have ho7 := Lib.hid (own_snoc4 ho6)
          clear ho6 hg6
          go_wp2
          go_roundw
          case rel => exact ⟨k + 1, by omega, by go_num, hE.out, by rw [hgo.out]; exact ho7.out, hB7.out⟩
          case measure => simp [intOf]; omega
    · obtain rfl : k = q.length := by omega
      have hE := Lib.hid (okTo_end hok)
      obtain ⟨A5, c5, rfl, -⟩ := ho.strs
      have hBW := Lib.hid (hB2.out.trans (hBr.mono (by omega)))
      replace ho := Lib.hid ho
      replace hBr := Lib.hid hBr
      go_wp2
      go_ret
      exact ⟨_, rfl, by rw [hE.out]; exact ho.out.mono (by have := hB.out.size; omega), hB.out.trans (hBW.out.mono hB.out.size)⟩
end Go.Proofs.Ytfcjhelhhefkkaa
