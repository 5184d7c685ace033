/-
  The contract of SpokenOf of the model.
-/
import Derived.Lib.QuietBelow
import Derived.Test.YtfcjhelhhefkkaaS2
import Derived.Test.YtfcjhelhhefkkaaGN
import Derived.Test.YtfcjhelhhefkkaaGB
namespace Go.Proofs.Ytfcjhelhhefkkaa
open Go.RowKit Go.Sort

/-- The text of a run: how often, a space, the digit. -/
def spk (t : Tg) (x : RunB) : ByteArray := textOf t (x.1 : Int) ++ ⟨#[32]⟩ ++ textOf t ((x.2.toNat : Int) - 48)
def spkOk (t : Tg) (x : RunB) : Bool := decide (textOf t (x.1 : Int) ≠ ⟨#[]⟩) && decide (textOf t ((x.2.toNat : Int) - 48) ≠ ⟨#[]⟩)
def spokenR (t : Tg) (q : List RunB) : List ByteArray := if q.all (spkOk t) = true then q.map (spk t) else []
def spokenL (t : Tg) (l : List UInt8) : List ByteArray := spokenR t (runsL l)
theorem textOf_size (t : Tg) (n : Int) : (textOf t n).size ≤ 899991 := by
  have h1 := joinW_size (nameOf_at t n) (nameOf t n).length
  have h2 := nameOf_len t n
  unfold textOf
  omega
theorem spoken_no {t : Tg} {q : List RunB} {x : RunB} {k : Nat} (hx : q[k]? = some x) (h : spkOk t x = false) : spokenR t q = [] := by
  unfold spokenR
  rw [if_neg]
  intro hh
  rw [List.all_eq_true] at hh
  rw [hh x (List.mem_of_getElem? hx)] at h
  cases h
theorem spoken_yes {t : Tg} {q : List RunB} (h : ∀ (k : Nat) (x : RunB), q[k]? = some x → spkOk t x = true) : spokenR t q = q.map (spk t) := by
  unfold spokenR
  rw [if_pos]
  rw [List.all_eq_true]
  intro x hx
  obtain ⟨k, hk, e⟩ := List.mem_iff_getElem.1 hx
  exact h k x (by rw [List.getElem?_eq_getElem hk, e])
def spokenTo (t : Tg) (q : List RunB) (k : Nat) : List ByteArray := (q.take k).map (spk t)
theorem spokenTo_go {t : Tg} {q : List RunB} {x : RunB} {k : Nat} (hx : q[k]? = some x) : spokenTo t q (k + 1) = spokenTo t q k ++ [spk t x] := by
  unfold spokenTo
  rw [List.take_add_one, hx, List.map_append]; rfl
theorem spokenTo_len (t : Tg) (q : List RunB) (k : Nat) : (spokenTo t q k).length ≤ q.length := by
  unfold spokenTo
  rw [List.length_map, List.length_take]; omega
theorem spokenL_len (t : Tg) (l : List UInt8) : (spokenL t l).length ≤ 60 := by
  have h : (runsL l).length ≤ 60 := by
    cases e : rowL l
    · rw [runsL_no e]; simp
    · rw [runsL_yes e]; have := runs_len l; have := row_len e; omega
  unfold spokenL spokenR
  split
  · rw [List.length_map]; exact h
  · simp
theorem spokenTo_end (t : Tg) (q : List RunB) : spokenTo t q q.length = q.map (spk t) := by unfold spokenTo; rw [List.take_length]
/-- All of the first k can be spoken. -/
def okTo (t : Tg) (q : List RunB) (k : Nat) : Prop := ∀ (j : Nat) (x : RunB), j < k → q[j]? = some x → spkOk t x = true
theorem okTo_go {t : Tg} {q : List RunB} {x : RunB} {k : Nat} (h : okTo t q k) (hx : q[k]? = some x) (ho : spkOk t x = true) : okTo t q (k + 1) := fun j y hj hy => by
  by_cases e : j = k
  · subst e; rw [hx] at hy; cases hy; exact ho
  · exact h j y (by omega) hy
theorem okTo_end {t : Tg} {q : List RunB} (h : okTo t q q.length) : spokenR t q = spokenTo t q q.length := by
  rw [spokenTo_end]
  refine spoken_yes fun k x hx => h k x ?_ hx
  rcases Nat.lt_or_ge k q.length with h1 | h1
  · exact h1
  · rw [List.getElem?_eq_none h1] at hx; cases hx
theorem runsL_len' (l : List UInt8) : (runsL l).length ≤ 60 := by
  cases e : rowL l
  · rw [runsL_no e]; simp
  · rw [runsL_yes e]; have := runs_len l; have := row_len e; omega
theorem runsL_small {l : List UInt8} {x : RunB} (h : x ∈ runsL l) : x.1 ≤ 9 := by
  cases e : rowL l
  · rw [runsL_no e] at h; cases h
  · rw [runsL_yes e] at h; exact row_runs e x h

theorem RunsAre.kept {W W' : World} {A : Option Addr} {n c : Nat} {q : List RunB} {row : Option Nat} (h : RunsAre W A n c q) (hg : W.grownBy W' row) (hne : ∀ b o, A = some ⟨b, o, none⟩ → row ≠ some b) : RunsAre W' A n c q :=
  ⟨h.len, h.le, fun hn => by
    obtain ⟨b, o, e, hlt, hc⟩ := h.at_ hn
    have hb := hne b o e
    exact ⟨b, o, e, Nat.lt_of_lt_of_le hlt hg.size, fun j x hj => ⟨hg.cell (hc j x hj).1 (fun k => hb k.symm), hg.cell (hc j x hj).2 (fun k => hb k.symm)⟩⟩⟩
/-- The row of texts is not the row of runs. -/
def Sep (v : Value) (A : Option Addr) : Prop := ∀ b o, A = some ⟨b, o, none⟩ → v.ownBlock ≠ some b
theorem Sep.next {v v' : Value} {A : Option Addr} {W : World} {N : Nat} (h : Sep v A) (hA : ∀ b o, A = some ⟨b, o, none⟩ → b < N) (hN : N ≤ W.heap.size) (hv : v'.ownBlock = v.ownBlock ∨ v'.ownBlock = some W.heap.size) : Sep v' A := fun b o e => by
  rcases hv with k | k
  · rw [k]; exact h b o e
  · rw [k]; intro k'; have := hA b o e; cases k'; omega

set_option maxRecDepth 100000 in
set_option maxHeartbeats 4000000 in
theorem specSpokenOf_any (v : Value) (t : Tg) (s : ByteArray) (w : World) (h : Tng w v t) (hf : t.Fine) (hs : s.size ≤ 2097152) :
    Calls Try.prog 40 #[v, .string s] w (RetStrs w (spokenL t (tl s))) := by
  obtain ⟨i0, hi, hz0, hz1, hz2⟩ := info_parts str_info
  obtain ⟨A1, c1, A2, c2, A3, c3, rfl, -⟩ := h.ex
  have hB := (Below.refl w.heap.size w).alloc (Nat.le_refl _) (.cells #[.slice A1 t.us.length c1, .slice A2 t.bs.length c2, .slice A3 t.ns.length c3] 43)
  have HX := Blk.new w 43 #[.slice A1 t.us.length c1, .slice A2 t.bs.length c2, .slice A3 t.ns.length c3]
  have HT := h.below hB (Nat.le_refl _)
  have hL60 := runsL_len' (tl s)
  have hsm := Lib.hid (fun x (h : x ∈ runsL (tl s)) => runsL_small h)
  replace hB := Lib.hid hB
  replace HX := Lib.hid HX
  replace HT := Lib.hid HT
  clear h
  unfold spokenL
  go_enter Try.func40, Try.ntmps40
  go_upto_region 1 with (fail)
  generalize w.alloc (.cells #[.slice A1 t.us.length c1, .slice A2 t.bs.length c2, .slice A3 t.ns.length c3] 43) = W at *
  have hXc := Lib.hid (fun W' (h : Below W.heap.size W W') => blk3 (HX.out.below h HX.out.lt))
  have KT := Lib.hid (fun n W' (h : Below W.heap.size W W') hn => specTextOf_any _ t n W' (HT.out.below h (Nat.le_refl _)) hf hn)
  have KR := specRunsOf_any s (W.alloc (.cells #[] 9)) hs
  generalize runsL (tl s) = q at *
  go_wp2_with (fail)
  refine KR.mono ?_
  rintro e W2 ⟨v2, rfl, ho2, b2⟩
  obtain ⟨A, c, rfl, hq⟩ := ho2.runs
  have hs2 := b2.size
  simp only [World.size_alloc] at hs2
  have hB2 := Lib.hid (((Below.refl W.heap.size W).alloc (Nat.le_refl _) (.cells #[] 9)).trans (b2.mono (by simp)))
  have hO0 : Hid (OwnStrs W2 W.heap.size (.slice (some ⟨W.heap.size, 0, none⟩) 0 0) []) := by
    have h0 : OwnStrs (W.alloc (.cells #[] 9)) W.heap.size (.slice (some ⟨W.heap.size, 0, none⟩) 0 0) [] := owns_empty (Blk.new _ _ _) (Nat.le_refl _)
    exact h0.below b2 (Nat.le_refl _)
  have hAW := Lib.hid (fun b o (e : A = some ⟨b, o, none⟩) => (ho2.lt b (by rw [e]; rfl)))
  have hB3 := Lib.hid (fun wr (h : Below W2.heap.size W2 wr) => hB2.out.trans (h.mono (by omega)))
  have hA1 : Hid (∀ b o, A = some ⟨b, o, none⟩ → b < W2.heap.size) := fun b o e => (hAW.out b o e).2
  have hS0 : Hid (Sep (.slice (some ⟨W.heap.size, 0, none⟩) 0 0) A) := fun b o e k => by
    have := (hAW.out b o e).1
    simp [Value.ownBlock] at k this
    omega
  replace hq := Lib.hid hq
  clear b2 ho2 KR
  go_wp2
  go_loopw [5, 7] (fun s5 s7 wr => ∃ k : Nat, k ≤ q.length ∧ s7 = .int .i64 k ∧ okTo t q k ∧ OwnStrs wr W.heap.size s5 (spokenTo t q k) ∧ Below W.heap.size W wr ∧ RunsAre wr A q.length c q ∧ Sep s5 A ∧ W2.heap.size ≤ wr.heap.size) (fun _ s7 _ => q.length - (intOf s7).toNat)
  case atStart => exact ⟨0, Nat.zero_le _, rfl, fun j x hj => absurd hj (by omega), hO0.out, hB2.out, hq.out, hS0.out, Nat.le_refl _⟩
  case round =>
    obtain ⟨k, hk, rfl, hok, ho, hBW, hqr, hsep, hszr⟩ := hrel
    obtain ⟨x0, x1, x2, -, -, -⟩ := hXc.out _ hBW
    by_cases hlt : k < q.length
    · have hx : q[k]? = some q[k] := List.getElem?_eq_getElem hlt
      have hT9 := hsm.out _ (List.getElem_mem hlt)
      generalize q[k] = x at *
      obtain ⟨T, ch⟩ := x
      simp only at hT9
      have hch := UInt8.toNat_lt ch
      have hqr' := hqr
      obtain ⟨b, o, rfl, hbl, hc⟩ := hqr.at_ (by omega)
      obtain ⟨r1, r2⟩ := hc k _ hx
      simp only at r1 r2
      have hgo := Lib.hid (spokenTo_go (t := t) hx)
      have hno := Lib.hid (spoken_no (t := t) hx)
      have hyes := Lib.hid (okTo_go hok hx)
      have hln := spokenTo_len t q k
      have hspk : spk t (T, ch) = textOf t (T : Int) ++ ⟨#[32]⟩ ++ textOf t ((ch.toNat : Int) - 48) := rfl
      have hspo : spkOk t (T, ch) = (decide (textOf t (T : Int) ≠ ⟨#[]⟩) && decide (textOf t ((ch.toNat : Int) - 48) ≠ ⟨#[]⟩)) := rfl
      have z1 := textOf_size t (T : Int)
      have z2 := textOf_size t ((ch.toNat : Int) - 48)
      have KT1 := Lib.hid (fun W' h => KT.out (T : Int) W' h (by omega))
      have KT2 := Lib.hid (fun W' h => KT.out ((ch.toNat : Int) - 48) W' h (by omega))
      rw [hspk] at hgo
      rw [hspo] at hno hyes
      generalize spokenTo t q k = out at *
      generalize textOf t (T : Int) = tx at *
      generalize textOf t ((ch.toNat : Int) - 48) = ty at *
      have cs := run_cells
      obtain ⟨A5, c5, rfl, -⟩ := ho.strs
      replace ho := Lib.hid ho
      replace hqr := Lib.hid hqr'
      replace hsep := Lib.hid hsep
      replace hBW := Lib.hid hBW
      replace hspk := Lib.hid hspk
      replace hspo := Lib.hid hspo
      clear hok hc hx hqr'
      have y0 := fun d os => cell_regrown x0 d os
      have y1 := fun d os => cell_regrown x1 d os
      have y2 := fun d os => cell_regrown x2 d os
      have y3 := fun d os => cell_regrown r1 d os
      replace KT1 := Lib.hid (fun d os => KT1.out (grow (redrawn wr d) os) (hBW.out.trans ((below_regrown wr d os).mono hBW.out.size)))
      clear x0 x1 x2 r1
      go_wp2
      refine wp_region_quiet_below (by kernel_rfl) (by kernel_rfl) ?_
      repeat (go_big_quiet_step (first | (go_at_call 64; exact Calls.regrown_of (KT1.out _ _))))
      refine wpQuiet_nil ?_
      intro _ hw'
      obtain ⟨pq, hw''⟩ := hw'
      have bq := below_regrown wr pq.d pq.os
      rw [← hw''] at bq
      clear hw'' y0 y1 y2 y3 KT1
      rename_i wq
      have ho2 := Lib.hid (ho.out.below bq (Nat.le_refl _))
      have hqr2 := Lib.hid (hqr.out.below bq (Nat.le_refl _))
      have hsz2 := bq.size
      have hBW2 := Lib.hid (hBW.out.trans (bq.mono hBW.out.size))
      have r2' := (bq.cell (p := ⟨b, o + k * 2 + 1, none⟩) hbl).trans r2
      obtain ⟨x0, x1, x2, -, -, -⟩ := hXc.out _ hBW2.out
      have y0 := fun d os => cell_regrown x0 d os
      have y1 := fun d os => cell_regrown x1 d os
      have y2 := fun d os => cell_regrown x2 d os
      have y3 := fun d os => cell_regrown r2' d os
      replace KT2 := Lib.hid (fun d os => KT2.out (grow (redrawn wq d) os) (hBW2.out.trans ((below_regrown wq d os).mono hBW2.out.size)))
      clear ho hqr hBW bq x0 x1 x2 r2 r2'
      go_wp2
      refine wp_region_quiet_below (by kernel_rfl) (by kernel_rfl) ?_
      repeat (go_big_quiet_step (first | (go_at_call 64; exact Calls.regrown_of (KT2.out _ _))))
      refine wpQuiet_nil ?_
      intro _ hw'
      obtain ⟨pq2, hw''⟩ := hw'
      have bq := below_regrown wq pq2.d pq2.os
      rw [← hw''] at bq
      clear hw'' y0 y1 y2 y3 KT2
      rename_i wq2
      have ho3 := Lib.hid (ho2.out.below bq (Nat.le_refl _))
      have hqr3 := Lib.hid (hqr2.out.below bq (Nat.le_refl _))
      have hsz3 := bq.size
      have hBW3 := Lib.hid (hBW2.out.trans (bq.mono hBW2.out.size))
      have hs3 := hBW3.out.size
      clear ho2 hqr2 hBW2 bq
      by_cases he1 : tx = ⟨#[]⟩
      · have hx1 : tx.toList.isEmpty = true := by rw [empty_list]; exact decide_eq_true he1
        have hE := Lib.hid (hno.out (by simp [he1]))
        replace he1 := Lib.hid he1
        go_wp2
        go_ret
        exact ⟨_, rfl, by rw [hE.out]; exact owns_empty (Blk.new _ _ _) (by have := hB.out.size; omega), (hB.out.trans (hBW3.out.mono hB.out.size)).alloc (by have := hB.out.size; omega) _⟩
      · have hx1 : tx.toList.isEmpty = false := by rw [empty_list]; exact decide_eq_false he1
        by_cases he2 : ty = ⟨#[]⟩
        · have hx2 : ty.toList.isEmpty = true := by rw [empty_list]; exact decide_eq_true he2
          have hE := Lib.hid (hno.out (by simp [he2]))
          replace he1 := Lib.hid he1
          replace he2 := Lib.hid he2
          go_wp2
          go_ret
          exact ⟨_, rfl, by rw [hE.out]; exact owns_empty (Blk.new _ _ _) (by have := hB.out.size; omega), (hB.out.trans (hBW3.out.mono hB.out.size)).alloc (by have := hB.out.size; omega) _⟩
        · have hx2 : ty.toList.isEmpty = false := by rw [empty_list]; exact decide_eq_false he2
          have hE := Lib.hid (hyes.out (by simp [he1, he2]))
          replace he1 := Lib.hid he1
          replace he2 := Lib.hid he2
          have u1 : (⟨#[32]⟩ : ByteArray).size = 1 := rfl
          have u2 : (tx ++ ⟨#[32]⟩).size = tx.size + 1 := by rw [ByteArray.size_append, u1]
          have u3 : ¬ (9223372036854775807 < tx.size + 1) := by omega
          have u4 : ¬ (9223372036854775807 < tx.size + 1 + ty.size) := by omega
          have m1 := Lib.hid (show out.length + 1 ≤ maxLen by unfold maxLen; omega)
          have m2 := Lib.hid (show (out.length + 1) * 16 ≤ 140737488355328 by omega)
          go_wp2_with (at_builtin; refine wpList_app _ rfl (.tmp 40) (.tmp 45) _ rfl W.heap.size 9 i0 _ 16 Try.underlying40 hi hz0 hz1 hz2 rfl (.slice A5 out.length c5) _ _ rfl (World.ownsRow.alloc ho3.out _) (some ⟨wq2.heap.size, 0, none⟩) 1 1 [.string (tx ++ ⟨#[32]⟩ ++ ty)] rfl (Src.one (Blk.new _ _ _) rfl) m1.out m2.out (by have := hBW3.out.size; simp; omega) ?_; intro v6 w6 ho6 hg6 hv6)
          have hB7 := Lib.hid (below_own (hBW3.out.alloc hBW3.out.size _) (World.ownsRow.alloc ho3.out _) hg6 (by have := hBW3.out.size; simp; omega) (Nat.le_refl _))
          have hq7 := Lib.hid ((hqr3.out.kept (row := none) (World.grownBy_alloc wq2 _ none) (by simp)).kept hg6 hsep.out)
          have hs7 := Lib.hid (Sep.next hsep.out hA1.out (by simp; omega) hv6)
          have hz7 := hg6.size
          simp only [World.size_alloc] at hz7
          have ho7 := Lib.hid (own_snoc4 ho6)
          clear ho6 hg6 hv6
          go_wp2
          go_roundw
          case rel => exact ⟨k + 1, by omega, by go_num, hE.out, by rw [hgo.out]; exact ho7.out, hB7.out, hq7.out, hs7.out, by omega⟩
          case measure => simp [intOf]; omega
    · obtain rfl : k = q.length := by omega
      have hE := Lib.hid (okTo_end hok)
      obtain ⟨A5, c5, rfl, -⟩ := ho.strs
      replace ho := Lib.hid ho
      replace hBW := Lib.hid hBW
      go_wp2
      go_ret
      exact ⟨_, rfl, by rw [hE.out]; exact ho.out.mono hB.out.size, hB.out.trans (hBW.out.mono hB.out.size)⟩
end Go.Proofs.Ytfcjhelhhefkkaa
