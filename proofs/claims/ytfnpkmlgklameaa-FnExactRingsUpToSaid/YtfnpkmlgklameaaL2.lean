/-
  The contract of RingFrom of the model.
-/
import Derived.Test.YtfnpkmlgklameaaL1
import Derived.Test.YtfnpkmlgklameaaLK
import Derived.Lib.QuietBelow
namespace Go.Proofs.Ytfnpkmlgklameaa
open Go.RowKit Go.Sort

set_option maxRecDepth 100000 in
set_option maxHeartbeats 4000000 in
theorem specRingFrom_any (v : Value) (t : Tg) (n : Int) (w : World) (h : Tng w v t) (hf : t.Fine) (hn : -9223372036854775808 ≤ n ∧ n ≤ 9223372036854775807) :
    Calls Try.prog 23 #[v, .int .i64 n] w (RetI2 w (ringF (lettersOf t) n) (okF (lettersOf t) n)) := by
  obtain ⟨i0, hi, hz0, hz1, hz2⟩ := info_parts int_info
  obtain ⟨A1, c1, A2, c2, A3, c3, rfl, -⟩ := h.ex
  have hB := (Below.refl w.heap.size w).alloc (Nat.le_refl _) (.cells #[.slice A1 t.us.length c1, .slice A2 t.bs.length c2, .slice A3 t.ns.length c3] 26)
  have HX := Blk.new w 26 #[.slice A1 t.us.length c1, .slice A2 t.bs.length c2, .slice A3 t.ns.length c3]
  have HT := h.below hB (Nat.le_refl _)
  have hbd := Lib.hid (letters_bd t)
  have hneg := Lib.hid (letters_neg t)
  have hib := Lib.hid (itF_bd (letters_bd t) hn)
  have KL := Lib.hid (fun x W (hT : Tng W (.agg #[.slice A1 t.us.length c1, .slice A2 t.bs.length c2, .slice A3 t.ns.length c3]) t) hx => specLettersOf_any _ t x W hT hf hx)
  generalize lettersOf t = f at *
  replace hB := Lib.hid hB
  replace HX := Lib.hid HX
  replace HT := Lib.hid HT
  clear h hf
  go_enter Try.func23, Try.ntmps23
  go_upto_region 1 with (fail)
  generalize w.alloc (.cells #[.slice A1 t.us.length c1, .slice A2 t.bs.length c2, .slice A3 t.ns.length c3] 26) = W at *
  go_wp2
  go_loopw [6, 7] (fun s6 s7 wr => ∃ k : Nat, k ≤ 200 ∧ s7 = .int .i64 k ∧ OwnI wr W.heap.size s6 (seenL f n k) ∧ Below W.heap.size W wr ∧ ∀ a b, a < b → b ≤ k → itF f a n ≠ itF f b n) (fun _ s7 _ => 200 - (intOf s7).toNat)
  case atStart => exact ⟨0, by omega, rfl, owns_blk (Blk.new _ _ _) rfl (Nat.le_refl _) (by unfold maxLen; simp), (Below.refl _ _).alloc (Nat.le_refl _) _, fun a b h1 h2 => by omega⟩
  case round =>
    obtain ⟨k, hk, rfl, ho, hBr, hap⟩ := hrel
    have hsl := seen_len f n k
    have hsat := Lib.hid (fun i (hi : i ≤ k) => seen_at f n hi)
    have hss := Lib.hid (seen_succ f n k)
    have hwB := hB.out.trans (hBr.mono hB.out.size)
    by_cases hlt : k < 200
    · obtain ⟨gs, cs, rfl, -, hgl⟩ := World.ownsRow.form ho (by omega)
      have hdrop := Lib.hid (fun j (hr : RingIs f n j (k + 1 - j)) (hj : j ≤ k) (hok : okF f n = true) => seen_ring hr hj hok)
      have hints := ho.ints
      obtain ⟨As, cs', es, hints⟩ := hints
      cases es
      rw [hsl] at hints
      have HTr := HT.out.below hBr (Nat.le_refl _)
      obtain ⟨x0, x1, x2, -, -, -⟩ := blk3 (HX.out.below hBr HX.out.lt)
      obtain ⟨gb, go_, eg, -, hc⟩ := hints.at_ (by omega)
      cases eg
      have ck := hc k (by omega)
      rw [hsat.out k (Nat.le_refl _), Nat.zero_add] at ck
      have KD := fun d os => KL.out (itF f k n) (grow (redrawn wr d) os) (HTr.below (below_regrown wr d os) (Nat.le_refl _)) (hib.out k)
      have hnb := hbd.out (itF f k n)
      have hnx : itF f (k + 1) n = f (itF f k n) := rfl
      have hno := Lib.hid (fun (h : itF f (k + 1) n < 0) => ok_neg hbd.out hneg.out h)
      have hfound := Lib.hid (fun j (hj : j ≤ k) (he : itF f j n = itF f (k + 1) n) => ring_found hj hap he)
      have y0 := fun d os => cell_regrown x0 d os
      have y1 := fun d os => cell_regrown x1 d os
      have y2 := fun d os => cell_regrown x2 d os
      have u1 := fun d os => cell_regrown ck d os
      have hseen : Hid (∀ j, j < k + 1 → wr.cell? ⟨gs, j, none⟩ = some (.int .i64 (itF f j n))) := fun j hj => by rw [← Nat.zero_add j, hc j hj, hsat.out j (by omega), Nat.zero_add]
      generalize hxk : itF f k n = xk at *
      generalize hfx : f xk = nx at *
      replace KD := Lib.hid KD
      replace ho := Lib.hid ho
      replace hBr := Lib.hid hBr
      replace hap := Lib.hid hap
      replace hints := Lib.hid hints
      replace hwB := Lib.hid hwB
      replace hnx := Lib.hid hnx
      have e1 : IntKind.i64.wrap (((k + 1 : Nat) : Int) - 1) = (k : Int) := by rw [show ((k + 1 : Nat) : Int) - 1 = (k : Int) by omega]; exact IntWalk.i64_in _ (by omega)
      have hlt' : (k : Int) < 200 := by omega
      clear hc HTr ck hxk hfx
      go_upto_region 5 with (fail)
      refine wp_region_quiet_below (by kernel_rfl) (by kernel_rfl) ?_
      repeat (go_big_quiet_step (first | (go_at_call 15; exact Calls.regrown_of (KD.out _ _))))
      refine wpQuiet_nil ?_
      intro _ hw'
      obtain ⟨pq, hw''⟩ := hw'
      have bq := below_regrown wr pq.d pq.os
      have hBq := Lib.hid (hBr.out.trans (bq.mono hBr.out.size))
      have hWq := Lib.hid (hwB.out.trans (bq.mono hwB.out.size))
      have hoq := Lib.hid (ho.out.below bq (Nat.le_refl _))
      have hiq := Lib.hid (hints.out.below bq (Nat.le_refl _))
      have hcq : Hid (∀ j, j < k + 1 → (grow (redrawn wr pq.d) pq.os).cell? ⟨gs, j, none⟩ = some (.int .i64 (itF f j n))) := fun j hj => (bq.cell (p := ⟨gs, j, none⟩) hgl).trans (hseen.out j hj)
      subst hw''
      clear y0 y1 y2 u1 x0 x1 x2 bq hBr hwB ho hints hseen KD
      generalize grow (redrawn wr pq.d) pq.os = W2 at *
      by_cases hx0 : nx < 0
      · have hok := Lib.hid (hno.out (by rw [hnx.out]; exact hx0))
        have hr := Lib.hid (ring_no hok.out).1
        go_wp2
        go_ret2
        exact ⟨some ⟨W2.heap.size, 0, none⟩, 0, by rw [hok.out, hr.out]; rfl, by rw [hr.out]; exact ints_nil _ _ _ _, hWq.out.alloc hWq.out.size _⟩
      · have hnx0 := Lib.hid (show 0 ≤ nx by omega)
        go_wp2
        go_loop [9] (fun s9 => ∃ j : Nat, j ≤ k + 1 ∧ s9 = .int .i64 j ∧ ∀ i, i < j → itF f i n ≠ nx) (fun s9 => k + 1 - (intOf s9).toNat)
        case atStart => exact ⟨0, by omega, rfl, fun i hi => by omega⟩
        case round =>
          obtain ⟨j, hj, rfl, hjs⟩ := hrel
          by_cases hj2 : j < k + 1
          · have cj := hcq.out j hj2
            by_cases he : itF f j n = nx
            · have hRI := hfound.out j (by omega) (by rw [hnx.out]; exact he)
              have hok : okF f n = true := by rw [hRI.ok]; exact decide_eq_true ⟨by rw [he]; exact hnx0.out, by omega⟩
              have hdr := hiq.out.dropI (m := j) (by omega)
              rw [hdrop.out j hRI (by omega) hok] at hdr
              have hrl : (ringF f n).length = k + 1 - j := hdr.len
              have hcs := hiq.out.le
              rw [he] at cj
              have hnn : (nx == nx) = true := by simp
              have q1 : (j : Int) ≤ ((k + 1 : Nat) : Int) := by omega
              have q2 : ¬ j = cs := by omega
              have q3 : j ≤ k + 1 := by omega
              replace hdr := Lib.hid hdr
              replace hrl := Lib.hid hrl
              replace hok := Lib.hid hok
              replace hRI := Lib.hid hRI
              replace hjs := Lib.hid hjs
              clear he
              go_wp2
              go_ret2
              exact ⟨some ⟨gs, j, none⟩, cs - j, by rw [hok.out, hrl.out]; rfl, by rw [hrl.out]; simpa using hdr.out, hWq.out⟩
            · have hnn : (itF f j n == nx) = false := by rw [beq_eq_false_iff_ne]; exact he
              have hjs2 : Hid (∀ i, i < j + 1 → itF f i n ≠ nx) := fun i hi => by
                by_cases e : i = j
                · subst e; exact he
                · exact hjs i (by omega)
              generalize itF f j n = xj at *
              clear hjs
              go_wp2
              go_round
              case rel => exact ⟨j + 1, by omega, by go_num, hjs2.out⟩
              case measure => simp [intOf]; omega
          · obtain rfl : j = k + 1 := by omega
            have hap2 : Hid (∀ a b, a < b → b ≤ k + 1 → itF f a n ≠ itF f b n) := fun a b h1 h2 => by
              by_cases e : b = k + 1
              · subst e; rw [hnx.out]; exact hjs a h1
              · exact hap.out a b h1 (by omega)
            have hsz := hBq.out.size
            have m1 := Lib.hid (show k + 1 + 1 ≤ maxLen by unfold maxLen; omega)
            have m2 := Lib.hid (show (k + 1 + 1) * 8 ≤ 140737488355328 by omega)
            have hoq2 : Hid (W2.ownsRow W.heap.size 3 1 (.slice (some ⟨gs, 0, none⟩) (k + 1) cs) (k + 1) ((seenL f n k).map (Value.int .i64))) := by
              have hh := hoq.out
              unfold OwnI at hh
              rw [hsl] at hh
              exact hh
            clear hjs
            go_wp2_with (at_builtin; refine wpList_app _ rfl (.tmp 42) (.tmp 44) _ rfl W.heap.size 3 i0 _ 8 Try.underlying24 hi hz0 hz1 hz2 rfl (.slice (some ⟨gs, 0, none⟩) (k + 1) cs) _ _ rfl (World.ownsRow.alloc hoq2.out _) (some ⟨W2.heap.size, 0, none⟩) 1 1 [.int .i64 nx] rfl (Src.one (Blk.new _ _ _) rfl) m1.out m2.out (by simp; omega) ?_; intro v6 w6 ho6 hg6 _)
            have hB6 := Lib.hid (below_own (hBq.out.alloc hBq.out.size _) (World.ownsRow.alloc hoq2.out _) hg6 (by simp; omega) (Nat.le_refl _))
            have ho7 := Lib.hid (own_snocW ho6)
            rw [← hss.out] at ho7
            clear ho6 hg6
            go_wp2
            go_roundw
            case rel => exact ⟨k + 1, by omega, by go_num, ho7.out, hB6.out, hap2.out⟩
            case measure => simp [intOf]; omega
    · obtain rfl : k = 200 := by omega
      have hok := Lib.hid (ok_late hbd.out hap)
      have hr := Lib.hid (ring_no hok.out).1
      have hWq := Lib.hid hwB
      obtain ⟨gs, cs, rfl, -, -⟩ := World.ownsRow.form ho (by omega)
      clear ho
      go_wp2
      go_ret2
      exact ⟨some ⟨wr.heap.size, 0, none⟩, 0, by rw [hok.out, hr.out]; rfl, by rw [hr.out]; exact ints_nil _ _ _ _, hWq.out.alloc hWq.out.size _⟩
end Go.Proofs.Ytfnpkmlgklameaa
