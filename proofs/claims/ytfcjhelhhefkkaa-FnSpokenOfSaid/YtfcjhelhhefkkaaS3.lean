/-
  The contracts of what the model says of a row: a number's text, l11Said and SaidOf.
-/
import Derived.Lib.QuietBelow
import Derived.Laws.IdiomStrings
import Derived.Test.YtfcjhelhhefkkaaS2
namespace Go.Proofs.Ytfcjhelhhefkkaa
open Go.RowKit Go.Lib Go.Sort

/-- A digit's text. -/
def digitT (t : Nat) : ByteArray := ⟨#[UInt8.ofNat (48 + t)]⟩

set_option maxRecDepth 100000 in
set_option maxHeartbeats 2000000 in
theorem number_any (t : Nat) (ht : t ≤ 9) (w : World) :
    Calls Try.prog 78 #[.int .i64 t] w fun e w' => e = .returned (.string (digitT t)) ∧ Below w.heap.size w w' := by
  unfold digitT
  have hn0 := ofNat_48 ht
  generalize UInt8.ofNat (48 + t) = b at *
  have hn : (b.toNat : Int) = 48 + (t : Int) := by omega
  have h10 : (t : Int) < 10 := by omega
  have hneg : ¬ (t : Int) < 0 := by omega
  have hw64 : IntKind.i64.wrap (48 + (t : Int)) = 48 + (t : Int) := IntWalk.i64_in _ (by omega)
  have hw8 : IntKind.u8.wrap (48 + (t : Int)) = 48 + (t : Int) := IntWalk.u8_in _ (by omega)
  have hback := run_convert_bytes_back (P := Try.prog) (w.alloc (.cells #[.int .u8 (48 + t)] 5)) 22 9 5 ⟨w.heap.size, 0, none⟩ 1 [b] Try.underlying22 Try.underlying5 Try.underlying9 (by
    intro j hj
    have hj0 : j = 0 := by simp at hj; omega
    subst hj0
    rw [List.getElem_cons_zero, hn]
    simp [Addr.add])
  have hB := Lib.hid ((Below.refl w.heap.size w).alloc (Nat.le_refl _) (.cells #[.int .u8 (48 + t)] 5))
  simp only [List.length_cons, List.length_nil, Nat.zero_add] at hback
  clear hn hn0
  go_enter Try.func78, Try.ntmps78
  go_wp2
  go_ret
  exact ⟨rfl, hB.out⟩

def sayTo (q : List RunB) (k : Nat) : ByteArray := ⟨(said (q.take k)).toArray⟩
theorem sayTo_go {q : List RunB} {k : Nat} {x : RunB} (h : q[k]? = some x) (hx : okRun x = true) : sayTo q k ++ digitT x.1 ++ digitT (x.2.toNat - 48) = sayTo q (k + 1) := by
  refine tl_inj ?_
  have hk : k < q.length := by
    rcases Nat.lt_or_ge k q.length with h1 | h1
    · exact h1
    · rw [List.getElem?_eq_none h1] at h; cases h
  have e : q[k] = x := by rw [List.getElem?_eq_getElem hk] at h; exact Option.some.inj h
  obtain ⟨t, c⟩ := x
  have hc := (okRun_iff _).1 hx
  simp only at hc
  have e48 : UInt8.ofNat (48 + (c.toNat - 48)) = c := by
    rw [show 48 + (c.toNat - 48) = c.toNat by omega, UInt8.ofNat_toNat]
  rw [tl_app, tl_app]
  simp only [sayTo, tl, digitT, List.take_succ_eq_append_getElem hk, e, said_app, e48]
  simp [said]
theorem sayTo_size (q : List RunB) (k : Nat) : (sayTo q k).size ≤ 2 * q.length := by
  have : (sayTo q k).size = (said (q.take k)).length := by simp [sayTo, ByteArray.size]
  rw [this, said_len, List.length_take]; omega
theorem runsL_ok {l : List UInt8} {x : RunB} (h : x ∈ runsL l) : okRun x = true := by
  cases e : rowL l
  · rw [runsL_no e] at h; cases h
  · rw [runsL_yes e] at h; exact (rowL_iff.1 e).2 x h
theorem runsL_len (l : List UInt8) : (runsL l).length ≤ 60 := by
  cases e : rowL l
  · rw [runsL_no e]; simp
  · rw [runsL_yes e]; have := runs_len l; have := row_len e; omega

set_option maxRecDepth 100000 in
set_option maxHeartbeats 4000000 in
theorem l11Said_any (s : ByteArray) (w : World) (hs : s.size ≤ 2097152) :
    Calls Try.prog 58 #[.string s] w fun e w' => e = .returned (.string ⟨(said (runsL (tl s))).toArray⟩) ∧ Below w.heap.size w w' := by
  have hR := specRunsOf_any s w hs
  have hL := runsL_len (tl s)
  have hOK := Lib.hid (fun x (h : x ∈ runsL (tl s)) => runsL_ok h)
  have hEnd : sayTo (runsL (tl s)) (runsL (tl s)).length = ⟨(said (runsL (tl s))).toArray⟩ := by simp [sayTo]
  replace hEnd := Lib.hid hEnd
  generalize runsL (tl s) = q at *
  go_enter Try.func58, Try.ntmps58
  go_wp2_with (fail)
  refine hR.mono ?_
  rintro e W ⟨v, rfl, ho, hB⟩
  obtain ⟨A, c, rfl, hq⟩ := ho.runs
  replace hq := Lib.hid hq
  replace hB := Lib.hid hB
  clear ho hR
  go_wp2
  go_loopw [3, 5] (fun o i wr => ∃ k : Nat, k ≤ q.length ∧ o = .string (sayTo q k) ∧ i = .int .i64 k ∧ Below W.heap.size W wr) (fun _ i _ => q.length - (intOf i).toNat)
  case atStart => exact ⟨0, Nat.zero_le _, rfl, rfl, Below.refl _ _⟩
  case round =>
    obtain ⟨k, hk, rfl, rfl, hb⟩ := hrel
    by_cases hlt : k < q.length
    · have hx : q[k]? = some q[k] := List.getElem?_eq_getElem hlt
      have hxo := hOK.out _ (List.getElem_mem hlt)
      generalize q[k] = x at *
      obtain ⟨t, ch⟩ := x
      obtain ⟨h1, h2, h3⟩ := (okRun_iff _).1 hxo
      simp only at h1 h2 h3
      have hgo := Lib.hid (sayTo_go hx hxo)
      have hsz := sayTo_size q k
      obtain ⟨b, o, rfl, hbl, hc⟩ := (hq.out.below hb (Nat.le_refl _)).at_ (by omega)
      obtain ⟨c1, c2⟩ := hc k _ hx
      rw [show ((ch.toNat : Int) - 48) = ((ch.toNat - 48 : Nat) : Int) by omega] at c2
      simp only at c1 hgo
      have hd9 : ch.toNat - 48 ≤ 9 := by omega
      generalize ch.toNat - 48 = d at *
      have z1 : (digitT t).size = 1 := rfl
      have z2 : (digitT d).size = 1 := rfl
      have y1 : (sayTo q k ++ digitT t).size = (sayTo q k).size + 1 := by rw [ByteArray.size_append, z1]
      generalize sayTo q k = out at *
      have y2 : ¬ 9223372036854775807 < out.size + 1 := by omega
      have y3 : ¬ 9223372036854775807 < out.size + 1 + 1 := by omega
      have c1' := fun d os => cell_regrown c1 d os
      have c2' := fun d os => cell_regrown c2 d os
      have cs := run_cells
      replace hb := Lib.hid hb
      clear hc hxo h1 h2 c1 c2 hx
      go_wp2
      refine wp_region_quiet_below (by kernel_rfl) (by kernel_rfl) ?_
      repeat (go_big_quiet_step (first | (go_at_call 78; exact Calls.regrown_of (number_any _ (by assumption) _))))
      refine wpQuiet_nil ?_
      intro _ hw'
      obtain ⟨pq, hw''⟩ := hw'
      have HBq := Lib.hid (hb.out.trans ((below_regrown wr pq.d pq.os).mono hb.out.size))
      subst hw''
      clear c1' c2'
      go_wp2
      go_roundw
      case rel => exact ⟨k + 1, by omega, by rw [hgo.out], by go_num, HBq.out⟩
      case measure => simp [intOf]; omega
    · obtain rfl : k = q.length := by omega
      rw [hEnd.out]
      replace hb := Lib.hid (hB.out.trans (hb.mono hB.out.size))
      go_wp2
      go_ret
      exact ⟨rfl, hb.out⟩
end Go.Proofs.Ytfcjhelhhefkkaa
