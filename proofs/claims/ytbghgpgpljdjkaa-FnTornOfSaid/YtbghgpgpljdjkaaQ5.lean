/-
  The model's TornOf.
-/
import Derived.Test.YtbghgpgpljdjkaaQ4
import Derived.Test.YtbghgpgpljdjkaaMathF
import Derived.Lib.QuietBelow
namespace Go.Proofs.Ytbghgpgpljdjkaa
open Go.RowKit

theorem ways_at {l : List ByteArray} (hc : codeOk l = true) {s : ByteArray} (hs : s.size ≤ 24) (p : Nat) : waysV l (s.extract p s.size) = ((wf l s p : Nat) : Int) := by
  rw [waysV_yes hc (by rw [ByteArray.size_extract]; omega), wf_from]
/-- A row of texts and a Bool are told. -/
def RetTorn (w : World) (xs : List ByteArray) (b : Bool) (e : Ending) (w' : World) : Prop := ∃ v, e = .returned (.tuple #[v, .bool b]) ∧ OwnStrs w' w.heap.size v xs ∧ Below w.heap.size w w'

set_option maxRecDepth 100000 in
set_option maxHeartbeats 2000000 in
theorem specTornOf_any (A : Option Addr) (n c : Nat) (l : List ByteArray) (s : ByteArray) (w : World) (h : Strs w A n c l) (hn : n ≤ 2097152) (hs : ∀ x ∈ l, x.size ≤ 1048576) (hz : s.size ≤ 1048576) :
    Calls Try.prog 37 #[.slice A n c, .string s] w (RetTorn w (tornOf l s) (tornB l s)) := by
  obtain ⟨i0, hi, hz0, hz1, hz2⟩ := info_parts str_info
  have HK := Lib.hid (specWaysOf_any A n c l s w h hn hs hz)
  have HS := Lib.hid h
  have HWa := Lib.hid (fun s' W (hb : Below w.heap.size w W) (hz : s'.size ≤ 1048576) => specWaysOf_any A n c l s' W (h.below hb (Nat.le_refl _)) hn hs hz)
  obtain ⟨rfl, hcap, hat⟩ := h
  replace hat := Lib.hid hat
  clear hs
  by_cases hv : waysV l s = 1 ∧ s.size ≠ 0
  · obtain ⟨hv1, hv0⟩ := hv
    obtain ⟨hok, h24, h1⟩ := waysV_one hv1
    rw [torn_yes hv1 hv0]
    have HT := Lib.hid (fun a ha => torn_eq (a := a) hv1 hv0 ha)
    have HWy := Lib.hid (fun p W (hb : Below w.heap.size w W) => by
      have := HWa.out (s.extract p s.size) W hb (by rw [ByteArray.size_extract]; omega)
      rw [ways_at hok h24] at this
      exact this)
    have hl6 := (codeOk_iff.1 hok).1.2
    have HLn := Lib.hid (fun k (hk : k < l.length) => codeOk_len hok (getD_mem hk))
    have HF := Lib.hid (fun p hp h1 => way_found hok (s := s) (p := p) hp h1)
    have HG := Lib.hid (fun p out k (h : TornInv l s p out) (hk : k < l.length) => h.go hok (getD_mem hk))
    have hst := Lib.hid (TornInv.start h1)
    rw [hv1] at HK
    have hv0' : ((s.size : Int) == 0) = false := by rw [beq_eq_false_iff_ne]; omega
    replace hok := Lib.hid hok
    clear HWa hv1
    go_enter Try.func37, Try.ntmps37
    go_wp2_with (fail)
    refine HK.out.mono ?_
    rintro e w1 ⟨rfl, b1⟩
    replace b1 := Lib.hid b1
    go_wp2
    go_loopw [6, 7] (fun s6 s7 wr => ∃ (p : Nat) (out : List ByteArray), s7 = .int .i64 p ∧ LW w s6 out wr ∧ TornInv l s p out) (fun _ i _ => s.size - (intOf i).toNat)
    case atStart => exact ⟨0, [], rfl, ⟨owns_empty (Blk.new w1 9 #[]) b1.out.size, b1.out.alloc b1.out.size _⟩, hst.out⟩
    case round =>
      obtain ⟨p, out, rfl, hW, hI⟩ := hrel
      obtain ⟨A6, c6, rfl, -⟩ := hW.own.strs
      have hple := hI.le
      by_cases hlt : p < s.size
      · have HFp := Lib.hid (HF.out p hlt hI.one)
        have hol := hI.len
        replace hW := Lib.hid hW
        replace hI := Lib.hid hI
        go_wp2
        go_loopw [6, 7, 8] (fun s6 s7 s8 wr => ∃ (k : Nat), k ≤ l.length ∧ s8 = .int .i64 k ∧ s6 = .slice A6 out.length c6 ∧ s7 = .int .i64 p ∧ LW w (.slice A6 out.length c6) out wr ∧ (∀ i, i < k → fitsAt s p (l.getD i ByteArray.empty) = true → wf l s (p + (l.getD i ByteArray.empty).size) ≠ 1)) (fun _ _ i _ => l.length - (intOf i).toNat)
        case atStart => exact ⟨0, Nat.zero_le _, rfl, rfl, rfl, hW.out, fun i hi => absurd hi (by omega)⟩
        case round =>
          clear hW
          obtain ⟨k, hk, rfl, rfl, rfl, hW, hno⟩ := hrel
          by_cases hkt : k < l.length
          · obtain ⟨b, o, rfl, hbo, hc⟩ := hat.out (by omega)
            have ck := (hW.low.cell (p := ⟨b, o + k, none⟩) hbo).trans (hc k hkt)
            have hcw := Lib.hid (hc k hkt)
            have hzk := HLn.out k hkt
            have HGk := Lib.hid (HG.out p out k hI.out hkt)
            have HN : Hid ((fitsAt s p (l.getD k ByteArray.empty) = true → wf l s (p + (l.getD k ByteArray.empty).size) ≠ 1) → ∀ i, i < k + 1 → fitsAt s p (l.getD i ByteArray.empty) = true → wf l s (p + (l.getD i ByteArray.empty).size) ≠ 1) := fun hh i hi => by
              by_cases e : i = k
              · subst e; exact hh
              · exact hno i (by omega)
            have hfl := Lib.hid (fun hf => fits_le (s := s) (p := p) (u := l.getD k ByteArray.empty) (by omega) hf)
            clear hc hno
            generalize l.getD k ByteArray.empty = y at *
            have HB := Lib.hid (fun W => begins_any (s.extract p s.size) y W (by rw [ByteArray.size_extract]; omega) (by omega))
            replace hW := Lib.hid hW
            have f1 : (p : Int) ≤ (s.size : Int) := by omega
            have f0 : (0 : Int) ≤ (p : Int) := by omega
            go_upto_region 9 with (fail)
            cases hb2 : beg (s.extract p s.size) y
            · have hb : fitsAt s p y = false := hb2
              have hg := Lib.hid (HN.out (fun h => by rw [hb] at h; cases h))
              have hbc := Lib.hid (fun W => by have := HB.out W; rw [hb2] at this; exact this)
              clear hb hb2
              go_quiet ((go_at_call 53; exact quiet_same (hbc.out _)))
              have hW2 := Lib.hid (hW.out.drewN nq)
              go_wp2
              go_roundw
              case rel => exact ⟨k+1, by omega, by go_num, rfl, rfl, hW2.out, hg.out⟩
              case measure => simp [intOf]; omega
            · have hb : fitsAt s p y = true := hb2
              have hle := hfl.out hb
              have hbc := Lib.hid (fun W => by have := HB.out W; rw [hb2] at this; exact this)
              have HWq : ∀ d os, Calls Try.prog 34 #[.slice (some ⟨b, o, none⟩) l.length c, .string (s.extract (p + y.size) s.size)] (Go.Sort.grow (redrawn wr d) os) fun e w' => e = .returned (.int .i64 ((wf l s (p + y.size) : Nat) : Int)) ∧ Below (Go.Sort.grow (redrawn wr d) os).heap.size (Go.Sort.grow (redrawn wr d) os) w' := fun d os => HWy.out _ _ (hW.out.low.trans ((below_regrown wr d os).mono hW.out.low.size))
              replace HWq := Lib.hid HWq
              have HGf := Lib.hid (HGk.out hb)
              have HNf := Lib.hid (fun h1 => HN.out (fun _ => h1))
              have v2 : (0 : Int) ≤ (p : Int) + (y.size : Int) := by omega
              have v4 : (p : Int) + (y.size : Int) ≤ (s.size : Int) := by omega
              have v5 : p + y.size ≤ s.size := hle
              have v3 : ((p : Int) + (y.size : Int)).toNat = p + y.size := by omega
              have v1 : IntKind.i64.wrap ((p : Int) + (y.size : Int)) = (p : Int) + (y.size : Int) := IntWalk.i64_in _ (by omega)
              clear hb hb2 HB HGk HN hfl
              generalize wf l s (p + y.size) = F at *
              refine wp_region_quiet_below (by kernel_rfl) (by kernel_rfl) ?_
              have ckr := cell_regrown ck
              repeat (go_big_quiet_step (first | (go_at_call 53; exact Calls.regrown_of ((hbc.out _).mono fun _ _ ⟨he, hw⟩ => ⟨he, hw ▸ Below.refl _ _⟩)) | (go_at_call 34; exact Calls.regrown_of (HWq.out _ _))))
              refine wpQuiet_nil ?_
              intro _ hw'
              obtain ⟨pq, hw''⟩ := hw'
              have bq := below_regrown wr pq.d pq.os
              subst hw''
              have hW2 := Lib.hid (hW.out.below bq)
              have ck2 := (bq.cell (p := ⟨b, o + k, none⟩) (lt_of_cell ck)).trans ck
              clear hW ck ckr bq HWq v1 v2 v3 v4
              generalize Go.Sort.grow (redrawn wr pq.d) pq.os = W2 at *
              by_cases hF1 : F = 1
              · subst hF1
                have hI2 := Lib.hid (HGf.out rfl)
                have m1 := Lib.hid (show out.length + 1 ≤ maxLen by unfold maxLen; omega)
                have m2 := Lib.hid (show (out.length + 1) * 16 ≤ 140737488355328 by omega)
                have hWB := hW2.out.low.size
                go_upto_region 11 with (at_builtin; refine wpList_app _ rfl (.tmp 52) (.tmp 57) _ rfl w.heap.size 9 i0 _ 16 Try.underlying23 hi hz0 hz1 hz2 rfl (.slice A6 out.length c6) _ _ rfl (World.ownsRow.alloc hW2.out.own _) (some ⟨W2.heap.size, 0, none⟩) 1 1 [.string y] rfl (Src.one (Blk.new _ _ _) rfl) m1.out m2.out (by simp; omega) ?_; intro v6 w6 ho6 hg6 hat6)
                have hg0 : W2.grownBy (W2.alloc (.cells #[.string y] 9)) (Value.slice A6 out.length c6).ownBlock := grown_of_below _ ((Below.refl _ _).alloc (Nat.le_refl _) _)
                have ho : OwnStrs w6 w.heap.size v6 (out ++ [y]) := by
                  unfold OwnStrs
                  simpa using ho6
                have hW6 := hW2.out.turn ho (hg0.trans hg6)
                have ck6 := (hW6.low.cell (p := ⟨b, o + k, none⟩) hbo).trans hcw.out
                generalize out ++ [y] = out2 at *
                obtain ⟨A7, c7, rfl, -⟩ := ho.strs
                replace hW6 := Lib.hid hW6
                clear ho hg0 ho6 hg6 hat6 ck2 hW2
                go_wp2
                go_roundw
                case rel => exact ⟨p + y.size, out2, by go_num, hW6.out, hI2.out⟩
                case measure => simp [intOf]; omega
              · have hF0 : ((F : Int) == 1) = false := by rw [beq_eq_false_iff_ne]; omega
                have hg := Lib.hid (HNf.out hF1)
                replace hF1 := Lib.hid hF1
                go_wp2
                go_roundw
                case rel => exact ⟨k+1, by omega, by go_num, rfl, rfl, hW2.out, hg.out⟩
                case measure => simp [intOf]; omega
          · exfalso
            obtain rfl : k = l.length := by omega
            exact HFp.out hno
      · obtain rfl : p = s.size := by omega
        have hf := Lib.hid (HT.out _ hI.end_)
        replace hW := Lib.hid hW
        clear hI
        go_wp2
        go_ret2
        exact ⟨_, rfl, by rw [hf.out]; exact hW.out.own, hW.out.low⟩
  · obtain ⟨t1, t2⟩ := torn_not hv
    rw [t1, t2]
    by_cases h1 : waysV l s = 1
    · have h0 : s.size = 0 := by
        by_cases h0 : s.size = 0
        · exact h0
        · exact absurd ⟨h1, h0⟩ hv
      have h0' : ((s.size : Int) == 0) = true := by rw [h0]; rfl
      rw [h1] at HK
      clear HWa hv h1
      go_enter Try.func37, Try.ntmps37
      go_wp2_with (fail)
      refine HK.out.mono ?_
      rintro e w1 ⟨rfl, b1⟩
      replace b1 := Lib.hid b1
      go_wp2
      go_ret2
      exact ⟨_, rfl, owns_empty (Blk.new w1 9 #[]) b1.out.size, b1.out.alloc b1.out.size _⟩
    · have h1' : (waysV l s != 1) = true := by rw [bne_iff_ne]; exact h1
      clear HWa hv
      generalize waysV l s = V at *
      replace h1 := Lib.hid h1
      go_enter Try.func37, Try.ntmps37
      go_wp2_with (fail)
      refine HK.out.mono ?_
      rintro e w1 ⟨rfl, b1⟩
      replace b1 := Lib.hid b1
      go_wp2
      go_ret2
      exact ⟨_, rfl, owns_empty (Blk.new w1 9 #[]) b1.out.size, b1.out.alloc b1.out.size _⟩
end Go.Proofs.Ytbghgpgpljdjkaa
