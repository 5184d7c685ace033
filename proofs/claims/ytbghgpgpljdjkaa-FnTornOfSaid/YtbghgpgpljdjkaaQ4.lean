/-
  The model's ReadableOk and WaysOf.
-/
import Derived.Test.YtbghgpgpljdjkaaQ3
import Derived.Test.YtbghgpgpljdjkaaMathE
import Derived.Test.YtbghgpgpljdjkaaGA
import Derived.StillTailTactics
namespace Go.Proofs.Ytbghgpgpljdjkaa
open Go.RowKit

theorem text_none (u : ByteArray) : u.toList.isEmpty = decide (u = ByteArray.empty) := by
  rw [← str_eq, show ByteArray.empty.toList = [] by unfold ByteArray.toList; rw [ByteArray.toList.loop]; rfl]
  cases u.toList <;> rfl

set_option maxRecDepth 100000 in
set_option maxHeartbeats 1000000 in
theorem specReadableOk_any (A : Option Addr) (n c : Nat) (l : List ByteArray) (w : World) (h : Strs w A n c l) (hn : n ≤ 2097152) (hs : ∀ x ∈ l, x.size ≤ 1048576) :
    Calls Try.prog 29 #[.slice A n c] w fun e w' => e = .returned (.bool (readOk l)) ∧ Below w.heap.size w w' := by
  have HC := specCodeOk_any A n c l w h hn hs
  have KL := Lib.hid (fun m hok => left_any A n c l (w.drewN m) (h.drewN m) hok)
  have HLR := Lib.hid (fun out => left_read (l := l) (out := out))
  clear hs h
  cases hok : codeOk l
  · have hr := Lib.hid (readOk_code hok)
    rw [hok] at HC
    replace hok := Lib.hid hok
    replace HC := Lib.hid HC
    go_enter Try.func29, Try.ntmps29
    go_wp2_with (fail)
    refine HC.out.mono ?_
    rintro e _ ⟨rfl, m, rfl⟩
    go_wp2
    go_ret
    exact ⟨ret_bool hr.out.symm, below_drewN (Below.refl _ _) m⟩
  · rw [hok] at HC
    have KL2 := Lib.hid (fun m => KL.out m hok)
    have HL2 := Lib.hid (fun out => HLR.out out hok)
    replace hok := Lib.hid hok
    replace HC := Lib.hid HC
    clear KL HLR
    go_enter Try.func29, Try.ntmps29
    go_wp2_with (fail)
    refine HC.out.mono ?_
    rintro e _ ⟨rfl, m, rfl⟩
    have KLm := Lib.hid (KL2.out m)
    go_wp2_with (fail)
    refine KLm.out.mono ?_
    rintro e w2 ⟨v2, out, rfl, ho, hb, hL, h1, h2⟩
    have hR := Lib.hid (HL2.out out hL h1 h2)
    obtain ⟨A2, c2, rfl, hS⟩ := ho.strs
    obtain ⟨-, hcap2, hat⟩ := hS
    have hB := Lib.hid ((below_drewN (Below.refl w.heap.size w) m).trans (hb.mono (Nat.le_refl _)))
    replace hat := Lib.hid hat
    have hlen := dang_put hok.out hL
    clear ho hb hL h1 h2 KLm KL2 HL2
    go_wp2
    go_loop [4] (fun i => ∃ k : Nat, k ≤ out.length ∧ i = .int .i64 k ∧ (∀ i, i < k → out.getD i ByteArray.empty ≠ ByteArray.empty)) (fun i => out.length - (intOf i).toNat)
    case atStart => exact ⟨0, Nat.zero_le _, rfl, fun i hi => absurd hi (by omega)⟩
    case round =>
      obtain ⟨k, hk, rfl, hd⟩ := hrel
      by_cases hlt : k < out.length
      · obtain ⟨b, o, rfl, hbo, hc⟩ := hat.out (by omega)
        have ck := hc k hlt
        have HG := Lib.hid (neW_go hd)
        have hmem := Lib.hid (getD_mem hlt)
        generalize out.getD k ByteArray.empty = y at *
        clear hc hd
        by_cases e : y = ByteArray.empty
        · have he : y.toList.isEmpty = true := by rw [text_none]; exact decide_eq_true e
          have hr : readOk l = false := by
            cases hr : readOk l
            · rfl
            · exact absurd (e ▸ hmem.out) (hR.out.1 hr)
          replace hr := Lib.hid hr
          replace e := Lib.hid e
          go_wp2
          go_ret
          exact ⟨ret_bool hr.out.symm, hB.out⟩
        · have he : y.toList.isEmpty = false := by rw [text_none]; exact decide_eq_false e
          have hg := Lib.hid (HG.out e)
          replace e := Lib.hid e
          go_wp2
          go_round
          case rel => exact ⟨k+1, by omega, by go_num, hg.out⟩
          case measure => simp [intOf]; omega
      · obtain rfl : k = out.length := by omega
        have hr : readOk l = true := hR.out.2 (fun hm => by
          obtain ⟨i, hi, e⟩ := mem_getD hm
          exact hd i hi e)
        replace hr := Lib.hid hr
        clear hd hat
        go_wp2
        go_ret
        exact ⟨ret_bool hr.out.symm, hB.out⟩

/-- While counts by places are filled: block g holds them. -/
structure CW (w : World) (g : Nat) (xs : List Int) (wr : World) : Prop where
  blk : Blk wr g 3 (xs.map (Value.int .i64)).toArray
  low : Below w.heap.size w wr
  ge : w.heap.size ≤ g
theorem CW.drewN {w wr : World} {g : Nat} {xs : List Int} (h : CW w g xs wr) (m : Nat) : CW w g xs (wr.drewN m) := ⟨h.blk, below_drewN h.low m, h.ge⟩
theorem CW.drew {w wr : World} {g : Nat} {xs : List Int} (h : CW w g xs wr) : CW w g xs wr.drew := ⟨h.blk, h.low.drew, h.ge⟩
theorem CW.cell {w wr : World} {g p : Nat} {xs : List Int} (h : CW w g xs wr) (hp : p < xs.length) : wr.cell? ⟨g, p, none⟩ = some (.int .i64 (xs.getD p 0)) := by
  rw [h.blk.cell]; simp [List.getD_eq_getElem?_getD, hp]
theorem CW.set_ {w wr : World} {g : Nat} {xs : List Int} (h : CW w g xs wr) (q : Nat) (v : Int) : CW w g (xs.set q v) (wr.setCell ⟨g, q, none⟩ (.int .i64 v)) :=
  ⟨by
    have := h.blk.set_ q (.int .i64 v)
    have e : (xs.map (Value.int .i64)).toArray.setIfInBounds q (.int .i64 v) = ((xs.set q v).map (Value.int .i64)).toArray := by
      rw [List.setIfInBounds_toArray, List.map_set]
    rwa [e] at this, h.low.setCell h.ge _, h.ge⟩

set_option maxRecDepth 100000 in
set_option maxHeartbeats 1000000 in
theorem specWaysOf_any (A : Option Addr) (n c : Nat) (l : List ByteArray) (s : ByteArray) (w : World) (h : Strs w A n c l) (hn : n ≤ 2097152) (hs : ∀ x ∈ l, x.size ≤ 1048576) (hz : s.size ≤ 1048576) :
    Calls Try.prog 34 #[.slice A n c, .string s] w fun e w' => e = .returned (.int .i64 (waysV l s)) ∧ Below w.heap.size w w' := by
  obtain ⟨i0, hi, hz0, hz1, hz2⟩ := info_parts int_info
  have HC := specCodeOk_any A n c l w h hn hs
  obtain ⟨rfl, hcap, hat⟩ := h
  replace hat := Lib.hid hat
  cases hok : codeOk l
  · have hr := Lib.hid (waysV_code hok s)
    rw [hok] at HC
    replace hok := Lib.hid hok
    replace HC := Lib.hid HC
    go_enter Try.func34, Try.ntmps34
    go_wp2_with (fail)
    refine HC.out.mono ?_
    rintro e _ ⟨rfl, m, rfl⟩
    go_wp2
    go_ret
    exact ⟨ret_int hr.out.symm, below_drewN (Below.refl _ _) m⟩
  · rw [hok] at HC
    by_cases h24 : s.size ≤ 24
    · have hr := Lib.hid (waysV_yes hok h24)
      have hl6 := (codeOk_iff.1 hok).1.2
      have HLn := Lib.hid (fun k (hk : k < l.length) => codeOk_len hok (getD_mem hk))
      have HE := Lib.hid (fun xs h => way_end hok h24 (xs := xs) h)
      have HN := Lib.hid (fun i xs hi h => way_next hok (s := s) (i := i) (xs := xs) hi h)
      have HP := Lib.hid (fun i k xs h hi hk hf => way_put hok (s := s) (i := i) (k := k) (xs := xs) h hi hk hf)
      have hmk := fun W => run_make_rowN (P := Try.prog) 47 3 i0 _ Try.underlying47 hi hz0 .i64 .i64 (s.size + 1) (s.size + 1) (Nat.le_refl _) (by rw [hz2]; omega) (by omega) W
      rw [hz1] at hmk
      have hmc : madeCells (Value.int IntKind.i64 0).cells ((s.size + 1) * 1) = ((List.replicate (s.size + 1) (0 : Int)).map (Value.int .i64)).toArray := by
        rw [List.map_replicate]
        apply Array.ext_getElem?
        intro i
        by_cases hh : i < s.size + 1
        · simp [madeCells, Value.cells, hh, Nat.mod_one]
        · rw [Array.getElem?_eq_none (by rw [size_madeCells]; omega), Array.getElem?_eq_none (by simp; omega)]
      obtain ⟨cs, hcs⟩ : ∃ cs, cs = ((List.replicate (s.size + 1) (0 : Int)).map (Value.int .i64)).toArray := ⟨_, rfl⟩
      rw [← hcs] at hmc
      simp only [hmc, Int.natCast_add, Int.cast_ofNat_Int] at hmk
      clear hmc
      replace hcs := Lib.hid hcs
      have h24' : ¬ (24 : Int) < (s.size : Int) := by omega
      replace hok := Lib.hid hok
      replace HC := Lib.hid HC
      clear hs
      go_enter Try.func34, Try.ntmps34
      go_wp2_with (fail)
      refine HC.out.mono ?_
      rintro e _ ⟨rfl, m, rfl⟩
      go_upto_region 4 with (fail)
      have hW0 : CW w w.heap.size (List.replicate (s.size + 1) 0) ((w.drewN m).alloc (.cells cs 3)) := ⟨by rw [← hcs.out]; exact Blk.new _ _ _, (below_drewN (Below.refl _ _) m).alloc (Nat.le_refl _) _, Nat.le_refl _⟩
      clear hmk hcs
      generalize (w.drewN m).alloc (.cells cs 3) = W at *
      have c0 := hW0.cell (p := 0) (by simp)
      have f0 := hW0.blk.frozen 0
      have hW1 := Lib.hid (hW0.set_ 0 1)
      have hV := Lib.hid (way_start l s)
      have hg0 := hW0.ge
      generalize (List.replicate (s.size + 1) (0 : Int)).set 0 1 = xs0 at *
      replace hW0 := Lib.hid hW0
      go_upto_region 5 with (fail)
      clear c0 f0 hW0
      generalize W.setCell ⟨w.heap.size, 0, none⟩ (.int .i64 1) = W1 at *
      go_wp2
      go_loopw [6] (fun s6 wr => ∃ (i : Nat) (xs : List Int), i ≤ s.size ∧ s6 = .int .i64 i ∧ CW w w.heap.size xs wr ∧ WayInv l s i 0 xs) (fun i _ => s.size - (intOf i).toNat)
      case atStart => exact ⟨0, xs0, Nat.zero_le _, rfl, hW1.out, hV.out⟩
      case round =>
        clear hW1 hV
        obtain ⟨i, xs, hi, rfl, hW, hV⟩ := hrel
        by_cases hlt : i < s.size
        · replace hW := Lib.hid hW
          replace hV := Lib.hid hV
          go_wp2
          go_loopw [7] (fun s7 wr => ∃ (k : Nat) (xs : List Int), k ≤ l.length ∧ s7 = .int .i64 k ∧ CW w w.heap.size xs wr ∧ WayInv l s i k xs) (fun i _ => l.length - (intOf i).toNat)
          case atStart => exact ⟨0, xs, Nat.zero_le _, rfl, hW.out, hV.out⟩
          case round =>
            clear hW hV
            obtain ⟨k, xs2, hk, rfl, hW, hV⟩ := hrel
            by_cases hkt : k < l.length
            · obtain ⟨b, o, rfl, hbo, hc⟩ := hat.out (by omega)
              have ck := (hW.low.cell (p := ⟨b, o + k, none⟩) hbo).trans (hc k hkt)
              have hzk := HLn.out k hkt
              have HPk := Lib.hid (HP.out i k xs2 hV hlt hkt)
              have HSk := Lib.hid (way_skip hV hkt)
              have hfl := Lib.hid (fun hf => fits_le (s := s) (p := i) (u := l.getD k ByteArray.empty) (by omega) hf)
              have hxl := hV.len
              clear hc
              generalize l.getD k ByteArray.empty = y at *
              have HB := Lib.hid (fun W => begins_any (s.extract i s.size) y W (by rw [ByteArray.size_extract]; omega) (by omega))
              replace hW := Lib.hid hW
              replace hV := Lib.hid hV
              go_upto_region 11 with (fail)
              go_quiet ((go_at_call 53; exact quiet_same (HB.out _)))
              cases hb2 : beg (s.extract i s.size) y
              · have hb : fitsAt s i y = false := hb2
                replace hb2 := Lib.hid hb2
                have hg := Lib.hid (HSk.out hb)
                have hW2 := Lib.hid (hW.out.drewN nq)
                replace hb := Lib.hid hb
                go_wp2
                go_roundw
                case rel => exact ⟨k+1, xs2, by omega, by go_num, hW2.out, hg.out⟩
                case measure => simp [intOf]; omega
              · have hb : fitsAt s i y = true := hb2
                replace hb2 := Lib.hid hb2
                have hg := Lib.hid (HPk.out hb)
                have hle := hfl.out hb
                have hW2 := hW.out.drewN nq
                have ck3 : (wr.drewN nq).cell? ⟨b, o + k, none⟩ = some (.string y) := ck
                clear ck hW
                replace hb := Lib.hid hb
                generalize wr.drewN nq = W4 at *
                have ca := hW2.cell (p := i) (by omega)
                have cq := hW2.cell (p := i + y.size) (by omega)
                have hW3 := hW2.drew
                have cq3 := hW3.cell (p := i + y.size) (by omega)
                clear hW2
                generalize xs2.getD (i + y.size) 0 = x1 at *
                generalize xs2.getD i 0 = x2 at *
                replace cq3 := Lib.hid cq3
                have v2 : (0 : Int) ≤ (i : Int) + (y.size : Int) := by omega
                have v4 : (i : Int) + (y.size : Int) < (s.size : Int) + 1 := by omega
                have v5 : (i : Int) < (s.size : Int) + 1 := by omega
                have v6 : i < s.size + 1 := by omega
                have v3 : ((i : Int) + (y.size : Int)).toNat = i + y.size := by omega
                have v1 : IntKind.i64.wrap ((i : Int) + (y.size : Int)) = (i : Int) + (y.size : Int) := IntWalk.i64_in _ (by omega)
                go_upto_region 12 with (fail)
                go_still_tail 24, (by kernel_rfl)
                change wpList _ _ _ _ _ W4.drew
                clear ca cq ck3 v1 v3
                generalize W4.drew = W5 at *
                have cq := cq3.out
                have fq := hW3.blk.frozen (i + y.size)
                have hW4 := Lib.hid (hW3.set_ (i + y.size) (IntKind.i64.wrap (x1 + x2)))
                clear hW3 cq3
                go_wp2
                go_roundw
                case rel => exact ⟨k+1, _, by omega, by go_num, by rw [← IntWalk.i64_left]; exact hW4.out, hg.out⟩
                case measure => simp [intOf]; omega
            · obtain rfl : k = l.length := by omega
              have hg := Lib.hid (HN.out i xs2 hlt hV)
              replace hW := Lib.hid hW
              clear hV
              go_wp2
              go_roundw
              case rel => exact ⟨i+1, xs2, by omega, by go_num, hW.out, hg.out⟩
              case measure => simp [intOf]; omega
        · obtain rfl : i = s.size := by omega
          have hlx := hV.len
          have ce := hW.cell (p := s.size) (by omega)
          rw [HE.out xs hV, ← hr.out] at ce
          replace hW := Lib.hid hW
          clear hV
          go_wp2
          go_ret
          exact ⟨rfl, by have := hW.out.low; exact this⟩
    · have hr := Lib.hid (waysV_long l h24)
      have h24' : (24 : Int) < (s.size : Int) := by omega
      replace hok := Lib.hid hok
      replace HC := Lib.hid HC
      go_enter Try.func34, Try.ntmps34
      go_wp2_with (fail)
      refine HC.out.mono ?_
      rintro e _ ⟨rfl, m, rfl⟩
      go_wp2
      go_ret
      exact ⟨ret_int hr.out.symm, below_drewN (Below.refl _ _) m⟩
end Go.Proofs.Ytbghgpgpljdjkaa
