/-
  The contract of the program's TornOf.
-/
import Derived.Test.YtbghgpgpljdjkaaZ5
namespace Go.Proofs.Ytbghgpgpljdjkaa
open Go.RowKit

theorem Boxes.keep {s : ByteArray} {p : Nat} {xs : List Int} {gs gp gw g : Nat} {w w' : World} (h : Boxes s p xs gs gp gw g w) {row : Option Nat} (hg : w.grownBy w' row) (h1 : some gs ≠ row) (h2 : some gp ≠ row) (h3 : some gw ≠ row) (h4 : some g ≠ row) : Boxes s p xs gs gp gw g w' :=
  ⟨h.bs.grown hg h1, h.bp.grown hg h2, h.bw.grown hg h3, h.bg.grown hg h4⟩
/-- While a text is torn: the boxes, and the row of words beside them. -/
structure TS (w : World) (s : ByteArray) (p : Nat) (xs : List Int) (gs gp gw g : Nat) (v : Value) (out : List ByteArray) (wr : World) : Prop where
  bx : Boxes s p xs gs gp gw g wr
  lw : LW w v out wr
  ap : ∀ k, v.ownBlock = some k → k ≠ gs ∧ k ≠ gp ∧ k ≠ gw ∧ k ≠ g
  ge : w.heap.size ≤ gp
theorem TS.turn {w wr w' : World} {s : ByteArray} {p : Nat} {xs : List Int} {gs gp gw g : Nat} {v v' : Value} {out ys : List ByteArray} (h : TS w s p xs gs gp gw g v out wr) (ho : OwnStrs w' w.heap.size v' ys) (hg : wr.grownBy w' v.ownBlock) (hr : OnRow wr v v') : TS w s p xs gs gp gw g v' ys w' := by
  have hne : ∀ k, some k = v.ownBlock → k ≠ gs ∧ k ≠ gp ∧ k ≠ gw ∧ k ≠ g := fun k e => h.ap k e.symm
  refine ⟨h.bx.keep hg (fun e => (hne gs e).1 rfl) (fun e => (hne gp e).2.1 rfl) (fun e => (hne gw e).2.2.1 rfl) (fun e => (hne g e).2.2.2 rfl), h.lw.turn ho hg, fun k hk => ?_, h.ge⟩
  rcases hr with e2 | ⟨k', e2, hk'⟩
  · exact h.ap k (by rw [← e2]; exact hk)
  · rw [e2] at hk
    cases hk
    have a1 := h.bx.bs.lt
    have a2 := h.bx.bp.lt
    have a3 := h.bx.bw.lt
    have a4 := h.bx.bg.lt
    omega
theorem TS.drew {w wr : World} {s : ByteArray} {p : Nat} {xs : List Int} {gs gp gw g : Nat} {v : Value} {out : List ByteArray} (h : TS w s p xs gs gp gw g v out wr) : TS w s p xs gs gp gw g v out wr.drew :=
  ⟨⟨h.bx.bs, h.bx.bp, h.bx.bw, h.bx.bg⟩, h.lw.drew, h.ap, h.ge⟩
/-- The place has turned, in its box. -/
theorem TS.step {w wr : World} {s : ByteArray} {p p' : Nat} {xs : List Int} {gs gp gw g : Nat} {v : Value} {out : List ByteArray} (h : TS w s p xs gs gp gw g v out wr) (hne : gp ≠ gs ∧ gp ≠ gw ∧ gp ≠ g) : TS w s p' xs gs gp gw g v out (wr.setCell ⟨gp, 0, none⟩ (.int .i64 p')) := by
  have hg := grown_setCell wr gp 0 (.int .i64 p')
  refine ⟨⟨h.bx.bs.grown hg (fun e => hne.1 (by cases e; rfl)), ?_, h.bx.bw.grown hg (fun e => hne.2.1 (by cases e; rfl)), h.bx.bg.grown hg (fun e => hne.2.2 (by cases e; rfl))⟩, ⟨?_, h.lw.low.setCell h.ge _⟩, h.ap, h.ge⟩
  · have := h.bx.bp.set_ 0 (.int .i64 p')
    simpa using this
  · refine World.ownsRow.kept h.lw.own hg ?_
    cases hv : v.ownBlock with
    | none => exact .inl rfl
    | some k => exact .inr fun e => (h.ap k hv).2.1 (by cases e; rfl)
/-- A new box for the place. -/
theorem TS.box {w wr : World} {s : ByteArray} {p : Nat} {xs : List Int} {gs gp gw g : Nat} {v : Value} {out : List ByteArray} (h : TS w s p xs gs gp gw g v out wr) : TS w s p xs gs wr.heap.size gw g v out (wr.alloc (.cells #[.int .i64 p] 3)) := by
  have hb := (Below.refl wr.heap.size wr).alloc (Nat.le_refl _) (.cells #[.int .i64 p] 3)
  refine ⟨⟨h.bx.bs.below hb h.bx.bs.lt, Blk.new _ _ _, h.bx.bw.below hb h.bx.bw.lt, h.bx.bg.below hb h.bx.bg.lt⟩, h.lw.below hb, fun k hk => ?_, h.lw.low.size⟩
  obtain ⟨a1, a2, a3, a4⟩ := h.ap k hk
  have := (World.ownsRow.lt h.lw.own k hk).2
  exact ⟨a1, by omega, a3, a4⟩

set_option maxRecDepth 100000 in
set_option maxHeartbeats 4000000 in
theorem implTornOf_any (A : Option Addr) (n c : Nat) (l : List ByteArray) (s : ByteArray) (w : World) (h : Strs w A n c l) (hn : n ≤ 2097152) (hs : ∀ x ∈ l, x.size ≤ 1048576) (hz : s.size ≤ 1048576) :
    Calls Try.prog 36 #[.slice A n c, .string s] w (RetTorn w (tornOf l s) (tornB l s)) := by
  obtain ⟨i0, hi, hz0, hz1, hz2⟩ := info_parts str_info
  have hB0 : Below w.heap.size w (w.alloc (.cells #[.string s] 9)) := (Below.refl _ _).alloc (Nat.le_refl _) _
  have hX0 : Blk (w.alloc (.cells #[.string s] 9)) w.heap.size 9 #[.string s] := Blk.new _ _ _
  have KV := Lib.hid (implWaysOf_any A n c l s _ (h.below hB0 (Nat.le_refl _)) hn hs hz)
  have HS := Lib.hid h
  obtain ⟨rfl, hcap, hat⟩ := h
  replace hat := Lib.hid hat
  clear hs
  by_cases h0 : s.size = 0
  · obtain ⟨t1, t2⟩ := torn_not (l := l) (s := s) (fun hh => hh.2 h0)
    rw [t1, t2]
    have he : s.toList.isEmpty = true := by rw [text_none]; exact decide_eq_true (tl_inj (by rw [tl_empty]; exact List.eq_nil_of_length_eq_zero (by rw [tl_len]; exact h0)))
    have c0 : (w.alloc (.cells #[.string s] 9)).cell? ⟨w.heap.size, 0, none⟩ = some (.string s) := hX0.cell 0
    replace hB0 := Lib.hid hB0
    replace t1 := Lib.hid t1
    replace t2 := Lib.hid t2
    replace h0 := Lib.hid h0
    clear KV hX0
    go_enter Try.func36, Try.ntmps36
    go_wp2
    go_ret2
    exact ⟨_, rfl, owns_none _ _ _, hB0.out⟩
  · have he : s.toList.isEmpty = false := by rw [text_none]; exact decide_eq_false (fun e => h0 (by rw [e]; rfl))
    have c0 : (w.alloc (.cells #[.string s] 9)).cell? ⟨w.heap.size, 0, none⟩ = some (.string s) := hX0.cell 0
    by_cases hv1 : waysV l s = 1
    · obtain ⟨hok, h24, h1⟩ := waysV_one hv1
      rw [torn_yes hv1 h0]
      have HT := Lib.hid (fun a ha => torn_eq (a := a) hv1 h0 ha)
      have hl6 := (codeOk_iff.1 hok).1.2
      have HLn := Lib.hid (fun k (hk : k < l.length) => codeOk_len hok (getD_mem hk))
      have HF := Lib.hid (fun p hp h1 => way_found hok (s := s) (p := p) hp h1)
      have HG := Lib.hid (fun p out k (h : TornInv l s p out) (hk : k < l.length) => h.go hok (getD_mem hk))
      have hst := Lib.hid (TornInv.start h1)
      have KB := Lib.hid (fun W (hb : Below w.heap.size w W) => waysBehind_any A l.length c l s W (HS.out.below hb (Nat.le_refl _)) hok h24)
      have HLe := Lib.hid (fun p k (hp : p < s.size) (h1 : wf l s p = 1) (hk : k < l.length) (hf : fitsAt s p (l.getD k ByteArray.empty) = true) => by
        have a1 := wayTo_go s p hk
        rw [hf, if_pos rfl] at a1
        have a2 := wayTo_mono l s p (k + 1) (by omega)
        rw [wayTo_end hok hp, h1] at a2
        exact (show wf l s (p + (l.getD k ByteArray.empty).size) ≤ 1 by omega))
      rw [hv1] at KV
      replace hok := Lib.hid hok
      replace hv1 := Lib.hid hv1
      go_enter Try.func36, Try.ntmps36
      go_wp2_with (fail)
      refine KV.out.mono ?_
      rintro e w1 ⟨rfl, b1⟩
      have hX1 := hX0.below b1 hX0.lt
      have hB1 := hB0.trans (b1.mono hB0.size)
      have c1 : w1.cell? ⟨w.heap.size, 0, none⟩ = some (.string s) := hX1.cell 0
      have KB1 := Lib.hid (KB.out w1 hB1)
      clear c0 KV b1 hX0 hB0
      go_wp2_with (fail)
      refine KB1.out.mono ?_
      rintro e w2 ⟨xs, rfl, hW, hV⟩
      have hX2 := hX1.below hW.low hX1.lt
      have hB2 := hB1.trans (hW.low.mono hB1.size)
      have hs12 := hW.low.size
      have hXg := hW.blk
      have hx1 := hX1.lt
      clear c1 KB1 hX1 hB1 hW
      have hb3 := (Below.refl w2.heap.size w2).alloc (Nat.le_refl _) (.cells #[.slice (some ⟨w1.heap.size, 0, none⟩) (s.size + 1) (s.size + 1)] 47)
      have hXw := Blk.new w2 47 #[.slice (some ⟨w1.heap.size, 0, none⟩) (s.size + 1) (s.size + 1)]
      have hX3 := hX2.below hb3 hX2.lt
      have hXg3 := hXg.below hb3 hXg.lt
      have hB3 := hB2.trans (hb3.mono hB2.size)
      have hs23 := hb3.size
      have hgl := hXg.lt
      have hsl := hX2.lt
      go_upto_region 5 with (fail)
      clear hb3 hX2 hXg hB2
      generalize w2.alloc (.cells #[.slice (some ⟨w1.heap.size, 0, none⟩) (s.size + 1) (s.size + 1)] 47) = w3 at *
      have hwl := hXw.lt
      have hb4 := (Below.refl w3.heap.size w3).alloc (Nat.le_refl _) (.cells #[.int .i64 0] 3)
      have hXp : Blk (w3.alloc (.cells #[.int .i64 0] 3)) w3.heap.size 3 #[.int .i64 (0 : Nat)] := Blk.new w3 3 #[.int .i64 0]
      have hT0 : TS w s 0 xs w.heap.size w3.heap.size w2.heap.size w1.heap.size (.slice none 0 0) [] (w3.alloc (.cells #[.int .i64 0] 3)) :=
        ⟨⟨hX3.below hb4 hX3.lt, hXp, hXw.below hb4 hXw.lt, hXg3.below hb4 hXg3.lt⟩, ⟨owns_none _ _ _, hB3.trans (hb4.mono hB3.size)⟩, fun k hk => by simp [Value.ownBlock] at hk, hB3.size⟩
      have hne0 : w3.heap.size ≠ w.heap.size ∧ w3.heap.size ≠ w2.heap.size ∧ w3.heap.size ≠ w1.heap.size := ⟨by omega, by omega, by omega⟩
      have hfix : w.heap.size ≠ w2.heap.size := by omega
      replace hT0 := Lib.hid hT0
      have hV' := Lib.hid hV
      clear hX3 hXg3 hXw hb4 hXp hB3 hV hs12 hs23 hwl hgl hsl hfix
      go_wp2
      generalize w3.alloc (.cells #[.int .i64 0] 3) = w4 at *
      generalize w3.heap.size = gp0 at *
      generalize w2.heap.size = gw at *
      generalize w1.heap.size = g at *
      go_loopg [7, 8] 100 (fun gg s7 s8 wr => ∃ (p gp : Nat) (out : List ByteArray), s8 = .pointer (some ⟨gp, 0, none⟩) ∧ TS w s p xs w.heap.size gp gw g s7 out wr ∧ TornInv l s p out ∧ s.size - p ≤ gg ∧ (gp ≠ w.heap.size ∧ gp ≠ gw ∧ gp ≠ g))
      case atStart => exact ⟨0, gp0, [], rfl, hT0.out, hst.out, by omega, hne0⟩
      case round =>
        clear hT0 hne0
        obtain ⟨p, gp, out, rfl, hT, hI, hg, hne⟩ := hrel
        obtain ⟨A7, c7, rfl, -⟩ := hT.lw.own.strs
        have cs : wr.cell? ⟨w.heap.size, 0, none⟩ = some (.string s) := hT.bx.bs.cell 0
        have cp : wr.cell? ⟨gp, 0, none⟩ = some (.int .i64 p) := hT.bx.bp.cell 0
        have hple := hI.le
        by_cases hlt : p < s.size
        · have hltI : (p : Int) < (s.size : Int) := by omega
          have KI := Lib.hid (indexFunc_any A l.length c l (goodW l s p) w.heap.size gp gw wr (HS.out.below hT.lw.low (Nat.le_refl _)) (by omega) (fun k hk => pred_any l s p xs w.heap.size gp gw g _ wr hT.bx hV'.out hlt h24 (by have := HLn.out k hk; omega)))
          have hol := hI.len
          have HFp := Lib.hid (HF.out p hlt hI.one)
          have hone := Lib.hid hI.one
          replace hT := Lib.hid hT
          replace hI := Lib.hid hI
          replace hne := Lib.hid hne
          go_wp2_with (fail)
          refine KI.out.mono ?_
          rintro e _ ⟨r, rfl, hr, rfl⟩
          clear KI
          rcases hr with ⟨k, hk, rfl, hq⟩ | ⟨rfl, hq⟩
          · obtain ⟨b, o, rfl, hbo, hc⟩ := hat.out (by omega)
            have ck := (hT.out.lw.low.cell (p := ⟨b, o + k, none⟩) hbo).trans (hc k hk)
            have hcw := Lib.hid (hc k hk)
            have hzk := HLn.out k hk
            unfold goodW at hq
            rw [Bool.and_eq_true, decide_eq_true_eq] at hq
            obtain ⟨hq1, hq2⟩ := hq
            have hw1 := HLe.out p k hlt hone.out hk hq1
            have hle := fits_le (by omega) hq1
            have hI2 := Lib.hid (HG.out p out k hI.out hk hq1 (by omega))
            clear hq1 hq2 hw1 hc
            generalize l.getD k ByteArray.empty = y at *
            have m1 := Lib.hid (show out.length + 1 ≤ maxLen by unfold maxLen; omega)
            have m2 := Lib.hid (show (out.length + 1) * 16 ≤ 140737488355328 by omega)
            have hWB := hT.out.lw.low.size
            go_upto_region 9 with (at_builtin; refine wpList_app _ rfl (.tmp 28) (.tmp 33) _ rfl w.heap.size 9 i0 _ 16 Try.underlying23 hi hz0 hz1 hz2 rfl (.slice A7 out.length c7) _ _ rfl (World.ownsRow.alloc hT.out.lw.own _) (some ⟨wr.heap.size, 0, none⟩) 1 1 [.string y] rfl (Src.one (Blk.new _ _ _) rfl) m1.out m2.out (by simp; omega) ?_; intro v6 w6 ho6 hg6 hat6)
            have hg0 : wr.grownBy (wr.alloc (.cells #[.string y] 9)) (Value.slice A7 out.length c7).ownBlock := grown_of_below _ ((Below.refl _ _).alloc (Nat.le_refl _) _)
            have ho : OwnStrs w6 w.heap.size v6 (out ++ [y]) := by
              unfold OwnStrs
              simpa using ho6
            have hO : OnRow wr (.slice A7 out.length c7) v6 := by
              rcases hat6 with e | e
              · exact .inl e
              · exact .inr ⟨_, e, by simp⟩
            have hT6 := hT.out.turn ho (hg0.trans hg6) hO
            obtain ⟨p', hp'⟩ : ∃ p', p' = p + y.size := ⟨_, rfl⟩
            rw [← hp'] at hI2
            have hsum := Lib.hid (show (p : Int) + (y.size : Int) = (p' : Int) by omega)
            have v1 : IntKind.i64.wrap ((p : Int) + (y.size : Int)) = (p : Int) + (y.size : Int) := IntWalk.i64_in _ (by omega)
            have ck6 := (hT6.lw.low.cell (p := ⟨b, o + k, none⟩) hbo).trans hcw.out
            have cp6 : w6.cell? ⟨gp, 0, none⟩ = some (.int .i64 p) := hT6.bx.bp.cell 0
            have hT7 := hT6.drew
            obtain ⟨A8, c8, rfl, -⟩ := ho.strs
            generalize out ++ [y] = out2 at *
            clear ho6 hg6 hat6 hg0 ho hO hT ck cp cs hT6
            have hkI : (k : Int) < (l.length : Int) := by omega
            have hk0 : (0 : Int) ≤ (k : Int) := by omega
            go_still_tail 7, (by kernel_rfl)
            change wpList _ _ _ _ _ w6.drew
            clear ck6 cp6 v1
            rw [hsum.out]
            replace hp' := Lib.hid hp'
            generalize w6.drew = W7 at *
            have cp7 : W7.cell? ⟨gp, 0, none⟩ = some (.int .i64 p) := hT7.bx.bp.cell 0
            have fp7 := hT7.bx.bp.frozen 0
            have hT8 := hT7.step (p' := p') hne.out
            have cp8 : (W7.setCell ⟨gp, 0, none⟩ (.int .i64 p')).cell? ⟨gp, 0, none⟩ = some (.int .i64 p') := hT8.bx.bp.cell 0
            have hT9 := Lib.hid hT8.box
            have hl1 := hT8.bx.bs.lt
            have hl2 := hT8.bx.bw.lt
            have hl3 := hT8.bx.bg.lt
            have hl4 := hT8.bx.bp.lt
            have hne9 : (W7.setCell ⟨gp, 0, none⟩ (.int .i64 p')).heap.size ≠ w.heap.size ∧ (W7.setCell ⟨gp, 0, none⟩ (.int .i64 p')).heap.size ≠ gw ∧ (W7.setCell ⟨gp, 0, none⟩ (.int .i64 p')).heap.size ≠ g := ⟨by omega, by omega, by omega⟩
            replace hne9 := Lib.hid hne9
            replace cp8 := Lib.hid cp8
            clear hl1 hl2 hl3 hl4 hT8 hT7
            go_upto_region 10 with (fail)
            clear cp7 fp7
            generalize W7.setCell ⟨gp, 0, none⟩ (.int .i64 p') = W8 at *
            have cp9 := cp8.out
            go_wp2
            go_roundg (s.size - p')
            case measure => have := hp'.out; omega
            case rel => exact ⟨p', _, out2, rfl, hT9.out, hI2.out, Nat.le_refl _, hne9.out⟩
          · exfalso
            refine HFp.out (fun i hi hf he => ?_)
            have := hq i hi
            unfold goodW at this
            rw [hf, he] at this
            simp at this
        · obtain rfl : p = s.size := by omega
          have hltI : ¬ (s.size : Int) < (s.size : Int) := by omega
          have hf := Lib.hid (HT.out _ hI.end_)
          replace hT := Lib.hid hT
          clear hI
          go_wp2
          go_ret2
          exact ⟨_, rfl, by rw [hf.out]; exact hT.out.lw.own, hT.out.lw.low⟩
    · obtain ⟨t1, t2⟩ := torn_not (l := l) (s := s) (fun hh => hv1 hh.1)
      rw [t1, t2]
      have hv' : (waysV l s != 1) = true := by rw [bne_iff_ne]; exact hv1
      replace t1 := Lib.hid t1
      replace t2 := Lib.hid t2
      generalize waysV l s = V at *
      replace hv1 := Lib.hid hv1
      go_enter Try.func36, Try.ntmps36
      go_wp2_with (fail)
      refine KV.out.mono ?_
      rintro e w1 ⟨rfl, b1⟩
      have hB1 := Lib.hid (hB0.trans (b1.mono hB0.size))
      clear c0 KV b1 hX0
      go_wp2
      go_ret2
      exact ⟨_, rfl, owns_none _ _ _, hB1.out⟩
end Go.Proofs.Ytbghgpgpljdjkaa
