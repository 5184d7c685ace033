/-
  The program's SaidOf.
-/
import Derived.Test.YtfcjhelhhefkkaaBw
namespace Go.Proofs.Ytfcjhelhhefkkaa
open Go Go.RowKit Go.Shelf
attribute [local go_sem] Oper.semAt_some

abbrev RunOk := { x : RunB // okRun x = true }
/-- What is said so far lies in the builder at block b. -/
structure SaidIn (w W0 : World) (b : Nat) (q : List RunB) (W : World) : Prop where
  bld : Bl b b (said q) W
  low : Below w.heap.size w W
  size : W0.heap.size ≤ W.heap.size
theorem SaidIn.own {β : Type} {w W0 : World} {b : Nat} (hw : w.heap.size ≤ W0.heap.size) (f : β → List RunB) : OwnFrom W0.heap.size (fun s W => SaidIn w W0 b (f s) W) := fun _ W W' row h hg hr =>
  ⟨h.bld.nocells hg (fun r e => (hr r e).2), own_bel (β := Unit) _ w hw () W W' row h.low hg hr, Nat.le_trans h.size hg.size⟩
theorem SaidIn.alloc {w W0 W : World} {b : Nat} {q : List RunB} (h : SaidIn w W0 b q W) (o : Obj) : SaidIn w W0 b q (W.alloc o) :=
  ⟨h.bld.alloc _, h.low.alloc h.low.size _, by have := h.size; simp; omega⟩
theorem below_put {B : Nat} {w W : World} {D : Nat} (o : Obj) (h : Below B w W) (hD : B ≤ D) : Below B w (W.putObj D o) := ⟨h.os, h.tape, h.output, by simpa using h.size, fun k hk => (World.putObj_heap_other (by omega)).trans (h.block k hk)⟩

set_option maxRecDepth 100000 in
set_option maxHeartbeats 4000000 in
theorem implSaidOf_any (s : ByteArray) (w : World) (hs : s.size ≤ 2097152) :
    Calls Try.prog 26 #[.string s] w fun e w' => e = .returned (optV (saidL (tl s))) ∧ Below w.heap.size w w' := by
  have hR := implRowOk_any s w hs
  refine (callsIn_wide (n := 3)).1 ?_
  refine callsIn_of_wp_marks Try.func26 rfl trivial ?_ rfl
  simp only [Try.ntmps26, List.size_toArray, List.length_cons, List.length_nil, Nat.reduceAdd, Nat.reduceSub, Array.replicate_succ, Array.replicate_zero, List.push_toArray, List.append_toArray, List.nil_append, List.cons_append]
  cases hrow : rowL (tl s)
  · rw [hrow] at hR
    have hE := Lib.hid (saidL_no hrow)
    replace hrow := Lib.hid hrow
    gi_wp2
    refine ⟨trivial, (callsIn_wide.2 hR).mono ?_⟩
    rintro e W ⟨rfl, hB⟩
    gi_wp2
    exact ⟨_, results_tmp2 rfl _ _ _, by rw [hE.out]; rfl, hB⟩
  · have h60 := row_len hrow
    rw [tl_len] at h60
    have hRl := runs_len (tl s)
    rw [tl_len] at hRl
    rw [hrow] at hR
    have hok := (rowL_iff.1 hrow).2
    have hY := Lib.hid (saidL_yes hrow)
    have hN := Lib.hid (saidL_long (l := tl s))
    replace hrow := Lib.hid hrow
    gi_wp2
    refine ⟨trivial, (callsIn_wide.2 hR).mono ?_⟩
    rintro e W1 ⟨rfl, hB1⟩
    gi_wp2
    refine ⟨trivial, (callsIn_wide.2 (runsIn_any _ _)).mono ?_⟩
    rintro e _ ⟨rfl, rfl⟩
    have hX0 := (Bl.new W1).alloc (.cells #[.string s] 9)
    have hB0 := (hB1.alloc hB1.size (.cells #[.pointer none, .slice none 0 0] 67)).alloc (by have := hB1.size; simp; omega) (.cells #[.string s] 9)
    have hbx : ((W1.alloc (.cells #[.pointer none, .slice none 0 0] 67)).alloc (.cells #[.string s] 9)).cell? ⟨W1.heap.size + 1, 0, none⟩ = some (.string s) := by simp [go_sem]
    have hxb : Blk ((W1.alloc (.cells #[.pointer none, .slice none 0 0] 67)).alloc (.cells #[.string s] 9)) (W1.heap.size + 1) 9 #[.string s] := by
      have := Blk.new (W1.alloc (.cells #[.pointer none, .slice none 0 0] 67)) 9 #[.string s]
      rwa [World.size_alloc] at this
    have hs0 : ((W1.alloc (.cells #[.pointer none, .slice none 0 0] 67)).alloc (.cells #[.string s] 9)).heap.size = W1.heap.size + 2 := by simp
    gi_wp2
    generalize ((W1.alloc (.cells #[.pointer none, .slice none 0 0] 67)).alloc (.cells #[.string s] 9)) = W0 at *
    have hs1 : W1.heap.size + 2 ≤ W0.heap.size := by omega
    have hw1 : w.heap.size ≤ W1.heap.size := hB1.size
    clear hs0 hR
    refine wpIn_rangeFunc_ownH rfl (by decide) (gf := 76) (lb := #[.pointer (some ⟨W1.heap.size + 1, 0, none⟩)]) rfl trivial (enters_of Try.func76 (by kernel_rfl) rfl)
      (runsIn1_stops (fun x => okRun x = true) 2 s (W1.heap.size + 1) W0 hs hbx hok) (fun h k => h.trans k) (fun W l o o' h1 h2 h3 h4 => KeptAt.put W l o' (by omega)) (Below.refl _ _) (fun _ => rfl)
      (fun pre W => Blk W (W1.heap.size + 1) 9 #[.string s] ∧ SaidIn w W0 W1.heap.size (pre.map (·.1)) W)
      (fun c pre W => False)
      ?hI (fun _ _ _ _ _ hs _ _ => hs) ⟨hxb, hX0, hB0, Nat.le_refl _⟩
      (fun x a' W => ∃ Bx, W0.heap.size ≤ Bx ∧ Blk W Bx 31 #[.int .i64 (x.1.1 : Int), .int .i64 ((x.1.2.toNat : Int) - 48)] ∧ a' = { tmps := #[.string s, undef, .string ⟨#[]⟩, .bool false, .pointer (some ⟨W1.heap.size, 0, none⟩), .pointer (some ⟨Bx, 0, none⟩), .string s, .bool true, .bool false, .string s,
        .func (.func 76) #[] #[.pointer (some ⟨W1.heap.size + 1, 0, none⟩)], .agg #[.int .i64 (x.1.1 : Int), .int .i64 ((x.1.2.toNat : Int) - 48)], undef, undef, undef, undef, undef, undef, undef, undef, undef, undef, undef, undef, undef, undef], defers := [] })
      ?hAx ?assign ?body ?done ?stop
    case hI => exact (own_blk _ _ (by omega) _ _).and (SaidIn.own (by omega) _)
    case hAx =>
      rintro x a' _ W W' row ⟨Bx, h1, h2, h3⟩ hg hr
      exact ⟨Bx, h1, (hg.block Bx h2.lt (fun e => by obtain ⟨_, o, ho, hc⟩ := hr Bx e.symm; rw [h2] at ho; cases ho; cases hc)).trans h2, h3⟩
    case assign =>
      rintro l pre x W K ⟨hx, hI⟩ hK
      have hsz := hI.size
      simp only [encRun]
      gi_wp2
      exact hK _ _ ((KeepsOthers.alloc _ _).from _) (KeptAt.below ((Below.refl W.heap.size W).alloc (Nat.le_refl _) _) (by omega)) ⟨hx.alloc _, hI.alloc _⟩ ⟨W.heap.size, hsz, Blk.new _ _ _, rfl⟩
    case body =>
      rintro l pre x a' W hl - ⟨hx, hI⟩ ⟨Bx, hBx, hR, rfl⟩ hlen
      obtain ⟨⟨t, c⟩, hq⟩ := x
      simp only at hR ⊢
      have hlen' : pre.length ≤ 60 := by omega
      obtain ⟨k1, k2, k3⟩ := (okRun_iff _).1 hq
      simp only at k1 k2 k3
      have hbld := hI.bld
      have hlow := hI.low
      have hsz := hI.size
      have hsl : (said (pre.map (·.1))).length ≤ 120 := by rw [said_len, List.length_map]; omega
      have hsn : said ((pre ++ [(⟨(t, c), hq⟩ : { x : RunB // okRun x = true })]).map (·.1)) = said (pre.map (·.1)) ++ [UInt8.ofNat (48 + t)] ++ [c] := by
        rw [List.map_append, said_app]; simp [said]
      have ht0 := ofNat_48 k3
      have K1 := fun W h hB => wbyte_any W1.heap.size W1.heap.size (said (pre.map (·.1))) (UInt8.ofNat (48 + t)) W h (by omega) hB
      have K2 := fun W h hB => wbyte_any W1.heap.size W1.heap.size (said (pre.map (·.1)) ++ [UInt8.ofNat (48 + t)]) c W h (by simp; omega) hB
      have ht1 : ((UInt8.ofNat (48 + t)).toNat : Int) = 48 + (t : Int) := by rw [ht0]; omega
      rw [ht1] at K1
      have r0 := hR.cell 0
      simp only [List.getElem?_toArray, List.getElem?_cons_zero] at r0
      have hwt : IntKind.u8.wrap (t : Int) = (t : Int) := IntWalk.u8_in _ (by omega)
      have hwt2 : IntKind.u8.wrap (48 + (t : Int)) = 48 + (t : Int) := IntWalk.u8_in _ (by omega)
      have hwc : IntKind.u8.wrap ((c.toNat : Int) - 48) = (c.toNat : Int) - 48 := IntWalk.u8_in _ (by omega)
      have hwc2 : IntKind.u8.wrap (48 + ((c.toNat : Int) - 48)) = (c.toNat : Int) := by rw [show 48 + ((c.toNat : Int) - 48) = (c.toNat : Int) by omega]; exact IntWalk.u8_in _ (by omega)
      replace hsn := Lib.hid hsn
      replace K1 := Lib.hid (K1 W hbld (by omega))
      replace K2 := Lib.hid K2
      replace hI := Lib.hid hI
      replace hx := Lib.hid hx
      replace hlow := Lib.hid hlow
      replace hbld := Lib.hid hbld
      clear ht0 ht1
      gi_wp2
      refine ⟨trivial, (CallsIn.inRound l (callsIn_wide.2 K1.out)).mono ?_⟩
      rintro e W2 ⟨rfl, h2, b2, kk2⟩
      have hR2 := kk2.blk hR (by omega) (by decide)
      have hx2 := Lib.hid (kk2.blk hx.out (by omega) (by decide))
      have hsz2 := b2.size
      have r1 := hR2.cell 1
      simp only [List.getElem?_toArray, List.getElem?_cons_zero, List.getElem?_cons_succ] at r1
      have hl2 := Lib.hid (hlow.out.trans (b2.mono (by omega)))
      have hf2 := Lib.hid (kk2.from_ hbld.out b2.size W0.heap.size)
      have hk2 : Hid (KeptAt (W1.heap.size + 1) W W2) := Eq.trans hx2.out hx.out.symm
      replace K2 := Lib.hid (K2.out W2 h2 (by omega))
      replace h2 := Lib.hid h2
      clear r0 b2 kk2
      gi_wp2
      refine ⟨trivial, (CallsIn.inRound l (callsIn_wide.2 K2.out)).mono ?_⟩
      rintro e W3 ⟨rfl, h3, b3, kk3⟩
      have hsz3 := b3.size
      have hx3 := kk3.blk hx2.out (by omega) (by decide)
      have hl3 := hl2.out.trans (b3.mono (by omega))
      have hf3 := hf2.out.trans (kk3.from_ h2.out b3.size W0.heap.size)
      have hk3 : KeptAt (W1.heap.size + 1) W W3 := Eq.trans hx3 hx.out.symm
      have hI3 : SaidIn w W0 W1.heap.size ((pre ++ [(⟨(t, c), hq⟩ : { x : RunB // okRun x = true })]).map (·.1)) W3 := ⟨by rw [hsn.out]; exact h3, hl3, by omega⟩
      replace hx3 := Lib.hid hx3
      replace hf3 := Lib.hid hf3
      replace hk3 := Lib.hid hk3
      replace hI3 := Lib.hid hI3
      clear b3 kk3 hl3 h3
      gi_wp2
      exact ⟨hf3.out, hk3.out, hx3.out, hI3.out⟩
    case done =>
      rintro D ys W hD hS ⟨-, hI⟩ hK
      rw [hS] at hI
      have hbld := hI.bld
      have hlow := hI.low
      have hsz := hI.size
      have hl : (said (runs (tl s))).length ≤ 120 := by rw [said_len]; omega
      generalize said (runs (tl s)) = x at *
      have K1 := Lib.hid (bstr_any W1.heap.size W1.heap.size x W hbld (by omega))
      replace hbld := Lib.hid hbld
      replace hlow := Lib.hid hlow
      replace hK := Lib.hid hK
      clear hI hS
      gi_wp2
      refine ⟨trivial, (callsIn_wide.2 K1.out).mono ?_⟩
      rintro e W2 ⟨rfl, h2, b2, kk2⟩
      have hK2 := kk2.other hbld.out hK.out rfl
      have hsz2 := b2.size
      have hD2 : D < W2.heap.size := (Array.getElem?_eq_some_iff.1 hK2).1
      have hl2 := Lib.hid (hlow.out.trans (b2.mono (by omega)))
      have hR2 := implRowOk_any (strOf x) W2 (by rw [strOf_size]; omega)
      rw [strOf_tl] at hR2
      replace hK2 := Lib.hid hK2
      replace h2 := Lib.hid h2
      clear b2 kk2
      cases hx : rowL x
      · have hE := Lib.hid (hN.out hx)
        rw [hx] at hR2
        replace hx := Lib.hid hx
        gi_wp2
        refine ⟨trivial, (callsIn_wide.2 hR2).mono ?_⟩
        rintro e W3 ⟨rfl, b3⟩
        have hK3 := (b3.block D hD2).trans hK2.out
        have hl3 := Lib.hid (below_put (D := D) (.deferred none) (hl2.out.trans (b3.mono (by omega))) (by omega))
        clear b3
        gi_wp2
        refine ⟨by simp, .inl ⟨_, _, rfl, run_takeDeferred hK3, ?_⟩⟩
        exact ⟨_, results_tmp2 rfl _ _ _, by rw [hE.out]; rfl, hl3.out⟩
      · have hE := Lib.hid (hY.out hx)
        rw [hx] at hR2
        replace hx := Lib.hid hx
        gi_wp2
        refine ⟨trivial, (callsIn_wide.2 hR2).mono ?_⟩
        rintro e W3 ⟨rfl, b3⟩
        have hK3 := Lib.hid ((b3.block D hD2).trans hK2.out)
        have hsz3 := b3.size
        have hl3 := Lib.hid (hl2.out.trans (b3.mono (by omega)))
        have h3 := h2.out.below b3
        have K3 := Lib.hid (bstr_any W1.heap.size W1.heap.size x W3 h3 (by omega))
        replace h3 := Lib.hid h3
        clear b3
        gi_wp2
        refine ⟨trivial, (callsIn_wide.2 K3.out).mono ?_⟩
        rintro e W4 ⟨rfl, h4, b4, kk4⟩
        have hK4 := kk4.other h3.out hK3.out rfl
        have hl4 := Lib.hid (below_put (D := D) (.deferred none) (hl3.out.trans (b4.mono (by omega))) (by omega))
        clear b4 kk4 h4
        gi_wp2
        refine ⟨by simp, .inl ⟨_, _, rfl, run_takeDeferred hK4, ?_⟩⟩
        exact ⟨_, results_tmp2 rfl _ _ _, by rw [hE.out]; rfl, hl4.out⟩
    case stop => exact fun _ _ _ _ _ _ h _ => h.elim
end Go.Proofs.Ytfcjhelhhefkkaa
