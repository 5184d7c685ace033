/-
  The contract of exchanged, for places of words.
-/
import Derived.Test.YtdmldgikfjgmhaaExch
import Derived.Deep.DeepCutAuto
namespace Go.Proofs.Ytdmldgikfjgmhaa
open Go.RowKit

theorem OwnStrs.lt {w : World} {B : Nat} {v : Value} {xs : List ByteArray} (h : OwnStrs w B v xs) : ∀ k, v.ownBlock = some k → B ≤ k ∧ k < w.heap.size := World.ownsRow.lt h
theorem own_far {w : World} {B : Nat} {t : TypeId} {v : Value} {n : Nat} {xs : List Value} (h : w.ownsRow B t 1 v n xs) {g i : Nat} (hp : g < B) (u : Value) : (w.setCell ⟨g, i, none⟩ u).ownsRow B t 1 v n xs :=
  h.kept (grown_setCell w g i u) (by
    cases hv : v.ownBlock with
    | none => exact .inl rfl
    | some k => exact .inr fun e => by have := (h.lt k hv).1; cases e; omega)
/-- A result of three rows, written into its cell. -/
theorem own_tng3 {w : World} {B B' g : Nat} {v1 v2 v3 u0 u1 u2 : Value} {t : Tg} (h1 : OwnStrs w B v1 t.us) (h2 : OwnI w B v2 t.bs) (h3 : OwnStrs w B v3 t.ns) (ha : ∀ k, v1.ownBlock = some k → v3.ownBlock ≠ some k) (hg : g < B) (hB : B' ≤ B) :
    OwnTng (((w.setCell ⟨g, 0, none⟩ u0).setCell ⟨g, 1, none⟩ u1).setCell ⟨g, 2, none⟩ u2) B' (.agg #[v1, v2, v3]) t :=
  OwnTng.mono (B := B) ⟨v1, v2, v3, rfl, own_far (own_far (own_far h1 hg _) hg _) hg _, own_far (own_far (own_far h2 hg _) hg _) hg _, own_far (own_far (own_far h3 hg _) hg _) hg _, ha⟩ hB
theorem below_tng3 {w w1 : World} {g : Nat} {u0 u1 u2 : Value} (h : Below w.heap.size w w1) (hg : w.heap.size ≤ g) : Below w.heap.size w (((w1.setCell ⟨g, 0, none⟩ u0).setCell ⟨g, 1, none⟩ u1).setCell ⟨g, 2, none⟩ u2) :=
  ((h.setCell (by simpa using hg) _).setCell (by simpa using hg) _).setCell (by simpa using hg) _
theorem blk3 {w : World} {g : Nat} {t : TypeId} {x y z : Value} (h : Blk w g t #[x, y, z]) : w.cell? ⟨g, 0, none⟩ = some x ∧ w.cell? ⟨g, 1, none⟩ = some y ∧ w.cell? ⟨g, 2, none⟩ = some z ∧ w.frozen? ⟨g, 0, none⟩ = false ∧ w.frozen? ⟨g, 1, none⟩ = false ∧ w.frozen? ⟨g, 2, none⟩ = false :=
  ⟨h.cell 0, h.cell 1, h.cell 2, h.frozen 0, h.frozen 1, h.frozen 2⟩
theorem take_drop_len {ws : List ByteArray} {n m : Nat} (h : ws.length = n + m) : (ws.take n).length = n ∧ (ws.drop n).length = m := by simp; omega

set_option maxRecDepth 100000 in
set_option maxHeartbeats 4000000 in
theorem exchanged_yes (v : Value) (t : Tg) (i j : Nat) (w : World) (h : Tng w v t) (hf : t.Fine) (hok : t.ok = true) (hi : i < t.words.length) (hj : j < t.words.length) :
    Calls Try.prog 54 #[v, .int .i64 i, .int .i64 j] w (RetTng w (exT t i j)) := by
  obtain ⟨A1, c1, A2, c2, A3, c3, rfl, h1, h2, h3⟩ := h.ex
  have H1 := Lib.hid h1
  have H2 := Lib.hid h2
  have H3 := Lib.hid h3
  have HF := Lib.hid hf
  have hsh := ok_shape hok
  have hwl := Lib.hid (words_length t)
  obtain ⟨u1, u2⟩ := hsh.us
  have hbl := bases_len hsh.bs
  have hnl : t.ns.length ≤ 4 := by have := hsh.ns; omega
  have hW2 : Below w.heap.size w (((w.alloc (.cells #[.slice A1 t.us.length c1, .slice A2 t.bs.length c2, .slice A3 t.ns.length c3] 30)).alloc (.cells #[.slice none 0 0, .slice none 0 0, .slice none 0 0] 30)).alloc (.cells #[.slice A1 t.us.length c1, .slice A3 t.ns.length c3] 27)) := (((Below.refl _ _).alloc (Nat.le_refl _) _).alloc (by simp) _).alloc (by simp; omega) _
  have HX : Blk (((w.alloc (.cells #[.slice A1 t.us.length c1, .slice A2 t.bs.length c2, .slice A3 t.ns.length c3] 30)).alloc (.cells #[.slice none 0 0, .slice none 0 0, .slice none 0 0] 30)).alloc (.cells #[.slice A1 t.us.length c1, .slice A3 t.ns.length c3] 27)) (w.heap.size + 1) 30 #[.slice none 0 0, .slice none 0 0, .slice none 0 0] := (blk_new_at (w.heap.size + 1) (by simp)).alloc _
  have HY : Blk (((w.alloc (.cells #[.slice A1 t.us.length c1, .slice A2 t.bs.length c2, .slice A3 t.ns.length c3] 30)).alloc (.cells #[.slice none 0 0, .slice none 0 0, .slice none 0 0] 30)).alloc (.cells #[.slice A1 t.us.length c1, .slice A3 t.ns.length c3] 27)) w.heap.size 30 #[.slice A1 t.us.length c1, .slice A2 t.bs.length c2, .slice A3 t.ns.length c3] := ((Blk.new _ _ _).alloc _).alloc _
  have hsz : (((w.alloc (.cells #[.slice A1 t.us.length c1, .slice A2 t.bs.length c2, .slice A3 t.ns.length c3] 30)).alloc (.cells #[.slice none 0 0, .slice none 0 0, .slice none 0 0] 30)).alloc (.cells #[.slice A1 t.us.length c1, .slice A3 t.ns.length c3] 27)).heap.size = w.heap.size + 3 := by simp
  replace hW2 := Lib.hid hW2
  replace HX := Lib.hid HX
  replace HY := Lib.hid HY
  replace hsz := Lib.hid hsz
  clear h h1 h2 h3 hf hsh
  replace hok := Lib.hid hok
  go_enter Try.func54, Try.ntmps54
  go_wp2_with (fail)
  refine (concat_any A1 A3 (w.heap.size + 2) _ c1 _ c3 t.us t.ns _ (by simp) (by go_simp) (by go_simp) (H1.out.below hW2.out (Nat.le_refl _)) (H3.out.below hW2.out (Nat.le_refl _)) HF.out.us HF.out.ns).mono ?_
  rintro e w1 ⟨v1, rfl, ho1, hb1⟩
  have hB := hW2.out.trans (hb1.mono hW2.out.size)
  have hX := HX.out.below hb1 HX.out.lt
  have hY := HY.out.below hb1 HY.out.lt
  rw [hsz.out] at ho1
  clear hb1 HX HY hW2 hsz
  rw [hwl.out] at hi hj
  obtain ⟨g, c, rfl, hg3, hg⟩ := ho1.form (by omega)
  have x0 : w1.cell? ⟨w.heap.size, 0, none⟩ = some (.slice A1 t.us.length c1) := hY.cell 0
  have x1 : w1.cell? ⟨w.heap.size, 1, none⟩ = some (.slice A2 t.bs.length c2) := hY.cell 1
  have ci := ho1.cellAt i (by omega)
  have cj := ho1.cellAt j (by omega)
  have fi := ho1.frozenAt i
  have fj := ho1.frozenAt j
  have hml : ((t.us ++ t.ns).map Value.string).length = t.us.length + t.ns.length := by simp
  have ei : ((t.us ++ t.ns).map Value.string)[i]? = some (.string (t.words.getD i ByteArray.empty)) := by
    have hk : i < (t.us ++ t.ns).length := by simpa using hi
    rw [List.getElem?_map, List.getElem?_eq_getElem hk]
    simp [Tg.words, List.getD_eq_getElem?_getD, List.getElem?_eq_getElem hk]
  have ej : ((t.us ++ t.ns).map Value.string)[j]? = some (.string (t.words.getD j ByteArray.empty)) := by
    have hk : j < (t.us ++ t.ns).length := by simpa using hj
    rw [List.getElem?_map, List.getElem?_eq_getElem hk]
    simp [Tg.words, List.getD_eq_getElem?_getD, List.getElem?_eq_getElem hk]
  rw [ei] at ci
  rw [ej] at cj
  clear ei ej hml
  generalize hxi : t.words.getD i ByteArray.empty = xi at *
  generalize hxj : t.words.getD j ByteArray.empty = xj at *
  obtain ⟨v', hy'⟩ := cell?_setCell_some (w := w1) (p := ⟨g, i, none⟩) (x := .string xj) (q := ⟨g, j, none⟩) (v := .string xj) cj
  replace hX := Lib.hid hX
  replace hY := Lib.hid hY
  replace hB := Lib.hid hB
  replace ho1 := Lib.hid ho1
  replace hxi := Lib.hid hxi
  replace hxj := Lib.hid hxj
  have hmn : ¬ (min i j : Int) < 0 := by omega
  have hmx : (max i j : Int) < (t.us.length : Int) + (t.ns.length : Int) := by omega
  go_upto_region 2 with (fail)
  go_cut [26] (fun s26 wx => s26 = .bool false ∧ wx = w1)
  case first =>
    go_wp2
    all_goals (go_meet; exact ⟨by simp; omega, rfl⟩)
  case rest =>
    obtain ⟨rfl, rfl⟩ := hcut
    go_wp2
    go_region
    have HO1 := (ho1.out.stored i (.string xj)).1
    have HO2 := (HO1.stored j (.string xi)).1
    have hg1 : wc.grownBy ((wc.setCell ⟨g, i, none⟩ (.string xj)).setCell ⟨g, j, none⟩ (.string xi)) (some g) := (ho1.out.stored i (.string xj)).2.trans (HO1.stored j (.string xi)).2
    have hB2 : Below w.heap.size w ((wc.setCell ⟨g, i, none⟩ (.string xj)).setCell ⟨g, j, none⟩ (.string xi)).drew := (hB.out.grown hg1 hB.out.size (fun k e => by cases e; omega)).drew
    have hX2 : Blk ((wc.setCell ⟨g, i, none⟩ (.string xj)).setCell ⟨g, j, none⟩ (.string xi)).drew (w.heap.size + 1) 30 #[.slice none 0 0, .slice none 0 0, .slice none 0 0] := (hX.out.grown (row := some g) (grown_drew hg1) (by simp; omega))
    have hY2 : Blk ((wc.setCell ⟨g, i, none⟩ (.string xj)).setCell ⟨g, j, none⟩ (.string xi)).drew w.heap.size 30 #[.slice A1 t.us.length c1, .slice A2 t.bs.length c2, .slice A3 t.ns.length c3] := (hY.out.grown (row := some g) (grown_drew hg1) (by simp; omega))
    have hws : (((t.us ++ t.ns).map Value.string).set i (.string xj)).set j (.string xi) = (swapAt t.words i j).map Value.string := by
      unfold swapAt
      rw [hxi.out, hxj.out, List.map_set, List.map_set]; rfl
    rw [hws] at HO2
    have HO3 : ((wc.setCell ⟨g, i, none⟩ (.string xj)).setCell ⟨g, j, none⟩ (.string xi)).drew.ownsRow (w.heap.size + 3) 9 1 (.slice (some ⟨g, 0, none⟩) (t.us.length + t.ns.length) c) (t.us.length + t.ns.length) ((swapAt t.words i j).map Value.string) := HO2
    clear HO1 HO2 hg1 ho1 hB hX hY hws x0 x1 fi fj ci cj hy'
    obtain ⟨A, c', e, hS⟩ := strs_of_own HO3
    cases e
    have hcap := hS.le
    have hglt := (HO3.lt g rfl).2
    generalize ((wc.setCell ⟨g, i, none⟩ (.string xj)).setCell ⟨g, j, none⟩ (.string xi)).drew = W at *
    clear HO3
    have x0 : W.cell? ⟨w.heap.size, 0, none⟩ = some (.slice A1 t.us.length c1) := hY2.cell 0
    have x1 : W.cell? ⟨w.heap.size, 1, none⟩ = some (.slice A2 t.bs.length c2) := hY2.cell 1
    replace hB2 := Lib.hid hB2
    replace hX2 := Lib.hid hX2
    replace hS := Lib.hid hS
    clear hY2
    have hwW : w.heap.size < W.heap.size := by have := hX2.out.lt; omega
    have hwl2 : (swapAt t.words i j).length = t.us.length + t.ns.length := by rw [swapAt_length, hwl.out]
    have htd := take_drop_len hwl2
    have HSA := Lib.hid (fun W' (hb : Below W.heap.size W W') => (hS.out.take (m := t.us.length) (by omega)).below hb (Nat.le_refl _))
    have HSB := Lib.hid (fun W' (hb : Below W.heap.size W W') => (H2.out.below hB2.out (Nat.le_refl _)).below hb (Nat.le_refl _))
    have HEx : exT t i j = ⟨(swapAt t.words i j).take t.us.length, t.bs, (swapAt t.words i j).drop t.us.length⟩ := by
      unfold exT
      rw [if_pos (by unfold inPl; rw [hwl.out]; omega)]; rfl
    replace HEx := Lib.hid HEx
    replace htd := Lib.hid htd
    have hbl2 := hbl.2
    have q1 : (0 : Int) ≤ (t.us.length : Int) := by omega
    have q2 : (t.us.length : Int) ≤ (c : Int) := by omega
    have q3 : (t.us.length : Int) ≤ (t.us.length : Int) + (t.ns.length : Int) := by omega
    have q4 : (t.us.length : Int) + (t.ns.length : Int) ≤ (c : Int) := by omega
    clear hbl hwl2 hxi hxj
    by_cases hcu : c = t.us.length
    · have hn0 : t.ns.length = 0 := by omega
      have hd0 : (swapAt t.words i j).drop t.us.length = [] := List.eq_nil_of_length_eq_zero (by rw [htd.out.2]; exact hn0)
      subst hcu
      have HSC := Lib.hid (fun W' (_ : Below W.heap.size W W') => (show Strs W' (some ⟨g, 0, none⟩) 0 0 ((swapAt t.words i j).drop t.us.length) by rw [hd0]; exact ⟨rfl, Nat.le_refl _, fun h => absurd h (by omega)⟩))
      replace hn0 := Lib.hid hn0
      clear hd0
      generalize (swapAt t.words i j).take t.us.length = wsA at *
      generalize (swapAt t.words i j).drop t.us.length = wsC at *
      go_wp2
      go_region_held3 (fun w' => w'.cell? ⟨w.heap.size, 1, none⟩ = some (.slice A2 t.bs.length c2)) (first | go_keep | exact hxA | exact hxB | exact hxC)
        (first
          | (go_at_call 68; refine (cloneStr_any (some ⟨g, 0, none⟩) t.us.length t.us.length wsA _ (HSA.out _ (by first | exact (Below.refl _ _).drew | exact HWA | exact HWB | exact HWC)) (by omega)).mono ?_; rintro e wA ⟨vA, rfl, hoA, hbA⟩; obtain ⟨pA, qA, rfl, -⟩ := hoA.strs; have HWA : Below W.heap.size W wA := (by first | exact HWA.trans (hbA.mono HWA.size) | exact HWB.trans (hbA.mono HWB.size) | exact HWC.trans (hbA.mono HWC.size) | exact ⟨hbA.os, hbA.tape, hbA.output, hbA.size, hbA.block⟩); (try have hap : ∀ k, (Value.slice pA _ qA).ownBlock = some k → (Value.slice pC _ qC).ownBlock ≠ some k := fun k hk he => by have h1 := (hoA.lt k hk).1; have h2 := (hoC.lt k he).2; omega); (try replace hoA := hoA.below hbA (Nat.le_refl _)); (try replace hoB := hoB.below hbA (Nat.le_refl _)); (try replace hoC := hoC.below hbA (Nat.le_refl _)); replace hoA := OwnStrs.mono hoA (B' := W.heap.size) (by first | exact Nat.le_refl _ | exact HWA.size | exact HWB.size | exact HWC.size); have hxA := (HWA.cell (p := ⟨w.heap.size, 1, none⟩) hwW).trans x1; obtain ⟨r0A, r1A, r2A, f0A, f1A, f2A⟩ := blk3 (hX2.out.below HWA hX2.out.lt); clear hbA)
          | (go_at_call 69; refine (cloneInt_any A2 t.bs.length c2 t.bs _ (HSB.out _ (by first | exact (Below.refl _ _).drew | exact HWA | exact HWB | exact HWC)) (by omega)).mono ?_; rintro e wB ⟨vB, rfl, hoB, hbB⟩; obtain ⟨pB, qB, rfl, -⟩ := hoB.ints; have HWB : Below W.heap.size W wB := (by first | exact HWA.trans (hbB.mono HWA.size) | exact HWB.trans (hbB.mono HWB.size) | exact HWC.trans (hbB.mono HWC.size) | exact ⟨hbB.os, hbB.tape, hbB.output, hbB.size, hbB.block⟩); skip; (try replace hoA := hoA.below hbB (Nat.le_refl _)); (try replace hoB := hoB.below hbB (Nat.le_refl _)); (try replace hoC := hoC.below hbB (Nat.le_refl _)); replace hoB := OwnI.mono hoB (B' := W.heap.size) (by first | exact Nat.le_refl _ | exact HWA.size | exact HWB.size | exact HWC.size); have hxB := (HWB.cell (p := ⟨w.heap.size, 1, none⟩) hwW).trans x1; obtain ⟨r0B, r1B, r2B, f0B, f1B, f2B⟩ := blk3 (hX2.out.below HWB hX2.out.lt); clear hbB)
          | (go_at_call 68; refine (cloneStr_any (some ⟨g, 0, none⟩) 0 0 wsC _ (HSC.out _ (by first | exact (Below.refl _ _).drew | exact HWA | exact HWB | exact HWC)) (by omega)).mono ?_; rintro e wC ⟨vC, rfl, hoC, hbC⟩; obtain ⟨pC, qC, rfl, -⟩ := hoC.strs; have HWC : Below W.heap.size W wC := (by first | exact HWA.trans (hbC.mono HWA.size) | exact HWB.trans (hbC.mono HWB.size) | exact HWC.trans (hbC.mono HWC.size) | exact ⟨hbC.os, hbC.tape, hbC.output, hbC.size, hbC.block⟩); (try have hap : ∀ k, (Value.slice pA _ qA).ownBlock = some k → (Value.slice pC _ qC).ownBlock ≠ some k := fun k hk he => by have h1 := (hoA.lt k hk).2; have h2 := (hoC.lt k he).1; omega); (try replace hoA := hoA.below hbC (Nat.le_refl _)); (try replace hoB := hoB.below hbC (Nat.le_refl _)); (try replace hoC := hoC.below hbC (Nat.le_refl _)); replace hoC := OwnStrs.mono hoC (B' := W.heap.size) (by first | exact Nat.le_refl _ | exact HWA.size | exact HWB.size | exact HWC.size); have hxC := (HWC.cell (p := ⟨w.heap.size, 1, none⟩) hwW).trans x1; obtain ⟨r0C, r1C, r2C, f0C, f1C, f2C⟩ := blk3 (hX2.out.below HWC hX2.out.lt); clear hbC))
      all_goals
        clear hxA hxB hxC x0 x1
        replace hoA := Lib.hid hoA
        replace hoB := Lib.hid hoB
        replace hoC := Lib.hid hoC
        replace hap := Lib.hid hap
        have hgW : w.heap.size + 1 < W.heap.size := hX2.out.lt
        have HZA := Lib.hid (hB2.out.trans (HWA.mono hB2.out.size))
        have HZB := Lib.hid (hB2.out.trans (HWB.mono hB2.out.size))
        have HZC := Lib.hid (hB2.out.trans (HWC.mono hB2.out.size))
        have hBW := hB2.out.size
        clear HWA HWB HWC
        go_wp2
        refine bodyPost_ret (v := .agg #[.slice pA wsA.length qA, .slice pB t.bs.length qB, .slice pC wsC.length qC]) (by simp [results, Try.results54, go_sem, r0C, r1C, r2C]) rfl ?_
        first
          | exact ⟨_, rfl, by rw [HEx.out]; exact own_tng3 hoA.out hoB.out hoC.out hap.out hgW hBW, below_tng3 HZA.out (by omega)⟩
          | exact ⟨_, rfl, by rw [HEx.out]; exact own_tng3 hoA.out hoB.out hoC.out hap.out hgW hBW, below_tng3 HZB.out (by omega)⟩
          | exact ⟨_, rfl, by rw [HEx.out]; exact own_tng3 hoA.out hoB.out hoC.out hap.out hgW hBW, below_tng3 HZC.out (by omega)⟩
    · have HSC := Lib.hid (fun W' (hb : Below W.heap.size W W') => (show Strs W (some ⟨g, t.us.length, none⟩) t.ns.length (c - t.us.length) _ by have := hS.out.drop (m := t.us.length) (by omega); rwa [Nat.zero_add, Nat.add_sub_cancel_left] at this).below hb (Nat.le_refl _))
      generalize (swapAt t.words i j).take t.us.length = wsA at *
      generalize (swapAt t.words i j).drop t.us.length = wsC at *
      go_wp2
      go_region_held3 (fun w' => w'.cell? ⟨w.heap.size, 1, none⟩ = some (.slice A2 t.bs.length c2)) (first | go_keep | exact hxA | exact hxB | exact hxC)
        (first
          | (go_at_call 68; refine (cloneStr_any (some ⟨g, 0, none⟩) t.us.length c wsA _ (HSA.out _ (by first | exact (Below.refl _ _).drew | exact HWA | exact HWB | exact HWC)) (by omega)).mono ?_; rintro e wA ⟨vA, rfl, hoA, hbA⟩; obtain ⟨pA, qA, rfl, -⟩ := hoA.strs; have HWA : Below W.heap.size W wA := (by first | exact HWA.trans (hbA.mono HWA.size) | exact HWB.trans (hbA.mono HWB.size) | exact HWC.trans (hbA.mono HWC.size) | exact ⟨hbA.os, hbA.tape, hbA.output, hbA.size, hbA.block⟩); (try have hap : ∀ k, (Value.slice pA _ qA).ownBlock = some k → (Value.slice pC _ qC).ownBlock ≠ some k := fun k hk he => by have h1 := (hoA.lt k hk).1; have h2 := (hoC.lt k he).2; omega); (try replace hoA := hoA.below hbA (Nat.le_refl _)); (try replace hoB := hoB.below hbA (Nat.le_refl _)); (try replace hoC := hoC.below hbA (Nat.le_refl _)); replace hoA := OwnStrs.mono hoA (B' := W.heap.size) (by first | exact Nat.le_refl _ | exact HWA.size | exact HWB.size | exact HWC.size); have hxA := (HWA.cell (p := ⟨w.heap.size, 1, none⟩) hwW).trans x1; obtain ⟨r0A, r1A, r2A, f0A, f1A, f2A⟩ := blk3 (hX2.out.below HWA hX2.out.lt); clear hbA)
          | (go_at_call 69; refine (cloneInt_any A2 t.bs.length c2 t.bs _ (HSB.out _ (by first | exact (Below.refl _ _).drew | exact HWA | exact HWB | exact HWC)) (by omega)).mono ?_; rintro e wB ⟨vB, rfl, hoB, hbB⟩; obtain ⟨pB, qB, rfl, -⟩ := hoB.ints; have HWB : Below W.heap.size W wB := (by first | exact HWA.trans (hbB.mono HWA.size) | exact HWB.trans (hbB.mono HWB.size) | exact HWC.trans (hbB.mono HWC.size) | exact ⟨hbB.os, hbB.tape, hbB.output, hbB.size, hbB.block⟩); skip; (try replace hoA := hoA.below hbB (Nat.le_refl _)); (try replace hoB := hoB.below hbB (Nat.le_refl _)); (try replace hoC := hoC.below hbB (Nat.le_refl _)); replace hoB := OwnI.mono hoB (B' := W.heap.size) (by first | exact Nat.le_refl _ | exact HWA.size | exact HWB.size | exact HWC.size); have hxB := (HWB.cell (p := ⟨w.heap.size, 1, none⟩) hwW).trans x1; obtain ⟨r0B, r1B, r2B, f0B, f1B, f2B⟩ := blk3 (hX2.out.below HWB hX2.out.lt); clear hbB)
          | (go_at_call 68; refine (cloneStr_any (some ⟨g, t.us.length, none⟩) t.ns.length (c - t.us.length) wsC _ (HSC.out _ (by first | exact (Below.refl _ _).drew | exact HWA | exact HWB | exact HWC)) (by omega)).mono ?_; rintro e wC ⟨vC, rfl, hoC, hbC⟩; obtain ⟨pC, qC, rfl, -⟩ := hoC.strs; have HWC : Below W.heap.size W wC := (by first | exact HWA.trans (hbC.mono HWA.size) | exact HWB.trans (hbC.mono HWB.size) | exact HWC.trans (hbC.mono HWC.size) | exact ⟨hbC.os, hbC.tape, hbC.output, hbC.size, hbC.block⟩); (try have hap : ∀ k, (Value.slice pA _ qA).ownBlock = some k → (Value.slice pC _ qC).ownBlock ≠ some k := fun k hk he => by have h1 := (hoA.lt k hk).2; have h2 := (hoC.lt k he).1; omega); (try replace hoA := hoA.below hbC (Nat.le_refl _)); (try replace hoB := hoB.below hbC (Nat.le_refl _)); (try replace hoC := hoC.below hbC (Nat.le_refl _)); replace hoC := OwnStrs.mono hoC (B' := W.heap.size) (by first | exact Nat.le_refl _ | exact HWA.size | exact HWB.size | exact HWC.size); have hxC := (HWC.cell (p := ⟨w.heap.size, 1, none⟩) hwW).trans x1; obtain ⟨r0C, r1C, r2C, f0C, f1C, f2C⟩ := blk3 (hX2.out.below HWC hX2.out.lt); clear hbC))
      all_goals
        clear hxA hxB hxC x0 x1
        replace hoA := Lib.hid hoA
        replace hoB := Lib.hid hoB
        replace hoC := Lib.hid hoC
        replace hap := Lib.hid hap
        have hgW : w.heap.size + 1 < W.heap.size := hX2.out.lt
        have HZA := Lib.hid (hB2.out.trans (HWA.mono hB2.out.size))
        have HZB := Lib.hid (hB2.out.trans (HWB.mono hB2.out.size))
        have HZC := Lib.hid (hB2.out.trans (HWC.mono hB2.out.size))
        have hBW := hB2.out.size
        clear HWA HWB HWC
        go_wp2
        refine bodyPost_ret (v := .agg #[.slice pA wsA.length qA, .slice pB t.bs.length qB, .slice pC wsC.length qC]) (by simp [results, Try.results54, go_sem, r0C, r1C, r2C]) rfl ?_
        first
          | exact ⟨_, rfl, by rw [HEx.out]; exact own_tng3 hoA.out hoB.out hoC.out hap.out hgW hBW, below_tng3 HZA.out (by omega)⟩
          | exact ⟨_, rfl, by rw [HEx.out]; exact own_tng3 hoA.out hoB.out hoC.out hap.out hgW hBW, below_tng3 HZB.out (by omega)⟩
          | exact ⟨_, rfl, by rw [HEx.out]; exact own_tng3 hoA.out hoB.out hoC.out hap.out hgW hBW, below_tng3 HZC.out (by omega)⟩
end Go.Proofs.Ytdmldgikfjgmhaa
