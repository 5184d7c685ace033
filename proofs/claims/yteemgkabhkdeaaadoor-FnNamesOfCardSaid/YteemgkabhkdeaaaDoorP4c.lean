/-
  The program's table of steps: a map from words to a method and a number.
-/
import Derived.Test.YteemgkabhkdeaaaDoorP4b
import Derived.Test.YteemgkabhkdeaaaDoorMap
import Derived.Laws.EntriesVeiled
namespace Go.Proofs.YteemgkabhkdeaaaDoor
open Go.RowKit Go.WideMaps Go.Maps

/-- How a step reads: the method's number, and the number with it. -/
def stepCells : List Value → Option (DataW Unit × List MemPlace)
  | [.func (.func f) a b, .int k n] => if a.size = 0 ∧ b.size = 0 ∧ k = .i64 then some (.agg [.lit (.int .i64 f), .lit (.int .i64 n)], []) else none
  | [.nilFunc, .int k n] => if k = .i64 then some (.agg [.lit (.int .i64 (-1)), .lit (.int .i64 n)], []) else none
  | _ => none
def stepElem : Value → Option (DataW Unit × List MemPlace)
  | .agg cs => stepCells cs.toList
  | _ => none
abbrev stepV (f : Nat) (n : Int) : Value := .agg #[.func (.func f) #[] #[], .int .i64 n]
def stepD (f : Nat) (n : Int) : DataW Unit := .agg [.lit (.int .i64 f), .lit (.int .i64 n)]
theorem stepElem_mk (f : Nat) (n : Int) : stepElem (stepV f n) = some (stepD f n, []) := rfl
theorem stepElem_inv {v : Value} {f : Nat} {n : Int} {ps : List MemPlace} (h : stepElem v = some (stepD f n, ps)) : v = stepV f n := by
  unfold stepElem at h
  split at h
  · rename_i cs
    unfold stepCells at h
    split at h
    · rename_i f' a b k n' e
      split at h
      · rename_i hc
        obtain ⟨ha, hb, rfl⟩ := hc
        simp only [stepD, Option.some.injEq, Prod.mk.injEq, DataW.agg.injEq, List.cons.injEq, DataW.lit.injEq, Lit.int.injEq] at h
        obtain ⟨⟨⟨-, hf⟩, ⟨-, rfl⟩, -⟩, -⟩ := h
        obtain rfl : f' = f := Int.ofNat_inj.1 hf
        have e1 : a = #[] := Array.size_eq_zero_iff.1 ha
        have e2 : b = #[] := Array.size_eq_zero_iff.1 hb
        subst e1 e2
        have : cs = #[.func (.func f') #[] #[], .int .i64 n'] := Array.toList_inj.1 e
        rw [this]
      · cases h
    · split at h
      · simp only [stepD, Option.some.injEq, Prod.mk.injEq, DataW.agg.injEq, List.cons.injEq, DataW.lit.injEq, Lit.int.injEq] at h
        obtain ⟨⟨⟨-, hf⟩, -⟩, -⟩ := h
        omega
      · cases h
    · cases h
  · cases h
theorem stepElem_zero {v : Value} {ps : List MemPlace} (h : stepElem v = some (.agg [.lit (.int .i64 (-1)), .lit (.int .i64 0)], ps)) : v = .agg #[.nilFunc, .int .i64 0] := by
  unfold stepElem at h
  split at h
  · rename_i cs
    unfold stepCells at h
    split at h
    · split at h
      · simp only [Option.some.injEq, Prod.mk.injEq, DataW.agg.injEq, List.cons.injEq, DataW.lit.injEq, Lit.int.injEq] at h
        obtain ⟨⟨⟨-, hf⟩, -⟩, -⟩ := h
        omega
      · cases h
    · rename_i k n' e
      split at h
      · rename_i hk
        subst hk
        simp only [Option.some.injEq, Prod.mk.injEq, DataW.agg.injEq, List.cons.injEq, DataW.lit.injEq, Lit.int.injEq] at h
        obtain ⟨⟨-, ⟨-, rfl⟩, -⟩, -⟩ := h
        have : cs = #[.nilFunc, .int .i64 0] := Array.toList_inj.1 e
        rw [this]
      · cases h
    · cases h
  · cases h
theorem stepZero (w : World) : (zeroValue 94).run Tryd.prog w = .ok (.agg #[.nilFunc, .int .i64 0]) w := by kernel_rfl
theorem stepZero_reads : stepElem (.agg #[.nilFunc, .int .i64 0]) = some (.agg [.lit (.int .i64 (-1)), .lit (.int .i64 0)], []) := rfl

/-- The map of the first k words, to data by place. -/
def plF (ws : List ByteArray) (f : Nat → DataW Unit) : Nat → DataW Unit
  | 0 => .map []
  | k+1 => (plF ws f k).put (keyL (ws.getD k ByteArray.empty)) (f k)
theorem plF_tidy (ws : List ByteArray) (f : Nat → DataW Unit) : ∀ k, Tidy (plF ws f k)
  | 0 => tidy_empty
  | k+1 => (plF_tidy ws f k).put (keyL_is _) _
theorem plF_has (ws : List ByteArray) (f : Nat → DataW Unit) (x : ByteArray) : ∀ k, k ≤ ws.length → (Maps.has (plF ws f k) (keyL x) = true ↔ x ∈ ws.take k)
  | 0, _ => by simp [plF, Maps.has]
  | k+1, h => by
    have hk : k < ws.length := by omega
    have hg : ws.getD k ByteArray.empty = ws[k] := by simp [List.getD_eq_getElem?_getD, hk]
    have hr := plF_has ws f x k (by omega)
    rw [List.take_succ_eq_append_getElem hk]
    by_cases e : x = ws[k]
    · subst e
      show Maps.has ((plF ws f k).put _ _) _ = true ↔ _
      rw [hg, has_put_same (plF_tidy ws f k).isMap (keyL_is _)]
      simp only [List.mem_append, List.mem_singleton, or_true]
    · show Maps.has ((plF ws f k).put _ _) _ = true ↔ _
      rw [hg, has_put_other (keyL_inj e), hr]
      simp only [List.mem_append, List.mem_singleton, e, or_false]
theorem plF_at (ws : List ByteArray) (f : Nat → DataW Unit) (hd : ws.Nodup) (z : DataW Unit) : ∀ k, k ≤ ws.length → ∀ j, (hj : j < k) → (plF ws f k).atKey (keyL (ws.getD j ByteArray.empty)) z = f j
  | k+1, h, j, hj => by
    by_cases e : j = k
    · subst e
      exact atKey_put_same (plF_tidy ws f j).isMap (keyL_is _) _ _
    · have hne : ws.getD j ByteArray.empty ≠ ws.getD k ByteArray.empty := by
        have hjl : j < ws.length := by omega
        have hkl : k < ws.length := by omega
        simp only [List.getD_eq_getElem?_getD, List.getElem?_eq_getElem hjl, List.getElem?_eq_getElem hkl, Option.getD_some]
        exact List.pairwise_iff_getElem.1 hd j k hjl hkl (by omega)
      show ((plF ws f k).put _ _).atKey _ _ = _
      rw [atKey_put_other (keyL_inj hne)]
      exact plF_at ws f hd z k (by omega) j (by omega)
/-- The steps of the words of a tongue. -/
def fS (t : Tg) (k : Nat) : DataW Unit := if k < t.us.length then stepD 71 ((k : Int) + 1) else stepD 72 (((k - t.us.length : Nat) : Int) + 1)
def stD (t : Tg) (k : Nat) : DataW Unit := plF (t.us ++ t.ns) (fS t) k
theorem stD_us {t : Tg} {k : Nat} (hk : k < t.us.length) : stD t (k + 1) = (stD t k).put (keyL (t.us.getD k ByteArray.empty)) (stepD 71 ((k : Int) + 1)) := by
  have e : (t.us ++ t.ns).getD k ByteArray.empty = t.us.getD k ByteArray.empty := by simp [List.getD_eq_getElem?_getD, List.getElem?_append_left hk]
  unfold stD
  rw [plF, e, fS, if_pos hk]
theorem stD_ns {t : Tg} {k : Nat} : stD t (t.us.length + (k + 1)) = (stD t (t.us.length + k)).put (keyL (t.ns.getD k ByteArray.empty)) (stepD 72 ((k : Int) + 1)) := by
  have e : (t.us ++ t.ns).getD (t.us.length + k) ByteArray.empty = t.ns.getD k ByteArray.empty := by
    rw [List.getD_eq_getElem?_getD, List.getElem?_append_right (by omega)]
    simp [List.getD_eq_getElem?_getD]
  unfold stD
  show plF _ _ ((t.us.length + k) + 1) = _
  rw [plF, e, fS, if_neg (by omega), show t.us.length + k - t.us.length = k by omega]
def stAll (t : Tg) : DataW Unit := stD t (t.us.length + t.ns.length)
/-- What a word stands for in the table. -/
theorem st_has (t : Tg) (x : ByteArray) : Maps.has (stAll t) (keyL x) = (decide (place t.us x < t.us.length) || decide (place t.ns x < t.ns.length)) := by
  have h := plF_has (t.us ++ t.ns) (fS t) x (t.us ++ t.ns).length (Nat.le_refl _)
  rw [List.take_length, List.mem_append, ← place_mem, ← place_mem] at h
  have e : stAll t = plF (t.us ++ t.ns) (fS t) (t.us ++ t.ns).length := by rw [List.length_append]; rfl
  rw [← e] at h
  rw [Bool.eq_iff_iff, h, Bool.or_eq_true, decide_eq_true_eq, decide_eq_true_eq]
theorem st_us {t : Tg} (hok : t.ok = true) {x : ByteArray} (h : place t.us x < t.us.length) (z : DataW Unit) : (stAll t).atKey (keyL x) z = stepD 71 ((place t.us x : Int) + 1) := by
  have hd := ((ok_iff t).1 hok).2.2.2.2.2
  have := plF_at (t.us ++ t.ns) (fS t) hd z (t.us ++ t.ns).length (Nat.le_refl _) (place t.us x) (by simp; omega)
  have e : stAll t = plF (t.us ++ t.ns) (fS t) (t.us ++ t.ns).length := by rw [List.length_append]; rfl
  rw [← e, fS, if_pos h] at this
  have e2 : (t.us ++ t.ns).getD (place t.us x) ByteArray.empty = x := by
    rw [List.getD_eq_getElem?_getD, List.getElem?_append_left h, ← List.getD_eq_getElem?_getD]
    exact place_at h
  rwa [e2] at this
theorem st_ns {t : Tg} (hok : t.ok = true) {x : ByteArray} (h : place t.ns x < t.ns.length) (z : DataW Unit) : (stAll t).atKey (keyL x) z = stepD 72 ((place t.ns x : Int) + 1) := by
  have hd := ((ok_iff t).1 hok).2.2.2.2.2
  have := plF_at (t.us ++ t.ns) (fS t) hd z (t.us ++ t.ns).length (Nat.le_refl _) (t.us.length + place t.ns x) (by simp; omega)
  have e : stAll t = plF (t.us ++ t.ns) (fS t) (t.us ++ t.ns).length := by rw [List.length_append]; rfl
  rw [← e, fS, if_neg (by omega), show t.us.length + place t.ns x - t.us.length = place t.ns x by omega] at this
  have e2 : (t.us ++ t.ns).getD (t.us.length + place t.ns x) ByteArray.empty = x := by
    rw [List.getD_eq_getElem?_getD, List.getElem?_append_right (by omega), show t.us.length + place t.ns x - t.us.length = place t.ns x by omega, ← List.getD_eq_getElem?_getD]
    exact place_at h
  rwa [e2] at this

/-- A step is looked up, for the walk. -/
theorem wpList_step_yes {P : Program} (w : World) {ops : Array Oper} {rest : List Oper} {o : Oper} {a : Act} {Q : Exit → Act → World → Prop} (hg : o.guard = none) (m x : Operand) (t : TypeId) (hop : o.op = Op.lookup t m x true)
    (k e : TypeId) (K : Keyed P k) (ht : P.underlying t = some (.map k e)) (hz : (zeroValue e).run P w = .ok (.agg #[.nilFunc, .int .i64 0]) w) (b n : Nat) (D : DataW Unit)
    (hm : a.eval m = .map (some b)) (hown : w.ownsMap P k stepElem b n D) (key : Value) (kl : Lit) (hx : a.eval x = key) (hkey : keyOf P k key = some kl) (f : Nat) (j : Int) (hh : Maps.has D kl = true) (hat : ∀ z, D.atKey kl z = stepD f j)
    (hK : wpList P ops Q rest (a.put o.dst (.tuple #[stepV f j, .bool true])) w) : wpList P ops Q (o :: rest) a w :=
  wpList_lookup_own_ok w hg m x t hop k e K ht stepElem hz _ [] stepZero_reads b n D hm hown key kl hx hkey (fun v ps hv => by
    rw [hat] at hv
    rw [stepElem_inv hv, hh]
    exact hK)
theorem wpList_step_no {P : Program} (w : World) {ops : Array Oper} {rest : List Oper} {o : Oper} {a : Act} {Q : Exit → Act → World → Prop} (hg : o.guard = none) (m x : Operand) (t : TypeId) (hop : o.op = Op.lookup t m x true)
    (k e : TypeId) (K : Keyed P k) (ht : P.underlying t = some (.map k e)) (hz : (zeroValue e).run P w = .ok (.agg #[.nilFunc, .int .i64 0]) w) (b n : Nat) (D : DataW Unit)
    (hm : a.eval m = .map (some b)) (hown : w.ownsMap P k stepElem b n D) (key : Value) (kl : Lit) (hx : a.eval x = key) (hkey : keyOf P k key = some kl) (hh : Maps.has D kl = false)
    (hK : wpList P ops Q rest (a.put o.dst (.tuple #[.agg #[.nilFunc, .int .i64 0], .bool false])) w) : wpList P ops Q (o :: rest) a w :=
  wpList_lookup_own_ok w hg m x t hop k e K ht stepElem hz _ [] stepZero_reads b n D hm hown key kl hx hkey (fun v ps hv => by
    rw [atKey_of_not_has hh] at hv
    rw [stepElem_zero hv, hh]
    exact hK)

/-- The table of the steps of a tongue, at block b. -/
def Stepped (w : World) (b : Nat) (t : Tg) (k : Nat) : Prop := w.ownsMap Tryd.prog 9 stepElem b k (stD t k)

set_option maxRecDepth 100000 in
set_option maxHeartbeats 2000000 in
theorem stepsOf_any (v : Value) (t : Tg) (w : World) (h : Tng w v t) (hok : t.ok = true) (hf : t.Fine) :
    Calls Tryd.prog 56 #[v] w fun e w' => e = .returned (.map (some (w.heap.size + 1))) ∧ Stepped w' (w.heap.size + 1) t (t.us.length + t.ns.length) ∧ Below w.heap.size w w' := by
  obtain ⟨A1, c1, A2, c2, A3, c3, rfl, -⟩ := h.ex
  have hmm := fun kd n W => run_makeMap_n (P := Tryd.prog) 87 9 94 kd n Tryd.underlying87 W
  have hs := ok_shape hok
  have hul := hs.us
  have hns := hs.ns
  have hbl := bases_len hs.bs
  have hB := (Below.refl w.heap.size w).alloc (Nat.le_refl _) (.cells #[.slice A1 t.us.length c1, .slice A2 t.bs.length c2, .slice A3 t.ns.length c3] 26)
  have HX := Blk.new w 26 #[.slice A1 t.us.length c1, .slice A2 t.bs.length c2, .slice A3 t.ns.length c3]
  have HT := h.below hB (Nat.le_refl _)
  have hsz : ∀ x, x ∈ t.us ++ t.ns → x.size ≤ maxLen := fun x hx => by have := hf.size x hx; unfold maxLen; omega
  have hsu : ∀ k, (t.us.getD k ByteArray.empty).size ≤ maxLen := fun k => by
    by_cases hk : k < t.us.length
    · rw [List.getD, List.getElem?_eq_getElem hk]; exact hsz _ (List.mem_append_left _ (List.getElem_mem hk))
    · rw [List.getD, List.getElem?_eq_none (by omega)]; exact Nat.zero_le _
  have hsn : ∀ k, (t.ns.getD k ByteArray.empty).size ≤ maxLen := fun k => by
    by_cases hk : k < t.ns.length
    · rw [List.getD, List.getElem?_eq_getElem hk]; exact hsz _ (List.mem_append_right _ (List.getElem_mem hk))
    · rw [List.getD, List.getElem?_eq_none (by omega)]; exact Nat.zero_le _
  replace hsu := Lib.hid hsu
  replace hsn := Lib.hid hsn
  replace hB := Lib.hid hB
  replace HX := Lib.hid HX
  replace HT := Lib.hid HT
  clear h hf hsz hs
  have hsW : (w.alloc (.cells #[.slice A1 t.us.length c1, .slice A2 t.bs.length c2, .slice A3 t.ns.length c3] 26)).heap.size = w.heap.size + 1 := World.size_alloc ..
  go_enter Tryd.func56, Tryd.ntmps56
  go_upto_region 1 with (fail)
  generalize w.alloc (.cells #[.slice A1 t.us.length c1, .slice A2 t.bs.length c2, .slice A3 t.ns.length c3] 26) = W at *
  obtain ⟨x0, x1, x2, -, -, -⟩ := blk3 HX.out
  have kk : IntKind.i64.wrap ((t.us.length : Int) + (t.ns.length : Int)) = (t.us.length : Int) + (t.ns.length : Int) := IntWalk.i64_in _ (by omega)
  have hD0 : Stepped (W.alloc (.map #[] 0)) W.heap.size t 0 := World.ownsMap_made _ _ _ _
  have hB0 := hB.out.alloc hB.out.size (.map #[] 0)
  have HX0 := HX.out.alloc (.map #[] 0)
  have hBm := (Below.refl W.heap.size W).alloc (Nat.le_refl _) (.map #[] 0)
  obtain ⟨_, _, _, _, _, _, ev, S1, -, S3⟩ := HT.out.ex
  cases ev
  obtain ⟨b1, o1, rfl, hb1, hc1⟩ := S1.at_ (by omega)
  have HU : ∀ k, k < t.us.length → (W.alloc (.map #[] 0)).cell? ⟨b1, o1 + k, none⟩ = some (.string (t.us.getD k ByteArray.empty)) := fun k hk => (hBm.cell (p := ⟨b1, o1 + k, none⟩) hb1).trans (hc1 k hk)
  have HN : 0 < t.ns.length → ∃ b o, A3 = some ⟨b, o, none⟩ ∧ b < W.heap.size ∧ ∀ k, k < t.ns.length → (W.alloc (.map #[] 0)).cell? ⟨b, o + k, none⟩ = some (.string (t.ns.getD k ByteArray.empty)) := fun h0 => by
    obtain ⟨b, o, e, hb, hc⟩ := S3.at_ h0
    exact ⟨b, o, e, hb, fun k hk => (hBm.cell (p := ⟨b, o + k, none⟩) hb).trans (hc k hk)⟩
  have hls : ∀ (b : Nat) (wr : World), b < W.heap.size → (W.alloc (.map #[] 0)).grownBy wr (some W.heap.size) → wr.heap[b]? = (W.alloc (.map #[] 0)).heap[b]? := fun b wr hb hg => hg.block b (by have := hBm.size; omega) (fun e => by cases e; omega)
  replace hD0 := Lib.hid hD0
  replace hB0 := Lib.hid hB0
  replace HX0 := Lib.hid HX0
  replace HU := Lib.hid HU
  replace HN := Lib.hid HN
  replace hls := Lib.hid hls
  clear S1 S3 hc1 hBm
  replace hsW := Lib.hid hsW
  clear hB HX HT
  go_upto_region 2 with (fail)
  have hsM : W.heap.size = w.heap.size + 1 := hsW.out
  replace hsM := Lib.hid hsM
  have hMM : W.heap.size = w.heap.size + 1 := hsM.out
  generalize W.alloc (.map #[] 0) = W1 at *
  generalize W.heap.size = M at *
  replace hMM := Lib.hid hMM
  have HXu := Lib.hid (fun W' (hb : Below W1.heap.size W1 W') => blk3 (HX0.out.below hb HX0.out.lt))
  clear x0 x1 x2 hmm kk hsW hsM
  obtain ⟨x0, x1, x2, -, -, -⟩ := blk3 HX0.out
  have hMw : w.heap.size ≤ M := by rw [hMM.out]; omega
  replace hMw := Lib.hid hMw
  go_wp2
  go_loopw [19] (fun i wr => ∃ k : Nat, k ≤ t.us.length ∧ i = .int .i64 k ∧ Stepped wr M t k ∧ W1.grownBy wr (some M)) (fun i _ => t.us.length - (intOf i).toNat)
  case atStart => exact ⟨0, Nat.zero_le _, rfl, hD0.out, World.grownBy.refl _ _⟩
  case round =>
    obtain ⟨k, hk, rfl, hown, hg⟩ := hrel
    have hXr := HX0.out.grown hg (fun e => by have := Option.some.inj e; have := hMM.out; omega)
    by_cases hlt : k < t.us.length
    · have ck := (World.cell?_of_block (a := ⟨b1, o1 + k, none⟩) (hls.out b1 wr hb1 hg)).trans (HU.out k hlt)
      have hkey := keyOf_string_mk (P := Tryd.prog) Tryd.underlying9 (hsu.out k)
      have HD := stD_us (t := t) hlt
      generalize t.us.getD k ByteArray.empty = x at *
      replace hown := Lib.hid hown
      replace hg := Lib.hid hg
      replace hkey := Lib.hid hkey
      replace HD := Lib.hid HD
      have kw : IntKind.i64.wrap ((k : Int) + 1) = (k : Int) + 1 := IntWalk.i64_in _ (by omega)
      clear hXr
      go_wp2_with (at_mapUpdate; refine wpList_mapUpdate_own _ rfl _ _ _ 87 rfl 9 94 keyLaw Tryd.underlying87 stepElem M k _ rfl hown.out (by unfold maxLen; omega) _ _ _ rfl rfl hkey.out _ [] (stepElem_mk _ _) ?_; intro w1 hown1 hgrow1)
      have HG := Lib.hid (hg.out.trans hgrow1)
      rw [← HD.out] at hown1
      replace hown1 := Lib.hid hown1
      clear hgrow1
      go_wp2
      go_roundw
      case rel => exact ⟨k+1, by omega, by go_num, hown1.out, HG.out⟩
      case measure => simp [intOf]; omega
    · obtain rfl : k = t.us.length := by omega
      replace hown := Lib.hid hown
      replace hg := Lib.hid hg
      clear x0 x1 x2
      obtain ⟨x0, x1, x2, -, -, -⟩ := blk3 hXr
      clear hXr
      go_wp2
      go_loopw [33] (fun i wq => ∃ k : Nat, k ≤ t.ns.length ∧ i = .int .i64 k ∧ Stepped wq M t (t.us.length + k) ∧ W1.grownBy wq (some M)) (fun i _ => t.ns.length - (intOf i).toNat)
      case atStart => exact ⟨0, Nat.zero_le _, rfl, hown.out, hg.out⟩
      case round =>
        obtain ⟨k, hk, rfl, hown2, hg2⟩ := hrel
        clear x0 x1 x2 hown hg
        by_cases hlt2 : k < t.ns.length
        · obtain ⟨b3, o3, rfl, hb3, hc3⟩ := HN.out (by omega)
          have ck := (World.cell?_of_block (a := ⟨b3, o3 + k, none⟩) (hls.out b3 _ hb3 hg2)).trans (hc3 k hlt2)
          have hkey := keyOf_string_mk (P := Tryd.prog) Tryd.underlying9 (hsn.out k)
          have HD := stD_ns (t := t) (k := k)
          generalize t.ns.getD k ByteArray.empty = x at *
          replace hown2 := Lib.hid hown2
          replace hg2 := Lib.hid hg2
          replace hkey := Lib.hid hkey
          replace HD := Lib.hid HD
          have kw : IntKind.i64.wrap ((k : Int) + 1) = (k : Int) + 1 := IntWalk.i64_in _ (by omega)
          clear hc3
          go_wp2_with (at_mapUpdate; refine wpList_mapUpdate_own _ rfl _ _ _ 87 rfl 9 94 keyLaw Tryd.underlying87 stepElem M (t.us.length + k) _ rfl hown2.out (by unfold maxLen; omega) _ _ _ rfl rfl hkey.out _ [] (stepElem_mk _ _) ?_; intro w1 hown1 hgrow1)
          have HG := Lib.hid (hg2.out.trans hgrow1)
          rw [← HD.out] at hown1
          replace hown1 := Lib.hid hown1
          clear hgrow1
          go_wp2
          go_roundw
          case rel => exact ⟨k+1, by omega, by go_num, hown1.out, HG.out⟩
          case measure => simp [intOf]; omega
        · obtain rfl : k = t.ns.length := by omega
          replace hown2 := Lib.hid hown2
          replace hg2 := Lib.hid hg2
          go_wp2
          go_ret
          rw [hMM.out] at hown2 hg2 ⊢
          exact ⟨rfl, hown2.out, hB0.out.grown hg2.out hB0.out.size (fun j hj => by cases hj; omega)⟩
end Go.Proofs.YteemgkabhkdeaaaDoor
