/-
  The contract of the program's seenByWords.
-/
import Derived.Test.YtebfoofiaokhdaaF1
namespace Go.Proofs.Ytebfoofiaokhdaa
open Go.RowKit

theorem below_setRow {B : Nat} {a w : World} (h : Below B a w) {g : Nat} (hg : B ≤ g) (cs : Array Value) : Below B a (w.setRow g cs) :=
  h.trans ⟨rfl, rfl, rfl, by simp, fun k hk => setRow_other w g k cs (by omega)⟩
theorem Blk.row {w : World} {g : Nat} {t : TypeId} {cs : Array Value} (h : Blk w g t cs) (cs' : Array Value) : Blk (w.setRow g cs') g t cs' := setRow_heap w g cs cs' t _ h
theorem Blk.rowFar {w : World} {g b : Nat} {t : TypeId} {cs : Array Value} (h : Blk w g t cs) (hb : g ≠ b) (cs' : Array Value) : Blk (w.setRow b cs') g t cs := (setRow_other w b g cs' hb).trans h

/-- The memory of seenByWords: the tongue, the two results, the two tables. -/
structure SeenSt (W0 : World) (cs : Array Value) (P Q C L : List Int) (w : World) : Prop where
  bel : Below W0.heap.size W0 w
  hx : Blk w W0.heap.size 26 cs
  h4 : Blk w (W0.heap.size + 1) 55 (tabV P)
  h5 : Blk w (W0.heap.size + 1 + 1) 55 (tabV Q)
  h7 : Blk w (W0.heap.size + 1 + 1 + 1) 55 (tabV C)
  h8 : Blk w (W0.heap.size + 1 + 1 + 1 + 1) 55 (tabV L)
section
variable {W0 w w' : World} {cs : Array Value} {P Q C L : List Int}
theorem SeenSt.step (h : SeenSt W0 cs P Q C L w) (hb : Below w.heap.size w w') : SeenSt W0 cs P Q C L w' :=
  ⟨h.bel.trans (hb.mono h.bel.size), h.hx.below hb h.hx.lt, h.h4.below hb h.h4.lt, h.h5.below hb h.h5.lt, h.h7.below hb h.h7.lt, h.h8.below hb h.h8.lt⟩
theorem SeenSt.drew (h : SeenSt W0 cs P Q C L w) : SeenSt W0 cs P Q C L w.drew := h.step (Below.refl _ _).drew
theorem SeenSt.set4 (h : SeenSt W0 cs P Q C L w) (R : List Int) : SeenSt W0 cs R Q C L (w.setRow (W0.heap.size + 1) (tabV R)) :=
  ⟨below_setRow h.bel (by omega) _, h.hx.rowFar (by omega) _, h.h4.row _, h.h5.rowFar (by omega) _, h.h7.rowFar (by omega) _, h.h8.rowFar (by omega) _⟩
theorem SeenSt.set5 (h : SeenSt W0 cs P Q C L w) (R : List Int) : SeenSt W0 cs P R C L (w.setRow (W0.heap.size + 1 + 1) (tabV R)) :=
  ⟨below_setRow h.bel (by omega) _, h.hx.rowFar (by omega) _, h.h4.rowFar (by omega) _, h.h5.row _, h.h7.rowFar (by omega) _, h.h8.rowFar (by omega) _⟩
theorem SeenSt.keep (h : SeenSt W0 cs P Q C L w) {j : Nat} {n : Int} {e : Ending} (hk : KeptIn (W0.heap.size + 1 + 1 + 1) (W0.heap.size + 1 + 1 + 1 + 1) C L j n w e w') :
    SeenSt W0 cs P Q (C.set j (C.getD j 0 + 1)) (if C.getD j 0 = 0 then L.set j n else L) w' := by
  obtain ⟨-, h1, h2, h3⟩ := hk
  have hb := h3 (W0.heap.size + 1 + 1 + 1) (Nat.le_refl _) (by omega)
  exact ⟨h.bel.trans (hb.mono (by omega)), h.hx.below hb (by omega), h.h4.below hb (by omega), h.h5.below hb (by omega), h1, h2⟩
end
theorem info_tab : (Try.prog.info? 55).map (·.size) = some 32 := by kernel_rfl
theorem results_tabs {fn : Func} {p q u : Tmp} {ty : TypeId} (h : fn.results = #[.cell p ty, .cell q ty, .tmp u]) (tmps : Array Value) (P : Program) (w : World) (g1 g2 : Nat) (t : TypeId) (cs ds : Array Value) (nn : Nat) (ee : TypeId)
    (hp : tmps.getD p undef = .pointer (some ⟨g1, 0, none⟩)) (hq : tmps.getD q undef = .pointer (some ⟨g2, 0, none⟩)) (h1 : Blk w g1 t cs) (h2 : Blk w g2 t ds)
    (hu : P.underlying ty = some (.array nn ee)) (hi : (P.info? ty).map (·.size) = some cs.size) (hj : (P.info? ty).map (·.size) = some ds.size) :
    (results fn tmps).run P w = .ok (.tuple #[.agg cs, .agg ds, tmps.getD u undef]) w := by
  have hp' : tmps[p]?.getD undef = .pointer (some ⟨g1, 0, none⟩) := by simpa using hp
  have hq' : tmps[q]?.getD undef = .pointer (some ⟨g2, 0, none⟩) := by simpa using hq
  have k1 := run_loadVar_row (P := P) w g1 t ty cs (0, 0) _ h1 hu rfl hi
  have k2 := run_loadVar_row (P := P) w g2 t ty ds (0, 0) _ h2 hu rfl hj
  simp [results, h, hp', hq', asAddr, k1, k2]
theorem tabs_ret {a a' b b' : List Int} {c c' : Bool} (h1 : a = a') (h2 : b = b') (h3 : c = c') : Ending.returned (.tuple #[.agg (tabV a), .agg (tabV b), .bool c]) = .returned (.tuple #[.agg (tabV a'), .agg (tabV b'), .bool c']) := by rw [h1, h2, h3]
theorem zero_tab : tabV (List.replicate 32 0) = #[.int .i64 0, .int .i64 0, .int .i64 0, .int .i64 0, .int .i64 0, .int .i64 0, .int .i64 0, .int .i64 0, .int .i64 0, .int .i64 0, .int .i64 0, .int .i64 0, .int .i64 0, .int .i64 0, .int .i64 0, .int .i64 0, .int .i64 0, .int .i64 0, .int .i64 0, .int .i64 0, .int .i64 0, .int .i64 0, .int .i64 0, .int .i64 0, .int .i64 0, .int .i64 0, .int .i64 0, .int .i64 0, .int .i64 0, .int .i64 0, .int .i64 0, .int .i64 0] := rfl

set_option maxRecDepth 100000 in
set_option maxHeartbeats 8000000 in
theorem seen_any (v : Value) (t : Tg) (m : Int) (w : World) (h : Tng w v t) (hf : t.Fine) (hm : -9223372036854775808 ≤ m ∧ m ≤ 9223372036854775807) :
    Calls Try.prog 46 #[v, .int .i64 m] w fun e w' => e = .returned (.tuple #[.agg (tabV (tabC (lngF t) (if okM t m then m.toNat else 0))), .agg (tabV (tabL (lngF t) (if okM t m then m.toNat else 0))), .bool (okM t m)]) ∧ Below w.heap.size w w' := by
  have h0 := h
  obtain ⟨A1, c1, A2, c2, A3, c3, rfl, -⟩ := h.ex
  have KT := Lib.hid (fun W' (hT : Tng W' (.agg #[.slice A1 t.us.length c1, .slice A2 t.bs.length c2, .slice A3 t.ns.length c3]) t) => implTongueOk_any _ t W' hT hf)
  have FB := Lib.hid (fun (k : Nat) => lng_bd t k)
  have S : SeenSt w #[.slice A1 t.us.length c1, .slice A2 t.bs.length c2, .slice A3 t.ns.length c3] (List.replicate 32 0) (List.replicate 32 0) (tabC (lngF t) 0) (tabL (lngF t) 0) (((((w.alloc (.cells #[.slice A1 t.us.length c1, .slice A2 t.bs.length c2, .slice A3 t.ns.length c3] 26)).alloc (.cells #[.int .i64 0, .int .i64 0, .int .i64 0, .int .i64 0, .int .i64 0, .int .i64 0, .int .i64 0, .int .i64 0, .int .i64 0, .int .i64 0, .int .i64 0, .int .i64 0, .int .i64 0, .int .i64 0, .int .i64 0, .int .i64 0, .int .i64 0, .int .i64 0, .int .i64 0, .int .i64 0, .int .i64 0, .int .i64 0, .int .i64 0, .int .i64 0, .int .i64 0, .int .i64 0, .int .i64 0, .int .i64 0, .int .i64 0, .int .i64 0, .int .i64 0, .int .i64 0] 55)).alloc (.cells #[.int .i64 0, .int .i64 0, .int .i64 0, .int .i64 0, .int .i64 0, .int .i64 0, .int .i64 0, .int .i64 0, .int .i64 0, .int .i64 0, .int .i64 0, .int .i64 0, .int .i64 0, .int .i64 0, .int .i64 0, .int .i64 0, .int .i64 0, .int .i64 0, .int .i64 0, .int .i64 0, .int .i64 0, .int .i64 0, .int .i64 0, .int .i64 0, .int .i64 0, .int .i64 0, .int .i64 0, .int .i64 0, .int .i64 0, .int .i64 0, .int .i64 0, .int .i64 0] 55)).alloc (.cells #[.int .i64 0, .int .i64 0, .int .i64 0, .int .i64 0, .int .i64 0, .int .i64 0, .int .i64 0, .int .i64 0, .int .i64 0, .int .i64 0, .int .i64 0, .int .i64 0, .int .i64 0, .int .i64 0, .int .i64 0, .int .i64 0, .int .i64 0, .int .i64 0, .int .i64 0, .int .i64 0, .int .i64 0, .int .i64 0, .int .i64 0, .int .i64 0, .int .i64 0, .int .i64 0, .int .i64 0, .int .i64 0, .int .i64 0, .int .i64 0, .int .i64 0, .int .i64 0] 55)).alloc (.cells #[.int .i64 0, .int .i64 0, .int .i64 0, .int .i64 0, .int .i64 0, .int .i64 0, .int .i64 0, .int .i64 0, .int .i64 0, .int .i64 0, .int .i64 0, .int .i64 0, .int .i64 0, .int .i64 0, .int .i64 0, .int .i64 0, .int .i64 0, .int .i64 0, .int .i64 0, .int .i64 0, .int .i64 0, .int .i64 0, .int .i64 0, .int .i64 0, .int .i64 0, .int .i64 0, .int .i64 0, .int .i64 0, .int .i64 0, .int .i64 0, .int .i64 0, .int .i64 0] 55)) := by
    rw [tabC_start, tabL_start]
    refine ⟨(((((Below.refl _ _).alloc (Nat.le_refl _) _).alloc (by simp) _).alloc (by simp; omega) _).alloc (by simp; omega) _).alloc (by simp; omega) _, ((((Blk.new _ _ _).alloc _).alloc _).alloc _).alloc _, ?_, ?_, ?_, ?_⟩
    · rw [zero_tab]; exact (((blk_new_at _ (by simp)).alloc _).alloc _).alloc _
    · rw [zero_tab]; exact ((blk_new_at _ (by simp)).alloc _).alloc _
    · rw [zero_tab]; exact (blk_new_at _ (by simp)).alloc _
    · rw [zero_tab]; exact blk_new_at _ (by simp)
  have HF : okM t m = false → tabC (lngF t) 0 = tabC (lngF t) (if okM t m then m.toNat else 0) ∧ tabL (lngF t) 0 = tabL (lngF t) (if okM t m then m.toNat else 0) := fun h => by rw [h]; exact ⟨rfl, rfl⟩
  have HT : okM t m = true → tabC (lngF t) m.toNat = tabC (lngF t) (if okM t m then m.toNat else 0) ∧ tabL (lngF t) m.toNat = tabL (lngF t) (if okM t m then m.toNat else 0) := fun h => by rw [h]; exact ⟨rfl, rfl⟩
  generalize tabC (lngF t) (if okM t m then m.toNat else 0) = RC at *
  generalize tabL (lngF t) (if okM t m then m.toNat else 0) = RL at *
  generalize hRB : okM t m = RB at *
  replace S := Lib.hid S
  replace h0 := Lib.hid h0
  replace HF := Lib.hid HF
  replace HT := Lib.hid HT
  replace hRB := Lib.hid hRB
  clear h hf
  go_enter Try.func46, Try.ntmps46
  go_upto_region 2 with (fail)
  generalize (((((w.alloc (.cells #[.slice A1 t.us.length c1, .slice A2 t.bs.length c2, .slice A3 t.ns.length c3] 26)).alloc (.cells #[.int .i64 0, .int .i64 0, .int .i64 0, .int .i64 0, .int .i64 0, .int .i64 0, .int .i64 0, .int .i64 0, .int .i64 0, .int .i64 0, .int .i64 0, .int .i64 0, .int .i64 0, .int .i64 0, .int .i64 0, .int .i64 0, .int .i64 0, .int .i64 0, .int .i64 0, .int .i64 0, .int .i64 0, .int .i64 0, .int .i64 0, .int .i64 0, .int .i64 0, .int .i64 0, .int .i64 0, .int .i64 0, .int .i64 0, .int .i64 0, .int .i64 0, .int .i64 0] 55)).alloc (.cells #[.int .i64 0, .int .i64 0, .int .i64 0, .int .i64 0, .int .i64 0, .int .i64 0, .int .i64 0, .int .i64 0, .int .i64 0, .int .i64 0, .int .i64 0, .int .i64 0, .int .i64 0, .int .i64 0, .int .i64 0, .int .i64 0, .int .i64 0, .int .i64 0, .int .i64 0, .int .i64 0, .int .i64 0, .int .i64 0, .int .i64 0, .int .i64 0, .int .i64 0, .int .i64 0, .int .i64 0, .int .i64 0, .int .i64 0, .int .i64 0, .int .i64 0, .int .i64 0] 55)).alloc (.cells #[.int .i64 0, .int .i64 0, .int .i64 0, .int .i64 0, .int .i64 0, .int .i64 0, .int .i64 0, .int .i64 0, .int .i64 0, .int .i64 0, .int .i64 0, .int .i64 0, .int .i64 0, .int .i64 0, .int .i64 0, .int .i64 0, .int .i64 0, .int .i64 0, .int .i64 0, .int .i64 0, .int .i64 0, .int .i64 0, .int .i64 0, .int .i64 0, .int .i64 0, .int .i64 0, .int .i64 0, .int .i64 0, .int .i64 0, .int .i64 0, .int .i64 0, .int .i64 0] 55)).alloc (.cells #[.int .i64 0, .int .i64 0, .int .i64 0, .int .i64 0, .int .i64 0, .int .i64 0, .int .i64 0, .int .i64 0, .int .i64 0, .int .i64 0, .int .i64 0, .int .i64 0, .int .i64 0, .int .i64 0, .int .i64 0, .int .i64 0, .int .i64 0, .int .i64 0, .int .i64 0, .int .i64 0, .int .i64 0, .int .i64 0, .int .i64 0, .int .i64 0, .int .i64 0, .int .i64 0, .int .i64 0, .int .i64 0, .int .i64 0, .int .i64 0, .int .i64 0, .int .i64 0] 55)) = W at *
  go_cut [22] (fun s22 wx => s22 = .bool (!RB) ∧ SeenSt w #[.slice A1 t.us.length c1, .slice A2 t.bs.length c2, .slice A3 t.ns.length c3] (List.replicate 32 0) (List.replicate 32 0) (tabC (lngF t) 0) (tabL (lngF t) 0) wx)
  case first =>
    have K1 := Lib.hid (KT.out W (h0.out.below S.out.bel (Nat.le_refl _)))
    obtain ⟨x0, x1, x2, -, -, -⟩ := blk3 S.out.hx
    go_wp2_with (fail)
    refine K1.out.mono ?_
    rintro e w1 ⟨rfl, b1⟩
    replace S := Lib.hid (S.out.step b1)
    clear b1 x0 x1 x2 K1
    cases hok : t.ok
    · have ho := Lib.hid (show RB = false by rw [← hRB.out]; unfold okM; rw [hok]; rfl)
      replace hok := Lib.hid hok
      go_wp2
      go_meet
      exact ⟨by rw [ho.out]; rfl, S.out⟩
    · by_cases h1 : m < 1
      · have ho := Lib.hid (show RB = false by rw [← hRB.out]; unfold okM; rw [decide_eq_false (by omega), Bool.and_false])
        replace hok := Lib.hid hok
        go_wp2
        go_meet
        exact ⟨by rw [ho.out]; rfl, S.out⟩
      · by_cases h2 : 3000 < m
        · have ho := Lib.hid (show RB = false by rw [← hRB.out]; unfold okM; rw [decide_eq_false (by omega), Bool.and_false])
          replace hok := Lib.hid hok
          go_wp2
          go_meet
          exact ⟨by rw [ho.out]; rfl, S.out⟩
        · have ho := Lib.hid (show RB = true by rw [← hRB.out]; unfold okM; rw [hok, decide_eq_true (by omega)]; rfl)
          replace hok := Lib.hid hok
          go_wp2
          go_meet
          exact ⟨by rw [ho.out, decide_eq_false (show ¬ m < 1 by omega), decide_eq_false (show ¬ 3000 < m by omega)]; rfl, S.out⟩
  case rest =>
    obtain ⟨rfl, Sc⟩ := hcut
    replace Sc := Lib.hid Sc
    cases RB
    · simp only [Bool.not_false]
      obtain ⟨r1, r2⟩ := HF.out rfl
      have HR := Lib.hid (tabs_ret r1 r2 (show false = false from rfl))
      clear r1 r2 HF HT
      go_upto_region 3 with (fail)
      generalize hCC : tabC (lngF t) 0 = CC at *
      generalize hLL : tabL (lngF t) 0 = LL at *
      replace hCC := Lib.hid hCC
      replace hLL := Lib.hid hLL
      have hCl : CC.length = 32 := by rw [← hCC.out]; exact tabC_len
      have hLl : LL.length = 32 := by rw [← hLL.out]; exact tabL_len
      refine wp_region_any (by kernel_rfl) ?_
      refine wpAny_inv (Inv := fun l a w' => ∃ s6 s23 s24 : Value, a = ⟨#[(.agg #[.slice A1 t.us.length c1, .slice A2 t.bs.length c2, .slice A3 t.ns.length c3]), .int .i64 m, .pointer (some ⟨w.heap.size, 0, none⟩), undef, .pointer (some ⟨w.heap.size + 1, 0, none⟩), .pointer (some ⟨w.heap.size + 1 + 1, 0, none⟩), s6, .pointer (some ⟨w.heap.size + 1 + 1 + 1, 0, none⟩), .pointer (some ⟨w.heap.size + 1 + 1 + 1 + 1, 0, none⟩), undef, undef, undef, u12, u13, u14, u15, u16, u17, u18, u19, u20, u21, .bool true, s23, s24, u25, u26, u27, u28, u29, u30, u31, u32, u33, u34, u35, u36, u37, u38, u39, u40, u41], []⟩ ∧ SeenSt w #[.slice A1 t.us.length c1, .slice A2 t.bs.length c2, .slice A3 t.ns.length c3] (if l.getD 2 false then CC else List.replicate 32 0) (if l.getD 3 false then LL else List.replicate 32 0) CC LL w' ∧ (l.getD 0 false = true → s23 = .agg (tabV CC)) ∧ (l.getD 1 false = true → s24 = .agg (tabV LL)) ∧ (l.getD 4 false = true → s6 = .bool false)) (ord_spec (by kernel_rfl)) ?_ ?_ _ _ _ _ rfl (by decide) ?_
      · rintro l a w' ⟨s6, s23, s24, rfl, hAW, h0', h1, h4⟩ hsz hl
        have hl' : ∀ j, j < 5 → l.getD j false = true := hl
        rw [hl' 2 (by decide), hl' 3 (by decide), if_pos rfl, if_pos rfl] at hAW
        obtain rfl := h4 (hl' 4 (by decide))
        have e1 : (w'.heap[w.heap.size + 1]?) = some (.cells (tabV CC) 55 (0, 0)) := hAW.h4
        replace hAW := Lib.hid hAW
        clear h0' h1 h4 hl hl' e1 hsz
        go_wp2
        refine bodyPost_ret (results_tabs rfl _ _ _ (w.heap.size + 1) (w.heap.size + 1 + 1) 55 (tabV CC) (tabV LL) _ _ rfl rfl hAW.out.h4 hAW.out.h5 Try.underlying55 (by rw [tabV_size, hCl]; exact info_tab) (by rw [tabV_size, hLl]; exact info_tab)) rfl ?_
        exact ⟨HR.out, hAW.out.bel⟩
      · rintro l a w' ⟨s6, s23, s24, rfl, hAW, h0', h1, h4⟩ hsz i o hlt ho' hun hall
        have hlt' : i < 5 := hlt
        refine wpOp_step ho' (fun K' hK => ?_)
        replace hK := Lib.hid hK
        obtain rfl | rfl | rfl | rfl | rfl : i = 0 ∨ i = 1 ∨ i = 2 ∨ i = 3 ∨ i = 4 := by omega
        · simp only [List.getElem?_toArray, List.getElem?_cons_zero, Option.some.injEq] at ho'
          subst ho'
          refine wp_load_row 55 (.tmp 7) rfl (w.heap.size + 1 + 1 + 1) rfl 55 (tabV CC) (0, 0) _ hAW.h7 Try.underlying55 rfl (by rw [tabV_size, hCl]; exact info_tab) ?_
          refine hK.out _ _ ?_
          exact ⟨_, _, _, rfl, by rw [listed_same (by decide), listed_same (by decide)]; exact hAW, fun _ => rfl, fun h => h1 (listed_set h (by decide)), fun h => h4 (listed_set h (by decide))⟩
        · simp only [List.getElem?_toArray, List.getElem?_cons_succ, List.getElem?_cons_zero, Option.some.injEq] at ho'
          subst ho'
          refine wp_load_row 55 (.tmp 8) rfl (w.heap.size + 1 + 1 + 1 + 1) rfl 55 (tabV LL) (0, 0) _ hAW.h8 Try.underlying55 rfl (by rw [tabV_size, hLl]; exact info_tab) ?_
          refine hK.out _ _ ?_
          exact ⟨_, _, _, rfl, by rw [listed_same (by decide), listed_same (by decide)]; exact hAW, fun h => h0' (listed_set h (by decide)), fun _ => rfl, fun h => h4 (listed_set h (by decide))⟩
        · simp only [List.getElem?_toArray, List.getElem?_cons_succ, List.getElem?_cons_zero, Option.some.injEq] at ho'
          subst ho'
          obtain rfl := h0' (hall ⟨0, Ground.data⟩ (by simp) rfl)
          rw [hun] at hAW
          refine wp_store_row 55 (.tmp 4) (.tmp 23) rfl (w.heap.size + 1) (tabV CC) rfl rfl 55 _ hAW.h4 (by rw [tabV_size, hCl]; exact info_tab) (by rw [tabV_size, tabV_size, hCl]; rfl) (tabV_one _) ?_
          refine hK.out _ _ ?_
          exact ⟨_, _, _, rfl, by rw [listed_at (by rw [hsz]; decide), listed_same (by decide)]; exact hAW.set4 _, fun h => h0' (listed_set h (by decide)), fun h => h1 (listed_set h (by decide)), fun h => h4 (listed_set h (by decide))⟩
        · simp only [List.getElem?_toArray, List.getElem?_cons_succ, List.getElem?_cons_zero, Option.some.injEq] at ho'
          subst ho'
          obtain rfl := h1 (hall ⟨1, Ground.data⟩ (by simp) rfl)
          rw [hun] at hAW
          refine wp_store_row 55 (.tmp 5) (.tmp 24) rfl (w.heap.size + 1 + 1) (tabV LL) rfl rfl 55 _ hAW.h5 (by rw [tabV_size, hLl]; exact info_tab) (by rw [tabV_size, tabV_size, hLl]; rfl) (tabV_one _) ?_
          refine hK.out _ _ ?_
          exact ⟨_, _, _, rfl, by rw [listed_at (by rw [hsz]; decide), listed_same (by decide)]; exact hAW.set5 _, fun h => h0' (listed_set h (by decide)), fun h => h1 (listed_set h (by decide)), fun h => h4 (listed_set h (by decide))⟩
        · simp only [List.getElem?_toArray, List.getElem?_cons_succ, List.getElem?_cons_zero, Option.some.injEq] at ho'
          subst ho'
          replace hAW := Lib.hid hAW
          replace h0' := Lib.hid h0'
          replace h1 := Lib.hid h1
          replace h4 := Lib.hid h4
          clear hall
          go_simp
          refine hK.out _ _ ?_
          exact ⟨_, _, _, rfl, by rw [listed_same (by decide), listed_same (by decide)]; exact hAW.out, fun h => h0'.out (listed_set h (by decide)), fun h => h1.out (listed_set h (by decide)), fun _ => rfl⟩
      · exact ⟨_, _, _, rfl, Sc.out.drew, (fun h => by cases h), (fun h => by cases h), (fun h => by cases h)⟩
    · simp only [Bool.not_true]
      have ho2 := hRB.out
      obtain ⟨r1, r2⟩ := HT.out rfl
      have HR := Lib.hid (tabs_ret r1 r2 (show true = true from rfl))
      clear r1 r2 HF HT
      unfold okM at ho2
      rw [Bool.and_eq_true, decide_eq_true_eq] at ho2
      obtain ⟨hok, hm1, hm2⟩ := ho2
      obtain ⟨M, rfl⟩ : ∃ M : Nat, m = M := ⟨m.toNat, by omega⟩
      have KL := Lib.hid (fun (k : Nat) W' (hT : Tng W' (.agg #[.slice A1 t.us.length c1, .slice A2 t.bs.length c2, .slice A3 t.ns.length c3]) t) (hk : k < 3000) => implLong_any _ t (k + 1) W' hT hok (by omega) (by omega))
      replace hok := Lib.hid hok
      go_wp2
      go_loopw [10, 11] (fun s10 s11 wr => ∃ k : Nat, k ≤ M ∧ s10 = .int .i64 ((k : Int) + 1) ∧ SeenSt w #[.slice A1 t.us.length c1, .slice A2 t.bs.length c2, .slice A3 t.ns.length c3] (List.replicate 32 0) (List.replicate 32 0) (tabC (lngF t) k) (tabL (lngF t) k) wr) (fun s10 _ _ => M + 1 - (intOf s10).toNat)
      case atStart => exact ⟨0, Nat.zero_le _, rfl, Sc.out⟩
      case round =>
        obtain ⟨k, hk, rfl, Sr⟩ := hrel
        by_cases hlt : k < M
        · have hlt' : (k : Int) + 1 ≤ (M : Int) := by omega
          have e1 : IntKind.i64.wrap ((k : Int) + 1 + 1) = (k : Int) + 1 + 1 := IntWalk.i64_in _ (by omega)
          have K2 := KL.out k wr (h0.out.below Sr.bel (Nat.le_refl _)) (by omega)
          have fb := FB.out (k + 1)
          have e0 : ((k + 1 : Nat) : Int) = (k : Int) + 1 := by omega
          have hfk : lngF t (k + 1) = longOf t ((k : Int) + 1) := by unfold lngF; rw [e0]
          have hN := tab_none (f := lngF t) (k := k)
          have hS := fun j => tab_some (f := lngF t) (k := k) (j := j)
          have hcb := fun j => cw_le (f := lngF t) (w := j) k
          rw [hfk] at hN hS fb
          rw [e0] at K2
          generalize longOf t ((k : Int) + 1) = y at *
          replace K2 := Lib.hid K2
          replace hfk := Lib.hid hfk
          replace hcb := Lib.hid hcb
          replace hN := Lib.hid hN
          replace hS := Lib.hid hS
          obtain ⟨x0, x1, x2, -, -, -⟩ := blk3 Sr.hx
          replace Sr := Lib.hid Sr
          clear e0
          go_wp2_with (fail)
          refine K2.out.mono ?_
          rintro e w2 ⟨rfl, b2⟩
          have S2 := Lib.hid (Sr.out.step b2)
          clear b2 x0 x1 x2 K2
          by_cases hy : 0 < y
          · obtain ⟨j, rfl⟩ : ∃ j : Nat, y = j := ⟨y.toNat, by omega⟩
            have hj1 : 1 ≤ j := by omega
            have hj2 : j < 32 := by omega
            obtain ⟨g1, g2⟩ := hS.out j hj1 hj2 rfl
            have hcj := hcb.out (j : Int)
            have hat := tabC_at (f := lngF t) (k := k) hj1 hj2
            have K3 := Lib.hid (keep_any (w.heap.size + 1 + 1 + 1) (w.heap.size + 1 + 1 + 1 + 1) (tabC (lngF t) k) (tabL (lngF t) k) j ((k : Int) + 1) w2 S2.out.h7 S2.out.h8 (by omega) tabC_len tabL_len hj2 (by rw [hat]; omega))
            replace g1 := Lib.hid g1
            replace g2 := Lib.hid g2
            clear hat hcj fb
            go_wp2_with (fail)
            refine K3.out.mono ?_
            intro e w3 hk3
            have S3 := S2.out.keep hk3
            rw [← g1.out, ← g2.out] at S3
            obtain ⟨rfl, -⟩ := hk3
            replace S3 := Lib.hid S3
            clear K3
            go_wp2
            go_roundw
            case rel => exact ⟨k + 1, by omega, by go_num, S3.out⟩
            case measure => simp [intOf]; omega
          · obtain ⟨g1, g2⟩ := hN.out (by omega)
            have S3 := S2.out
            rw [← g1, ← g2] at S3
            replace S3 := Lib.hid S3
            replace g1 := Lib.hid g1
            replace g2 := Lib.hid g2
            go_wp2
            go_roundw
            case rel => exact ⟨k + 1, by omega, by go_num, S3.out⟩
            case measure => simp [intOf]; omega
        · obtain rfl : k = M := by omega
          have hlt' : ¬ (k : Int) + 1 ≤ (k : Int) := by omega
          replace Sr := Lib.hid Sr
          go_upto_region 11 with (fail)
          replace HR := HR.out
          rw [show (k : Int).toNat = k from Int.toNat_natCast k] at HR
          generalize hCC : tabC (lngF t) k = CC at *
          generalize hLL : tabL (lngF t) k = LL at *
          replace hCC := Lib.hid hCC
          replace hLL := Lib.hid hLL
          replace HR := Lib.hid HR
          have hCl : CC.length = 32 := by rw [← hCC.out]; exact tabC_len
          have hLl : LL.length = 32 := by rw [← hLL.out]; exact tabL_len
          refine wp_region_any (by kernel_rfl) ?_
          refine wpAny_inv (Inv := fun l a w' => ∃ s6 s40 s41 : Value, a = ⟨#[(.agg #[.slice A1 t.us.length c1, .slice A2 t.bs.length c2, .slice A3 t.ns.length c3]), .int .i64 k, .pointer (some ⟨w.heap.size, 0, none⟩), undef, .pointer (some ⟨w.heap.size + 1, 0, none⟩), .pointer (some ⟨w.heap.size + 1 + 1, 0, none⟩), s6, .pointer (some ⟨w.heap.size + 1 + 1 + 1, 0, none⟩), .pointer (some ⟨w.heap.size + 1 + 1 + 1 + 1, 0, none⟩), .func (.func 70) #[] #[.pointer (some ⟨w.heap.size + 1 + 1 + 1, 0, none⟩), .pointer (some ⟨w.heap.size + 1 + 1 + 1 + 1, 0, none⟩)], .int .i64 ((k : Int) + 1), u11, u12, u13, u14, u15, u16, u17, u18, u19, u20, u21, .bool false, u23, u24, .func (.func 70) #[] #[.pointer (some ⟨w.heap.size + 1 + 1 + 1, 0, none⟩), .pointer (some ⟨w.heap.size + 1 + 1 + 1 + 1, 0, none⟩)], .int .i64 ((k : Int) + 1), .int .i64 (k : Int), (.bool false), u29, u30, u31, u32, u33, u34, u35, u36, u37, u38, u39, s40, s41], []⟩ ∧ SeenSt w #[.slice A1 t.us.length c1, .slice A2 t.bs.length c2, .slice A3 t.ns.length c3] (if l.getD 2 false then CC else List.replicate 32 0) (if l.getD 3 false then LL else List.replicate 32 0) CC LL w' ∧ (l.getD 0 false = true → s40 = .agg (tabV CC)) ∧ (l.getD 1 false = true → s41 = .agg (tabV LL)) ∧ (l.getD 4 false = true → s6 = .bool true)) (ord_spec (by kernel_rfl)) ?_ ?_ _ _ _ _ rfl (by decide) ?_
          · rintro l a w' ⟨s6, s40, s41, rfl, hAW, h0', h1, h4⟩ hsz hl
            have hl' : ∀ j, j < 5 → l.getD j false = true := hl
            rw [hl' 2 (by decide), hl' 3 (by decide), if_pos rfl, if_pos rfl] at hAW
            obtain rfl := h4 (hl' 4 (by decide))
            have e1 : (w'.heap[w.heap.size + 1]?) = some (.cells (tabV CC) 55 (0, 0)) := hAW.h4
            replace hAW := Lib.hid hAW
            clear h0' h1 h4 hl hl' e1 hsz
            go_wp2
            refine bodyPost_ret (results_tabs rfl _ _ _ (w.heap.size + 1) (w.heap.size + 1 + 1) 55 (tabV CC) (tabV LL) _ _ rfl rfl hAW.out.h4 hAW.out.h5 Try.underlying55 (by rw [tabV_size, hCl]; exact info_tab) (by rw [tabV_size, hLl]; exact info_tab)) rfl ?_
            exact ⟨HR.out, hAW.out.bel⟩
          · rintro l a w' ⟨s6, s40, s41, rfl, hAW, h0', h1, h4⟩ hsz i o hlt ho' hun hall
            have hlt' : i < 5 := hlt
            refine wpOp_step ho' (fun K' hK => ?_)
            replace hK := Lib.hid hK
            obtain rfl | rfl | rfl | rfl | rfl : i = 0 ∨ i = 1 ∨ i = 2 ∨ i = 3 ∨ i = 4 := by omega
            · simp only [List.getElem?_toArray, List.getElem?_cons_zero, Option.some.injEq] at ho'
              subst ho'
              refine wp_load_row 55 (.tmp 7) rfl (w.heap.size + 1 + 1 + 1) rfl 55 (tabV CC) (0, 0) _ hAW.h7 Try.underlying55 rfl (by rw [tabV_size, hCl]; exact info_tab) ?_
              refine hK.out _ _ ?_
              exact ⟨_, _, _, rfl, by rw [listed_same (by decide), listed_same (by decide)]; exact hAW, fun _ => rfl, fun h => h1 (listed_set h (by decide)), fun h => h4 (listed_set h (by decide))⟩
            · simp only [List.getElem?_toArray, List.getElem?_cons_succ, List.getElem?_cons_zero, Option.some.injEq] at ho'
              subst ho'
              refine wp_load_row 55 (.tmp 8) rfl (w.heap.size + 1 + 1 + 1 + 1) rfl 55 (tabV LL) (0, 0) _ hAW.h8 Try.underlying55 rfl (by rw [tabV_size, hLl]; exact info_tab) ?_
              refine hK.out _ _ ?_
              exact ⟨_, _, _, rfl, by rw [listed_same (by decide), listed_same (by decide)]; exact hAW, fun h => h0' (listed_set h (by decide)), fun _ => rfl, fun h => h4 (listed_set h (by decide))⟩
            · simp only [List.getElem?_toArray, List.getElem?_cons_succ, List.getElem?_cons_zero, Option.some.injEq] at ho'
              subst ho'
              obtain rfl := h0' (hall ⟨0, Ground.data⟩ (by simp) rfl)
              rw [hun] at hAW
              refine wp_store_row 55 (.tmp 4) (.tmp 40) rfl (w.heap.size + 1) (tabV CC) rfl rfl 55 _ hAW.h4 (by rw [tabV_size, hCl]; exact info_tab) (by rw [tabV_size, tabV_size, hCl]; rfl) (tabV_one _) ?_
              refine hK.out _ _ ?_
              exact ⟨_, _, _, rfl, by rw [listed_at (by rw [hsz]; decide), listed_same (by decide)]; exact hAW.set4 _, fun h => h0' (listed_set h (by decide)), fun h => h1 (listed_set h (by decide)), fun h => h4 (listed_set h (by decide))⟩
            · simp only [List.getElem?_toArray, List.getElem?_cons_succ, List.getElem?_cons_zero, Option.some.injEq] at ho'
              subst ho'
              obtain rfl := h1 (hall ⟨1, Ground.data⟩ (by simp) rfl)
              rw [hun] at hAW
              refine wp_store_row 55 (.tmp 5) (.tmp 41) rfl (w.heap.size + 1 + 1) (tabV LL) rfl rfl 55 _ hAW.h5 (by rw [tabV_size, hLl]; exact info_tab) (by rw [tabV_size, tabV_size, hLl]; rfl) (tabV_one _) ?_
              refine hK.out _ _ ?_
              exact ⟨_, _, _, rfl, by rw [listed_at (by rw [hsz]; decide), listed_same (by decide)]; exact hAW.set5 _, fun h => h0' (listed_set h (by decide)), fun h => h1 (listed_set h (by decide)), fun h => h4 (listed_set h (by decide))⟩
            · simp only [List.getElem?_toArray, List.getElem?_cons_succ, List.getElem?_cons_zero, Option.some.injEq] at ho'
              subst ho'
              replace hAW := Lib.hid hAW
              replace h0' := Lib.hid h0'
              replace h1 := Lib.hid h1
              replace h4 := Lib.hid h4
              clear hall
              go_simp
              refine hK.out _ _ ?_
              exact ⟨_, _, _, rfl, by rw [listed_same (by decide), listed_same (by decide)]; exact hAW.out, fun h => h0'.out (listed_set h (by decide)), fun h => h1.out (listed_set h (by decide)), fun _ => rfl⟩
          · exact ⟨_, _, _, rfl, Sr.out.drew, (fun h => by cases h), (fun h => by cases h), (fun h => by cases h)⟩
end Go.Proofs.Ytebfoofiaokhdaa
