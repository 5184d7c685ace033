/-
  ReadJournal of the model.
-/
import Derived.Test.YtfmdbmhakkajfaaDoorAppD
import Derived.Test.YtfmdbmhakkajfaaDoorWa
import Derived.Test.YtfmdbmhakkajfaaDoorVf
import Derived.Test.YtfmdbmhakkajfaaDoorOpenI
import Derived.Test.YtfmdbmhakkajfaaDoorDrawDs
namespace Go.Proofs.YtfmdbmhakkajfaaDoor
open Go.RowKit

/-- The deeds of a journal and how many bytes they have come back. -/
def RetJ (w : World) (s : ByteArray) (e : Ending) (w' : World) : Prop := ∃ v, e = .returned (.tuple #[v, .int .i64 ((rj (tl s)).2 : Int)]) ∧ OwnDds w' w.heap.size v (rj (tl s)).1 ∧ Below w.heap.size w w'
/-- Where one stands: a line begins at f, its bytes up to k are no newlines. -/
structure RJS (s : ByteArray) (f k : Nat) (qs : List Dd) : Prop where
  fk : f ≤ k
  kn : k ≤ s.size
  eq : rj (tl s) = (qs ++ (rj ((tl s).drop f)).1, f + (rj ((tl s).drop f)).2)
  nn : ∀ j, f ≤ j → j < k → ∀ c, (tl s)[j]? = some c → c.toNat ≠ 10
  ql : qs.length ≤ f
theorem RJS.start (s : ByteArray) : RJS s 0 0 [] := ⟨Nat.le_refl _, Nat.zero_le _, by simp, fun j h1 h2 => by omega, Nat.le_refl _⟩
theorem tlA_get {s : ByteArray} {k : Nat} (h : k < s.size) : (tl s)[k]? = some s[k] := List.getElem?_eq_getElem (by rw [tl_len]; exact h)
section
variable {s : ByteArray} {f k : Nat} {qs : List Dd}
theorem RJS.on (h : RJS s f k qs) (hk : k < s.size) (hc : ¬ (s[k]).toNat = 10) : RJS s f (k + 1) qs :=
  ⟨by have := h.fk; omega, hk, h.eq, fun j h1 h2 c hj => by
    by_cases e : j = k
    · subst e
      rw [tlA_get hk] at hj
      cases hj
      exact hc
    · exact h.nn j h1 (by omega) c hj, h.ql⟩
theorem RJS.line (h : RJS s f k qs) (hk : k < s.size) (hc : (s[k]).toNat = 10) : (tl s).drop f = tl (s.extract f k) ++ 10 :: (tl s).drop (k + 1) ∧ ∀ c ∈ tl (s.extract f k), c.toNat ≠ 10 := by
  have e1 : tl (s.extract f k) = ((tl s).drop f).take (k - f) := by
    show (s.extract f k).data.toList = _
    rw [Lib.extract_data]
  have hkl : k < (tl s).length := by rw [tl_len]; exact hk
  have h10 : (tl s)[k]'hkl = 10 := by
    have := tlA_get hk
    rw [List.getElem?_eq_getElem hkl] at this
    have e := Option.some.inj this
    rw [e]
    exact UInt8.toNat_inj.1 hc
  have hfk := h.fk
  refine ⟨?_, fun c hm => ?_⟩
  · rw [e1]
    have e2 : ((tl s).drop f).drop (k - f) = 10 :: (tl s).drop (k + 1) := by
      rw [List.drop_drop, show f + (k - f) = k by omega, List.drop_eq_getElem_cons hkl, h10]
    rw [← e2, List.take_append_drop]
  · rw [e1] at hm
    obtain ⟨j, hj⟩ := List.getElem?_of_mem hm
    rw [List.getElem?_take] at hj
    split at hj
    · rw [List.getElem?_drop] at hj
      exact h.nn (f + j) (by omega) (by omega) c hj
    · cases hj
theorem RJS.yes (h : RJS s f k qs) (hk : k < s.size) (hc : (s[k]).toNat = 10) (hb : rdB (tl (s.extract f k)) = true) : RJS s (k + 1) (k + 1) (qs ++ [rdV (tl (s.extract f k))]) := by
  obtain ⟨e, hp⟩ := h.line hk hc
  have hl : (tl (s.extract f k)).length = k - f := by rw [tl_len, ByteArray.size_extract]; omega
  have hfk := h.fk
  refine ⟨Nat.le_refl _, hk, ?_, fun j h1 h2 => by omega, by rw [List.length_append]; have := h.ql; simp; omega⟩
  rw [h.eq, e, rj_yes hp hb, hl]
  refine Prod.ext (by simp) ?_
  dsimp only
  omega
theorem RJS.no (h : RJS s f k qs) (hk : k < s.size) (hc : (s[k]).toNat = 10) (hb : rdB (tl (s.extract f k)) = false) : rj (tl s) = (qs, f) := by
  obtain ⟨e, hp⟩ := h.line hk hc
  rw [h.eq, e, rj_no hp hb]
  simp
theorem RJS.fin (h : RJS s f s.size qs) : rj (tl s) = (qs, f) := by
  have : ∀ c ∈ (tl s).drop f, c.toNat ≠ 10 := fun c hm => by
    obtain ⟨j, hj⟩ := List.getElem?_of_mem hm
    rw [List.getElem?_drop] at hj
    refine h.nn (f + j) (by omega) ?_ c hj
    rcases Nat.lt_or_ge (f + j) s.size with h1 | h1
    · exact h1
    · rw [List.getElem?_eq_none (by rw [tl_len]; exact h1)] at hj; cases hj
  rw [h.eq, rj_none this]
  simp
end
set_option maxRecDepth 100000 in
set_option maxHeartbeats 8000000 in
theorem specReadJournal_any (s : ByteArray) (w : World) (hs : s.size ≤ 2000000) :
    Calls Tryd.prog 27 #[.string s] w (RetJ w s) := by
  obtain ⟨i0, hi, hz0, hz1, hz2⟩ := info_parts dd_info
  have cs := dd_cells
  have hrow0 : (w.alloc (.cells #[] 24)).ownsRow w.heap.size 24 2 (.slice (some ⟨w.heap.size, 0, none⟩) 0 0) 0 [] := World.ownsRow_made w #[] 0 (Nat.le_refl _) (by unfold maxLen; omega) rfl
  have hB0 := Lib.hid ((Below.refl w.heap.size w).alloc (Nat.le_refl _) (.cells #[] 24))
  have hO : Hid (OwnDds (w.alloc (.cells #[] 24)) w.heap.size (.slice (some ⟨w.heap.size, 0, none⟩) 0 0) []) := hrow0
  clear hrow0
  go_enter Tryd.func27, Tryd.ntmps27
  go_upto_region 2 with (fail)
  generalize w.alloc (.cells #[] 24) = W at *
  go_wp2
  go_loopw [4, 5, 6] (fun v s5 s6 wr => ∃ (f k : Nat) (qs : List Dd), s5 = .int .i64 (f : Int) ∧ s6 = .int .i64 (k : Int) ∧ RJS s f k qs ∧ OwnDds wr w.heap.size v qs ∧ Below w.heap.size w wr) (fun _ _ s6 _ => s.size - (intOf s6).toNat)
  case atStart => exact ⟨0, 0, [], rfl, rfl, RJS.start s, hO.out, hB0.out⟩
  case round =>
    clear hO hB0
    obtain ⟨f, k, qs, rfl, rfl, hJ, ho, hb⟩ := hrel
    have hfk := hJ.fk
    have hkn := hJ.kn
    have hql := hJ.ql
    by_cases hlt : k < s.size
    · by_cases hc : (s[k]).toNat = 10
      · have k1 : (0 : Int) ≤ (f : Int) := by omega
        have k2 : (f : Int) ≤ (k : Int) := by omega
        have k3 : (k : Int) ≤ (s.size : Int) := by omega
        have hxz : (s.extract f k).size ≤ 2000000 := by rw [ByteArray.size_extract]; omega
        have HY := Lib.hid (hJ.yes hlt hc)
        have HN := Lib.hid (hJ.no hlt hc)
        have hc' : ((s[k]).toNat : Int) = 10 := by omega
        replace ho := Lib.hid ho
        replace hb := Lib.hid hb
        replace hJ := Lib.hid hJ
        replace hc := Lib.hid hc
        have KR := Lib.hid (specReadDeed_any (s.extract f k) wr hxz)
        unfold RetRd at KR
        cases hrb : rdB (tl (s.extract f k))
        · have hN := Lib.hid (HN.out hrb)
          rw [hrb, rd_no hrb] at KR
          have hfin : ∀ W', Below wr.heap.size wr W' → RetJ w s (.returned (.tuple #[u4, .int .i64 (f : Int)])) W' := fun W' h => ⟨_, by rw [hN.out], by rw [hN.out]; exact ho.out.below h (Nat.le_refl _), hb.out.trans (h.mono hb.out.size)⟩
          replace hfin := Lib.hid hfin
          replace hrb := Lib.hid hrb
          clear HY HN
          dsimp only at KR
          go_wp2_with (go_at_call 16; refine KR.out.mono ?_; rintro e w2 ⟨rfl, b2⟩; have hB2 := Lib.hid (b2.alloc b2.size (.cells #[.int .i64 0, .int .i64 0] 24)); clear b2)
          go_ret2
          exact hfin.out _ hB2.out
        · have hY := Lib.hid (HY.out hrb)
          rw [hrb] at KR
          generalize rdV (tl (s.extract f k)) = y at *
          obtain ⟨xk, xn⟩ := y
          dsimp only at KR
          replace hrb := Lib.hid hrb
          clear HY HN
          go_wp2_with (go_at_call 16; refine KR.out.mono ?_; rintro e w2 ⟨rfl, b2⟩; refine Hid.out ?_)
          have hba := b2.alloc b2.size (.cells #[.int .i64 xk, .int .i64 xn] 24)
          have ho2 := Lib.hid (ho.out.below hba (Nat.le_refl _))
          have hB2 := Lib.hid (hb.out.trans (hba.mono hb.out.size))
          have kX := Lib.hid (Blk.new w2 24 #[.int .i64 xk, .int .i64 xn])
          clear hba b2
          refine Lib.hid ?_
          go_upto_region 8 with (fail)
          generalize w2.alloc (.cells #[.int .i64 xk, .int .i64 xn] 24) = W2 at *
          generalize w2.heap.size = q2 at *
          have x0 : W2.cell? ⟨q2, 0, none⟩ = some (.int .i64 xk) := kX.out.cell 0
          have x1 : W2.cell? ⟨q2, 1, none⟩ = some (.int .i64 xn) := kX.out.cell 1
          have hql2 : qs.length ≤ 2000000 := by omega
          have hbs : w.heap.size ≤ W2.heap.size := hB2.out.size
          replace hql2 := Lib.hid hql2
          go_wp2_with (at_builtin; refine wpList_appD _ rfl _ _ 32 rfl w.heap.size 24 i0 (.agg #[.int .i64 0, .int .i64 0]) 2 16 Tryd.underlying32 hi hz0 hz1 hz2 rfl (by decide) _ _ _ rfl (World.ownsRow.alloc ho2.out _) ⟨W2.heap.size, 0, none⟩ 1 1 [.int .i64 xk, .int .i64 xn] rfl rfl (cellD_two _ _ _ _) (fun x hx => by simp at hx; rcases hx with rfl | rfl <;> rfl) (by have := hql2.out; unfold maxLen; omega) (by have := hql2.out; omega) (by simp; omega) ?_; intro v' w4 hown' hg4 hv')
          have ho4 : OwnDds w4 w.heap.size v' (qs ++ [⟨xk, xn⟩]) := OwnDds.snoc (a := ⟨xk, xn⟩) hown'
          have hal := World.ownsRow.alloc ho2.out (.cells #[.int .i64 xk, .int .i64 xn] 24)
          have hB4 := belowD_own (hB2.out.alloc hB2.out.size (.cells #[.int .i64 xk, .int .i64 xn] 24)) hal hg4 (by have := hB2.out.size; simp; omega) (Nat.le_refl _)
          replace ho4 := Lib.hid ho4
          replace hB4 := Lib.hid hB4
          have kw : IntKind.i64.wrap ((k : Int) + 1) = ((k + 1 : Nat) : Int) := by rw [IntWalk.i64_in _ (by omega)]; omega
          clear hown' hal hg4 hv' ho2 hB2 x0 x1 kX
          go_wp2
          go_roundw
          case rel => exact ⟨k + 1, k + 1, _, by go_num, by go_num, hY.out, ho4.out, hB4.out⟩
          case measure => simp [intOf]; omega
      · have hJ2 := Lib.hid (hJ.on hlt hc)
        have hc' : ¬ ((s[k]).toNat : Int) = 10 := by omega
        replace ho := Lib.hid ho
        replace hb := Lib.hid hb
        replace hJ := Lib.hid hJ
        replace hc := Lib.hid hc
        go_wp2
        go_roundw
        case rel => exact ⟨f, k + 1, qs, rfl, by go_num, hJ2.out, ho.out, hb.out⟩
        case measure => simp [intOf]; omega
    · obtain rfl : k = s.size := by omega
      have hN := Lib.hid hJ.fin
      have hfin : RetJ w s (.returned (.tuple #[u4, .int .i64 (f : Int)])) wr := ⟨_, by rw [hN.out], by rw [hN.out]; exact ho, hb⟩
      replace hfin := Lib.hid hfin
      clear hJ ho hb
      go_wp2
      go_ret2
      exact hfin.out
end Go.Proofs.YtfmdbmhakkajfaaDoor
