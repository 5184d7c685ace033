/-
  The program's sort by a merge of two halves (it calls itself), and its SortedOf.
-/
import Derived.Test.YtjggdlnbfoglaaaY2
namespace Go.Proofs.Ytjggdlnbfoglaaa
open Go.RowKit Go.Sort

theorem cloneI_any (A : Option Addr) (n c : Nat) (xs : List Int) (w : World) (h : Ints w .i64 A n c xs) (hn : n ≤ 1048576) :
    Calls Try.prog 70 #[.slice A n c] w fun e w' => ∃ v, e = .returned v ∧ OwnI w' w.heap.size v xs ∧ Below w.heap.size w w' := by
  obtain ⟨i0, hi, hz0, hz1, hz2⟩ := info_parts int_info
  have hlen := Lib.hid h.len
  have HS := Lib.hid (h.src.alloc' (.cells #[] 3))
  have HR : ∀ v w', w'.ownsRow w.heap.size 3 1 v (0 + n) ([] ++ xs.map (Value.int .i64)) → Below w.heap.size w w' → ∃ v', Ending.returned v = .returned v' ∧ OwnI w' w.heap.size v' xs ∧ Below w.heap.size w w' := fun v w' ho hb => ⟨v, rfl, by unfold OwnI; rw [hlen.out]; simpa using ho, hb⟩
  replace HR := Lib.hid HR
  have hnil := fun (W : World) => Lib.run_eql_slice_nil (P := Try.prog) W 24 3 A n c 0 0 Try.underlying24
  cases A with
  | none =>
    have h0 : n = 0 := by
      rcases Nat.eq_zero_or_pos n with h0 | h0
      · exact h0
      · obtain ⟨b, o, e, _⟩ := h.at_ h0; cases e
    subst h0
    have hx : xs = [] := List.eq_nil_of_length_eq_zero hlen.out
    have HF := Lib.hid (HR.out (.slice none 0 0) w (by rw [hx]; exact owns_none _ _ _) (Below.refl _ _))
    simp only [Option.isNone_none] at hnil
    clear h
    go_enter Try.func70, Try.ntmps70
    go_wp2
    go_ret
    exact HF.out
  | some ad =>
    simp only [Option.isNone_some] at hnil
    clear h
    have k1 := Lib.hid (show 0 + n ≤ maxLen by unfold maxLen; omega)
    have k2 := Lib.hid (show (0 + n) * 8 ≤ 140737488355328 by omega)
    have HO := Lib.hid (owns_empty (w := w.alloc (.cells #[] 3)) (B := w.heap.size) (Blk.new w 3 #[]) (Nat.le_refl _))
    have HB := Lib.hid ((Below.refl w.heap.size w).alloc (Nat.le_refl _) (.cells #[] 3))
    go_enter Try.func70, Try.ntmps70
    go_wp2_with (at_builtin; refine wpList_app _ rfl (.tmp 5) (.tmp 6) _ rfl w.heap.size 3 i0 _ 8 Try.underlying24 hi hz0 hz1 hz2 rfl _ 0 [] rfl HO.out (some ad) n c _ rfl HS.out k1.out k2.out (by simp) ?_; intro v5 w5 ho5 hg5 _)
    have HF := Lib.hid (HR.out v5 w5 ho5 (below_own HB.out HO.out hg5 (by simp) (Nat.le_refl _)))
    clear ho5 hg5
    go_wp2
    go_ret
    exact HF.out

/-- A row of the call's own: these numbers in the order of f. -/
def RetSort (f : Int → List UInt8) (w : World) (xs : List Int) (e : Ending) (w' : World) : Prop := ∃ v ys, e = .returned v ∧ OwnI w' w.heap.size v ys ∧ ys.Perm xs ∧ ys.Pairwise (fun a b => leF f a b = true) ∧ Below w.heap.size w w'
theorem RetSort.regrow {f : Int → List UInt8} {w : World} {xs : List Int} {e : Ending} {w' : World} (h : RetSort f w.drew xs e w') : RetSort f w xs e w' := by
  obtain ⟨v, ys, e, o, p, s, b⟩ := h
  exact ⟨v, ys, e, o, p, s, ⟨b.os, b.tape, b.output, b.size, b.block⟩⟩

set_option maxRecDepth 100000 in
set_option maxHeartbeats 4000000 in
theorem sortedBy_any {f : Int → List UInt8} {M tb : Nat} {W0 : World} (HC : LessIs f M tb W0) : ∀ n : Nat, ∀ (A : Option Addr) (c : Nat) (xs : List Int) (w : World), Below W0.heap.size W0 w → Ints w .i64 A n c xs → (∀ x ∈ xs, 1 ≤ x ∧ x ≤ (M : Int)) → n ≤ 1000 →
    Calls Try.prog 54 #[.slice A n c, lessV tb] w (RetSort f w xs) := by
  intro n
  induction n using Nat.strongRecOn with
  | _ n ih =>
    intro A c xs w hW h hx hn
    by_cases h2 : n < 2
    · have K := Lib.hid (cloneI_any A n c xs w h (by omega))
      have h2' : (n : Int) < 2 := by omega
      have hl := h.len
      have hP : Hid (xs.Pairwise (fun a b => leF f a b = true)) := Lib.hid (by
        cases xs with
        | nil => exact List.Pairwise.nil
        | cons x r =>
          cases r with
          | nil => exact List.pairwise_singleton _ _
          | cons y r => exfalso; simp at hl; omega)
      clear ih h hl
      go_enter Try.func54, Try.ntmps54
      go_wp2_with (fail)
      refine K.out.mono ?_
      rintro e w1 ⟨v, rfl, ho, hb⟩
      obtain ⟨A5, c5, rfl, -⟩ := ho.ints
      have HF : Hid (RetSort f w xs (.returned (.slice A5 xs.length c5)) w1) := Lib.hid ⟨_, _, rfl, ho, .refl _, hP.out, hb⟩
      clear ho hb
      generalize xs.length = L at *
      go_wp2
      go_ret
      exact HF.out
    · have h2' : ¬ (n : Int) < 2 := by omega
      have hl := h.len
      obtain ⟨b, o, rfl, -, -⟩ := h.at_ (by omega)
      obtain ⟨m, hm⟩ : ∃ m, n / 2 = m := ⟨_, rfl⟩
      have hm1 : 1 ≤ m := by omega
      have hm2 : m < n := by omega
      have e1 : (n : Int).tdiv 2 = (m : Int) := by rw [Int.tdiv_eq_ediv_of_nonneg (by omega)]; omega
      have e2 : IntKind.i64.wrap (m : Int) = (m : Int) := IntWalk.i64_in _ (by omega)
      have hle := h.le
      have q0 : (0 : Int) ≤ (m : Int) := by omega
      have q1 : (m : Int) ≤ (n : Int) := by omega
      have q2 : m ≤ n := by omega
      have q3 : (m : Int) ≤ (c : Int) := by omega
      have q4 : m ≤ c := by omega
      have q5 : ¬ m = c := by omega
      have q6 : ¬ c = m := by omega
      have ht := h.take (m := m) (by omega)
      have hd := h.dropI (m := m) (by omega)
      have KA := Lib.hid (fun W (hb : Below w.heap.size w W) => ih m hm2 (some ⟨b, o, none⟩) c (xs.take m) W (hW.trans (hb.mono hW.size)) (ht.below hb (Nat.le_refl _)) (fun x hh => hx x (List.mem_of_mem_take hh)) (by omega))
      have KB := Lib.hid (fun W (hb : Below w.heap.size w W) => ih (n - m) (by omega) (some ⟨b, o + m, none⟩) (c - m) (xs.drop m) W (hW.trans (hb.mono hW.size)) (hd.below hb (Nat.le_refl _)) (fun x hh => hx x (List.mem_of_mem_drop hh)) (by omega))
      have hb0 : Hid (Below w.heap.size w w.drew) := Lib.hid (Below.refl _ _).drew
      have hlt : Hid ((xs.take m).length = m) := Lib.hid (by rw [List.length_take]; omega)
      have hld : Hid ((xs.drop m).length = n - m) := Lib.hid (by rw [List.length_drop]; omega)
      have hxt : Hid (∀ x ∈ xs.take m, 1 ≤ x ∧ x ≤ (M : Int)) := Lib.hid (fun x hh => hx x (List.mem_of_mem_take hh))
      have hxd : Hid (∀ x ∈ xs.drop m, 1 ≤ x ∧ x ≤ (M : Int)) := Lib.hid (fun x hh => hx x (List.mem_of_mem_drop hh))
      have KM := Lib.hid (fun (A1 : Option Addr) (c1 : Nat) (ys : List Int) (A2 : Option Addr) (c2 : Nat) (zs : List Int) W (hb : Below w.heap.size w W) h1 h2 hy hz hnn => merged_any HC A1 ys.length c1 ys A2 zs.length c2 zs W (hW.trans (hb.mono hW.size)) h1 h2 hy hz hnn)
      have hR : Hid (∀ ys zs : List Int, ys.Perm (xs.take m) → ys.Pairwise (fun a b => leF f a b = true) → zs.Perm (xs.drop m) → zs.Pairwise (fun a b => leF f a b = true) → (List.merge zs ys (leF f)).Perm xs ∧ (List.merge zs ys (leF f)).Pairwise (fun a b => leF f a b = true)) := Lib.hid (fun ys zs p1 s1 p2 s2 => ⟨by
        refine (List.merge_perm_append (le := leF f)).trans ?_
        refine (List.Perm.append p2 p1).trans ?_
        refine List.perm_append_comm.trans ?_
        rw [List.take_append_drop], List.pairwise_merge (leF_trans f) (leF_total f) _ _ s2 s1⟩)
      replace HC := Lib.hid HC
      replace hW := Lib.hid hW
      replace hx := Lib.hid hx
      replace hm := Lib.hid hm
      clear ih h ht hd hl
      go_enter Try.func54, Try.ntmps54
      go_upto_region 4 with (fail)
      go_region_law (first
        | (have hgd := b3.out; clear hgd; fail)
        | (have hgd := b2.out; clear hgd; go_simp; go_at_call 71; refine (KM.out Ay cy ys Az cz zs _ (by first | exact b2.out | exact b2.out.drew) (by first | exact iy.out | exact iy.out.drew) (by first | exact iz.out | exact iz.out.drew) (fun x hh => hxt.out x (py.out.mem_iff.1 hh)) (fun x hh => hxd.out x (pz.out.mem_iff.1 hh)) (by rw [ly.out, lz.out]; omega)).mono ?_; rintro e w3 ⟨v3, rfl, o3', b3'⟩; obtain ⟨rs, hrs⟩ : ∃ rs, List.merge zs ys (leF f) = rs := ⟨_, rfl⟩; rw [hrs] at o3'; replace hrs := Lib.hid hrs; have b3 := Lib.hid (b2.out.trans (((⟨b3'.os, b3'.tape, b3'.output, b3'.size, b3'.block⟩ : Below w2.heap.size w2 w3)).mono b2.out.size)); have o3 := Lib.hid (o3'.mono (B' := w.heap.size) (by have := b2.out.size; first | exact this | (simp; omega))); obtain ⟨A3, c3, rfl, -⟩ := o3.out.ints; clear o3' b3')
        | (have hgd := b1.out; clear hgd; go_simp; go_at_call 54; refine (KB.out _ (by first | exact b1.out | exact b1.out.drew)).mono ?_; rintro e w2 ⟨v2, zs, rfl, o2', pz', sz', b2'⟩; have b2 := Lib.hid (b1.out.trans (((⟨b2'.os, b2'.tape, b2'.output, b2'.size, b2'.block⟩ : Below w1.heap.size w1 w2)).mono b1.out.size)); obtain ⟨Az, cz, rfl, iz'⟩ := o2'.ints; have iz := Lib.hid iz'; have iy := Lib.hid (iy1.out.below (⟨b2'.os, b2'.tape, b2'.output, b2'.size, b2'.block⟩ : Below w1.heap.size w1 w2) (Nat.le_refl _)); have pz := Lib.hid pz'; have sz := Lib.hid sz'; have lz := Lib.hid (pz'.length_eq.trans hld.out); clear o2' b2' iz' pz' sz')
        | (go_simp; (fail_if_success (have hgd := b1.out)); go_at_call 54; refine (KA.out _ (by first | exact (Below.refl _ _) | exact hb0.out)).mono ?_; rintro e w1 ⟨v1, ys, rfl, o1', py', sy', b1'⟩; have b1 : Hid (Below w.heap.size w w1) := Lib.hid ⟨b1'.os, b1'.tape, b1'.output, b1'.size, b1'.block⟩; obtain ⟨Ay, cy, rfl, iy'⟩ := o1'.ints; have iy1 := Lib.hid iy'; have py := Lib.hid py'; have sy := Lib.hid sy'; have ly := Lib.hid (py'.length_eq.trans hlt.out); clear o1' b1' iy' py' sy'))
      all_goals
        have hr := Lib.hid (hR.out ys zs py.out sy.out pz.out sz.out)
        rw [hrs.out] at hr
        have HF : Hid (RetSort f w xs (.returned (.slice A3 rs.length c3)) w3) := Lib.hid ⟨_, _, rfl, o3.out, hr.out.1, hr.out.2, b3.out⟩
        clear o3 b3 b2 b1 iy iz iy1 hr hrs
        generalize rs.length = L at *
        (try go_simp)
        go_wp2
        go_ret
        exact HF.out
theorem sort_done (t : Tg) (m : Int) {ys : List Int} (hp : ys.Perm (upL (textsF t m).length)) (hs : ys.Pairwise (fun a b => leF (tx t) a b = true)) : ys = sortedF t m := by
  rcases texts_cases t m with ⟨h1, h2⟩ | ⟨M, rfl, h1, h2, h3, h4, h5, -⟩
  · rw [h1] at hp
    rw [h2]
    exact hp.eq_nil
  · rw [h5] at hp
    exact (sorted_yes h1 h2 h3 (sort_of_perm (allN_apart h3) hp hs)).symm
theorem texts_at (t : Tg) (m : Int) {j : Nat} (hj : j < (textsF t m).length) : (textsF t m).getD j ByteArray.empty = textOf t ((j : Int) + 1) := by
  rcases texts_cases t m with ⟨h1, -⟩ | ⟨M, rfl, -, -, -, -, h5, h6⟩
  · rw [h1] at hj; exact absurd hj (by simp)
  · exact h6 j (by omega)
theorem less_is (t : Tg) (m : Int) {A : Option Addr} {c tb : Nat} {W0 : World} (hb : Blk W0 tb 23 #[.slice A (textsF t m).length c]) (hS : Strs W0 A (textsF t m).length c (textsF t m)) : LessIs (tx t) (textsF t m).length tb W0 := by
  intro W hW a b a1 a2 b1 b2
  have hT := texts_len t m
  obtain ⟨p, rfl⟩ : ∃ p : Nat, a = (p : Int) + 1 := ⟨(a - 1).toNat, by omega⟩
  obtain ⟨q, rfl⟩ : ∃ q : Nat, b = (q : Int) + 1 := ⟨(b - 1).toNat, by omega⟩
  have K := less_any (textsF t m) A c tb W (hb.below hW hb.lt) (hS.below hW (Nat.le_refl _)) p q (by omega) (by omega) (by omega)
  rw [texts_at t m (by omega), texts_at t m (by omega)] at K
  exact K

set_option maxRecDepth 100000 in
set_option maxHeartbeats 4000000 in
theorem implSortedOf_any (v : Value) (t : Tg) (m : Int) (w : World) (h : Tng w v t) (hf : t.Fine) (hm : -9223372036854775808 ≤ m ∧ m ≤ 9223372036854775807) :
    Calls Try.prog 21 #[v, .int .i64 m] w (RetO1 w (sortedF t m)) := by
  obtain ⟨i0, hi, hz0, hz1, hz2⟩ := info_parts int_info
  obtain ⟨A1, c1, A2, c2, A3, c3, rfl, -⟩ := h.ex
  have hB := (Below.refl w.heap.size w).alloc (Nat.le_refl _) (.cells #[.slice A1 t.us.length c1, .slice A2 t.bs.length c2, .slice A3 t.ns.length c3] 26)
  have HX := Blk.new w 26 #[.slice A1 t.us.length c1, .slice A2 t.bs.length c2, .slice A3 t.ns.length c3]
  have HT := h.below hB (Nat.le_refl _)
  have K1 := implTexts_any _ t m _ HT hf hm
  have hTl := texts_len t m
  have hdone := Lib.hid (fun ys hp hs => sort_done t m (ys := ys) hp hs)
  have hless := Lib.hid (fun A c tb W0 hb hS => less_is t m (A := A) (c := c) (tb := tb) (W0 := W0) hb hS)
  generalize textsF t m = T at *
  generalize sortedF t m = srt at *
  replace K1 := Lib.hid K1
  replace hB := Lib.hid hB
  replace HX := Lib.hid HX
  clear h hf HT
  go_enter Try.func21, Try.ntmps21
  go_upto_region 1 with (fail)
  generalize w.alloc (.cells #[.slice A1 t.us.length c1, .slice A2 t.bs.length c2, .slice A3 t.ns.length c3] 26) = W at *
  obtain ⟨x0, x1, x2, -, -, -⟩ := blk3 HX.out
  go_wp2_with (fail)
  refine K1.out.mono ?_
  rintro e w1 ⟨v1, rfl, o1, b1⟩
  obtain ⟨A, c, rfl, hs⟩ := o1.strs
  have hB1 := Lib.hid (hB.out.trans (b1.mono hB.out.size))
  have hs1 := Lib.hid (hs.below ((Below.refl w1.heap.size w1).alloc (Nat.le_refl _) (.cells #[.slice A T.length c] 23)) (Nat.le_refl _))
  have hb1 := Lib.hid (Blk.new w1 23 #[.slice A T.length c])
  have hB2 := Lib.hid (hB1.out.alloc hB1.out.size (.cells #[.slice A T.length c] 23))
  clear b1 x0 x1 x2 K1 o1 HX hs hB hB1
  go_upto_region 2 with (fail)
  generalize w1.alloc (.cells #[.slice A T.length c] 23) = W1 at *
  generalize w1.heap.size = tb at *
  obtain ⟨L, hL⟩ : ∃ L, T.length = L := ⟨_, rfl⟩
  rw [hL] at hs1 hb1 hdone hless hTl ⊢
  have y0 := hb1.out.cell 0
  simp only [List.getElem?_toArray, List.getElem?_cons_zero] at y0
  have hmk := run_make_rowN (P := Try.prog) 24 3 i0 _ Try.underlying24 hi hz0 .i64 .i64 L L (Nat.le_refl _) (by rw [hz2]; omega) (by omega) W1
  rw [hz1] at hmk
  replace hL := Lib.hid hL
  go_wp2
  go_loopw [7, 16] (fun _ s16 wr => ∃ (k : Nat) (cs : Array Value), k ≤ L ∧ s16 = .int .i64 k ∧ cs.size = L ∧ (∀ j, j < k → cs[j]? = some (.int .i64 ((upL L).getD j 0))) ∧ Blk wr W1.heap.size 3 cs ∧ Below W1.heap.size W1 wr) (fun _ s16 _ => L - (intOf s16).toNat)
  case atStart => exact ⟨0, _, Nat.zero_le _, rfl, size_madeCells _ _, fun j hj => absurd hj (by omega), Blk.new _ _ _, (Below.refl _ _).alloc (Nat.le_refl _) _⟩
  case round =>
    obtain ⟨k, cs, hk, rfl, hcs, hj, hb, hBr⟩ := hrel
    by_cases hlt : k < L
    · have hlt' : (k : Int) < (L : Int) := by omega
      have e1 : IntKind.i64.wrap ((k : Int) + 1) = (k : Int) + 1 := IntWalk.i64_in _ (by omega)
      have c2 := hb.cell k
      have f2 := hb.frozen k
      rw [Array.getElem?_eq_getElem (by omega)] at c2
      have HB := hb.set_ k (.int .i64 ((upL L).getD k 0))
      have HJ := cells_set (upL L) cs k (by omega) hj
      have HBel := hBr.setCell (p := ⟨W1.heap.size, k, none⟩) (Nat.le_refl _) (.int .i64 ((upL L).getD k 0))
      rw [upL_at hlt] at HB HJ HBel
      replace HB := Lib.hid HB
      replace HJ := Lib.hid HJ
      replace HBel := Lib.hid HBel
      replace hcs := Lib.hid hcs
      clear hj hb hmk hBr
      go_wp2
      go_roundw
      case rel => exact ⟨k+1, _, by omega, by go_num, by simpa using hcs.out, HJ.out, HB.out, HBel.out⟩
      case measure => simp [intOf]; omega
    · obtain rfl : k = L := by omega
      have hlt' : ¬ (k : Int) < (k : Int) := by omega
      have HO := OwnInts.of_cells (B := W1.heap.size) (xs := upL k) hb (by rw [hcs, upL_len]) (fun j hj' => hj j (by rw [upL_len] at hj'; exact hj')) (Nat.le_refl _)
      rw [upL_len] at HO
      have HL := hless.out A c tb wr (hb1.out.below hBr hb1.out.lt) (by have := hs1.out.below hBr (Nat.le_refl _); exact this)
      have KS := Lib.hid (sortedBy_any HL k (some ⟨W1.heap.size, 0, none⟩) k (upL k) wr (Below.refl _ _) HO.ints (fun x hx => upL_mem.1 hx) (by omega))
      have hBw := Lib.hid (hB2.out.trans (hBr.mono hB2.out.size))
      clear hj hb hmk hBr HO HL hcs
      go_wp2_with (fail)
      refine KS.out.mono ?_
      rintro e w3 ⟨v3, ys, rfl, o3, p3, s3, b3⟩
      have hr := Lib.hid (hdone.out ys p3 s3)
      obtain ⟨A5, c5, rfl, -⟩ := o3.ints
      have hB3 := Lib.hid (hBw.out.trans (b3.mono hBw.out.size))
      have o4 := Lib.hid (o3.mono hBw.out.size)
      clear o3 b3 p3 s3 KS hBw
      have HF : Hid (RetO1 w srt (.returned (.slice A5 ys.length c5)) w3) := Lib.hid ⟨_, rfl, by rw [← hr.out]; exact o4.out, hB3.out⟩
      clear o4 hr
      generalize ys.length = L3 at *
      go_wp2
      go_ret
      exact HF.out
end Go.Proofs.Ytjggdlnbfoglaaa
