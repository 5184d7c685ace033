/-
  JournalText of both.
-/
import Derived.Test.YtfmdbmhakkajfaaDoorDdsB
import Derived.Test.YtfmdbmhakkajfaaDoorVb
import Derived.Test.YtfmdbmhakkajfaaDoorVd
import Derived.Test.YtfmdbmhakkajfaaDoorBjw
namespace Go.Proofs.YtfmdbmhakkajfaaDoor
open Go.RowKit

/-- The text of a journal. -/
def jT (q : List Dd) : ByteArray := ⟨(jL q).toArray⟩
/-- The lines of deeds, whatever these are. -/
def jF (q : List Dd) : ByteArray := ⟨(jFlat q).toArray⟩
theorem wordL_size (k : Int) : (wordL k).length ≤ 7 := by
  unfold wordL
  repeat' split
  all_goals decide
theorem deedL_size (a : Dd) : (deedL a).length ≤ 14 := by
  unfold deedL
  split
  · rename_i h
    have hd : (Lib.decDigits a.n.toNat).length ≤ 6 := num_size h.2.1 h.2.2
    have := wordL_size a.kind
    simp; omega
  · split
    · have := wordL_size a.kind; omega
    · simp
theorem jFlat_len (q : List Dd) : (jFlat q).length ≤ 15 * q.length := by
  induction q with
  | nil => simp [jFlat]
  | cons a q ih => have := deedL_size a; rw [jFlat_cons]; simp; omega
theorem jL_no {q : List Dd} {a : Dd} (h : a ∈ q) (ha : deedT a = ⟨#[]⟩) : jT q = ⟨#[]⟩ := by
  unfold jT jL
  have : ¬ jOk q = true := fun e => jOk_iff.1 e a h (by have := congrArg tl ha; rw [deedT_tl] at this; exact this)
  rw [if_neg this]
theorem jL_yes {q : List Dd} (h : ∀ a ∈ q, deedL a ≠ []) : jT q = jF q := by
  unfold jT jF jL
  rw [if_pos (jOk_iff.2 h)]
theorem jF_size (q : List Dd) : (jF q).size ≤ 15 * q.length := by
  have : (jF q).size = (jFlat q).length := by unfold jF; simp [ByteArray.size]
  have := jFlat_len q
  omega
theorem jT_size (q : List Dd) : (jT q).size ≤ 15 * q.length := by
  unfold jT jL
  split
  · exact jF_size q
  · simp [ByteArray.size]
theorem take_snocD {q : List Dd} {k : Nat} {x : Dd} (hx : q[k]? = some x) : q.take (k + 1) = q.take k ++ [x] := by
  rw [List.take_add_one, hx]; rfl
theorem jF_snoc {q : List Dd} {k : Nat} {x : Dd} (hx : q[k]? = some x) : (jF (q.take k) ++ deedT x) ++ ⟨#[10]⟩ = jF (q.take (k + 1)) := by
  refine tl_inj ?_
  rw [take_snocD hx, tl_app, tl_app, deedT_tl]
  unfold jF
  show jFlat (q.take k) ++ deedL x ++ [10] = jFlat (q.take k ++ [x])
  rw [jFlat_snoc]
  simp [lineL]
theorem jFlat_snoc2 {q : List Dd} {k : Nat} {x : Dd} (hx : q[k]? = some x) : jFlat (q.take k) ++ (deedT x ++ ⟨#[10]⟩).data.toList = jFlat (q.take (k + 1)) := by
  rw [take_snocD hx, jFlat_snoc]
  have : (deedT x ++ ⟨#[10]⟩).data.toList = tl (deedT x ++ ⟨#[10]⟩) := rfl
  rw [this, tl_app, deedT_tl]
  rfl
theorem deedT_ne {a : Dd} (h : ¬ deedT a = ⟨#[]⟩) : deedL a ≠ [] := fun e => h (tl_inj (by rw [deedT_tl, e]))
set_option maxRecDepth 100000 in
set_option maxHeartbeats 8000000 in
theorem specJournalText_any (A : Option Addr) (n c : Nat) (q : List Dd) (w : World) (h : DeedsAre w A n c q) (hn : n ≤ 1048577) :
    Calls Tryd.prog 19 #[.slice A n c] w fun e w' => e = .returned (.string (jT q)) ∧ Below w.heap.size w w' := by
  have hl := Lib.hid h.len
  have cs := dd_cells
  replace h := Lib.hid h
  go_enter Tryd.func19, Tryd.ntmps19
  go_wp2
  go_loopw [3, 4] (fun s3 s4 wr => ∃ k : Nat, k ≤ n ∧ s4 = .int .i64 k ∧ s3 = .string (jF (q.take k)) ∧ (∀ a ∈ q.take k, deedL a ≠ []) ∧ Below w.heap.size w wr) (fun _ s4 _ => n - (intOf s4).toNat)
  case atStart => exact ⟨0, Nat.zero_le _, rfl, rfl, by simp, Below.refl _ _⟩
  case round =>
    obtain ⟨k, hk, rfl, rfl, hok, hb⟩ := hrel
    replace hok := Lib.hid hok
    by_cases hlt : k < n
    · have hx : q[k]? = some (q[k]'(by have := hl.out; omega)) := List.getElem?_eq_getElem (by have := hl.out; omega)
      have hmem : q[k]'(by have := hl.out; omega) ∈ q := List.getElem_mem _
      generalize q[k]'(by have := hl.out; omega) = x at *
      obtain ⟨b, o, rfl, hbl, hc⟩ := (h.out.below hb (Nat.le_refl _)).at_ (by omega)
      obtain ⟨c1, c2⟩ := hc k _ hx
      have hfz := jF_size (q.take k)
      rw [List.length_take] at hfz
      have hds : (deedT x).size ≤ 14 := by have := deedL_size x; rw [← deedT_tl, tl_len] at this; exact this
      have hno := Lib.hid (jL_no hmem)
      have hsn := Lib.hid (jF_snoc hx)
      have hok2 := Lib.hid (fun (e : ¬ deedT x = ⟨#[]⟩) => (show ∀ a ∈ q.take (k + 1), deedL a ≠ [] from fun a ha => by
        rw [take_snocD hx] at ha
        rcases List.mem_append.1 ha with h1 | h1
        · exact hok.out a h1
        · rw [List.mem_singleton.1 h1]; exact deedT_ne e))
      have K := Lib.hid (fun W => specDeedText_any x W)
      have hcc := Lib.hid (fun (W : World) (hb2 : Below wr.heap.size wr W) => (⟨(hb2.cell (p := ⟨b, o + k * 2, none⟩) hbl).trans c1, (hb2.cell (p := ⟨b, o + k * 2 + 1, none⟩) hbl).trans c2⟩ : W.cell? ⟨b, o + k * 2, none⟩ = some (.int .i64 x.kind) ∧ W.cell? ⟨b, o + k * 2 + 1, none⟩ = some (.int .i64 x.n)))
      replace hb := Lib.hid hb
      replace hx := Lib.hid hx
      clear hc hmem
      generalize jF (q.take k) = f at *
      generalize deedT x = s at *
      obtain ⟨xk, xn⟩ := x
      dsimp only at *
      go_wp2_with (fail)
      refine (K.out wr).mono ?_
      rintro e w2 ⟨rfl, b2⟩
      have hb2 := Lib.hid (hb.out.trans (b2.mono hb.out.size))
      obtain ⟨d1, d2⟩ := hcc.out w2 b2
      clear c1 c2 hcc b2
      by_cases he : s = ⟨#[]⟩
      · have hse : s.toList.isEmpty = true := by rw [emp_iff]; exact decide_eq_true he
        have hg := Lib.hid (hno.out he)
        replace he := Lib.hid he
        clear K hsn hok2 hno
        go_wp2
        go_ret
        exact ⟨ret_str hg.out.symm, hb2.out⟩
      · have hse : s.toList.isEmpty = false := by rw [emp_iff]; exact decide_eq_false he
        replace hok2 := Lib.hid (hok2.out he)
        have hz1 : ¬ 9223372036854775807 < f.size + s.size := by omega
        have hz2 : ¬ 9223372036854775807 < (f ++ s).size + 1 := by rw [ByteArray.size_append]; omega
        have hz3 : ¬ 9223372036854775807 < f.size + s.size + 1 := by omega
        replace he := Lib.hid he
        go_wp2_with (fail)
        refine (K.out w2).mono ?_
        rintro e w3 ⟨rfl, b3⟩
        replace hb2 := Lib.hid (hb2.out.trans (b3.mono hb2.out.size))
        clear d1 d2 b3 K
        go_wp2
        go_roundw
        case rel => exact ⟨k + 1, by omega, by go_num, by rw [hsn.out], hok2.out, hb2.out⟩
        case measure => simp [intOf]; omega
    · obtain rfl : k = n := by omega
      have ht : q.take k = q := List.take_of_length_le (by have := hl.out; omega)
      rw [ht] at hok
      have hg := Lib.hid (jL_yes hok.out)
      rw [ht]
      replace ht := Lib.hid ht
      replace hb := Lib.hid hb
      generalize jF q = f at *
      go_wp2
      go_ret
      exact ⟨ret_str hg.out.symm, hb.out⟩
set_option maxRecDepth 100000 in
set_option maxHeartbeats 8000000 in
theorem implJournalText_any (A : Option Addr) (n c : Nat) (q : List Dd) (w : World) (h : DeedsAre w A n c q) (hn : n ≤ 1048577) (hT : LibT w) :
    Calls Tryd.prog 18 #[.slice A n c] w fun e w' => e = .returned (.string (jT q)) ∧ Below w.heap.size w w' := by
  have hl := Lib.hid h.len
  have cs := dd_cells
  have hN := Lib.hid (Bj.new w)
  have hB0 := Lib.hid ((Below.refl w.heap.size w).alloc (Nat.le_refl _) (.cells #[.pointer none, .slice none 0 0] 72))
  replace h := Lib.hid h
  go_enter Tryd.func18, Tryd.ntmps18
  go_upto_region 2 with (fail)
  generalize w.alloc (.cells #[.pointer none, .slice none 0 0] 72) = W0 at *
  go_wp2
  go_loopw [9] (fun s9 wr => ∃ k : Nat, k ≤ n ∧ s9 = .int .i64 k ∧ Bj w.heap.size w.heap.size (jFlat (q.take k)) wr ∧ (∀ a ∈ q.take k, deedL a ≠ []) ∧ Below w.heap.size w wr) (fun s9 _ => n - (intOf s9).toNat)
  case atStart => exact ⟨0, Nat.zero_le _, rfl, hN.out, by simp, hB0.out⟩
  case round =>
    clear hN hB0
    obtain ⟨k, hk, rfl, hbl, hok, hb⟩ := hrel
    replace hok := Lib.hid hok
    replace hbl := Lib.hid hbl
    by_cases hlt : k < n
    · have hx : q[k]? = some (q[k]'(by have := hl.out; omega)) := List.getElem?_eq_getElem (by have := hl.out; omega)
      have hmem : q[k]'(by have := hl.out; omega) ∈ q := List.getElem_mem _
      generalize q[k]'(by have := hl.out; omega) = x at *
      obtain ⟨b, o, rfl, hbo, hc⟩ := (h.out.below hb (Nat.le_refl _)).at_ (by omega)
      obtain ⟨c1, c2⟩ := hc k _ hx
      have hfz := jFlat_len (q.take k)
      rw [List.length_take] at hfz
      have hds : (deedT x).size ≤ 14 := by have := deedL_size x; rw [← deedT_tl, tl_len] at this; exact this
      have hno := Lib.hid (jL_no hmem)
      have hsn := Lib.hid (jFlat_snoc2 hx)
      have hok2 := Lib.hid (fun (e : ¬ deedT x = ⟨#[]⟩) => (show ∀ a ∈ q.take (k + 1), deedL a ≠ [] from fun a ha => by
        rw [take_snocD hx] at ha
        rcases List.mem_append.1 ha with h1 | h1
        · exact hok.out a h1
        · rw [List.mem_singleton.1 h1]; exact deedT_ne e))
      have K := Lib.hid (fun W hT => implDeedText_any x W hT)
      have hba := (Below.refl wr.heap.size wr).alloc (Nat.le_refl _) (.cells #[.int .i64 x.kind, .int .i64 x.n] 24)
      have kA := Lib.hid (Blk.new wr 24 #[.int .i64 x.kind, .int .i64 x.n])
      replace hbl := Lib.hid (hbl.out.below hba (Nat.le_refl _))
      replace hb := Lib.hid (hb.trans (hba.mono hb.size))
      replace hx := Lib.hid hx
      clear hc hmem hba
      obtain ⟨xk, xn⟩ := x
      dsimp only at *
      go_upto_region 5 with (fail)
      generalize wr.alloc (.cells #[.int .i64 xk, .int .i64 xn] 24) = W at *
      generalize wr.heap.size = p at *
      have x0 : W.cell? ⟨p, 0, none⟩ = some (.int .i64 xk) := kA.out.cell 0
      have x1 : W.cell? ⟨p, 1, none⟩ = some (.int .i64 xn) := kA.out.cell 1
      clear c1 c2
      go_wp2_with (fail)
      refine (K.out W (hT.below hb.out (Nat.le_refl _))).mono ?_
      rintro e w2 ⟨rfl, b2⟩
      have hb2 := Lib.hid (hb.out.trans (b2.mono hb.out.size))
      replace hbl := Lib.hid (hbl.out.below b2 (Nat.le_refl _))
      clear x0 x1 b2 K kA
      generalize deedT ⟨xk, xn⟩ = s at *
      generalize jFlat (q.take k) = f at *
      by_cases he : s = ⟨#[]⟩
      · have hse : s.toList.isEmpty = true := by rw [emp_iff]; exact decide_eq_true he
        have hg := Lib.hid (hno.out he)
        replace he := Lib.hid he
        clear hsn hok2 hno
        go_wp2
        go_ret
        exact ⟨ret_str hg.out.symm, hb2.out⟩
      · have hse : s.toList.isEmpty = false := by rw [emp_iff]; exact decide_eq_false he
        replace hok2 := Lib.hid (hok2.out he)
        have hz1 : ¬ 9223372036854775807 < s.size + 1 := by omega
        have hzs : (s ++ (⟨#[10]⟩ : ByteArray)).size = s.size + 1 := by rw [ByteArray.size_append]; rfl
        have KW := Lib.hid (jwstr_any w.heap.size w.heap.size f (s ++ (⟨#[10]⟩ : ByteArray)) w2 hbl.out (by omega) hb2.out.size)
        replace he := Lib.hid he
        go_wp2_with (fail)
        refine KW.out.mono ?_
        rintro e w3 ⟨rfl, n3, b3⟩
        rw [hsn.out] at n3
        replace hb2 := Lib.hid (hb2.out.trans b3)
        replace n3 := Lib.hid n3
        clear b3 KW hbl
        go_wp2
        go_roundw
        case rel => exact ⟨k + 1, by omega, by go_num, n3.out, hok2.out, hb2.out⟩
        case measure => simp [intOf]; omega
    · obtain rfl : k = n := by omega
      have ht : q.take k = q := List.take_of_length_le (by have := hl.out; omega)
      rw [ht] at hok hbl
      have hg : (⟨(jFlat q).toArray⟩ : ByteArray) = jT q := (jL_yes hok.out).symm
      replace hg := Lib.hid hg
      replace ht := Lib.hid ht
      have KS := Lib.hid (jbstr_any w.heap.size w.heap.size (jFlat q) wr hbl.out hb.size)
      replace hb := Lib.hid hb
      generalize jFlat q = f at *
      clear hbl
      go_wp2_with (fail)
      refine KS.out.mono ?_
      rintro e w3 ⟨rfl, b3⟩
      replace hb := Lib.hid (hb.out.trans b3)
      clear b3 KS
      go_wp2
      go_ret
      exact ⟨ret_str hg.out, hb.out⟩
end Go.Proofs.YtfmdbmhakkajfaaDoor
