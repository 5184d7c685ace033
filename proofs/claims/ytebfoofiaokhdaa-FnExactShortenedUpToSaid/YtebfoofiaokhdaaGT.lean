/-
  GT: THoldB THoldC OpenS OpenT.
-/
import Derived.Test.YtebfoofiaokhdaaGN
import Derived.Test.YtebfoofiaokhdaaGB
import Derived.Test.YtebfoofiaokhdaaGA
import Derived.Test.YtebfoofiaokhdaaChecked
import Derived.Lib.SmallJoins
import Derived.Deep.Strs
import Derived.OpenShut
import Derived.KernelRfl
/- THoldB -/
namespace Go.Proofs.Ytebfoofiaokhdaa
open Go.RowKit


abbrev zeroT : Obj := .cells #[.slice none 0 0, .slice none 0 0, .slice none 0 0] 26
/-- A tongue as it comes in. -/
structure TngIn (w : World) (v : Value) (t : Tg) : Prop where
  ex : ∃ A1 c1 A2 c2 A3 c3, v = .agg #[.slice A1 t.us.length c1, .slice A2 t.bs.length c2, .slice A3 t.ns.length c3] ∧ Strs w A1 t.us.length c1 t.us ∧ Ints w .i64 A2 t.bs.length c2 t.bs ∧ Strs w A3 t.ns.length c3 t.ns ∧ c1 ≤ maxLen ∧ c2 ≤ maxLen ∧ c3 ≤ maxLen
  wf : ∀ x ∈ t.bs, (Lit.int .i64 x).wf = true
  size : ∀ x ∈ t.us ++ t.ns, x.size ≤ maxLen
theorem TngIn.tng {w : World} {v : Value} {t : Tg} (h : TngIn w v t) : Tng w v t := by
  obtain ⟨A1, c1, A2, c2, A3, c3, e, h1, h2, h3, _⟩ := h.ex
  exact ⟨A1, c1, A2, c2, A3, c3, e, h1, h2, h3⟩
theorem TngIn.below {w w' : World} {B : Nat} {v : Value} {t : Tg} (h : TngIn w v t) (hb : Below B w w') (hB : w.heap.size ≤ B) : TngIn w' v t := by
  obtain ⟨A1, c1, A2, c2, A3, c3, e, h1, h2, h3, h4⟩ := h.ex
  exact ⟨⟨A1, c1, A2, c2, A3, c3, e, h1.below hb hB, h2.below hb hB, h3.below hb hB, h4⟩, h.wf, h.size⟩

def RetSize (w : World) (t : Tg) (e : Ending) (w' : World) : Prop := ∃ r, e = .returned (.int .i64 r) ∧ (r = -1 ∨ (0 ≤ r ∧ t.Fine)) ∧ Below w.heap.size w w'
/-- The same, and no more than there was. -/
def RetSizeB (w : World) (t : Tg) (e : Ending) (w' : World) : Prop := ∃ r, e = .returned (.int .i64 r) ∧ (r = -1 ∨ (0 ≤ r ∧ r ≤ 1048576 ∧ t.Fine)) ∧ Below w.heap.size w w'

set_option maxHeartbeats 1000000 in
theorem szTongue_bd (v : Value) (t : Tg) (w : World) (h : TngIn w v t) :
    Calls Try.prog 31 #[v, .int .i64 1048576] w (RetSizeB w t) := by
  obtain ⟨A1, c1, A2, c2, A3, c3, rfl, h1, h2, h3, m1, m2, m3⟩ := h.ex
  have hbl : t.bs.length ≤ 9223372036854775807 := by have := h2.le; unfold maxLen at m2; omega
  have hB : Below w.heap.size w (w.alloc (.cells #[.slice A1 t.us.length c1, .slice A2 t.bs.length c2, .slice A3 t.ns.length c3] 38)) := (Below.refl _ _).alloc (Nat.le_refl _) _
  have K1 := Lib.hid (szStringS_any A1 _ c1 t.us 1048576 _ (h1.below hB (Nat.le_refl _)) m1 (fun x hx => h.size x (List.mem_append.2 (.inl hx))) (by omega) (by omega))
  have K2 := Lib.hid (fun left h0 h1 => szIntS_any A2 t.bs.length c2 left (w.alloc (.cells #[.slice A1 t.us.length c1, .slice A2 t.bs.length c2, .slice A3 t.ns.length c3] 38)) hbl h0 h1)
  have K3 := Lib.hid (fun left h0 h1 => szStringS_any A3 _ c3 t.ns left _ (h3.below hB (Nat.le_refl _)) m3 (fun x hx => h.size x (List.mem_append.2 (.inr hx))) h0 h1)
  have HF := Lib.hid (Fits.of_wf h.wf)
  replace hB := Lib.hid hB
  clear h h1 h2 h3 m1 m2 m3 hbl
  go_enter Try.func31, Try.ntmps31
  go_wp2_with (fail)
  refine K1.out.mono ?_
  rintro e _ ⟨r1, rfl, hl1, rfl⟩
  rcases hl1 with rfl | ⟨a1, b1, d1, s1⟩
  · go_wp2
    go_ret
    exact ⟨-1, rfl, .inl rfl, hB.out⟩
  · have g1 : ¬ r1 < 0 := by omega
    go_wp2_with (fail)
    refine (K2.out r1 a1 (by omega)).mono ?_
    rintro e _ ⟨r2, rfl, hl2, rfl⟩
    rcases hl2 with rfl | ⟨a2, b2, d2, -⟩
    · go_wp2
      go_ret
      exact ⟨-1, rfl, .inl rfl, hB.out⟩
    · have g2 : ¬ r2 < 0 := by omega
      go_wp2_with (fail)
      refine (K3.out r2 a2 (by omega)).mono ?_
      rintro e _ ⟨r3, rfl, hl3, rfl⟩
      rcases hl3 with rfl | ⟨a3, b3, d3, s3⟩
      · go_wp2
        go_ret
        exact ⟨-1, rfl, .inl rfl, hB.out⟩
      · have g3 : ¬ r3 < 0 := by omega
        have hfine : t.Fine := ⟨by omega, by omega, by omega, HF.out, fun x hx => by
          rcases List.mem_append.1 hx with h | h
          · have := s1 x h; omega
          · have := s3 x h; omega⟩
        replace hfine := Lib.hid hfine
        clear s1 s3
        go_wp2
        go_ret
        exact ⟨r3, rfl, .inr ⟨a3, by omega, hfine.out⟩, hB.out⟩
theorem szTongue_any (v : Value) (t : Tg) (w : World) (h : TngIn w v t) :
    Calls Try.prog 31 #[v, .int .i64 1048576] w (RetSize w t) :=
  (szTongue_bd v t w h).mono fun _ _ ⟨r, he, hr, hb⟩ => ⟨r, he, hr.elim .inl fun h => .inr ⟨h.1, h.2.2⟩, hb⟩

set_option maxRecDepth 100000 in
set_option maxHeartbeats 4000000 in
theorem toTongue_any (v : Value) (t : Tg) (w : World) (h : Tng w v t) (hf : t.Fine) :
    Calls Try.prog 32 #[v] w (RetTng w t) := by
  obtain ⟨A1, c1, A2, c2, A3, c3, rfl, h1, h2, h3⟩ := h.ex
  have H1 := Lib.hid h1
  have H2 := Lib.hid h2
  have H3 := Lib.hid h3
  have hu := hf.us
  have hb := hf.bs
  have hn := hf.ns
  have hW : Below w.heap.size w (((w.alloc (.cells #[.slice A1 t.us.length c1, .slice A2 t.bs.length c2, .slice A3 t.ns.length c3] 38)).alloc zeroT).alloc zeroT) := (((Below.refl _ _).alloc (Nat.le_refl _) _).alloc (by simp) _).alloc (by simp; omega) _
  have HB1 : Blk (((w.alloc (.cells #[.slice A1 t.us.length c1, .slice A2 t.bs.length c2, .slice A3 t.ns.length c3] 38)).alloc zeroT).alloc zeroT) w.heap.size 38 #[.slice A1 t.us.length c1, .slice A2 t.bs.length c2, .slice A3 t.ns.length c3] := ((Blk.new _ _ _).alloc _).alloc _
  have HB2 : Blk (((w.alloc (.cells #[.slice A1 t.us.length c1, .slice A2 t.bs.length c2, .slice A3 t.ns.length c3] 38)).alloc zeroT).alloc zeroT) (w.heap.size + 1) 26 #[.slice none 0 0, .slice none 0 0, .slice none 0 0] := (blk_new_at _ (by simp)).alloc _
  have HB3 : Blk (((w.alloc (.cells #[.slice A1 t.us.length c1, .slice A2 t.bs.length c2, .slice A3 t.ns.length c3] 38)).alloc zeroT).alloc zeroT) (w.heap.size + 2) 26 #[.slice none 0 0, .slice none 0 0, .slice none 0 0] := blk_new_at _ (by simp)
  have hsz : (((w.alloc (.cells #[.slice A1 t.us.length c1, .slice A2 t.bs.length c2, .slice A3 t.ns.length c3] 38)).alloc zeroT).alloc zeroT).heap.size = w.heap.size + 3 := by simp
  replace hW := Lib.hid hW
  replace HB1 := Lib.hid HB1
  replace HB2 := Lib.hid HB2
  replace HB3 := Lib.hid HB3
  replace hsz := Lib.hid hsz
  clear h h1 h2 h3 hf
  go_enter Try.func32, Try.ntmps32
  go_upto_region 2 with (fail)
  generalize ((w.alloc (.cells #[.slice A1 t.us.length c1, .slice A2 t.bs.length c2, .slice A3 t.ns.length c3] 38)).alloc zeroT).alloc zeroT = W at *
  obtain ⟨x0, x1, x2, -, -, -⟩ := blk3 HB1.out
  have hszW := hsz.out
  replace hszW := Lib.hid hszW
  go_wp2_with (fail)
  refine (toStringS_any A1 _ c1 t.us W (H1.out.below hW.out (Nat.le_refl _)) hu).mono ?_
  rintro e w1 ⟨rfl, o1, b1⟩
  have hl3 : w.heap.size + 2 < W.heap.size := by rw [hsz.out]; omega
  have hX1 := HB1.out.below b1 HB1.out.lt
  have hX2 := HB2.out.below b1 HB2.out.lt
  have hX3 := HB3.out.below b1 HB3.out.lt
  have hWx := hW.out.trans (b1.mono hW.out.size)
  have hs1 := b1.size
  have hz1 : W.heap.size < w1.heap.size := (o1.lt _ rfl).2
  obtain ⟨y0, y1, y2, g0, g1, g2⟩ := blk3 hX3
  have o1' := own_far o1 (g := w.heap.size + 2) (i := 0) (by omega) (.slice (some ⟨W.heap.size, 0, none⟩) t.us.length t.us.length)
  have e3 := hX3.set_ 0 (.slice (some ⟨W.heap.size, 0, none⟩) t.us.length t.us.length)
  have e1 := hX1.far (p := ⟨w.heap.size + 2, 0, none⟩) (by simp) (.slice (some ⟨W.heap.size, 0, none⟩) t.us.length t.us.length)
  have e2 := hX2.far (p := ⟨w.heap.size + 2, 0, none⟩) (by simp) (.slice (some ⟨W.heap.size, 0, none⟩) t.us.length t.us.length)
  have eW := hWx.setCell (p := ⟨w.heap.size + 2, 0, none⟩) (by simp) (.slice (some ⟨W.heap.size, 0, none⟩) t.us.length t.us.length)
  simp at e3
  clear x0 x1 x2 hX1 hX2 hX3 b1 o1
  replace o1' := Lib.hid o1'
  replace e1 := Lib.hid e1
  replace e2 := Lib.hid e2
  replace e3 := Lib.hid e3
  replace eW := Lib.hid eW
  replace hWx := Lib.hid hWx
  go_upto_region 3 with (fail)
  generalize w1.setCell ⟨w.heap.size + 1 + 1, 0, none⟩ (.slice (some ⟨W.heap.size, 0, none⟩) t.us.length t.us.length) = W1 at *
  clear y0 y1 y2 g0 g1 g2
  obtain ⟨x0, x1, x2, -, -, -⟩ := blk3 e1.out
  have hzW1 : W.heap.size < W1.heap.size := (o1'.out.lt _ rfl).2
  go_wp2_with (fail)
  refine (toIntS_any A2 _ c2 t.bs W1 (H2.out.below eW.out (Nat.le_refl _)) hb).mono ?_
  rintro e w2 ⟨gi, rfl, o2, b2⟩
  have o2r := o2.row hb
  have hX1 := e1.out.below b2 e1.out.lt
  have hX2 := e2.out.below b2 e2.out.lt
  have hX3 := e3.out.below b2 e3.out.lt
  have hWx2 := eW.out.trans (b2.mono eW.out.size)
  have o1w := own_below o1'.out b2 (Nat.le_refl _)
  have hz2 := o2r.lt gi rfl
  obtain ⟨y0, y1, y2, g0, g1, g2⟩ := blk3 hX3
  have o1'' := own_far o1w (g := w.heap.size + 2) (i := 1) (by omega) (.slice (some ⟨gi, 0, none⟩) t.bs.length t.bs.length)
  have o2'' := own_far o2r (g := w.heap.size + 2) (i := 1) (by omega) (.slice (some ⟨gi, 0, none⟩) t.bs.length t.bs.length)
  have d3 := hX3.set_ 1 (.slice (some ⟨gi, 0, none⟩) t.bs.length t.bs.length)
  have d1 := hX1.far (p := ⟨w.heap.size + 2, 1, none⟩) (by simp) (.slice (some ⟨gi, 0, none⟩) t.bs.length t.bs.length)
  have d2 := hX2.far (p := ⟨w.heap.size + 2, 1, none⟩) (by simp) (.slice (some ⟨gi, 0, none⟩) t.bs.length t.bs.length)
  have dW := hWx2.setCell (p := ⟨w.heap.size + 2, 1, none⟩) (by simp) (.slice (some ⟨gi, 0, none⟩) t.bs.length t.bs.length)
  simp at d3
  clear x0 x1 x2 hX1 hX2 hX3 b2 o2 o2r o1w e1 e2 e3 eW o1' hWx2
  replace o1'' := Lib.hid o1''
  replace o2'' := Lib.hid o2''
  replace d1 := Lib.hid d1
  replace d2 := Lib.hid d2
  replace d3 := Lib.hid d3
  replace dW := Lib.hid dW
  go_upto_region 4 with (fail)
  generalize w2.setCell ⟨w.heap.size + 1 + 1, 1, none⟩ (.slice (some ⟨gi, 0, none⟩) t.bs.length t.bs.length) = W2 at *
  clear y0 y1 y2 g0 g1 g2
  obtain ⟨x0, x1, x2, -, -, -⟩ := blk3 d1.out
  have hzW2 : gi < W2.heap.size := (o2''.out.lt _ rfl).2
  have hzW2' : W.heap.size < W2.heap.size := (o1''.out.lt _ rfl).2
  go_wp2_with (fail)
  refine (toStringS_any A3 _ c3 t.ns W2 (H3.out.below dW.out (Nat.le_refl _)) hn).mono ?_
  rintro e w3 ⟨rfl, o3, b3⟩
  have hX2 := d2.out.below b3 d2.out.lt
  have hX3 := d3.out.below b3 d3.out.lt
  have hWx3 := dW.out.trans (b3.mono dW.out.size)
  have p1 := own_below o1''.out b3 (Nat.le_refl _)
  have p2 := own_below o2''.out b3 (Nat.le_refl _)
  obtain ⟨y0, y1, y2, g0, g1, g2⟩ := blk3 hX3
  have q1 := own_far p1 (g := w.heap.size + 2) (i := 2) (by omega) (.slice (some ⟨W2.heap.size, 0, none⟩) t.ns.length t.ns.length)
  have q2 := own_far p2 (g := w.heap.size + 2) (i := 2) (by omega) (.slice (some ⟨W2.heap.size, 0, none⟩) t.ns.length t.ns.length)
  have q3 := own_far o3 (g := w.heap.size + 2) (i := 2) (by omega) (.slice (some ⟨W2.heap.size, 0, none⟩) t.ns.length t.ns.length)
  have c3' := hX3.set_ 2 (.slice (some ⟨W2.heap.size, 0, none⟩) t.ns.length t.ns.length)
  have c2' := hX2.far (p := ⟨w.heap.size + 2, 2, none⟩) (by simp) (.slice (some ⟨W2.heap.size, 0, none⟩) t.ns.length t.ns.length)
  have cW := hWx3.setCell (p := ⟨w.heap.size + 2, 2, none⟩) (by simp) (.slice (some ⟨W2.heap.size, 0, none⟩) t.ns.length t.ns.length)
  simp at c3'
  clear x0 x1 x2 hX2 hX3 b3 o3 p1 p2 d1 d2 d3 dW o1'' o2'' hWx3
  replace q1 := Lib.hid q1
  replace q2 := Lib.hid q2
  replace q3 := Lib.hid q3
  replace c2' := Lib.hid c2'
  replace c3' := Lib.hid c3'
  replace cW := Lib.hid cW
  go_upto_region 5 with (fail)
  generalize w3.setCell ⟨w.heap.size + 1 + 1, 2, none⟩ (.slice (some ⟨W2.heap.size, 0, none⟩) t.ns.length t.ns.length) = W3 at *
  clear y0 y1 y2 g0 g1 g2
  obtain ⟨x0, x1, x2, -, -, -⟩ := blk3 c3'.out
  obtain ⟨r0, r1, r2, g0, g1, g2⟩ := blk3 c2'.out
  go_wp2
  refine bodyPost_ret (v := .agg #[.slice (some ⟨W.heap.size, 0, none⟩) t.us.length t.us.length, .slice (some ⟨gi, 0, none⟩) t.bs.length t.bs.length, .slice (some ⟨W2.heap.size, 0, none⟩) t.ns.length t.ns.length]) (by simp [results, Try.results32, go_sem, r0, r1, r2]) rfl ?_
  have hB := below_tng3 (g := w.heap.size + 1) (u0 := .slice (some ⟨W.heap.size, 0, none⟩) t.us.length t.us.length) (u1 := .slice (some ⟨gi, 0, none⟩) t.bs.length t.bs.length) (u2 := .slice (some ⟨W2.heap.size, 0, none⟩) t.ns.length t.ns.length) cW.out (by omega)
  exact ⟨_, rfl, own_tng3 (B := w.heap.size + 2) (own_mono q1.out (by omega)) (own_mono q2.out (by omega)) (own_mono q3.out (by omega)) (fun k hk he => by simp [Value.ownBlock] at hk he; omega) (by omega) (by omega), hB⟩
end Go.Proofs.Ytebfoofiaokhdaa

/- THoldC -/
namespace Go.Proofs.Ytebfoofiaokhdaa
open Go.RowKit

set_option maxRecDepth 100000 in
set_option maxHeartbeats 2000000 in
theorem eqTongue_same (v v' : Value) (t : Tg) (w : World) (h : Tng w v t) (h' : Tng w v' t) (hf : t.Fine) :
    Calls Try.prog 33 #[v, v'] w fun e w' => e = .returned (.bool true) ∧ Below w.heap.size w w' := by
  obtain ⟨A1, c1, A2, c2, A3, c3, rfl, h1, h2, h3⟩ := h.ex
  obtain ⟨B1, d1, B2, d2, B3, d3, rfl, k1, k2, k3⟩ := h'.ex
  have hu := hf.us
  have hb := hf.bs
  have hn := hf.ns
  have hW : Below w.heap.size w ((w.alloc (.cells #[.slice A1 t.us.length c1, .slice A2 t.bs.length c2, .slice A3 t.ns.length c3] 26)).alloc (.cells #[.slice B1 t.us.length d1, .slice B2 t.bs.length d2, .slice B3 t.ns.length d3] 26)) := ((Below.refl _ _).alloc (Nat.le_refl _) _).alloc (by simp) _
  have HB1 : Blk ((w.alloc (.cells #[.slice A1 t.us.length c1, .slice A2 t.bs.length c2, .slice A3 t.ns.length c3] 26)).alloc (.cells #[.slice B1 t.us.length d1, .slice B2 t.bs.length d2, .slice B3 t.ns.length d3] 26)) w.heap.size 26 #[.slice A1 t.us.length c1, .slice A2 t.bs.length c2, .slice A3 t.ns.length c3] := (Blk.new _ _ _).alloc _
  have HB2 : Blk ((w.alloc (.cells #[.slice A1 t.us.length c1, .slice A2 t.bs.length c2, .slice A3 t.ns.length c3] 26)).alloc (.cells #[.slice B1 t.us.length d1, .slice B2 t.bs.length d2, .slice B3 t.ns.length d3] 26)) (w.heap.size + 1) 26 #[.slice B1 t.us.length d1, .slice B2 t.bs.length d2, .slice B3 t.ns.length d3] := blk_new_at _ (by simp)
  have K1 := Lib.hid (fun m => by have hh := eqStringS_any A1 B1 _ c1 _ d1 t.us t.us _ ((h1.below hW (Nat.le_refl _)).drewN m) ((k1.below hW (Nat.le_refl _)).drewN m) (by omega) (by omega); rw [decide_eq_true rfl] at hh; exact hh)
  have K2 := Lib.hid (fun m => by have hh := eqIntS_any A2 B2 _ c2 _ d2 t.bs t.bs _ ((h2.below hW (Nat.le_refl _)).drewN m) ((k2.below hW (Nat.le_refl _)).drewN m) hb hb; rw [decide_eq_true rfl] at hh; exact hh)
  have K3 := Lib.hid (fun m => by have hh := eqStringS_any A3 B3 _ c3 _ d3 t.ns t.ns _ ((h3.below hW (Nat.le_refl _)).drewN m) ((k3.below hW (Nat.le_refl _)).drewN m) (by omega) (by omega); rw [decide_eq_true rfl] at hh; exact hh)
  replace hW := Lib.hid hW
  replace HB1 := Lib.hid HB1
  replace HB2 := Lib.hid HB2
  clear h h' h1 h2 h3 k1 k2 k3 hf
  go_enter Try.func33, Try.ntmps33
  go_upto_region 1 with (fail)
  generalize (w.alloc (.cells #[.slice A1 t.us.length c1, .slice A2 t.bs.length c2, .slice A3 t.ns.length c3] 26)).alloc (.cells #[.slice B1 t.us.length d1, .slice B2 t.bs.length d2, .slice B3 t.ns.length d3] 26) = W at *
  obtain ⟨x0, x1, x2, -, -, -⟩ := blk3 HB1.out
  obtain ⟨y0, y1, y2, -, -, -⟩ := blk3 HB2.out
  have J1 := Lib.hid (K1.out 0)
  rw [World.drewN_zero] at J1
  go_wp2_with (fail)
  refine J1.out.mono ?_
  rintro e _ ⟨rfl, m1, rfl⟩
  have J2 := Lib.hid (K2.out m1)
  go_wp2_with (fail)
  refine J2.out.mono ?_
  rintro e _ ⟨rfl, m2, rfl⟩
  have J3 := Lib.hid (K3.out (m1 + m2))
  rw [← World.drewN_drewN] at J3
  go_wp2_with (fail)
  first
    | refine J3.out.mono ?_
    | (rw [World.drewN_drewN] at J3; refine J3.out.mono ?_)
  rintro e _ ⟨rfl, m3, rfl⟩
  go_wp2
  go_ret
  exact ⟨rfl, by first | exact below_drewN (below_drewN (below_drewN hW.out _) _) _ | exact below_drewN (below_drewN hW.out _) _ | exact below_drewN hW.out _⟩
end Go.Proofs.Ytebfoofiaokhdaa

/- OpenS -/
namespace Go.Proofs.Ytebfoofiaokhdaa
open Go.ChangeShapes Go.WideShapes Go.RowKit Go.Joins Go.Deep

theorem in_strs {H : Type} {enc : TypeId × Value → H} {W : World} {v : Value} {n : Nat} {y : DataW H × List MemPlace} (h : DataW.trod enc Try.prog W 0 (fun _ => true) true n 23 [v] = some y) :
    ∃ A c xs, v = .slice A (List.length xs) c ∧ Strs W A xs.length c xs ∧ c ≤ maxLen ∧ ∀ x ∈ xs, x.size ≤ maxLen := by
  rcases open_strs Try.underlying23 Try.underlying9 (by kernel_rfl) h with ⟨hcs, _⟩ | ⟨a, len, cap, m, Sx, hcs, _, hl, hm, hmm, _, hx⟩
  · simp at hcs
    subst hcs
    exact ⟨none, 0, [], rfl, Strs.none_, Nat.zero_le _, by simp⟩
  · simp at hcs
    subst hcs
    have hmc : m = cap := by simpa using hmm
    have hs := strs_of_cells (w := W) (x := a) (Sx := Sx) (m := m) (n := len) (c := cap) hl (by omega) (fun i hi => (hx i hi).1)
    have hlen : ((List.range len).map Sx).length = len := by simp
    refine ⟨some a, cap, (List.range len).map Sx, by rw [hlen], by rw [hlen]; exact hs, hm, fun x hxm => ?_⟩
    obtain ⟨i, hi, rfl⟩ := List.mem_map.1 hxm
    exact (hx i (by have := List.mem_range.1 hi; omega)).2
end Go.Proofs.Ytebfoofiaokhdaa

/- OpenT -/
namespace Go.Proofs.Ytebfoofiaokhdaa
open Go.ChangeShapes Go.WideShapes Go.RowKit Go.Joins Go.Deep

theorem in_ints {H : Type} {enc : TypeId × Value → H} {W : World} {v : Value} {n : Nat} {y : DataW H × List MemPlace} (h : DataW.trod enc Try.prog W 0 (fun _ => true) true n 24 [v] = some y) :
    ∃ A c xs, v = .slice A (List.length xs) c ∧ Ints W .i64 A xs.length c xs ∧ c ≤ maxLen ∧ ∀ x ∈ xs, (Lit.int .i64 x).wf = true := by
  rcases open_ints Try.underlying24 Try.underlying3 (by kernel_rfl) h with ⟨hcs, _⟩ | ⟨x, l, c, zs, hcs, _, hl, hm, hz, _, hcell, hwz⟩
  · simp at hcs
    subst hcs
    exact ⟨none, 0, [], rfl, Ints.none_, Nat.zero_le _, by simp⟩
  · simp at hcs
    subst hcs
    have hzl : zs.length = c := by simpa using hz
    have hlen : (zs.take l).length = l := by simp; omega
    exact ⟨some x, c, zs.take l, by rw [hlen], by rw [hlen]; exact Ints.of_row hl hzl hcell, hm, fun n hn => hwz n (List.mem_of_mem_take hn)⟩

set_option maxRecDepth 100000 in
theorem open_tongue {H : Type} {enc : TypeId × Value → H} {W : World} {v : Value} {d : DataW H} {p : List MemPlace} (hv : Value.okWide Try.prog W .any 0 38 v) (h : DataW.Trod enc Try.prog W 0 (fun _ => true) true 38 v d p) : ∃ t, TngIn W v t := by
  obtain ⟨v0, v1, v2, y0, y1, y2, n, rfl, -, -, h0, h1, h2⟩ := open_agg3 Try.underlying38 (by kernel_rfl) (by kernel_rfl) hv h
  obtain ⟨A1, c1, us, rfl, s1, m1, z1⟩ := in_strs h0
  obtain ⟨A2, c2, bs, rfl, s2, m2, z2⟩ := in_ints h1
  obtain ⟨A3, c3, ns, rfl, s3, m3, z3⟩ := in_strs h2
  exact ⟨⟨us, bs, ns⟩, ⟨A1, c1, A2, c2, A3, c3, rfl, s1, s2, s3, m1, m2, m3⟩, z2, fun x hx => by
    rcases List.mem_append.1 hx with h | h
    · exact z1 x h
    · exact z3 x h⟩
end Go.Proofs.Ytebfoofiaokhdaa
