/-
  A new path; the ring into which a number leads, by a path; RingFrom and StepsToRing of the program.
-/
import Derived.Test.YtfnpkmlgklameaaM3
import Derived.Test.YtfnpkmlgklameaaL4
namespace Go.Proofs.Ytfnpkmlgklameaa
open Go.RowKit Go.WideMaps Go.Maps

theorem run_makeMap_8 {P : Program} (t k e : TypeId) (_ht : P.underlying t = some (.map k e)) (w : World) :
    (Instr.makeMap t none).run P w = .ok (.map (some w.heap.size)) (w.alloc (.map #[] 0)) := by
  simp [Instr.makeMap]

/-- A path at a new block. -/
def RetPath (w : World) (f : Int → Int) (s1 s2 s3 : Value) (e : Ending) (w' : World) : Prop := ∃ b, e = .returned (.agg #[s1, s2, s3, .map (some b)]) ∧ PS w f b 0 w'

set_option maxRecDepth 100000 in
set_option maxHeartbeats 2000000 in
theorem pathIn_any (f : Int → Int) (A1 A2 A3 : Option Addr) (n1 n2 n3 c1 c2 c3 : Nat) (w : World) :
    Calls Try.prog 53 #[.agg #[.slice A1 n1 c1, .slice A2 n2 c2, .slice A3 n3 c3]] w (RetPath w f (.slice A1 n1 c1) (.slice A2 n2 c2) (.slice A3 n3 c3)) := by
  have hmm := fun W => run_makeMap_8 (P := Try.prog) 60 3 3 Try.underlying60 W
  go_enter Try.func53, Try.ntmps53
  have hB : Below w.heap.size w (((w.alloc (.cells #[.slice A1 n1 c1, .slice A2 n2 c2, .slice A3 n3 c3] 26)).alloc (.cells #[.slice A1 n1 c1, .slice A2 n2 c2, .slice A3 n3 c3, .map (some (w.heap.size + 1 + 1))] 62)).alloc (.map #[] 0)) := (((Below.refl _ _).alloc (Nat.le_refl _) _).alloc (by simp) _).alloc (by simp; omega) _
  have HX : Blk (((w.alloc (.cells #[.slice A1 n1 c1, .slice A2 n2 c2, .slice A3 n3 c3] 26)).alloc (.cells #[.slice A1 n1 c1, .slice A2 n2 c2, .slice A3 n3 c3, .map (some (w.heap.size + 1 + 1))] 62)).alloc (.map #[] 0)) (w.heap.size + 1) 62 #[.slice A1 n1 c1, .slice A2 n2 c2, .slice A3 n3 c3, .map (some (w.heap.size + 1 + 1))] := (blk_new_at _ (by simp)).alloc _
  have HM : (((w.alloc (.cells #[.slice A1 n1 c1, .slice A2 n2 c2, .slice A3 n3 c3] 26)).alloc (.cells #[.slice A1 n1 c1, .slice A2 n2 c2, .slice A3 n3 c3, .map (some (w.heap.size + 1 + 1))] 62)).alloc (.map #[] 0)).ownsMap Try.prog 3 (plainElem Try.prog 3) (w.heap.size + 1 + 1) 0 (.map [] : DataW Unit) := by
    have := World.ownsMap_made (H := Unit) ((w.alloc (.cells #[.slice A1 n1 c1, .slice A2 n2 c2, .slice A3 n3 c3] 26)).alloc (.cells #[.slice A1 n1 c1, .slice A2 n2 c2, .slice A3 n3 c3, .map (some (w.heap.size + 1 + 1))] 62)) Try.prog 3 (plainElem Try.prog 3)
    simpa using this
  have HF : RetPath w f (.slice A1 n1 c1) (.slice A2 n2 c2) (.slice A3 n3 c3) (.returned (.agg #[.slice A1 n1 c1, .slice A2 n2 c2, .slice A3 n3 c3, .map (some (w.heap.size + 1 + 1))])) (((w.alloc (.cells #[.slice A1 n1 c1, .slice A2 n2 c2, .slice A3 n3 c3] 26)).alloc (.cells #[.slice A1 n1 c1, .slice A2 n2 c2, .slice A3 n3 c3, .map (some (w.heap.size + 1 + 1))] 62)).alloc (.map #[] 0)) :=
    ⟨_, rfl, hB, by omega, 0, _, Nat.le_refl _, HM, memo_empty f⟩
  obtain ⟨r0, r1, r2, r3⟩ := Blk4 HX
  replace HF := Lib.hid HF
  clear hB HX HM
  go_wp2
  generalize (((w.alloc (.cells #[.slice A1 n1 c1, .slice A2 n2 c2, .slice A3 n3 c3] 26)).alloc (.cells #[.slice A1 n1 c1, .slice A2 n2 c2, .slice A3 n3 c3, .map (some (w.heap.size + 1 + 1))] 62)).alloc (.map #[] 0)) = W at *
  refine bodyPost_ret (v := .agg #[.slice A1 n1 c1, .slice A2 n2 c2, .slice A3 n3 c3, .map (some (w.heap.size + 1 + 1))]) (by simp [results, Try.results53, go_sem, r0, r1, r2, r3]) rfl ?_
  exact HF.out

theorem own_gr {a a' : World} {B n b : Nat} {e : TypeId} {u : Value} {xs : List Value} (h : a.ownsRow B e 1 u n xs) (hg : a.grownBy a' (some b)) (hb : b < B) : a'.ownsRow B e 1 u n xs := by
  refine h.kept hg ?_
  cases hv : u.ownBlock with
  | none => exact .inl rfl
  | some k => exact .inr fun e => by have := (World.ownsRow.lt h k hv).1; cases e; omega
theorem PS.row {w0 w w' : World} {f : Int → Int} {b N : Nat} {row : Option Nat} (h : PS w0 f b N w) (hg : w.grownBy w' row) (hr : ∀ k, row = some k → b < k) : PS w0 f b N w' := by
  obtain ⟨n, D, h1, h2, h3⟩ := h.memo
  exact ⟨h.low.grown hg h.low.size (fun k e => by have := hr k e; have := h.ge; omega), h.ge, n, D, h1, h2.kept hg (fun e => by have := hr b e.symm; omega), h3⟩
/-- While a ring is gathered. -/
structure RS (w0 : World) (f : Int → Int) (b N z : Nat) (cs : Array Value) (w : World) (B : Nat) (v : Value) (xs : List Int) (wr : World) : Prop where
  es : ES w0 f b N z cs w wr
  own : OwnI wr B v xs
section
variable {w0 w wr w' : World} {f : Int → Int} {b N N' z B : Nat} {cs : Array Value} {v v' : Value} {xs : List Int}
theorem RS.next (h : RS w0 f b N z cs w B v xs wr) (hp : PS w0 f b N' w') (hg : wr.grownBy w' (some b)) (hz : z ≠ b) (hb : b < B) : RS w0 f b N' z cs w B v xs w' := ⟨h.es.next hp hg hz, own_gr h.own hg hb⟩
theorem RS.al (h : RS w0 f b N z cs w B v xs wr) (o : Obj) : RS w0 f b N z cs w B v xs (wr.alloc o) :=
  ⟨⟨h.es.ps.kept ((Below.refl _ _).alloc (Nat.le_refl _) o), h.es.bx.alloc o, h.es.gr.trans (World.grownBy_alloc wr o (some b))⟩, World.ownsRow.alloc h.own o⟩
theorem RS.push {ys : List Int} (h : RS w0 f b N z cs w B v xs wr) (ho : OwnI w' B v' ys) (hg : wr.grownBy w' v.ownBlock) (hz : z < B) (hb : b < B) (hw : w.heap.size ≤ B) : RS w0 f b N z cs w B v' ys w' :=
  ⟨⟨h.es.ps.row hg (fun k e => by have := (World.ownsRow.lt h.own k e).1; omega), h.es.bx.grown hg (fun e => by have := (World.ownsRow.lt h.own z e.symm).1; omega), grown_append h.es.gr (own_mono h.own hw) hg⟩, ho⟩
end
def ringTo (f : Int → Int) (n : Int) (mu i : Nat) : List Int := (List.range i).map fun j => itF f (mu + j) n
theorem ringTo_succ (f : Int → Int) (n : Int) (mu i : Nat) : ringTo f n mu (i + 1) = ringTo f n mu i ++ [itF f (mu + i) n] := by unfold ringTo; rw [List.range_succ, List.map_append]; rfl
theorem ringTo_len (f : Int → Int) (n : Int) (mu i : Nat) : (ringTo f n mu i).length = i := by simp [ringTo]

/-- The ring and the steps to it, by a path. -/
def RetRing (w0 : World) (f : Int → Int) (b N : Nat) (n : Int) (w : World) (e : Ending) (w' : World) : Prop :=
  ∃ v, e = .returned (.tuple #[v, .int .i64 (stepsF f n)]) ∧ OwnI w' w.heap.size v (ringF f n) ∧ PS w0 f b (N + 3000) w' ∧ w.grownBy w' (some b)
theorem ring_none {w0 w w' : World} {f : Int → Int} {b N M : Nat} {n : Int} (ho : okF f n = false) (hp : PS w0 f b M w') (hM : M ≤ N + 3000) (hg : w.grownBy w' (some b)) : RetRing w0 f b N n w (.returned (.tuple #[.slice none 0 0, .int .i64 (-1)])) w' :=
  ⟨_, by rw [(ring_no ho).2], by rw [(ring_no ho).1]; exact owns_none _ _ _, hp.mono hM, hg⟩

set_option maxRecDepth 100000 in
set_option maxHeartbeats 8000000 in
theorem ringFrom_any (w0 : World) (A1 A2 A3 : Option Addr) (c1 c2 c3 : Nat) (t : Tg) (hT : Tng w0 (.agg #[.slice A1 t.us.length c1, .slice A2 t.bs.length c2, .slice A3 t.ns.length c3]) t) (hf : t.Fine)
    (b N : Nat) (hN : N ≤ 40000000) (n : Int) (hn : -9223372036854775808 ≤ n ∧ n ≤ 9223372036854775807) (w : World) (h : PS w0 (lettersOf t) b N w) :
    Calls Try.prog 54 #[.agg #[.slice A1 t.us.length c1, .slice A2 t.bs.length c2, .slice A3 t.ns.length c3, .map (some b)], .int .i64 n] w (RetRing w0 (lettersOf t) b N n w) := by
  obtain ⟨i0, hi, hz0, hz1, hz2⟩ := info_parts int_info
  have hA := (Below.refl w.heap.size w).alloc (Nat.le_refl _) (.cells #[.slice A1 t.us.length c1, .slice A2 t.bs.length c2, .slice A3 t.ns.length c3, .map (some b)] 62)
  have S0 : ES w0 (lettersOf t) b N w.heap.size #[.slice A1 t.us.length c1, .slice A2 t.bs.length c2, .slice A3 t.ns.length c3, .map (some b)] w (w.alloc (.cells #[.slice A1 t.us.length c1, .slice A2 t.bs.length c2, .slice A3 t.ns.length c3, .map (some b)] 62)) :=
    ⟨h.kept hA, Blk.new _ _ _, grown_of_below (some b) hA⟩
  have hzb : w.heap.size ≠ b := by have := h.lt; omega
  have hzw : w.heap.size < (w.alloc (.cells #[.slice A1 t.us.length c1, .slice A2 t.bs.length c2, .slice A3 t.ns.length c3, .map (some b)] 62)).heap.size := by simp
  have KE := entry_any w0 A1 A2 A3 c1 c2 c3 t hT hf b N (by omega) n hn _ S0.ps
  unfold RetEntry at KE
  have KN := fun (M : Nat) (x : Int) W (hM : M ≤ 100000000) (hx : -9223372036854775808 ≤ x ∧ x ≤ 9223372036854775807) hp => next_any w0 A1 A2 A3 c1 c2 c3 t hT hf b M hM x hx W hp
  have hib := itF_bd (letters_bd t) hn
  have hbd := letters_bd t
  generalize lettersOf t = f at *
  obtain ⟨hR, hsum⟩ := ring_is f hbd n
  have hps := hR.pos
  have hok := Lib.hid hR.ok
  have hring := Lib.hid (fun h => hR.ring h)
  have hsteps := Lib.hid (fun h => hR.steps h)
  have hrnd := Lib.hid (fun i h1 h2 => hR.round (i := i) h1 h2)
  replace hR := Lib.hid hR
  replace S0 := Lib.hid S0
  replace KN := Lib.hid KN
  replace hib := Lib.hid hib
  replace hbd := Lib.hid hbd
  clear h hT hf hA
  generalize muF f n = mu at *
  generalize lamF f n = lam at *
  replace KE := Lib.hid KE
  go_enter Try.func54, Try.ntmps54
  go_upto_region 1 with (fail)
  generalize w.alloc (.cells #[.slice A1 t.us.length c1, .slice A2 t.bs.length c2, .slice A3 t.ns.length c3, .map (some b)] 62) = W at *
  generalize hzz : w.heap.size = z at *
  obtain ⟨x0, x1, x2, x3⟩ := Blk4 S0.out.bx
  go_wp2_with (fail)
  refine KE.out.mono ?_
  rintro e w1 ⟨rfl, p1, g1⟩
  have E1 := S0.out.next p1 g1 hzb
  have hs1 := g1.size
  clear p1 g1 KE S0 x0 x1 x2 x3
  obtain ⟨x0, x1, x2, x3⟩ := Blk4 E1.bx
  have hx0b := hib.out mu
  have hbl := E1.ps.lt
  replace E1 := Lib.hid E1
  by_cases hneg : itF f mu n < 0
  · have hno : okF f n = false := by rw [hok.out]; exact decide_eq_false (by omega)
    have HF := Lib.hid (ring_none hno E1.out.ps (show N + 2000 ≤ N + 3000 by omega) E1.out.gr)
    generalize itF f mu n = xm at *
    go_wp2
    go_ret2
    exact HF.out
  · obtain ⟨xm, hxm⟩ : ∃ x, itF f mu n = x := ⟨_, rfl⟩
    rw [hxm] at hneg hx0b ⊢
    have KN1 := Lib.hid (KN.out (N + 2000) xm (w1.alloc (.cells #[.int .i64 xm] 3)) (by omega) hx0b (E1.out.ps.kept ((Below.refl _ _).alloc (Nat.le_refl _) _)))
    have hu : f xm = itF f (mu + 1) n := by rw [← hxm]; rfl
    have R0 : RS w0 f b (N + 2000) z #[.slice A1 t.us.length c1, .slice A2 t.bs.length c2, .slice A3 t.ns.length c3, .map (some b)] w w1.heap.size (.slice (some ⟨w1.heap.size, 0, none⟩) 1 1) (ringTo f n mu 1) (w1.alloc (.cells #[.int .i64 xm] 3)) :=
      ⟨⟨E1.out.ps.kept ((Below.refl _ _).alloc (Nat.le_refl _) _), E1.out.bx.alloc _, E1.out.gr.trans (World.grownBy_alloc w1 _ (some b))⟩, by
        have e : ringTo f n mu 1 = [xm] := by rw [← hxm]; rfl
        rw [e]
        exact owns_blk (Blk.new _ _ _) rfl (Nat.le_refl _) (by unfold maxLen; omega)⟩
    have hzB : z < w1.heap.size := by omega
    have hwB : w.heap.size ≤ w1.heap.size := by omega
    replace R0 := Lib.hid R0
    obtain ⟨x0, x1, x2, x3⟩ := Blk4 R0.out.es.bx
    generalize hv1 : f xm = y1 at *
    replace hu := Lib.hid hu
    replace hv1 := Lib.hid hv1
    have hxm0 : 0 ≤ xm := by omega
    clear E1
    go_upto_region 5 with (fail)
    generalize w1.alloc (.cells #[.int .i64 xm] 3) = W1 at *
    generalize w1.heap.size = B at *
    go_wp2_with (fail)
    refine KN1.out.mono ?_
    rintro e w2 ⟨rfl, p2, g2⟩
    have R1 := Lib.hid (R0.out.next p2 g2 hzb hbl)
    rw [hv1.out]
    clear R0 p2 g2 KN1 x0 x1 x2 x3
    go_wp2
    go_loopg [8, 9] lam (fun gg s8 s9 wr => ∃ i : Nat, 1 ≤ i ∧ i ≤ lam ∧ lam - i ≤ gg ∧ s9 = .int .i64 (itF f (mu + i) n) ∧ RS w0 f b (N + 2000 + i) z #[.slice A1 t.us.length c1, .slice A2 t.bs.length c2, .slice A3 t.ns.length c3, .map (some b)] w B s8 (ringTo f n mu i) wr)
    case atStart => exact ⟨1, Nat.le_refl _, hps, by omega, by rw [hu.out], R1.out⟩
    case round =>
      clear R1
      obtain ⟨i, hi1, hi2, hgi, rfl, R⟩ := hrel
      have hrd := hrnd.out i hi1 hi2
      rw [hxm] at hrd
      have hyb := hib.out (mu + i)
      have hsc := Lib.hid (ringTo_succ f n mu i)
      have hln := ringTo_len f n mu i
      obtain ⟨u, hu2⟩ : ∃ u, f (itF f (mu + i) n) = u := ⟨_, rfl⟩
      have hu3 : Hid (itF f (mu + (i + 1)) n = u) := hu2
      obtain ⟨A8, c8, rfl, -⟩ := R.own.ints
      rw [hln]
      by_cases he : itF f (mu + i) n = xm
      · have hil := hrd.1 he
        have hnn : (xm != xm) = false := by simp
        have hw1 : IntKind.i64.wrap ((mu : Int) + (i : Int)) = (mu : Int) + (i : Int) := IntWalk.i64_in _ (by omega)
        have hgtd : (200 : Int) < (mu : Int) + (i : Int) ∨ ¬ (200 : Int) < (mu : Int) + (i : Int) := by omega
        rw [he]
        rcases hgtd with hgt | hgt
        · have hno : okF f n = false := by rw [hok.out, hxm]; exact decide_eq_false (by omega)
          have HF := Lib.hid (ring_none hno R.es.ps (show N + 2000 + i ≤ N + 3000 by omega) R.es.gr)
          clear R hu2 hu3 he hrd hil
          go_wp2
          go_ret2
          exact HF.out
        · have hyes : okF f n = true := by rw [hok.out, hxm]; exact decide_eq_true (by omega)
          have hr1 : ringF f n = ringTo f n mu i := by rw [hring.out hyes, ← hil]; rfl
          have HF : RetRing w0 f b N n w (.returned (.tuple #[.slice A8 i c8, .int .i64 (mu : Int)])) wr := ⟨_, by rw [hsteps.out hyes], by rw [hr1]; have := own_mono R.own hwB; rw [hln] at this; unfold OwnI; rw [hln]; exact this, R.es.ps.mono (by omega), R.es.gr⟩
          replace HF := Lib.hid HF
          clear R hu2 hu3 he hrd hil hr1
          go_wp2
          go_ret2
          exact HF.out
      · have hnn : (itF f (mu + i) n != xm) = true := by simpa using he
        have hil : i < lam := by
          rcases Nat.lt_or_ge i lam with h1 | h1
          · exact h1
          · exact absurd (hrd.2 (by omega)) he
        generalize itF f (mu + i) n = y at *
        have hsz : B ≤ wr.heap.size := by
          obtain ⟨g8, _, _, h1, h2⟩ := World.ownsRow.form R.own (by rw [hln]; omega)
          omega
        have m1 := Lib.hid (show i + 1 ≤ maxLen by unfold maxLen; omega)
        have m2 := Lib.hid (show (i + 1) * 8 ≤ 140737488355328 by omega)
        have ho : wr.ownsRow B 3 1 (.slice A8 i c8) i ((ringTo f n mu i).map (Value.int .i64)) := by have := R.own; unfold OwnI at this; rw [hln] at this; exact this
        replace ho := Lib.hid ho
        rw [hln] at R
        replace R := Lib.hid R
        clear hrd he
        go_upto_region 7 with (at_builtin; refine wpList_app _ rfl (.tmp 29) (.tmp 31) _ rfl B 3 i0 _ 8 Try.underlying24 hi hz0 hz1 hz2 rfl (.slice A8 i c8) _ _ rfl (World.ownsRow.alloc ho.out _) (some ⟨wr.heap.size, 0, none⟩) 1 1 [.int .i64 y] rfl (Src.one (Blk.new _ _ _) rfl) m1.out m2.out (by simp; omega) ?_; intro v6 w6 ho6 hg6 _)
        have R6 := (R.out.al _).push (own_snocW ho6) hg6 hzB hbl hwB
        rw [← hsc.out] at R6
        obtain ⟨x0, x1, x2, x3⟩ := Blk4 R6.es.bx
        have KN2 := Lib.hid (KN.out (N + 2000 + i) y w6 (by omega) hyb R6.es.ps)
        replace R6 := Lib.hid R6
        replace hu2 := Lib.hid hu2
        clear ho6 hg6 R ho
        go_wp2_with (fail)
        refine KN2.out.mono ?_
        rintro e w7 ⟨rfl, p7, g7⟩
        have R7 := Lib.hid (R6.out.next p7 g7 hzb hbl)
        rw [hu2.out]
        clear R6 p7 g7 KN2 x0 x1 x2 x3
        go_wp2
        go_roundg (lam - (i + 1))
        case measure => omega
        case rel => exact ⟨i + 1, by omega, by omega, Nat.le_refl _, by rw [hu3.out], R7.out⟩
end Go.Proofs.Ytfnpkmlgklameaa
