/-
  The first number that comes again, by a slow and a fast walker of the program.
-/
import Derived.Test.YtfnpkmlgklameaaM2
import Derived.Deep.RegionHeld3
import Derived.Deep.LoopGhost
namespace Go.Proofs.Ytfnpkmlgklameaa
open Go.RowKit Go.WideMaps Go.Maps

/-- While the walkers go: the path, its box, what has turned since wS. -/
structure ES (w0 : World) (f : Int → Int) (b N z : Nat) (cs : Array Value) (wS w : World) : Prop where
  ps : PS w0 f b N w
  bx : Blk w z 62 cs
  gr : wS.grownBy w (some b)
theorem ES.next {w0 wS w w' : World} {f : Int → Int} {b N N' z : Nat} {cs : Array Value} (h : ES w0 f b N z cs wS w) (hp : PS w0 f b N' w') (hg : w.grownBy w' (some b)) (hz : z ≠ b) : ES w0 f b N' z cs wS w' :=
  ⟨hp, (hg.block z h.bx.lt (by simpa using hz)).trans h.bx, h.gr.trans hg⟩
theorem ES.mono {w0 wS w : World} {f : Int → Int} {b N N' z : Nat} {cs : Array Value} (h : ES w0 f b N z cs wS w) (hN : N ≤ N') : ES w0 f b N' z cs wS w := ⟨h.ps.mono hN, h.bx, h.gr⟩
theorem grown_same {w w' : World} {row : Option Nat} (h : w.drew.grownBy w' row) : w.grownBy w' row := ⟨h.os, h.tape, h.output, h.size, h.block⟩

def RetEntry (w0 : World) (f : Int → Int) (b N : Nat) (n : Int) (w : World) (e : Ending) (w' : World) : Prop :=
  e = .returned (.tuple #[.int .i64 (itF f (muF f n) n), .int .i64 (muF f n)]) ∧ PS w0 f b (N + 2000) w' ∧ w.grownBy w' (some b)

set_option maxRecDepth 100000 in
set_option maxHeartbeats 8000000 in
theorem entry_any (w0 : World) (A1 A2 A3 : Option Addr) (c1 c2 c3 : Nat) (t : Tg) (hT : Tng w0 (.agg #[.slice A1 t.us.length c1, .slice A2 t.bs.length c2, .slice A3 t.ns.length c3]) t) (hf : t.Fine)
    (b N : Nat) (hN : N ≤ 50000000) (n : Int) (hn : -9223372036854775808 ≤ n ∧ n ≤ 9223372036854775807) (w : World) (h : PS w0 (lettersOf t) b N w) :
    Calls Try.prog 67 #[.agg #[.slice A1 t.us.length c1, .slice A2 t.bs.length c2, .slice A3 t.ns.length c3, .map (some b)], .int .i64 n] w (RetEntry w0 (lettersOf t) b N n w) := by
  have hA := (Below.refl w.heap.size w).alloc (Nat.le_refl _) (.cells #[.slice A1 t.us.length c1, .slice A2 t.bs.length c2, .slice A3 t.ns.length c3, .map (some b)] 62)
  have S0 : ES w0 (lettersOf t) b N w.heap.size #[.slice A1 t.us.length c1, .slice A2 t.bs.length c2, .slice A3 t.ns.length c3, .map (some b)] w (w.alloc (.cells #[.slice A1 t.us.length c1, .slice A2 t.bs.length c2, .slice A3 t.ns.length c3, .map (some b)] 62)) :=
    ⟨h.kept hA, Blk.new _ _ _, grown_of_below (some b) hA⟩
  have hzb : w.heap.size ≠ b := by have := h.lt; omega
  have KN := fun (M : Nat) (x : Int) W (hM : M ≤ 100000000) (hx : -9223372036854775808 ≤ x ∧ x ≤ 9223372036854775807) hp => next_any w0 A1 A2 A3 c1 c2 c3 t hT hf b M hM x hx W hp
  have hib := itF_bd (letters_bd t) hn
  have hbd := letters_bd t
  generalize lettersOf t = f at *
  obtain ⟨hR, hsum⟩ := ring_is f hbd n
  obtain ⟨K, hK1, hK2, hK3⟩ := hR.meets
  have hmeet := Lib.hid (fun k (h1 : 1 ≤ k) => hR.meet (k := k) h1)
  have hent := Lib.hid (fun k s (h1 : 1 ≤ k) (hk : k % lamF f n = 0) hs => hR.enter (k := k) (s := s) h1 hk hs)
  have hone := Lib.hid (fun k => show itF f (k + 1) n = f (itF f k n) from rfl)
  have hK3' := Lib.hid hK3
  replace hR := Lib.hid hR
  replace S0 := Lib.hid S0
  replace KN := Lib.hid KN
  replace hib := Lib.hid hib
  replace hbd := Lib.hid hbd
  clear h hT hf hA hK3
  generalize hmu : muF f n = mu at *
  generalize lamF f n = lam at *
  replace hmu := Lib.hid hmu
  go_enter Try.func67, Try.ntmps67
  go_upto_region 1 with (fail)
  generalize w.alloc (.cells #[.slice A1 t.us.length c1, .slice A2 t.bs.length c2, .slice A3 t.ns.length c3, .map (some b)] 62) = W at *
  generalize w.heap.size = z at *
  obtain ⟨y1, hy1⟩ : ∃ y, f n = y := ⟨_, rfl⟩
  obtain ⟨y2, hy2⟩ : ∃ y, f y1 = y := ⟨_, rfl⟩
  go_cut [6, 7] (fun s6 s7 wx => s6 = .int .i64 y1 ∧ s7 = .int .i64 y2 ∧ ES w0 f b (N + 3) z #[.slice A1 t.us.length c1, .slice A2 t.bs.length c2, .slice A3 t.ns.length c3, .map (some b)] w wx)
  case first =>
    obtain ⟨x0, x1, x2, x3⟩ := Blk4 S0.out.bx
    have i1 := hbd.out n
    rw [hy1] at i1
    have hx12 : Hid (∀ x, x = n ∨ x = y1 → -9223372036854775808 ≤ x ∧ x ≤ 9223372036854775807) := fun x hx => by rcases hx with rfl | rfl <;> omega
    replace hy1 := Lib.hid hy1
    replace hy2 := Lib.hid hy2
    go_region_held3 (fun w' => w'.cell? ⟨z, 0, none⟩ = some (.slice A1 t.us.length c1) ∧ w'.cell? ⟨z, 1, none⟩ = some (.slice A2 t.bs.length c2) ∧ w'.cell? ⟨z, 2, none⟩ = some (.slice A3 t.ns.length c3) ∧ w'.cell? ⟨z, 3, none⟩ = some (.map (some b)))
      (first | go_keep | exact hS3 | exact hS2 | exact hS1)
      (first
        | (have hgd := E2.out.ps; clear hgd; go_at_call 68; refine (KN.out (N + 2) _ _ (by omega) (hx12.out _ (by first | exact .inl rfl | exact .inr rfl)) (by first | exact E2.out.ps | exact E2.out.ps.kept ((Below.refl _ _).drew))).mono ?_; rintro e w3 ⟨rfl, p3, g3'⟩; have g3 : V2.grownBy w3 (some b) := ⟨g3'.os, g3'.tape, g3'.output, g3'.size, g3'.block⟩; have E3 := E2.out.next p3 g3 hzb; have hS3 := Blk4 E3.bx; replace E3 := Lib.hid E3; clear p3 g3 g3'; (first | rw [hy1.out] | rw [hy2.out]))
        | (have hgd := E1.out.ps; clear hgd; go_at_call 68; refine (KN.out (N + 1) _ _ (by omega) (hx12.out _ (by first | exact .inl rfl | exact .inr rfl)) (by first | exact E1.out.ps | exact E1.out.ps.kept ((Below.refl _ _).drew))).mono ?_; rintro e V2 ⟨rfl, p2, g2'⟩; have g2 : V1.grownBy V2 (some b) := ⟨g2'.os, g2'.tape, g2'.output, g2'.size, g2'.block⟩; have E2 := E1.out.next p2 g2 hzb; have hS2 := Blk4 E2.bx; replace E2 := Lib.hid E2; clear p2 g2 g2'; (first | rw [hy1.out] | rw [hy2.out]))
        | (go_at_call 68; refine (KN.out N _ _ (by omega) (hx12.out _ (by first | exact .inl rfl | exact .inr rfl)) (by first | exact S0.out.ps | exact S0.out.ps.kept ((Below.refl _ _).drew))).mono ?_; rintro e V1 ⟨rfl, p1, g1'⟩; have g1 : W.grownBy V1 (some b) := ⟨g1'.os, g1'.tape, g1'.output, g1'.size, g1'.block⟩; have E1 := S0.out.next p1 g1 hzb; have hS1 := Blk4 E1.bx; replace E1 := Lib.hid E1; clear p1 g1 g1'; rw [hy1.out]))
    all_goals
      go_wp2
      go_meet
      exact ⟨rfl, rfl, E3.out⟩
  case rest =>
    clear S0
    obtain ⟨rfl, rfl, S0⟩ := hcut
    replace S0 := Lib.hid S0
    go_wp2
    go_loopg [6, 7] K (fun gg s6 s7 wr => ∃ k : Nat, 1 ≤ k ∧ k ≤ K ∧ K - k ≤ gg ∧ s6 = .int .i64 (itF f k n) ∧ s7 = .int .i64 (itF f (2 * k) n) ∧ ES w0 f b (N + 3 * k) z #[.slice A1 t.us.length c1, .slice A2 t.bs.length c2, .slice A3 t.ns.length c3, .map (some b)] w wr)
    case atStart => exact ⟨1, Nat.le_refl _, hK1, by omega, by rw [← hy1]; rfl, by rw [← hy2, ← hy1]; rfl, S0.out⟩
    case round =>
      clear S0 hy1 hy2
      obtain ⟨k, hk1, hkK, hgk, rfl, rfl, S0⟩ := hrel
      have hx := hib.out k
      have hy := hib.out (2 * k)
      have hm := hmeet.out k hk1
      obtain ⟨u, hu⟩ : ∃ u, f (itF f k n) = u := ⟨_, rfl⟩
      obtain ⟨v, hv⟩ : ∃ v, f (itF f (2 * k) n) = v := ⟨_, rfl⟩
      obtain ⟨v2, hv2⟩ : ∃ v2, f v = v2 := ⟨_, rfl⟩
      have hvb := hbd.out (itF f (2 * k) n)
      rw [hv] at hvb
      have hu' : Hid (itF f (k + 1) n = u) := hu
      have hv' : Hid (itF f (2 * (k + 1)) n = v2) := by show itF f (2 * k + 1 + 1) n = v2; rw [← hv2, ← hv]; rfl
      by_cases he : itF f k n = itF f (2 * k) n
      · obtain ⟨hmk, hkl⟩ := hm.1 he
        have hes := Lib.hid (fun s hs => hent.out k s hk1 hkl hs)
        have hxx : (itF f k n != itF f k n) = false := by simp
        rw [← he]
        replace hmk := Lib.hid hmk
        replace S0 := Lib.hid S0
        clear hm he hx hy hu hv hv2 hvb hu' hv'
        go_wp2
        go_loopw [6, 7, 8] (fun s6 s7 s8 wq => ∃ s : Nat, s ≤ mu ∧ s8 = .int .i64 s ∧ s6 = .int .i64 (itF f s n) ∧ s7 = .int .i64 (itF f (k + s) n) ∧ ES w0 f b (N + 3 * k + 2 * s) z #[.slice A1 t.us.length c1, .slice A2 t.bs.length c2, .slice A3 t.ns.length c3, .map (some b)] w wq) (fun _ _ s8 _ => mu - (intOf s8).toNat)
        case atStart => exact ⟨0, Nat.zero_le _, rfl, rfl, rfl, S0.out⟩
        case round =>
          clear S0
          obtain ⟨s, hs, rfl, rfl, rfl, S0⟩ := hrel
          have hx := hib.out s
          have hy := hib.out (k + s)
          have hee := hes.out s hs
          obtain ⟨u, hu⟩ : ∃ u, f (itF f s n) = u := ⟨_, rfl⟩
          obtain ⟨v, hv⟩ : ∃ v, f (itF f (k + s) n) = v := ⟨_, rfl⟩
          have hu' : Hid (itF f (s + 1) n = u) := hu
          have hv' : Hid (itF f (k + (s + 1)) n = v) := hv
          by_cases hsm : s = mu
          · have he : itF f (k + s) n = itF f s n := (hee.2 hsm).symm
            have hnn : (itF f s n != itF f s n) = false := by simp
            have hfin : RetEntry w0 f b N n w (.returned (.tuple #[.int .i64 (itF f s n), .int .i64 (s : Int)])) wr := ⟨by rw [hmu.out, hsm], S0.ps.mono (by omega), S0.gr⟩
            rw [he]
            replace hfin := Lib.hid hfin
            clear hee hu hv hu' hv' hx hy he hsm S0
            generalize itF f s n = x at *
            go_wp2
            go_ret2
            exact hfin.out
          · have hne : (itF f s n != itF f (k + s) n) = true := by
              have : ¬ itF f s n = itF f (k + s) n := fun h => hsm (hee.1 h)
              simpa using this
            generalize itF f s n = x at *
            generalize itF f (k + s) n = y at *
            have hxs : Hid (∀ q, q = x ∨ q = y → -9223372036854775808 ≤ q ∧ q ≤ 9223372036854775807) := fun q hq => by rcases hq with rfl | rfl <;> omega
            obtain ⟨x0, x1, x2, x3⟩ := Blk4 S0.bx
            replace S0 := Lib.hid S0
            replace hu := Lib.hid hu
            replace hv := Lib.hid hv
            have hsm' : s < mu := by omega
            clear hee hsm
            go_wp2
            go_region_held3 (fun w' => w'.cell? ⟨z, 0, none⟩ = some (.slice A1 t.us.length c1) ∧ w'.cell? ⟨z, 1, none⟩ = some (.slice A2 t.bs.length c2) ∧ w'.cell? ⟨z, 2, none⟩ = some (.slice A3 t.ns.length c3) ∧ w'.cell? ⟨z, 3, none⟩ = some (.map (some b)))
              (first | go_keep | exact hS2 | exact hS1)
              (first
                | (have hgd := E1.out.ps; clear hgd; go_at_call 68; refine (KN.out (N + 3 * k + 2 * s + 1) _ _ (by omega) (hxs.out _ (by first | exact .inl rfl | exact .inr rfl)) (by first | exact E1.out.ps | exact E1.out.ps.kept ((Below.refl _ _).drew))).mono ?_; rintro e V2 ⟨rfl, p2, g2'⟩; have g2 : V1.grownBy V2 (some b) := ⟨g2'.os, g2'.tape, g2'.output, g2'.size, g2'.block⟩; have E2 := E1.out.next p2 g2 hzb; have hS2 := Blk4 E2.bx; replace E2 := Lib.hid E2; clear p2 g2 g2'; (first | rw [hu.out] | rw [hv.out]))
                | (go_at_call 68; refine (KN.out (N + 3 * k + 2 * s) _ _ (by omega) (hxs.out _ (by first | exact .inl rfl | exact .inr rfl)) (by first | exact S0.out.ps | exact S0.out.ps.kept ((Below.refl _ _).drew))).mono ?_; rintro e V1 ⟨rfl, p1, g1'⟩; have g1 : wr.grownBy V1 (some b) := ⟨g1'.os, g1'.tape, g1'.output, g1'.size, g1'.block⟩; have E1 := S0.out.next p1 g1 hzb; have hS1 := Blk4 E1.bx; replace E1 := Lib.hid E1; clear p1 g1 g1'; (first | rw [hu.out] | rw [hv.out])))
            all_goals
              go_wp2
              go_roundw
              case rel => exact ⟨s + 1, by omega, by go_num, by rw [hu'.out], by rw [hv'.out], E2.out.mono (by omega)⟩
              case measure => simp [intOf]; omega
      · have hkK2 : k + 1 ≤ K := by
          rcases Nat.lt_or_ge k K with h1 | h1
          · exact h1
          · obtain rfl : k = K := by omega
            exact absurd hK3'.out he
        have hne : (itF f k n != itF f (2 * k) n) = true := by simpa using he
        generalize itF f k n = x at *
        generalize itF f (2 * k) n = y at *
        have hxs : Hid (∀ q, q = x ∨ q = y ∨ q = v → -9223372036854775808 ≤ q ∧ q ≤ 9223372036854775807) := fun q hq => by rcases hq with rfl | rfl | rfl <;> omega
        obtain ⟨x0, x1, x2, x3⟩ := Blk4 S0.bx
        replace S0 := Lib.hid S0
        replace hu := Lib.hid hu
        replace hv := Lib.hid hv
        replace hv2 := Lib.hid hv2
        clear hm he
        go_wp2
        go_region_held3 (fun w' => w'.cell? ⟨z, 0, none⟩ = some (.slice A1 t.us.length c1) ∧ w'.cell? ⟨z, 1, none⟩ = some (.slice A2 t.bs.length c2) ∧ w'.cell? ⟨z, 2, none⟩ = some (.slice A3 t.ns.length c3) ∧ w'.cell? ⟨z, 3, none⟩ = some (.map (some b)))
          (first | go_keep | exact hS3 | exact hS2 | exact hS1)
          (first
            | (have hgd := E2.out.ps; clear hgd; go_at_call 68; refine (KN.out (N + 3 * k + 2) _ _ (by omega) (hxs.out _ (by first | exact .inl rfl | exact .inr (.inl rfl) | exact .inr (.inr rfl))) (by first | exact E2.out.ps | exact E2.out.ps.kept ((Below.refl _ _).drew))).mono ?_; rintro e V3 ⟨rfl, p3, g3'⟩; have g3 : V2.grownBy V3 (some b) := ⟨g3'.os, g3'.tape, g3'.output, g3'.size, g3'.block⟩; have E3 := E2.out.next p3 g3 hzb; have hS3 := Blk4 E3.bx; replace E3 := Lib.hid E3; clear p3 g3 g3'; (first | rw [hu.out] | rw [hv.out] | rw [hv2.out]))
            | (have hgd := E1.out.ps; clear hgd; go_at_call 68; refine (KN.out (N + 3 * k + 1) _ _ (by omega) (hxs.out _ (by first | exact .inl rfl | exact .inr (.inl rfl) | exact .inr (.inr rfl))) (by first | exact E1.out.ps | exact E1.out.ps.kept ((Below.refl _ _).drew))).mono ?_; rintro e V2 ⟨rfl, p2, g2'⟩; have g2 : V1.grownBy V2 (some b) := ⟨g2'.os, g2'.tape, g2'.output, g2'.size, g2'.block⟩; have E2 := E1.out.next p2 g2 hzb; have hS2 := Blk4 E2.bx; replace E2 := Lib.hid E2; clear p2 g2 g2'; (first | rw [hu.out] | rw [hv.out] | rw [hv2.out]))
            | (go_at_call 68; refine (KN.out (N + 3 * k) _ _ (by omega) (hxs.out _ (by first | exact .inl rfl | exact .inr (.inl rfl) | exact .inr (.inr rfl))) (by first | exact S0.out.ps | exact S0.out.ps.kept ((Below.refl _ _).drew))).mono ?_; rintro e V1 ⟨rfl, p1, g1'⟩; have g1 : wr.grownBy V1 (some b) := ⟨g1'.os, g1'.tape, g1'.output, g1'.size, g1'.block⟩; have E1 := S0.out.next p1 g1 hzb; have hS1 := Blk4 E1.bx; replace E1 := Lib.hid E1; clear p1 g1 g1'; (first | rw [hu.out] | rw [hv.out] | rw [hv2.out])))
        all_goals
          go_wp2
          go_roundg (K - (k + 1))
          case measure => omega
          case rel => exact ⟨k + 1, by omega, hkK2, Nat.le_refl _, by rw [hu'.out], by rw [hv'.out], E3.out.mono (by omega)⟩
end Go.Proofs.Ytfnpkmlgklameaa
