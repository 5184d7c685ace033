/-
  GP: P3a P3b Join P3f P4a P4b P4c P4d P4e P4f P4g.
-/
import Derived.Test.YtmhgpbfogdoaeaaGreatDoorRjGN
import Derived.Shelf.Strings.OnBuilder
import Derived.Test.YtmhgpbfogdoaeaaGreatDoorRjGA
import Derived.Lib.SliceRun
import Derived.RegionTactic
import Derived.BigRegion
import Derived.Laws.EntriesVeiled
/- P3a -/
namespace Go.Proofs.YtmhgpbfogdoaeaaGreatDoor
open Go.RowKit

theorem base_one {bs : List Int} (hb : basesOk bs = true) {n : Nat} (h : topOf bs n = 0) : baseN bs n = 1 := by
  unfold baseN; rw [h, bases_one hb]; rfl
theorem base_cast {bs : List Int} (hb : basesOk bs = true) {n : Nat} : (baseN bs n : Int) = bs.getD (topOf bs n) 0 ∧ topOf bs n < bs.length ∧ 1 ≤ baseN bs n := by
  by_cases h : topOf bs n = 0
  · rw [base_one hb h, h, bases_one hb]
    have := bases_len hb
    exact ⟨rfl, by omega, Nat.le_refl _⟩
  · obtain ⟨h1, _, h3, h4, _⟩ := base_facts hb h
    exact ⟨h3, h4, by omega⟩

set_option maxRecDepth 100000 in
set_option maxHeartbeats 1000000 in
theorem implTaken_any (A : Option Addr) (c : Nat) (bs : List Int) (n : Nat) (w : World) (hI : Ints w .i64 A bs.length c bs) (hb : basesOk bs = true) (hn : 1 ≤ n) (hn2 : n ≤ 99999) :
    Calls Tryz.prog 170 #[.slice A bs.length c, .int .i64 n] w fun e w' => e = .returned (.tuple #[.int .i64 (topOf bs n), .int .i64 ((n / baseN bs n : Nat) : Int), .bool (decide (n / baseN bs n < baseN bs n))]) ∧ ∃ m, w' = w.drewN m := by
  have hbl := bases_len hb
  obtain ⟨b, o, rfl, -, hc⟩ := hI.at_ (by omega)
  replace hc := Lib.hid hc
  replace hb := Lib.hid hb
  clear hI
  have hw0 : IntKind.i64.wrap ((bs.length : Int) - 1) = (bs.length : Int) - 1 := IntWalk.i64_in _ (by omega)
  go_enter Tryz.func170, Tryz.ntmps170
  go_wp2
  go_loop [7] (fun s7 => ∃ k : Nat, k < bs.length ∧ s7 = .int .i64 k ∧ ∀ i, k < i → i < bs.length → (n : Int) < bs.getD i 0) (fun i => (intOf i).toNat)
  case atStart => exact ⟨bs.length - 1, by omega, by rw [Int.natCast_sub (by omega)]; rfl, fun i h1 h2 => by omega⟩
  case round =>
    obtain ⟨k, hk, rfl, hab⟩ := hrel
    have ck := hc.out k hk
    have px := bases_pos hb.out k hk
    replace hab := Lib.hid hab
    by_cases hx : (n : Int) < bs.getD k 0
    · have hk0 : k ≠ 0 := by
        rintro rfl
        rw [bases_one hb.out] at hx
        omega
      have hw1 : IntKind.i64.wrap ((k : Int) - 1) = (k : Int) - 1 := IntWalk.i64_in _ (by omega)
      have HR : ∀ i, k - 1 < i → i < bs.length → (n : Int) < bs.getD i 0 := fun i h1 h2 => by
        by_cases e : i = k
        · subst e; exact hx
        · exact hab.out i (by omega) h2
      replace HR := Lib.hid HR
      generalize bs.getD k 0 = x at *
      go_wp2
      go_round
      case rel => exact ⟨k - 1, by omega, by rw [Int.natCast_sub (by omega)]; rfl, HR.out⟩
      case measure => simp [intOf]; omega
    · have ht : topOf bs n = k := by
        by_cases hk0 : k = 0
        · subst hk0; exact topOf_zero fun i h1 h2 => hab.out i h1 h2
        · exact topOf_eq (by omega) hk (by omega) (fun i h1 h2 => hab.out i h1 h2)
      obtain ⟨f3, -, f1⟩ := base_cast hb.out (n := n)
      rw [ht] at f3
      have e1 : (n : Int) / (baseN bs n : Int) = ((n / baseN bs n : Nat) : Int) := rfl
      have d1 : n / baseN bs n ≤ n := Nat.div_le_self _ _
      rw [f3] at e1
      have hlt : (((n / baseN bs n : Nat) : Int) < bs.getD k 0) ↔ n / baseN bs n < baseN bs n := by rw [← f3]; omega
      generalize hq : n / baseN bs n = q at *
      generalize hy : baseN bs n = y at *
      replace hq := Lib.hid hq
      replace hy := Lib.hid hy
      generalize bs.getD k 0 = x at *
      have q0 : (0 : Int) ≤ (n : Int) / x := by rw [e1]; omega
      have q1 : (n : Int) / x ≤ 99999 := by rw [e1]; omega
      replace ht := Lib.hid ht
      replace e1 := Lib.hid e1
      go_upto_region 5 with (fail)
      rw [e1.out]
      clear q0 q1
      by_cases hl : q < y
      · have hl' : (q : Int) < x := hlt.2 hl
        have hd : decide ((q : Int) < x) = true := decide_eq_true hl'
        have hd2 : decide (q < y) = true := decide_eq_true hl
        replace hlt := Lib.hid hlt
        replace hd2 := Lib.hid hd2
        go_wp2
        go_quiet (fail)
        go_wp2
        all_goals
          go_ret3
          exact ⟨by rw [ht.out, hy.out, hq.out, hd2.out]; rfl, _, rfl⟩
      · have hl' : ¬ (q : Int) < x := fun h => hl (hlt.1 h)
        have hd : decide ((q : Int) < x) = false := decide_eq_false hl'
        have hd2 : decide (q < y) = false := decide_eq_false hl
        replace hlt := Lib.hid hlt
        replace hd2 := Lib.hid hd2
        go_wp2
        go_quiet (fail)
        go_wp2
        all_goals
          go_ret3
          exact ⟨by rw [ht.out, hy.out, hq.out, hd2.out]; rfl, _, rfl⟩

set_option maxRecDepth 100000 in
set_option maxHeartbeats 2000000 in
theorem implAskable_any (v : Value) (t : Tg) (n : Int) (w : World) (h : Tng w v t) (hf : t.Fine) (hn : -9223372036854775808 ≤ n ∧ n ≤ 9223372036854775807) :
    Calls Tryz.prog 148 #[v, .int .i64 n] w fun e w' => e = .returned (.bool (okN t n)) ∧ Below w.heap.size w w' := by
  obtain ⟨A1, c1, A2, c2, A3, c3, rfl, -⟩ := h.ex
  have hB := (Below.refl w.heap.size w).alloc (Nat.le_refl _) (.cells #[.slice A1 t.us.length c1, .slice A2 t.bs.length c2, .slice A3 t.ns.length c3] 31)
  have HX := Blk.new w 31 #[.slice A1 t.us.length c1, .slice A2 t.bs.length c2, .slice A3 t.ns.length c3]
  have HT := h.below hB (Nat.le_refl _)
  have K1 := Lib.hid (implTongueOk_any _ t _ HT hf)
  replace hB := Lib.hid hB
  replace HX := Lib.hid HX
  clear h hf HT
  go_enter Tryz.func148, Tryz.ntmps148
  go_upto_region 1 with (fail)
  generalize w.alloc (.cells #[.slice A1 t.us.length c1, .slice A2 t.bs.length c2, .slice A3 t.ns.length c3] 31) = W at *
  obtain ⟨x0, x1, x2, -, -, -⟩ := blk3 HX.out
  cases hok : t.ok
  · rw [hok] at K1
    have hno : okN t n = false := by unfold okN; rw [hok]; rfl
    replace hno := Lib.hid hno
    go_wp2_with (fail)
    refine K1.out.mono ?_
    rintro e w1 ⟨rfl, b1⟩
    have hB1 := Lib.hid (hB.out.trans (b1.mono hB.out.size))
    clear b1
    go_wp2
    go_ret
    exact ⟨ret_bool (by rw [hno.out]; try (exact decide_eq_false (by omega))), hB1.out⟩
  · rw [hok] at K1
    have hyes : okN t n = decide (1 ≤ n ∧ n ≤ 99999) := by unfold okN; rw [hok]; rfl
    replace hyes := Lib.hid hyes
    clear hok
    by_cases h1 : 1 ≤ n
    · by_cases h2 : n ≤ 99999
      · have hno := Lib.hid (hyes.out.trans (decide_eq_true (And.intro h1 h2)))
        go_wp2_with (fail)
        refine K1.out.mono ?_
        rintro e w1 ⟨rfl, b1⟩
        have hB1 := Lib.hid (hB.out.trans (b1.mono hB.out.size))
        clear b1
        go_wp2
        go_ret
        exact ⟨ret_bool (by rw [hno.out]; try (exact decide_eq_false (by omega))), hB1.out⟩
      · have hno := Lib.hid (hyes.out.trans (decide_eq_false (fun h => h2 h.2)))
        go_wp2_with (fail)
        refine K1.out.mono ?_
        rintro e w1 ⟨rfl, b1⟩
        have hB1 := Lib.hid (hB.out.trans (b1.mono hB.out.size))
        clear b1
        go_wp2
        go_ret
        exact ⟨ret_bool (by rw [hno.out]; try (exact decide_eq_false (by omega))), hB1.out⟩
    · have hno := Lib.hid (hyes.out.trans (decide_eq_false (fun h => h1 h.1)))
      go_wp2_with (fail)
      refine K1.out.mono ?_
      rintro e w1 ⟨rfl, b1⟩
      have hB1 := Lib.hid (hB.out.trans (b1.mono hB.out.size))
      clear b1
      go_wp2
      go_ret
      exact ⟨ret_bool (by rw [hno.out]; try (exact decide_eq_false (by omega))), hB1.out⟩
end Go.Proofs.YtmhgpbfogdoaeaaGreatDoor

/- P3b -/
namespace Go.Proofs.YtmhgpbfogdoaeaaGreatDoor
open Go.RowKit

/-- A row that was added to: where it was, or new. -/
def RowOn (w : World) (u u' : Value) : Prop := u'.ownBlock = u.ownBlock ∨ ∃ g, u'.ownBlock = some g ∧ w.heap.size ≤ g
theorem RowOn.refl (w : World) (u : Value) : RowOn w u u := .inl rfl
theorem RowOn.trans {w w1 : World} {u u1 u2 : Value} (h : RowOn w u u1) (hs : w.heap.size ≤ w1.heap.size) (h2 : RowOn w1 u1 u2) : RowOn w u u2 := by
  rcases h2 with e | ⟨g, e, hg⟩
  · rcases h with e1 | ⟨g1, e1, h1⟩
    · exact .inl (e.trans e1)
    · exact .inr ⟨g1, e.trans e1, h1⟩
  · exact .inr ⟨g, e, by omega⟩
theorem grown_on {w w1 w2 : World} {u u1 : Value} (h : w.grownBy w1 u.ownBlock) (ho : RowOn w u u1) (h2 : w1.grownBy w2 u1.ownBlock) : w.grownBy w2 u.ownBlock :=
  ⟨h2.os.trans h.os, h2.tape.trans h.tape, h2.output.trans h.output, Nat.le_trans h.size h2.size, fun k hk hne => (h2.block k (Nat.lt_of_lt_of_le hk h.size) (by
    rcases ho with e | ⟨g, e, hg⟩
    · rw [e]; exact hne
    · rw [e]; intro e2; cases e2; omega)).trans (h.block k hk hne)⟩
theorem rowOn_app {w w1 : World} {u u' : Value} (hs : w.heap.size ≤ w1.heap.size) (h : u'.ownBlock = u.ownBlock ∨ u'.ownBlock = some w1.heap.size) : RowOn w u u' := by
  rcases h with e | e
  · exact .inl e
  · exact .inr ⟨_, e, hs⟩

/-- What comes of putting a name behind words. -/
def RetWith (w : World) (B : Nat) (u : Value) (xs nm : List ByteArray) (e : Ending) (w' : World) : Prop :=
  ∃ u', e = .returned (.tuple #[u', .bool (decide (nm ≠ []))]) ∧ w.grownBy w' u.ownBlock ∧ (nm = [] → u' = .slice none 0 0) ∧ (nm ≠ [] → OwnStrs w' B u' (xs ++ nm) ∧ RowOn w u u')
theorem with_no {w w' : World} {B : Nat} {u : Value} {xs nm : List ByteArray} (h : nm = []) (hg : w.grownBy w' u.ownBlock) : RetWith w B u xs nm (.returned (.tuple #[.slice none 0 0, .bool false])) w' :=
  ⟨_, by rw [decide_eq_false (fun hn => hn h)], hg, fun _ => rfl, fun hn => absurd h hn⟩
theorem with_yes {w w' : World} {B : Nat} {u u' : Value} {xs nm : List ByteArray} (h : nm ≠ []) (hg : w.grownBy w' u.ownBlock) (ho : OwnStrs w' B u' (xs ++ nm)) (hr : RowOn w u u') : RetWith w B u xs nm (.returned (.tuple #[u', .bool true])) w' :=
  ⟨_, by rw [decide_eq_true h], hg, fun e => absurd e h, fun _ => ⟨ho, hr⟩⟩

theorem top_unit {t : Tg} (hok : t.ok = true) {n : Nat} (h : n ≤ t.us.length) : topOf t.bs n = 0 := by
  have hs := ok_shape hok
  exact topOf_zero fun i h1 hl => by
    have h2 := hs.two (by omega)
    by_cases e : i = 1
    · subst e; omega
    · have := bases_mono hs.bs 1 i (by omega) hl; omega
theorem name_of_unit {t : Tg} (hok : t.ok = true) {n : Nat} (h : n ≤ t.us.length) : nameT t n = [t.us.getD (n - 1) ByteArray.empty] := by
  unfold nameT
  rw [name_unit (top_unit hok h), if_neg (by omega)]
theorem name_behind {t : Tg} {n : Nat} (h : ¬ n ≤ t.us.length) (ht : topOf t.bs n = 0) : nameT t n = [] := by
  unfold nameT
  rw [name_unit ht, if_pos (by omega)]

set_option maxRecDepth 100000 in
set_option maxHeartbeats 1000000 in
theorem implWith_any {t : Tg} (hok : t.ok = true) {W0 : World} {v : Value} (hT : Tng W0 v t) {B : Nat} (hWB : W0.heap.size ≤ B) : ∀ n : Nat, 1 ≤ n → n ≤ 99999 → ∀ (u : Value) (xs : List ByteArray) (w : World), Below W0.heap.size W0 w → B ≤ w.heap.size → OwnStrs w B u xs → xs.length + n ≤ 1000000 →
    Calls Tryz.prog 149 #[u, v, .int .i64 n] w (RetWith w B u xs (nameT t n)) := by
  obtain ⟨i0, hi, hz0, hz1, hz2⟩ := info_parts str_info
  obtain ⟨A1, c1, A2, c2, A3, c3, rfl, S1, I2, S3⟩ := hT.ex
  have hsh := ok_shape hok
  have hul := hsh.us
  have hbs := hsh.bs
  have hbl := bases_len hbs
  have hns := hsh.ns
  have HL := Lib.hid (name_len t.us t.bs t.ns hbs)
  have HU := Lib.hid (fun m (h : m ≤ t.us.length) => name_of_unit hok h)
  have HV := Lib.hid (fun m (h : ¬ m ≤ t.us.length) (ht : topOf t.bs m = 0) => name_behind h ht)
  have HS1 := Lib.hid (S1.at_ (by omega))
  have HI2 := Lib.hid (I2.at_ (by omega))
  have HI := Lib.hid (fun W (h : Below W0.heap.size W0 W) => I2.below h (Nat.le_refl _))
  replace hbs := Lib.hid hbs
  clear hsh hT
  intro n
  induction n using Nat.strongRecOn with
  | _ n ih =>
    intro hn1 hn2 u xs w hw hBw ho hxl
    have IH := Lib.hid (fun m (h1 : m < n) (h2 : 1 ≤ m) => ih m h1 h2 (by omega))
    clear ih
    obtain ⟨Au, cu, rfl, -⟩ := ho.strs
    have hB := hw.alloc hw.size (.cells #[.slice A1 t.us.length c1, .slice A2 t.bs.length c2, .slice A3 t.ns.length c3] 31)
    have HX := Blk.new w 31 #[.slice A1 t.us.length c1, .slice A2 t.bs.length c2, .slice A3 t.ns.length c3]
    have hG := grown_of_below (Value.ownBlock (.slice Au xs.length cu)) ((Below.refl w.heap.size w).alloc (Nat.le_refl _) (.cells #[.slice A1 t.us.length c1, .slice A2 t.bs.length c2, .slice A3 t.ns.length c3] 31))
    have hO := own_below ho ((Below.refl w.heap.size w).alloc (Nat.le_refl _) (.cells #[.slice A1 t.us.length c1, .slice A2 t.bs.length c2, .slice A3 t.ns.length c3] 31)) (Nat.le_refl _)
    have hlt0 := ho.lt
    have hsz : w.heap.size + 1 = (w.alloc (.cells #[.slice A1 t.us.length c1, .slice A2 t.bs.length c2, .slice A3 t.ns.length c3] 31)).heap.size := by simp
    replace hlt0 := Lib.hid hlt0
    replace hB := Lib.hid hB
    replace HX := Lib.hid HX
    replace hG := Lib.hid hG
    replace hO := Lib.hid hO
    replace hw := Lib.hid hw
    clear ho
    go_enter Tryz.func149, Tryz.ntmps149
    go_upto_region 1 with (fail)
    generalize w.alloc (.cells #[.slice A1 t.us.length c1, .slice A2 t.bs.length c2, .slice A3 t.ns.length c3] 31) = W at *
    obtain ⟨x0, x1, x2, -, -, -⟩ := blk3 HX.out
    have k1 := Lib.hid (show xs.length + 1 ≤ maxLen by unfold maxLen; omega)
    have k2 := Lib.hid (show (xs.length + 1) * 16 ≤ 140737488355328 by omega)
    by_cases hu : n ≤ t.us.length
    · have hN := HU.out n hu
      obtain ⟨b, o, e1, hb, hc⟩ := HS1.out
      subst e1
      have ck := (hB.out.cell (p := ⟨b, o + (n - 1), none⟩) hb).trans (hc (n - 1) (by omega))
      have hu' : (n : Int) ≤ (t.us.length : Int) := by omega
      have kk : IntKind.i64.wrap ((n : Int) - 1) = (n : Int) - 1 := IntWalk.i64_in _ (by omega)
      generalize t.us.getD (n - 1) ByteArray.empty = x at *
      replace hN := Lib.hid hN
      clear hc S1 I2 S3
      go_wp2_with (at_builtin; refine wpList_app _ rfl (.tmp 17) (.tmp 24) _ rfl B 9 i0 _ 16 Tryz.underlying28 hi hz0 hz1 hz2 rfl (.slice Au xs.length cu) _ _ rfl (hO.out.alloc _) (some ⟨_, 0, none⟩) 1 1 [.string x] rfl (Src.one (blk_new_at _ rfl) rfl) k1.out k2.out (by simp; omega) ?_; intro v2 w2 ho2 hg2 hat2)
      have ho3 : OwnStrs w2 B v2 (xs ++ [x]) := by
        unfold OwnStrs
        simpa using ho2
      obtain ⟨A4, c4, rfl, -⟩ := ho3.strs
      have hG2 := grown_trans' hG.out (grown_trans' (World.grownBy_alloc W (.cells #[.string x] 9) _) hg2)
      have hR := rowOn_app (w := w) (by simp; omega) hat2
      replace ho3 := Lib.hid ho3
      replace hG2 := Lib.hid hG2
      replace hR := Lib.hid hR
      clear ho2 hg2 hat2
      go_wp2
      go_ret2
      rw [hN.out]
      exact with_yes (by simp) hG2.out ho3.out hR.out
    · have hu' : ¬ (n : Int) ≤ (t.us.length : Int) := by omega
      have KT := implTaken_any A2 c2 t.bs n W (HI.out W hB.out) hbs.out hn1 hn2
      by_cases hlt : n / baseN t.bs n < baseN t.bs n
      · have ht : topOf t.bs n ≠ 0 := fun h => by
          rw [base_one hbs.out h, Nat.div_one] at hlt
          omega
        rw [decide_eq_true hlt] at KT
        obtain ⟨f1, f2, f3, f4, f5⟩ := base_facts hbs.out ht
        obtain ⟨d1, d2, d3, d4⟩ := div_pos' f1 f2
        have N2 := fun h => name_nohead (us := t.us) (ns := t.ns) hbs.out ht h
        have N3 := fun h => name_norest (us := t.us) (ns := t.ns) hbs.out ht h
        have N4 := fun h => name_parts (us := t.us) (ns := t.ns) hbs.out ht h
        have e2 : (n : Int) % (baseN t.bs n : Int) = ((n % baseN t.bs n : Nat) : Int) := rfl
        obtain ⟨b2, o2, e3, hb2, hc2⟩ := HI2.out
        subst e3
        have ck2 := hc2 _ f4
        rw [← f3] at ck2
        obtain ⟨b3, o3, e4, hb3, hc3⟩ := S3.at_ (by omega)
        subst e4
        have ck3 := hc3 (topOf t.bs n - 1) (by omega)
        have L1 := HL.out _ d1
        have L2 : n % baseN t.bs n ≠ 0 → (nameN t.us t.bs t.ns (n % baseN t.bs n)).length ≤ n % baseN t.bs n := fun h0 => HL.out _ (Nat.one_le_iff_ne_zero.2 h0)
        have hbn : baseN t.bs n ≤ 99999 := by omega
        replace f3 := Lib.hid f3
        clear hc2 hc3
        have IHq := fun u xs w a b c d => IH.out (n / baseN t.bs n) d2 d1 u xs w a b c d
        have IHr := fun h0 u xs w a b c d => IH.out (n % baseN t.bs n) d3 (Nat.one_le_iff_ne_zero.2 h0) u xs w a b c d
        unfold nameT at IHq IHr
        generalize hq : n / baseN t.bs n = q at *
        generalize hr : n % baseN t.bs n = r at *
        generalize baseN t.bs n = bb at *
        generalize topOf t.bs n = k at *
        generalize t.ns.getD (k - 1) ByteArray.empty = nm at *
        generalize nameN t.us t.bs t.ns q = qs at *
        generalize nameN t.us t.bs t.ns r = rs at *
        have q1 : (n : Int) / (bb : Int) = q := by rw [← hq]; rfl
        replace N2 := Lib.hid N2
        replace N3 := Lib.hid N3
        replace N4 := Lib.hid N4
        replace L1 := Lib.hid L1
        replace L2 := Lib.hid L2
        replace e2 := Lib.hid e2
        replace q1 := Lib.hid q1
        replace hq := Lib.hid hq
        replace hr := Lib.hid hr
        replace IHq := Lib.hid IHq
        replace IHr := Lib.hid IHr
        replace KT := Lib.hid KT
        replace ht := Lib.hid ht
        replace hlt := Lib.hid hlt
        clear IH
        go_wp2_with (fail)
        refine KT.out.mono ?_
        rintro e w1 ⟨rfl, m1, rfl⟩
        have hB1 := below_drewN hB.out m1
        have HX1 := HX.out.drewN m1
        have hG1 := grown_drewN hG.out m1
        have hO1 : OwnStrs (W.drewN m1) B (.slice Au xs.length cu) xs := OwnStrs.below hO.out (below_drewN (Below.refl _ _) m1) (Nat.le_refl _)
        have hs1 : w.heap.size + 1 = (W.drewN m1).heap.size := hsz
        replace hB1 := Lib.hid hB1
        replace HX1 := Lib.hid HX1
        replace hG1 := Lib.hid hG1
        replace hO1 := Lib.hid hO1
        clear x0 x1 x2 hB HX hG hO KT hsz
        generalize W.drewN m1 = W1 at *
        obtain ⟨x0, x1, x2, -, -, -⟩ := blk3 HX1.out
        obtain ⟨okh, hokh⟩ : ∃ okh : Bool, okh = decide (1 < q → qs ≠ []) := ⟨_, rfl⟩
        obtain ⟨hd, hhd⟩ : ∃ hd : List ByteArray, hd = if 1 < q then qs else [] := ⟨_, rfl⟩
        have hdl : hd.length ≤ q := by
          rw [hhd]
          split
          · exact L1.out
          · exact Nat.zero_le _
        replace hokh := Lib.hid hokh
        replace hhd := Lib.hid hhd
        go_upto_if 38 with (fail)
        go_cut [0, 10] (fun s0 s10 wx => ∃ u1, s0 = u1 ∧ s10 = .bool okh ∧ W1.grownBy wx (Value.ownBlock (.slice Au xs.length cu)) ∧ (okh = true → OwnStrs wx B u1 (xs ++ hd) ∧ RowOn W1 (.slice Au xs.length cu) u1))
        case first =>
          by_cases h1 : 1 < q
          · have h1' : (1 : Int) < (q : Int) := by omega
            have K5 := Lib.hid (IHq.out (.slice Au xs.length cu) xs W1 hB1.out (by omega) hO1.out (by omega))
            go_wp2_with (fail)
            refine K5.out.mono ?_
            rintro e w2 ⟨u2, rfl, hg2, -, hy2⟩
            have ho : decide (qs ≠ []) = okh := by rw [hokh.out]; by_cases h : qs = [] <;> simp [h, h1]
            rw [ho]
            have hy2' : okh = true → OwnStrs w2 B u2 (xs ++ hd) ∧ RowOn W1 (.slice Au xs.length cu) u2 := fun h => by
              rw [hhd.out, if_pos h1]
              exact hy2 (by rw [← ho] at h; exact of_decide_eq_true h)
            replace hg2 := Lib.hid hg2
            replace hy2' := Lib.hid hy2'
            replace ho := Lib.hid ho
            clear hy2
            go_wp2
            go_meet
            exact ⟨_, rfl, rfl, hg2.out, hy2'.out⟩
          · have h1' : ¬ (1 : Int) < (q : Int) := by omega
            have ho : okh = true := by rw [hokh.out]; simp [h1]
            have hh : hd = [] := by rw [hhd.out, if_neg h1]
            replace ho := Lib.hid ho
            replace hh := Lib.hid hh
            go_wp2
            go_meet
            exact ⟨_, rfl, by rw [ho.out], World.grownBy.refl _ _, fun _ => ⟨by rw [hh.out, List.append_nil]; exact hO1.out, RowOn.refl _ _⟩⟩
        case rest =>
          obtain ⟨u1, rfl, rfl, hgc, hyc⟩ := hcut
          have hGc := grown_trans' hG1.out hgc
          by_cases hk1 : okh = true
          · obtain ⟨hoc, hRc⟩ := hyc hk1
            obtain ⟨A5, c5, rfl, -⟩ := hoc.strs
            have hltc := hoc.lt
            have hRw : RowOn w (.slice Au xs.length cu) (.slice A5 (xs ++ hd).length c5) := RowOn.trans (RowOn.refl _ _) (by omega) hRc
            have hBc := hB1.out.grown hgc (hB1.out.size) (fun k e => Nat.le_trans hWB (hlt0.out k e).1)
            have hXc := HX1.out.grown hgc (fun e => by have := (hlt0.out _ e.symm).2; omega)
            have hne5 : some w.heap.size ≠ Value.ownBlock (.slice A5 (xs ++ hd).length c5) := fun e => by
              rcases hRc with e1 | ⟨g, e1, hg⟩
              · rw [e1] at e; have := (hlt0.out _ e.symm).2; omega
              · rw [e1] at e; cases e; omega
            have hb1 : 1 < q → qs ≠ [] := of_decide_eq_true (hokh.out.symm.trans hk1)
            have hNN : (r ≠ 0 → rs ≠ []) → nameT t n = hd ++ [nm] ++ (if r = 0 then [] else rs) := fun h => by
              rw [hhd.out]
              exact N4.out hlt.out hb1 h
            have hwc := hgc.size
            have hyl : (xs ++ hd).length ≤ xs.length + q := by rw [List.length_append]; omega
            have hassoc : ∀ zs, xs ++ (hd ++ [nm] ++ zs) = xs ++ hd ++ [nm] ++ zs := fun zs => by simp
            generalize xs ++ hd = ys at *
            have cc2 := (hBc.cell (p := ⟨b2, o2 + k, none⟩) hb2).trans ck2
            have cc3 := (hBc.cell (p := ⟨b3, o3 + (k - 1), none⟩) hb3).trans ck3
            clear x0 x1 x2
            obtain ⟨x0, x1, x2, -, -, -⟩ := blk3 hXc
            have m1 := Lib.hid (show ys.length + 1 ≤ maxLen by unfold maxLen; omega)
            have m2 := Lib.hid (show (ys.length + 1) * 16 ≤ 140737488355328 by omega)
            have kk1 : (0 : Int) ≤ (k : Int) - 1 := by omega
            have kk2 : (k : Int) - 1 < (t.ns.length : Int) := by omega
            have kk3 : ((k : Int) - 1).toNat = k - 1 := by omega
            have kk4 : IntKind.i64.wrap ((k : Int) - 1) = (k : Int) - 1 := IntWalk.i64_in _ (by omega)
            subst hk1
            replace hoc := Lib.hid hoc
            replace hGc := Lib.hid hGc
            replace hRw := Lib.hid hRw
            replace hBc := Lib.hid hBc
            replace hXc := Lib.hid hXc
            replace hne5 := Lib.hid hne5
            replace hb1 := Lib.hid hb1
            replace hNN := Lib.hid hNN
            replace hassoc := Lib.hid hassoc
            replace hltc := Lib.hid hltc
            clear hgc hyc hRc
            go_upto_region 9 with (at_builtin; refine wpList_app _ rfl (.tmp 48) (.tmp 55) _ rfl B 9 i0 _ 16 Tryz.underlying28 hi hz0 hz1 hz2 rfl (.slice A5 ys.length c5) _ _ rfl (hoc.out.alloc _) (some ⟨_, 0, none⟩) 1 1 [.string nm] rfl (Src.one (blk_new_at _ rfl) rfl) m1.out m2.out (by simp; omega) ?_; intro v8 w8 ho8 hg8 hat8)
            have ho9 : OwnStrs w8 B v8 (ys ++ [nm]) := by
              unfold OwnStrs
              simpa using ho8
            have hzl : (ys ++ [nm]).length = ys.length + 1 := by simp
            obtain ⟨A8, c8, e8, -⟩ := ho9.strs
            rw [hzl] at e8
            subst e8
            have hX8 := (hXc.out.alloc (.cells #[.string nm] 9)).grown hg8 hne5.out
            have hB8 := (hBc.out.alloc hBc.out.size (.cells #[.string nm] 9)).grown hg8 (by simp; have := hBc.out.size; omega) (fun k e => Nat.le_trans hWB (hltc.out k e).1)
            have hR8 := RowOn.trans hRw.out (by omega) (rowOn_app (w := wc) (by simp) hat8)
            have hG8 := grown_on hGc.out hRw.out (grown_trans' (World.grownBy_alloc wc (.cells #[.string nm] 9) _) hg8)
            have hs8 : B ≤ w8.heap.size := by have := hg8.size; simp at this; omega
            have hs8' : w.heap.size ≤ w8.heap.size := by have := hg8.size; simp at this; omega
            have c8' := (hB8.cell (p := ⟨b2, o2 + k, none⟩) hb2).trans ck2
            clear x0 x1 x2 cc2 cc3 ho8 hg8 hat8
            obtain ⟨x0, x1, x2, -, -, -⟩ := blk3 hX8
            generalize ys ++ [nm] = zs at *
            have r0 : (0 : Int) ≤ (n : Int) % (bb : Int) := by rw [e2.out]; omega
            have r1 : (n : Int) % (bb : Int) ≤ 99999 := by rw [e2.out]; omega
            have hbz : ¬ (bb : Int) = 0 := by omega
            have hrl : r ≤ n := by omega
            replace ho9 := Lib.hid ho9
            replace hX8 := Lib.hid hX8
            replace hB8 := Lib.hid hB8
            replace hR8 := Lib.hid hR8
            replace hG8 := Lib.hid hG8
            go_upto_region 10 with (fail)
            rw [e2.out]
            clear r0 r1
            by_cases hr0 : r = 0
            · have hr0' : ¬ (0 : Int) < (r : Int) := by omega
              have hN := hNN.out (fun h => absurd hr0 h)
              rw [if_pos hr0] at hN
              have hne : nameT t n ≠ [] := by rw [hN]; simp
              have hfin : OwnStrs w8 B (.slice A8 (ys.length + 1) c8) (xs ++ nameT t n) := by rw [hN, hassoc.out, List.append_nil]; exact ho9.out
              replace hne := Lib.hid hne
              replace hfin := Lib.hid hfin
              clear hN
              go_wp2
              go_ret2
              exact with_yes hne.out hG8.out hfin.out hR8.out
            · have hr0' : (0 : Int) < (r : Int) := by omega
              have K9 := Lib.hid (IHr.out hr0 (.slice A8 (ys.length + 1) c8) zs w8 hB8.out hs8 ho9.out (by omega))
              go_wp2_with (fail)
              refine K9.out.mono ?_
              rintro e w9 ⟨u9, rfl, hg9, hn9, hy9⟩
              have hG9 := grown_on hG8.out hR8.out hg9
              by_cases hrs : rs = []
              · have h9 := hn9 hrs
                subst h9
                rw [decide_eq_false (fun h => h hrs)]
                have hN := N3.out hr0 hrs
                replace hN := Lib.hid hN
                replace hG9 := Lib.hid hG9
                clear hg9 hn9 hy9
                go_wp2
                go_ret2
                exact with_no hN.out hG9.out
              · obtain ⟨o9, r9⟩ := hy9 hrs
                obtain ⟨A9, c9, rfl, -⟩ := o9.strs
                rw [decide_eq_true hrs]
                have hN := hNN.out (fun _ => hrs)
                rw [if_neg hr0] at hN
                have hne : nameT t n ≠ [] := by rw [hN]; simp
                have hfin : OwnStrs w9 B (.slice A9 (zs ++ rs).length c9) (xs ++ nameT t n) := by rw [hN, hassoc.out]; exact o9
                have hR9 := RowOn.trans hR8.out hs8' r9
                replace hne := Lib.hid hne
                replace hfin := Lib.hid hfin
                replace hR9 := Lib.hid hR9
                replace hG9 := Lib.hid hG9
                clear hN o9 r9 hg9 hn9 hy9
                generalize (zs ++ rs).length = L9 at *
                go_wp2
                go_ret2
                exact with_yes hne.out hG9.out hfin.out hR9.out
          · have hk0 : okh = false := by simpa using hk1
            have hN : nameT t n = [] := by
              rw [hk0] at hokh
              have h := of_decide_eq_false hokh.out.symm
              have h1 : 1 < q := Classical.byContradiction fun h1 => h fun h2 => absurd h2 h1
              exact N2.out h1 (Classical.byContradiction fun h2 => h fun _ => h2)
            subst hk0
            replace hN := Lib.hid hN
            clear hk1 hyc
            go_wp2
            go_ret2
            exact with_no hN.out hGc
      · have hN : nameT t n = [] := by
          by_cases ht : topOf t.bs n = 0
          · exact HV.out n hu ht
          · exact name_over hbs.out ht (by omega)
        rw [decide_eq_false hlt] at KT
        replace KT := Lib.hid KT
        replace hN := Lib.hid hN
        replace hlt := Lib.hid hlt
        generalize topOf t.bs n = k at *
        generalize n / baseN t.bs n = q at *
        go_wp2_with (fail)
        refine KT.out.mono ?_
        rintro e w1 ⟨rfl, m1, rfl⟩
        go_wp2
        go_ret2
        exact with_no hN.out (grown_drewN hG.out m1)

theorem namedB_eq {t : Tg} {m : Nat} (h : okN t m = true) : namedB t m = decide (nameT t m ≠ []) := by
  unfold namedB
  rw [nameOf_yes h]
  cases nameT t m <;> simp

set_option maxRecDepth 100000 in
set_option maxHeartbeats 2000000 in
theorem implNameOf_any (v : Value) (t : Tg) (n : Int) (w : World) (h : Tng w v t) (hf : t.Fine) (hn : -9223372036854775808 ≤ n ∧ n ≤ 9223372036854775807) :
    Calls Tryz.prog 124 #[v, .int .i64 n] w (RetStrs2 w (nameOf t n) (namedB t n)) := by
  have h0 := h
  obtain ⟨A1, c1, A2, c2, A3, c3, rfl, -⟩ := h.ex
  have hB := (Below.refl w.heap.size w).alloc (Nat.le_refl _) (.cells #[.slice A1 t.us.length c1, .slice A2 t.bs.length c2, .slice A3 t.ns.length c3] 31)
  have HX := Blk.new w 31 #[.slice A1 t.us.length c1, .slice A2 t.bs.length c2, .slice A3 t.ns.length c3]
  have HT := h.below hB (Nat.le_refl _)
  have K1 := Lib.hid (implAskable_any _ t n _ HT hf hn)
  replace hB := Lib.hid hB
  replace HX := Lib.hid HX
  replace h0 := Lib.hid h0
  clear h hf HT
  go_enter Tryz.func124, Tryz.ntmps124
  go_upto_region 1 with (fail)
  generalize w.alloc (.cells #[.slice A1 t.us.length c1, .slice A2 t.bs.length c2, .slice A3 t.ns.length c3] 31) = W at *
  obtain ⟨x0, x1, x2, -, -, -⟩ := blk3 HX.out
  go_wp2_with (fail)
  refine K1.out.mono ?_
  rintro e w1 ⟨rfl, b1⟩
  replace hB := Lib.hid (hB.out.trans (b1.mono hB.out.size))
  replace HX := Lib.hid (HX.out.below b1 HX.out.lt)
  clear b1 x0 x1 x2 K1
  obtain ⟨x0, x1, x2, -, -, -⟩ := blk3 HX.out
  have hno : namedB t n = false → nameOf t n = [] → RetStrs2 w (nameOf t n) (namedB t n) (.returned (.tuple #[.slice none 0 0, .bool false])) w1 := fun h1 h2 =>
    ⟨_, by rw [h1], by rw [h2]; exact owns_none _ _ _, hB.out⟩
  replace hno := Lib.hid hno
  cases hok : okN t n
  · obtain ⟨e1, e2⟩ := nameOf_no hok
    replace e1 := Lib.hid e1
    replace e2 := Lib.hid e2
    replace hok := Lib.hid hok
    go_wp2
    go_ret2
    exact hno.out e2.out e1.out
  · have ho := hok
    unfold okN at ho
    rw [Bool.and_eq_true, decide_eq_true_eq] at ho
    obtain ⟨ho, hd⟩ := ho
    obtain ⟨m, rfl⟩ : ∃ m : Nat, n = m := ⟨n.toNat, by omega⟩
    have K2 := Lib.hid (implWith_any ho h0.out (Nat.le_refl _) m (by omega) (by omega) (.slice none 0 0) [] w1 hB.out hB.out.size (owns_none _ _ _) (by simp; omega))
    have e1 := nameOf_yes hok
    have e2 := namedB_eq hok
    replace e1 := Lib.hid e1
    replace e2 := Lib.hid e2
    replace hok := Lib.hid hok
    replace ho := Lib.hid ho
    replace hd := Lib.hid hd
    go_wp2_with (fail)
    refine K2.out.mono ?_
    rintro e w3 ⟨u3, rfl, hg3, hn3, hy3⟩
    have hB3 := hB.out.grown hg3 hB.out.size (fun k e => by cases e)
    by_cases hne : nameT t m = []
    · have h3 := hn3 hne
      subst h3
      rw [decide_eq_false (fun h => h hne)] at e2 ⊢
      have hF : RetStrs2 w (nameOf t m) (namedB t m) (.returned (.tuple #[.slice none 0 0, .bool false])) w3 :=
        ⟨_, by rw [e2.out], by rw [e1.out, hne]; exact owns_none _ _ _, hB3⟩
      replace hF := Lib.hid hF
      clear hn3 hy3 hg3 e1 e2 hne
      go_wp2
      go_ret2
      exact hF.out
    · obtain ⟨o3, -⟩ := hy3 hne
      rw [List.nil_append] at o3
      obtain ⟨A, c, rfl, -⟩ := o3.strs
      rw [decide_eq_true hne] at e2 ⊢
      have hF : RetStrs2 w (nameOf t m) (namedB t m) (.returned (.tuple #[.slice A (nameT t m).length c, .bool true])) w3 :=
        ⟨_, by rw [e2.out], by rw [e1.out]; exact o3, hB3⟩
      replace hF := Lib.hid hF
      clear hn3 hy3 hg3 e1 e2 hne o3
      generalize (nameT t m).length = L at *
      go_wp2
      go_ret2
      exact hF.out
end Go.Proofs.YtmhgpbfogdoaeaaGreatDoor

/- Join -/
namespace Go.Proofs.YtmhgpbfogdoaeaaGreatDoor
open Go.Shelf Go.RowKit

end Go.Proofs.YtmhgpbfogdoaeaaGreatDoor

/- P3f -/
namespace Go.Proofs.YtmhgpbfogdoaeaaGreatDoor
open Go.RowKit

end Go.Proofs.YtmhgpbfogdoaeaaGreatDoor

/- P4a -/
namespace Go.Proofs.YtmhgpbfogdoaeaaGreatDoor
open Go.RowKit

end Go.Proofs.YtmhgpbfogdoaeaaGreatDoor

/- P4b -/
namespace Go.Proofs.YtmhgpbfogdoaeaaGreatDoor
open Go.RowKit

section
variable {w w' : World} {g : Nat} {u : Value} {s : List Int}
end
end Go.Proofs.YtmhgpbfogdoaeaaGreatDoor

/- P4c -/
namespace Go.Proofs.YtmhgpbfogdoaeaaGreatDoor
open Go.RowKit Go.WideMaps Go.Maps

end Go.Proofs.YtmhgpbfogdoaeaaGreatDoor

/- P4d -/
namespace Go.Proofs.YtmhgpbfogdoaeaaGreatDoor
open Go.RowKit Go.WideMaps Go.Maps

end Go.Proofs.YtmhgpbfogdoaeaaGreatDoor

/- P4e -/
namespace Go.Proofs.YtmhgpbfogdoaeaaGreatDoor
open Go.RowKit

end Go.Proofs.YtmhgpbfogdoaeaaGreatDoor

/- P4f -/
namespace Go.Proofs.YtmhgpbfogdoaeaaGreatDoor
open Go.RowKit

end Go.Proofs.YtmhgpbfogdoaeaaGreatDoor

/- P4g -/
namespace Go.Proofs.YtmhgpbfogdoaeaaGreatDoor
open Go.RowKit

end Go.Proofs.YtmhgpbfogdoaeaaGreatDoor
