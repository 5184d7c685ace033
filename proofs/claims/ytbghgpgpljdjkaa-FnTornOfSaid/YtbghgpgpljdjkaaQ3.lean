/-
  What words leave of each other, of the model; the model's ReadableOk.
-/
import Derived.Test.YtbghgpgpljdjkaaQ2
namespace Go.Proofs.Ytbghgpgpljdjkaa
open Go.RowKit

/-- A list of the call's own, of what words leave of each other, each once. -/
structure LeftL (l out : List ByteArray) : Prop where
  nd : out.Nodup
  dg : ∀ d ∈ out, DangB l d
theorem LeftL.put {l out : List ByteArray} (h : LeftL l out) {d : ByteArray} (hd : DangB l d) : LeftL l (putL out d) :=
  ⟨putL_nodup h.nd d, fun x hx => (putL_mem.1 hx).elim (h.dg x) fun e => e ▸ hd⟩
def iniTo (l out : List ByteArray) (k : Nat) : Prop := ∀ i, i < k → ∀ j, j < l.length → j ≠ i → beg (l.getD i ByteArray.empty) (l.getD j ByteArray.empty) = true → rest (l.getD i ByteArray.empty) (l.getD j ByteArray.empty) ∈ out
def iniIn (l out : List ByteArray) (x : ByteArray) (k j : Nat) : Prop := ∀ i, i < j → i ≠ k → beg x (l.getD i ByteArray.empty) = true → rest x (l.getD i ByteArray.empty) ∈ out
theorem iniTo_mono {l out out' : List ByteArray} {k : Nat} (h : iniTo l out k) (hs : ∀ x ∈ out, x ∈ out') : iniTo l out' k := fun i hi j hj hne hb => hs _ (h i hi j hj hne hb)
theorem iniIn_mono {l out out' : List ByteArray} {x : ByteArray} {k j : Nat} (h : iniIn l out x k j) (hs : ∀ x ∈ out, x ∈ out') : iniIn l out' x k j := fun i hi hne hb => hs _ (h i hi hne hb)
theorem iniTo_go {l out : List ByteArray} {k : Nat} (h : iniTo l out k) (hx : iniIn l out (l.getD k ByteArray.empty) k l.length) : iniTo l out (k + 1) := fun i hi j hj hne hb => by
  by_cases e : i = k
  · subst e; exact hx j hj hne hb
  · exact h i (by omega) j hj hne hb
theorem iniIn_go {l out : List ByteArray} {x : ByteArray} {k j : Nat} (h : iniIn l out x k j) (hx : j ≠ k → beg x (l.getD j ByteArray.empty) = true → rest x (l.getD j ByteArray.empty) ∈ out) : iniIn l out x k (j + 1) := fun i hi hne hb => by
  by_cases e : i = j
  · subst e; exact hx hne hb
  · exact h i (by omega) hne hb
def groTo (l out : List ByteArray) (k : Nat) : Prop := ∀ a, a < k → ∀ j, j < l.length → (beg (l.getD j ByteArray.empty) (out.getD a ByteArray.empty) = true → rest (l.getD j ByteArray.empty) (out.getD a ByteArray.empty) ∈ out) ∧ (beg (out.getD a ByteArray.empty) (l.getD j ByteArray.empty) = true → rest (out.getD a ByteArray.empty) (l.getD j ByteArray.empty) ∈ out)
def groIn (l out : List ByteArray) (d : ByteArray) (j : Nat) : Prop := ∀ i, i < j → (beg (l.getD i ByteArray.empty) d = true → rest (l.getD i ByteArray.empty) d ∈ out) ∧ (beg d (l.getD i ByteArray.empty) = true → rest d (l.getD i ByteArray.empty) ∈ out)
theorem groIn_mono {l out out' : List ByteArray} {d : ByteArray} {j : Nat} (h : groIn l out d j) (hs : ∀ x ∈ out, x ∈ out') : groIn l out' d j := fun i hi => ⟨fun hb => hs _ ((h i hi).1 hb), fun hb => hs _ ((h i hi).2 hb)⟩
theorem groIn_go {l out : List ByteArray} {d : ByteArray} {j : Nat} (h : groIn l out d j) (hx : (beg (l.getD j ByteArray.empty) d = true → rest (l.getD j ByteArray.empty) d ∈ out) ∧ (beg d (l.getD j ByteArray.empty) = true → rest d (l.getD j ByteArray.empty) ∈ out)) : groIn l out d (j + 1) := fun i hi => by
  by_cases e : i = j
  · subst e; exact hx
  · exact h i (by omega)
theorem groTo_go {l out : List ByteArray} {k : Nat} (h : groTo l out k) (hx : groIn l out (out.getD k ByteArray.empty) l.length) : groTo l out (k + 1) := fun a ha j hj => by
  by_cases e : a = k
  · subst e; exact hx j hj
  · exact h a (by omega) j hj
theorem groTo_put {l out : List ByteArray} {k : Nat} (h : groTo l out k) (hk : k ≤ out.length) (s : ByteArray) : groTo l (putL out s) k := fun a ha j hj => by
  rw [putL_at (by omega)]
  exact ⟨fun hb => putL_mem.2 (.inl ((h a ha j hj).1 hb)), fun hb => putL_mem.2 (.inl ((h a ha j hj).2 hb))⟩
theorem put_sub {out : List ByteArray} {s : ByteArray} : ∀ x ∈ out, x ∈ putL out s := fun _ hx => putL_mem.2 (.inl hx)
theorem put_self {out : List ByteArray} {s : ByteArray} : s ∈ putL out s := putL_mem.2 (.inr rfl)
/-- All is there: the code can be read exactly if nothing is not left. -/
theorem left_read {l out : List ByteArray} (hc : codeOk l = true) (h : LeftL l out) (h1 : iniTo l out l.length) (h2 : groTo l out out.length) : readOk l = true ↔ ByteArray.empty ∉ out := by
  constructor
  · intro hr he
    have := h.dg _ he
    exact (readOk_iff.1 hr).2 this
  · intro he
    refine readOk_yes (S := out) hc ?_ ?_ ?_ he
    · intro u hu v hv hne hb
      obtain ⟨j, hj, rfl⟩ := mem_getD hu
      obtain ⟨i, hi, rfl⟩ := mem_getD hv
      exact h1 i hi j hj (fun e => hne (by rw [e])) hb
    · intro d hd u hu hb
      obtain ⟨a, ha, rfl⟩ := mem_getD hd
      obtain ⟨j, hj, rfl⟩ := mem_getD hu
      exact (h2 a ha j hj).1 hb
    · intro d hd u hu hb
      obtain ⟨a, ha, rfl⟩ := mem_getD hd
      obtain ⟨j, hj, rfl⟩ := mem_getD hu
      exact (h2 a ha j hj).2 hb

/-- While a list of the call's own grows. -/
structure LW (w : World) (v : Value) (out : List ByteArray) (wr : World) : Prop where
  own : OwnStrs wr w.heap.size v out
  low : Below w.heap.size w wr
section
variable {w wr w' : World} {v v' : Value} {out ys : List ByteArray}
theorem LW.below (h : LW w v out wr) (hb : Below wr.heap.size wr w') : LW w v out w' := ⟨h.own.below hb (Nat.le_refl _), h.low.trans (hb.mono h.low.size)⟩
theorem LW.drewN (h : LW w v out wr) (m : Nat) : LW w v out (wr.drewN m) := h.below (below_drewN (Below.refl _ _) m)
theorem LW.drew (h : LW w v out wr) : LW w v out wr.drew := h.below ((Below.refl _ _).drew)
theorem LW.turn (h : LW w v out wr) (ho : OwnStrs w' w.heap.size v' ys) (hg : wr.grownBy w' v.ownBlock) : LW w v' ys w' := ⟨ho, below_own h.low h.own hg h.low.size (Nat.le_refl _)⟩
theorem LW.cellAt {A : Option Addr} {n c k : Nat} (h : LW w (.slice A n c) out wr) (hk : k < out.length) : ∃ b o, A = some ⟨b, o, none⟩ ∧ wr.cell? ⟨b, o + k, none⟩ = some (.string (out.getD k ByteArray.empty)) := by
  obtain ⟨A', c', e, hS⟩ := h.own.strs
  cases e
  obtain ⟨b, o, e, _, hc⟩ := hS.at_ (by omega)
  exact ⟨b, o, e, hc k hk⟩
end
/-- While what is left behind one text is looked for. -/
structure GroL (l out : List ByteArray) (d : ByteArray) (a j : Nat) : Prop where
  left : LeftL l out
  ini : iniTo l out l.length
  gro : groTo l out a
  in_ : groIn l out d j
  at_ : a < out.length
  is_ : out.getD a ByteArray.empty = d
theorem GroL.put {l out : List ByteArray} {d s : ByteArray} {a j : Nat} (h : GroL l out d a j) (hs : DangB l s) : GroL l (putL out s) d a j :=
  ⟨h.left.put hs, iniTo_mono h.ini put_sub, groTo_put h.gro (Nat.le_of_lt h.at_) s, groIn_mono h.in_ put_sub, by have := (putL_len out s).2; have := h.at_; omega, by rw [putL_at h.at_]; exact h.is_⟩
theorem GroL.go {l out : List ByteArray} {d : ByteArray} {a j : Nat} (h : GroL l out d a j) (h1 : beg (l.getD j ByteArray.empty) d = true → rest (l.getD j ByteArray.empty) d ∈ out) (h2 : beg d (l.getD j ByteArray.empty) = true → rest d (l.getD j ByteArray.empty) ∈ out) : GroL l out d a (j + 1) :=
  ⟨h.left, h.ini, h.gro, groIn_go h.in_ ⟨h1, h2⟩, h.at_, h.is_⟩
theorem GroL.end_ {l out : List ByteArray} {d : ByteArray} {a : Nat} (h : GroL l out d a l.length) : groTo l out (a + 1) := groTo_go h.gro (by rw [h.is_]; exact h.in_)
theorem dang_put {l out : List ByteArray} (hc : codeOk l = true) (h : LeftL l out) : out.length ≤ 30 := dang_few hc h.nd h.dg

set_option maxRecDepth 100000 in
set_option maxHeartbeats 1000000 in
theorem left_any (A : Option Addr) (n c : Nat) (l : List ByteArray) (w : World) (h : Strs w A n c l) (hok : codeOk l = true) :
    Calls Try.prog 55 #[.slice A n c] w fun e w' => ∃ v out, e = .returned v ∧ OwnStrs w' w.heap.size v out ∧ Below w.heap.size w w' ∧ LeftL l out ∧ iniTo l out l.length ∧ groTo l out out.length := by
  obtain ⟨rfl, hcap, hat⟩ := h
  have hl6 := (codeOk_iff.1 hok).1.2
  have HLn := Lib.hid (fun k (hk : k < l.length) => codeOk_len hok (getD_mem hk))
  have HDI := Lib.hid (fun j k (hj : j < l.length) (hk : k < l.length) (hne : j ≠ k) hb => dang_init (l := l) (u := l.getD j ByteArray.empty) (v := l.getD k ByteArray.empty) (getD_mem hj) (getD_mem hk) (fun e => hne (getD_inj (codeOk_iff.1 hok).2.2 hj hk e)) hb)
  have HDG := Lib.hid (fun k d (hk : k < l.length) hd hb => dang_grow (l := l) (u := l.getD k ByteArray.empty) (d := d) hd (getD_mem hk) hb)
  have HDE := Lib.hid (fun k d (hk : k < l.length) hd hb => dang_eat (l := l) (u := l.getD k ByteArray.empty) (d := d) hd (getD_mem hk) hb)
  have HP := Lib.hid (fun out (h : LeftL l out) => dang_put hok h)
  have HDS := Lib.hid (fun d (h : DangB l d) => dang_size hok h)
  replace hat := Lib.hid hat
  replace hok := Lib.hid hok
  go_enter Try.func55, Try.ntmps55
  go_wp2
  go_loopw [3, 4] (fun s3 s4 wr => ∃ (k : Nat) (out : List ByteArray), k ≤ l.length ∧ s4 = .int .i64 k ∧ LW w s3 out wr ∧ LeftL l out ∧ iniTo l out k) (fun _ i _ => l.length - (intOf i).toNat)
  case atStart => exact ⟨0, [], Nat.zero_le _, rfl, ⟨owns_empty (Blk.new _ _ _) (Nat.le_refl _), (Below.refl _ _).alloc (Nat.le_refl _) _⟩, ⟨List.nodup_nil, by simp⟩, fun i hi => absurd hi (by omega)⟩
  case round =>
    obtain ⟨k, out, hk, rfl, hW, hL, hu⟩ := hrel
    obtain ⟨A3, c3, rfl, -⟩ := hW.own.strs
    by_cases hlt : k < l.length
    · obtain ⟨b, o, rfl, hbo, hc⟩ := hat.out (by omega)
      replace hc := Lib.hid hc
      have hcx := Lib.hid (hc.out k hlt)
      have hzx := HLn.out k hlt
      have HDk := Lib.hid (fun j hj hne hb => HDI.out j k hj hlt hne hb)
      have HA := Lib.hid (fun out' (hs : ∀ x ∈ out, x ∈ out') => iniTo_go (iniTo_mono hu hs))
      clear hu
      generalize l.getD k ByteArray.empty = x at *
      replace hW := Lib.hid hW
      replace hL := Lib.hid hL
      go_wp2
      go_loopw [3, 5] (fun s3 s5 wr => ∃ (j : Nat) (out' : List ByteArray), j ≤ l.length ∧ s5 = .int .i64 j ∧ LW w s3 out' wr ∧ LeftL l out' ∧ iniIn l out' x k j ∧ ∀ x ∈ out, x ∈ out') (fun _ i _ => l.length - (intOf i).toNat)
      case atStart => exact ⟨0, out, Nat.zero_le _, rfl, hW.out, hL.out, fun i hi => absurd hi (by omega), fun _ h => h⟩
      case round =>
        clear hW hL
        obtain ⟨j, out2, hj, rfl, hW, hL, hd, hsub⟩ := hrel
        obtain ⟨A4, c4, rfl, -⟩ := hW.own.strs
        by_cases hjt : j < l.length
        · have ck := (hW.low.cell (p := ⟨b, o + k, none⟩) hbo).trans hcx.out
          have cj := (hW.low.cell (p := ⟨b, o + j, none⟩) hbo).trans (hc.out j hjt)
          have hzy := HLn.out j hjt
          have HD2 := Lib.hid (HDk.out j hjt)
          have HG := Lib.hid (fun out' hs => iniIn_go (iniIn_mono (out' := out') hd hs))
          generalize l.getD j ByteArray.empty = y at *
          clear hd
          by_cases e : j = k
          · have hd0 : ((j : Int) != (k : Int)) = false := by rw [bne_eq_false_iff_eq]; omega
            have hg := Lib.hid (HG.out out2 (fun _ h => h) (fun h => absurd e h))
            replace e := Lib.hid e
            replace hW := Lib.hid hW
            replace hL := Lib.hid hL
            replace hsub := Lib.hid hsub
            go_upto_region 8 with (fail)
            go_quiet (fail)
            go_wp2
            go_roundw
            case rel => exact ⟨j+1, out2, by omega, by go_num, hW.out.drewN _, hL.out, hg.out, hsub.out⟩
            case measure => simp [intOf]; omega
          · have hd0 : ((j : Int) != (k : Int)) = true := by rw [bne_iff_ne]; omega
            have HB := Lib.hid (fun W => begins_any x y W (by omega) (by omega))
            have hP2 := HP.out out2 hL
            replace hW := Lib.hid hW
            replace hL := Lib.hid hL
            replace hsub := Lib.hid hsub
            go_upto_region 8 with (fail)
            go_quiet ((go_at_call 53; exact quiet_same (HB.out _)))
            cases hb : beg x y
            · have hg := Lib.hid (HG.out out2 (fun _ h => h) (fun _ h => by rw [hb] at h; cases h))
              replace hb := Lib.hid hb
              go_wp2
              go_roundw
              case rel => exact ⟨j+1, out2, by omega, by go_num, hW.out.drewN _, hL.out, hg.out, hsub.out⟩
              case measure => simp [intOf]; omega
            · have hd := HD2.out e hb
              have hyx := beg_le hb
              have hL3 := Lib.hid (hL.out.put hd)
              have hg := Lib.hid (HG.out (putL out2 (rest x y)) put_sub (fun _ _ => put_self))
              have hs3 := Lib.hid (show ∀ z ∈ out, z ∈ putL out2 (rest x y) from fun z hz => put_sub z (hsub.out z hz))
              have hW3 := Lib.hid (hW.out.drewN nq)
              have ck3 : (wr.drewN nq).cell? ⟨b, o + k, none⟩ = some (.string x) := ck
              have cj3 : (wr.drewN nq).cell? ⟨b, o + j, none⟩ = some (.string y) := cj
              replace hb := Lib.hid hb
              clear ck cj hW hL hd hsub HG
              generalize wr.drewN nq = W at *
              go_upto_region 9 with (fail)
              go_region_law (first
                | (go_simp; go_at_call 67; refine (put_any w.heap.size (.slice A4 out2.length c4) out2 (rest x y) _ (by first | exact hW3.out.drew.own | exact hW3.out.own) (by first | exact hW3.out.drew.low.size | exact hW3.out.low.size) (by omega)).mono ?_; rintro e V9 ⟨v9, rfl, ho9, hg9, -⟩; have hg9' : W.grownBy V9 (Value.slice A4 out2.length c4).ownBlock := ⟨hg9.os, hg9.tape, hg9.output, hg9.size, hg9.block⟩; have hW9 := Lib.hid (hW3.out.turn ho9 hg9'); clear ho9 hg9 hg9'))
              all_goals
                go_wp2
                go_roundw
                case rel => exact ⟨j+1, _, by omega, by go_num, hW9.out, hL3.out, hg.out, hs3.out⟩
                case measure => simp [intOf]; omega
        · obtain rfl : j = l.length := by omega
          have hA2 := Lib.hid (HA.out out2 hsub hd)
          replace hW := Lib.hid hW
          replace hL := Lib.hid hL
          clear hd hsub
          go_wp2
          go_roundw
          case rel => exact ⟨k+1, out2, by omega, by go_num, hW.out, hL.out, hA2.out⟩
          case measure => simp [intOf]; omega
    · obtain rfl : k = l.length := by omega
      replace hW := Lib.hid hW
      replace hL := Lib.hid hL
      replace hu := Lib.hid hu
      go_wp2
      go_loopw [3, 6] (fun s3 s6 wr => ∃ (a : Nat) (out : List ByteArray), a ≤ out.length ∧ s6 = .int .i64 a ∧ LW w s3 out wr ∧ LeftL l out ∧ iniTo l out l.length ∧ groTo l out a) (fun _ i _ => 31 - (intOf i).toNat)
      case atStart => exact ⟨0, out, Nat.zero_le _, rfl, hW.out, hL.out, hu.out, fun i hi => absurd hi (by omega)⟩
      case round =>
        clear hW hL hu
        obtain ⟨a, out2, ha, rfl, hW, hL, hu, hg⟩ := hrel
        obtain ⟨A4, c4, rfl, -⟩ := hW.own.strs
        have h30 := HP.out out2 hL
        by_cases hlt : a < out2.length
        · have hda := hL.dg _ (getD_mem hlt)
          have G0 := Lib.hid (⟨hL, hu, hg, fun i hi => absurd hi (by omega), hlt, rfl⟩ : GroL l out2 (out2.getD a ByteArray.empty) a 0)
          have hsz := HDS.out _ hda
          generalize out2.getD a ByteArray.empty = d at *
          replace hW := Lib.hid hW
          replace hda := Lib.hid hda
          clear hL hu hg
          go_wp2
          go_loopw [3, 7] (fun s3 s7 wr => ∃ (j : Nat) (out' : List ByteArray), j ≤ l.length ∧ s7 = .int .i64 j ∧ LW w s3 out' wr ∧ GroL l out' d a j) (fun _ i _ => l.length - (intOf i).toNat)
          case atStart => exact ⟨0, out2, Nat.zero_le _, rfl, hW.out, G0.out⟩
          case round =>
            clear hW G0
            obtain ⟨j, out3, hj, rfl, hW, hG⟩ := hrel
            obtain ⟨A5, c5, rfl, -⟩ := hW.own.strs
            have h30b := HP.out out3 hG.left
            by_cases hjt : j < l.length
            · obtain ⟨b, o, rfl, hbo, hc⟩ := hat.out (by omega)
              have hcy := Lib.hid (hc j hjt)
              have cj := (hW.low.cell (p := ⟨b, o + j, none⟩) hbo).trans (hc j hjt)
              have hzy := HLn.out j hjt
              have D1 := Lib.hid (HDG.out j d hjt hda.out)
              have D2 := Lib.hid (HDE.out j d hjt hda.out)
              have HGo := Lib.hid (fun out' (h : GroL l out' d a j) => h.go)
              obtain ⟨b5, o5, rfl, cd⟩ := hW.cellAt hG.at_
              rw [hG.is_] at cd
              have hal : a < out3.length := hG.at_
              generalize l.getD j ByteArray.empty = y at *
              have HB := Lib.hid (fun W => begins_any y d W (by omega) (by omega))
              have HB2 := Lib.hid (fun W => begins_any d y W (by omega) (by omega))
              replace hG := Lib.hid hG
              replace hW := Lib.hid hW
              replace hc := Lib.hid hc
              go_upto_region 16 with (fail)
              go_quiet ((go_at_call 53; exact quiet_same (HB.out _)))
              have hW3 := Lib.hid (hW.out.drewN nq)
              have cj3 : (wr.drewN nq).cell? ⟨b, o + j, none⟩ = some (.string y) := cj
              have cd3 : (wr.drewN nq).cell? ⟨b5, o5 + a, none⟩ = some (.string d) := cd
              clear cj cd hW
              generalize wr.drewN nq = W at *
              go_upto_if 67 with (fail)
              go_cut [3] (fun s3 wx => ∃ out', LW w s3 out' wx ∧ GroL l out' d a j ∧ (beg y d = true → rest y d ∈ out'))
              case first =>
                cases hb : beg y d
                · replace hb := Lib.hid hb
                  go_wp2
                  go_meet
                  exact ⟨out3, hW3.out, hG.out, fun h => by rw [hb.out] at h; cases h⟩
                · have hyd := beg_le hb
                  have hd := D1.out hb
                  have hG3 := Lib.hid (hG.out.put hd)
                  replace hb := Lib.hid hb
                  clear hd
                  go_upto_region 17 with (fail)
                  go_region_law (first
                    | (go_simp; go_at_call 67; refine (put_any w.heap.size (.slice (some ⟨b5, o5, none⟩) out3.length c5) out3 (rest y d) _ (by first | exact hW3.out.drew.own | exact hW3.out.own) (by first | exact hW3.out.drew.low.size | exact hW3.out.low.size) (by omega)).mono ?_; rintro e V9 ⟨v9, rfl, ho9, hg9, -⟩; have hg9' : W.grownBy V9 (Value.slice (some ⟨b5, o5, none⟩) out3.length c5).ownBlock := ⟨hg9.os, hg9.tape, hg9.output, hg9.size, hg9.block⟩; have hW9 := Lib.hid (hW3.out.turn ho9 hg9'); clear ho9 hg9 hg9'))
                  all_goals
                    go_wp2
                    go_meet
                    exact ⟨_, hW9.out, hG3.out, fun _ => put_self⟩
              case rest =>
                clear hW3 cj3 cd3 hG h30b hal D1
                obtain ⟨out4, hW, hG, hin⟩ := hcut
                obtain ⟨A6, c6, rfl, -⟩ := hW.own.strs
                have h30b := HP.out out4 hG.left
                obtain ⟨b6, o6, rfl, cd⟩ := hW.cellAt hG.at_
                rw [hG.is_] at cd
                have hal : a < out4.length := hG.at_
                have cj := (hW.low.cell (p := ⟨b, o + j, none⟩) hbo).trans hcy.out
                replace hG := Lib.hid hG
                replace hW := Lib.hid hW
                replace hin := Lib.hid hin
                go_upto_region 18 with (fail)
                go_quiet ((go_at_call 53; exact quiet_same (HB2.out _)))
                have hW3 := Lib.hid (hW.out.drewN nq)
                have cj3 : (wc.drewN nq).cell? ⟨b, o + j, none⟩ = some (.string y) := cj
                have cd3 : (wc.drewN nq).cell? ⟨b6, o6 + a, none⟩ = some (.string d) := cd
                clear cj cd hW
                generalize wc.drewN nq = W2 at *
                cases hb : beg d y
                · have hg := Lib.hid (HGo.out out4 hG.out hin.out (fun h => by rw [hb] at h; cases h))
                  replace hb := Lib.hid hb
                  go_wp2
                  go_roundw
                  case rel => exact ⟨j+1, out4, by omega, by go_num, hW3.out, hg.out⟩
                  case measure => simp [intOf]; omega
                · have hyd := beg_le hb
                  have hd := D2.out hb
                  have hg := Lib.hid (HGo.out _ (hG.out.put hd) (fun h => put_sub _ (hin.out h)) (fun _ => put_self))
                  replace hb := Lib.hid hb
                  clear hd
                  go_upto_region 19 with (fail)
                  go_region_law (first
                    | (go_simp; go_at_call 67; refine (put_any w.heap.size (.slice (some ⟨b6, o6, none⟩) out4.length c6) out4 (rest d y) _ (by first | exact hW3.out.drew.own | exact hW3.out.own) (by first | exact hW3.out.drew.low.size | exact hW3.out.low.size) (by omega)).mono ?_; rintro e V9 ⟨v9, rfl, ho9, hg9, -⟩; have hg9' : W2.grownBy V9 (Value.slice (some ⟨b6, o6, none⟩) out4.length c6).ownBlock := ⟨hg9.os, hg9.tape, hg9.output, hg9.size, hg9.block⟩; have hW9 := Lib.hid (hW3.out.turn ho9 hg9'); clear ho9 hg9 hg9'))
                  all_goals
                    go_wp2
                    go_roundw
                    case rel => exact ⟨j+1, _, by omega, by go_num, hW9.out, hg.out⟩
                    case measure => simp [intOf]; omega
            · obtain rfl : j = l.length := by omega
              have hlt3 := hG.at_
              have hf := Lib.hid hG.end_
              have hl3 := Lib.hid hG.left
              have hi3 := Lib.hid hG.ini
              replace hW := Lib.hid hW
              clear hG
              go_wp2
              go_roundw
              case rel => exact ⟨a+1, out3, by omega, by go_num, hW.out, hl3.out, hi3.out, hf.out⟩
              case measure => simp [intOf]; omega
        · obtain rfl : a = out2.length := by omega
          replace hW := Lib.hid hW
          replace hL := Lib.hid hL
          replace hu := Lib.hid hu
          replace hg := Lib.hid hg
          go_wp2
          go_ret
          exact ⟨_, out2, rfl, hW.out.own, hW.out.low, hL.out, hu.out, hg.out⟩
end Go.Proofs.Ytbghgpgpljdjkaa
