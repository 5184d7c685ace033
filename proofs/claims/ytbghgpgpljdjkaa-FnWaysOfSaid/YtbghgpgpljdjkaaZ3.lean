/-
  The program's ReadableOk: a list of what is left and is still to be looked at, and a map of what was seen.
-/
import Derived.Test.YtbghgpgpljdjkaaZ2
import Derived.Deep.LoopGhost
import Derived.Maps.OwnOps
namespace Go.Proofs.Ytbghgpgpljdjkaa
open Go.RowKit Go.WideMaps Go.Maps

/-- The map of what was seen, the last one first. -/
def seenD : List ByteArray → DataW Unit
  | [] => .map []
  | x :: ks => (seenD ks).put (keyL x) (.lit (.bool true))
theorem seenD_tidy : ∀ ks, Tidy (seenD ks)
  | [] => tidy_empty
  | _ :: ks => (seenD_tidy ks).put (keyL_is _) _
theorem seen_yes {x : ByteArray} (z : DataW Unit) : ∀ {ks : List ByteArray}, x ∈ ks → (seenD ks).atKey (keyL x) z = .lit (.bool true)
  | y :: ks, h => by
    by_cases e : x = y
    · subst e
      exact atKey_put_same (seenD_tidy ks).isMap (keyL_is _) _ _
    · show ((seenD ks).put _ _).atKey _ _ = _
      rw [atKey_put_other (keyL_inj e)]
      exact seen_yes z ((List.mem_cons.1 h).resolve_left e)
theorem seen_no {x : ByteArray} (z : DataW Unit) : ∀ {ks : List ByteArray}, x ∉ ks → (seenD ks).atKey (keyL x) z = z
  | [], _ => rfl
  | y :: ks, h => by
    have e : x ≠ y := fun e => h (by simp [e])
    show ((seenD ks).put _ _).atKey _ _ = _
    rw [atKey_put_other (keyL_inj e)]
    exact seen_no z (fun hh => h (by simp [hh]))
theorem zeroBool (w : World) : (zeroValue 4).run Try.prog w = .ok (.bool false) w := by kernel_rfl
theorem run_makeMap_0 {P : Program} (t k e : TypeId) (_ht : P.underlying t = some (.map k e)) (w : World) :
    (Instr.makeMap t none).run P w = .ok (.map (some w.heap.size)) (w.alloc (.map #[] 0)) := by
  simp [Instr.makeMap]
theorem wpList_lookup_bool {P : Program} (w : World) {ops : Array Oper} {rest : List Oper} {o : Oper} {a : Act} {Q : Exit → Act → World → Prop}
    (hg : o.guard = none) (m x : Operand) (t : TypeId) (hop : o.op = Op.lookup t m x false)
    (k e : TypeId) (K : Keyed P k) (ht : P.underlying t = some (.map k e)) (he : P.underlying e = some .bool) (hz : (zeroValue e).run P w = .ok (.bool false) w) (b n : Nat) (D : DataW Unit)
    (hm : a.eval m = .map (some b)) (hown : w.ownsMap P k (plainElem P e) b n D) (key : Value) (kl : Lit) (hx : a.eval x = key) (hkey : keyOf P k key = some kl) (c : Bool) (hc : D.atKey kl (.lit (.bool false)) = .lit (.bool c))
    (hK : wpList P ops Q rest (a.put o.dst (.bool c)) w) :
    wpList P ops Q (o :: rest) a w := by
  refine wpList_plain hg fun K' hK' => ?_
  obtain ⟨v, ps, hrun, hv⟩ := hown.lookup K ht hz (plainElem_bool he false) hkey
  rw [hc] at hv
  have hvc : v = .bool c := by
    unfold plainElem at hv
    rw [he] at hv
    cases v <;> simp_all
  subst hvc
  unfold Oper.wp
  simp [execOp, hop, hm, hx, hrun, Result.andThen]
  exact hK' _ _ hK

theorem text_none' (u : ByteArray) : u.toList.isEmpty = decide (u = ByteArray.empty) := by
  rw [← str_eq, show ByteArray.empty.toList = [] by unfold ByteArray.toList; rw [ByteArray.toList.loop]; rfl]
  cases u.toList <;> rfl
/-- What holds while the list is worked through. -/
structure RS (l ws ks : List ByteArray) : Prop where
  nd : ks.Nodup
  dk : ∀ d ∈ ks, DangB l d
  ne : ByteArray.empty ∉ ks
  dw : ∀ d ∈ ws, DangB l d
  ini : ∀ d ∈ pairsTo l l.length, d ∈ ws ∨ d ∈ ks
  clo : ∀ d ∈ ks, ∀ x ∈ leftL l d l.length, x ∈ ws ∨ x ∈ ks
theorem mem_last {ws : List ByteArray} (h : 0 < ws.length) {x : ByteArray} (hx : x ∈ ws) : x ∈ ws.take (ws.length - 1) ∨ x = ws.getD (ws.length - 1) ByteArray.empty := by
  obtain ⟨k, hk, rfl⟩ := mem_getD hx
  by_cases e : k = ws.length - 1
  · subst e; exact .inr rfl
  · left
    have hl : k < (ws.take (ws.length - 1)).length := by rw [List.length_take]; omega
    have := getD_mem hl
    rwa [show (ws.take (ws.length - 1)).getD k ByteArray.empty = ws.getD k ByteArray.empty by
      simp [List.getD_eq_getElem?_getD, show k < ws.length - 1 by omega, hk]] at this
theorem leftL_mem {l : List ByteArray} {s d : ByteArray} : d ∈ leftL l s l.length ↔ ∃ u ∈ l, d ∈ leave1 s u := by
  unfold leftL; rw [List.take_length, List.mem_flatMap]
theorem leftL_dang {l : List ByteArray} {s d : ByteArray} (hs : DangB l s) (h : d ∈ leftL l s l.length) : DangB l d := by
  obtain ⟨u, hu, hd⟩ := leftL_mem.1 h
  rcases leave_mem hd with ⟨hb, rfl⟩ | ⟨hb, rfl⟩
  · exact dang_eat hs hu hb
  · exact dang_grow hs hu hb
theorem RS.start {l : List ByteArray} (hc : codeOk l = true) : RS l (pairsTo l l.length) [] :=
  ⟨List.nodup_nil, by simp, by simp, fun _ h => pairs_dang hc h, fun _ h => .inl h, by simp⟩
theorem RS.seen {l ws ks : List ByteArray} (h : RS l ws ks) (h0 : 0 < ws.length) (hk : ws.getD (ws.length - 1) ByteArray.empty ∈ ks) : RS l (ws.take (ws.length - 1)) ks :=
  ⟨h.nd, h.dk, h.ne, fun d hd => h.dw d (List.mem_of_mem_take hd), fun d hd => by
    rcases h.ini d hd with h1 | h1
    · rcases mem_last h0 h1 with h2 | rfl
      · exact .inl h2
      · exact .inr hk
    · exact .inr h1, fun d hd x hx => by
    rcases h.clo d hd x hx with h1 | h1
    · rcases mem_last h0 h1 with h2 | rfl
      · exact .inl h2
      · exact .inr hk
    · exact .inr h1⟩
theorem RS.new {l ws ks : List ByteArray} (h : RS l ws ks) (h0 : 0 < ws.length) (hk : ws.getD (ws.length - 1) ByteArray.empty ∉ ks) (he : ws.getD (ws.length - 1) ByteArray.empty ≠ ByteArray.empty) :
    RS l (ws.take (ws.length - 1) ++ leftL l (ws.getD (ws.length - 1) ByteArray.empty) l.length) (ws.getD (ws.length - 1) ByteArray.empty :: ks) := by
  have hd0 := h.dw _ (getD_mem (show ws.length - 1 < ws.length by omega))
  refine ⟨List.nodup_cons.2 ⟨hk, h.nd⟩, fun d hd => ?_, fun hm => ?_, fun d hd => ?_, fun d hd => ?_, fun d hd x hx => ?_⟩
  · rcases List.mem_cons.1 hd with rfl | hd
    · exact hd0
    · exact h.dk d hd
  · rcases List.mem_cons.1 hm with e | hm
    · exact he e.symm
    · exact h.ne hm
  · rcases List.mem_append.1 hd with hd | hd
    · exact h.dw d (List.mem_of_mem_take hd)
    · exact leftL_dang hd0 hd
  · rcases h.ini d hd with h1 | h1
    · rcases mem_last h0 h1 with h2 | rfl
      · exact .inl (List.mem_append_left _ h2)
      · exact .inr (by simp)
    · exact .inr (List.mem_cons_of_mem _ h1)
  · rcases List.mem_cons.1 hd with rfl | hd
    · exact .inl (List.mem_append_right _ hx)
    · rcases h.clo d hd x hx with h1 | h1
      · rcases mem_last h0 h1 with h2 | rfl
        · exact .inl (List.mem_append_left _ h2)
        · exact .inr (by simp)
      · exact .inr (List.mem_cons_of_mem _ h1)
theorem RS.end_ {l ks : List ByteArray} (hc : codeOk l = true) (h : RS l [] ks) : readOk l = true := by
  refine readOk_yes (S := ks) hc (fun u hu v hv hne hb => ?_) (fun d hd u hu hb => ?_) (fun d hd u hu hb => ?_) h.ne
  · exact (h.ini _ (pairs_all hu hv hne hb)).resolve_left (by simp)
  · exact (h.clo d hd _ (leftL_mem.2 ⟨u, hu, leave_grow hb⟩)).resolve_left (by simp)
  · exact (h.clo d hd _ (leftL_mem.2 ⟨u, hu, leave_eat hb⟩)).resolve_left (by simp)
theorem RS.few {l ws ks : List ByteArray} (hc : codeOk l = true) (h : RS l ws ks) : ks.length ≤ 30 := dang_few hc h.nd h.dk

/-- The list and the map, in blocks of their own. -/
structure WM (w : World) (v : Value) (ws : List ByteArray) (g : Nat) (ks : List ByteArray) (wr : World) : Prop where
  lw : LW w v ws wr
  mp : wr.ownsMap Try.prog 9 (plainElem Try.prog 4) g ks.length (seenD ks)
  ge : w.heap.size ≤ g
  ap : ∀ k, v.ownBlock = some k → k ≠ g
theorem own_take {w : World} {B : Nat} {t : TypeId} {A : Option Addr} {n c m : Nat} {xs : List Value} (h : w.ownsRow B t 1 (.slice A n c) n xs) (h0 : 0 < n) (hm : m ≤ n) : w.ownsRow B t 1 (.slice A m c) m (xs.take m) := by
  rcases h.2 with ⟨-, h2⟩ | ⟨g, cap, cur, e, hb, hg, hnc, hcm, hcs, htake⟩
  · omega
  · cases e
    refine ⟨by have := h.1; rw [List.length_take]; omega, .inr ⟨g, c, cur, rfl, hb, hg, by omega, hcm, hcs, ?_⟩⟩
    rw [← htake, List.take_take]
    congr 1; omega
theorem WM.pop {w wr : World} {A : Option Addr} {c g : Nat} {ws ks : List ByteArray} (h : WM w (.slice A ws.length c) ws g ks wr) (h0 : 0 < ws.length) : WM w (.slice A (ws.length - 1) c) (ws.take (ws.length - 1)) g ks wr :=
  ⟨⟨by
    have := own_take h.lw.own h0 (show ws.length - 1 ≤ ws.length by omega)
    unfold OwnStrs
    rw [List.length_take, Nat.min_eq_left (by omega), List.map_take]
    exact this, h.lw.low⟩, h.mp, h.ge, fun k hk => h.ap k (by cases A <;> exact hk)⟩
theorem own_kept1 {a b : World} {B n : Nat} {e : TypeId} {u : Value} {xs : List Value} {g : Nat} (h : a.ownsRow B e 1 u n xs) (hg : a.grownBy b (some g)) (hne : ∀ k, u.ownBlock = some k → k ≠ g) : b.ownsRow B e 1 u n xs := by
  refine h.kept hg ?_
  cases hv : u.ownBlock with
  | none => exact .inl rfl
  | some k => exact .inr fun e => hne k hv (by cases e; rfl)
theorem WM.put {w wr w' : World} {v : Value} {g : Nat} {ws ks : List ByteArray} {x : ByteArray} (h : WM w v ws g ks wr) (hm : w'.ownsMap Try.prog 9 (plainElem Try.prog 4) g (ks.length + 1) ((seenD ks).put (keyL x) (.lit (.bool true)))) (hg : wr.grownBy w' (some g)) : WM w v ws g (x :: ks) w' :=
  ⟨⟨own_kept1 h.lw.own hg h.ap, h.lw.low.grown hg h.lw.low.size (fun k e => by cases e; exact h.ge)⟩, hm, h.ge, h.ap⟩
theorem WM.below {w wr w' : World} {v : Value} {g : Nat} {ws ks : List ByteArray} (h : WM w v ws g ks wr) (hb : Below wr.heap.size wr w') : WM w v ws g ks w' :=
  ⟨h.lw.below hb, h.mp.kept (row := none) (grown_of_below none hb) (by simp), h.ge, h.ap⟩
theorem WM.turn {w wr w' : World} {v v' : Value} {g : Nat} {ws ys ks : List ByteArray} (h : WM w v ws g ks wr) (ho : OwnStrs w' w.heap.size v' ys) (hg : wr.grownBy w' v.ownBlock) (hr : OnRow wr v v') : WM w v' ys g ks w' :=
  ⟨h.lw.turn ho hg, h.mp.kept hg (fun e => h.ap g e.symm rfl), h.ge, fun k hk e => by
    rcases hr with e2 | ⟨k', e2, hk'⟩
    · exact h.ap k (by rw [← e2]; exact hk) e
    · rw [e2] at hk
      cases hk
      have := h.mp.lt
      omega⟩

set_option maxRecDepth 100000 in
set_option maxHeartbeats 2000000 in
theorem implReadableOk_any (A : Option Addr) (n c : Nat) (l : List ByteArray) (w : World) (h : Strs w A n c l) (hn : n ≤ 2097152) (hs : ∀ x ∈ l, x.size ≤ 1048576) :
    Calls Try.prog 27 #[.slice A n c] w fun e w' => e = .returned (.bool (readOk l)) ∧ Below w.heap.size w w' := by
  obtain ⟨i0, hi, hz0, hz1, hz2⟩ := info_parts str_info
  have HC := implCodeOk_any A n c l w h hn hs
  cases hok : codeOk l
  · have hr := Lib.hid (readOk_code hok)
    rw [hok] at HC
    replace HC := Lib.hid HC
    replace hok := Lib.hid hok
    go_enter Try.func27, Try.ntmps27
    go_wp2_with (fail)
    refine HC.out.mono ?_
    rintro e w1 ⟨rfl, b1⟩
    replace b1 := Lib.hid b1
    go_wp2
    go_ret
    exact ⟨ret_bool hr.out.symm, b1.out⟩
  · have hl6 := (codeOk_iff.1 hok).1.2
    have hln := h.len
    have KP := Lib.hid (fun W (hb : Below w.heap.size w W) => leftOfPairs_any A n c l W (h.below hb (Nat.le_refl _)) (by omega) hs)
    have KL := Lib.hid (fun d W (hb : Below w.heap.size w W) (hz : d.size ≤ 1048576) => leftWith_any A n c l d W (h.below hb (Nat.le_refl _)) (by omega) hs hz)
    have hmm := fun W => run_makeMap_0 (P := Try.prog) 49 9 4 Try.underlying49 W
    have hst := Lib.hid (RS.start hok)
    have hpl := pairs_len l hl6
    have HFew := Lib.hid (fun ws ks (h : RS l ws ks) => h.few hok)
    have HSz := Lib.hid (fun d (h : DangB l d) => dang_size hok h)
    have HEnd := Lib.hid (fun ks (h : RS l [] ks) => h.end_ hok)
    have HLl := Lib.hid (fun d => leftL_len l d l.length (Nat.le_refl _))
    rw [hok] at HC
    generalize pairsTo l l.length = ps at *
    replace HC := Lib.hid HC
    replace hok := Lib.hid hok
    replace hln := Lib.hid hln
    clear h hs
    go_enter Try.func27, Try.ntmps27
    go_wp2_with (fail)
    refine HC.out.mono ?_
    rintro e w1 ⟨rfl, b1⟩
    have KP1 := Lib.hid (KP.out w1 b1)
    replace b1 := Lib.hid b1
    clear HC KP
    go_wp2_with (fail)
    refine KP1.out.mono ?_
    rintro e w2 ⟨v2, rfl, o2, b2⟩
    obtain ⟨A2, c2, rfl, -⟩ := o2.strs
    have hB2 := b1.out.trans (b2.mono b1.out.size)
    have hW0 : WM w (.slice A2 ps.length c2) ps w2.heap.size [] (w2.alloc (.map #[] 0)) := ⟨⟨(o2.mono b1.out.size).below ((Below.refl _ _).alloc (Nat.le_refl _) _) (Nat.le_refl _), hB2.alloc hB2.size _⟩, World.ownsMap_made _ _ _ _, hB2.size, fun k hk e => by have := (World.ownsRow.lt o2 k hk).2; omega⟩
    replace hW0 := Lib.hid hW0
    clear o2 b2 KP1 hB2 b1
    go_wp2
    generalize w2.alloc (.map #[] 0) = W2 at *
    generalize w2.heap.size = gm at *
    go_loopg [3] 300 (fun gg s3 wr => ∃ (ws ks : List ByteArray), WM w s3 ws gm ks wr ∧ RS l ws ks ∧ 7 * (30 - ks.length) + ws.length ≤ gg ∧ ws.length ≤ 36 + 6 * ks.length)
    case atStart => exact ⟨ps, [], hW0.out, hst.out, by simp; omega, by simp; omega⟩
    case round =>
      clear hW0 hst
      obtain ⟨ws, ks, hW, hR, hg, hwl⟩ := hrel
      obtain ⟨A3, c3, rfl, hS3⟩ := hW.lw.own.strs
      have hkl := HFew.out ws ks hR
      by_cases h0 : 0 < ws.length
      · have h0' : (0 : Int) < (ws.length : Int) := by omega
        obtain ⟨b3, o3, rfl, hb3, hc3⟩ := hS3.at_ h0
        have hle3 := hS3.le
        have ck := hc3 (ws.length - 1) (by omega)
        have hW1 := Lib.hid (hW.pop h0)
        have hd0 := hR.dw _ (getD_mem (show ws.length - 1 < ws.length by omega))
        have hdz := HSz.out _ hd0
        have HN := Lib.hid (fun hk he => hR.new h0 hk he)
        have HY := Lib.hid (fun hk => hR.seen h0 hk)
        have hNo := Lib.hid (fun he => readOk_no hd0 he)
        have hll := HLl.out (ws.getD (ws.length - 1) ByteArray.empty)
        have hdz' := HLl
        clear hc3 hS3 hd0 hdz' hW hR
        generalize ws.getD (ws.length - 1) ByteArray.empty = d at *
        have htl : (ws.take (ws.length - 1)).length = ws.length - 1 := by rw [List.length_take]; omega
        generalize ws.take (ws.length - 1) = ws2 at *
        have e1 : (ws.length : Int) - 1 = ((ws.length - 1 : Nat) : Int) := by omega
        obtain ⟨m, hm⟩ : ∃ m : Nat, m = ws.length - 1 := ⟨_, rfl⟩
        have hm1 : (ws.length : Int) - 1 = (m : Int) := by omega
        rw [← hm] at hW1 ck htl
        have hmc : m ≤ c3 := by omega
        have hmc' : (m : Int) ≤ (c3 : Int) := by omega
        have hm0 : (0 : Int) ≤ (m : Int) := by omega
        have hml : (m : Int) < (ws.length : Int) := by omega
        have hw1 : IntKind.i64.wrap ((ws.length : Int) - 1) = (m : Int) := by rw [hm1]; exact IntWalk.i64_in _ (by omega)
        have hkey := Lib.hid (keyOf_string_mk (P := Try.prog) Try.underlying9 (show d.size ≤ maxLen by unfold maxLen; omega))
        replace htl := Lib.hid htl
        clear e1
        by_cases hde : d = ByteArray.empty
        · have he : d.toList.isEmpty = true := by rw [text_none']; exact decide_eq_true hde
          have hr := Lib.hid (hNo.out hde)
          replace hde := Lib.hid hde
          replace hm := Lib.hid hm
          go_wp2
          go_ret
          exact ⟨ret_bool hr.out.symm, hW1.out.lw.low⟩
        · have he : d.toList.isEmpty = false := by rw [text_none']; exact decide_eq_false hde
          by_cases hdk : d ∈ ks
          · have hat := Lib.hid (seen_yes (.lit (.bool false)) hdk)
            have hR2 := Lib.hid (HY.out hdk)
            replace hde := Lib.hid hde
            replace hdk := Lib.hid hdk
            replace hm := Lib.hid hm
            go_wp2_with (at_lookup; refine wpList_lookup_bool _ rfl _ _ 49 rfl 9 4 keyLaw Try.underlying49 Try.underlying4 (zeroBool _) gm _ _ rfl hW1.out.mp _ _ rfl hkey.out true hat.out ?_)
            go_roundg (7 * (30 - ks.length) + ws2.length)
            case measure => have := htl.out; have := hm.out; omega
            case rel => exact ⟨ws2, ks, hW1.out, hR2.out, by have := htl.out; have := hm.out; omega, by have := htl.out; have := hm.out; omega⟩
          · have hat := Lib.hid (seen_no (.lit (.bool false)) hdk)
            have hR2 := Lib.hid (HN.out hdk hde)
            have hk30 := HFew.out _ _ hR2.out
            rw [List.length_cons] at hk30
            replace hde := Lib.hid hde
            replace hdk := Lib.hid hdk
            replace hm := Lib.hid hm
            rw [← htl.out] at hW1
            generalize hys : leftL l d l.length = ys at *
            replace hys := Lib.hid hys
            have hwsm := Lib.hid (show ws2.length + 1 = ws.length by have := htl.out; have := hm.out; omega)
            go_wp2_with (first
              | (at_lookup; refine wpList_lookup_bool _ rfl _ _ 49 rfl 9 4 keyLaw Try.underlying49 Try.underlying4 (zeroBool _) gm _ _ rfl hW1.out.mp _ _ rfl hkey.out false hat.out ?_)
              | (at_mapUpdate; refine wpList_mapUpdate_own _ rfl _ _ _ 49 rfl 9 4 keyLaw Try.underlying49 _ gm _ _ rfl hW1.out.mp (by unfold maxLen; omega) _ _ _ rfl rfl hkey.out _ [] (plainElem_bool Try.underlying4 true) ?_; intro w4 hown4 hgrow4; have hW4 := Lib.hid (hW1.out.put hown4 hgrow4); clear hown4 hgrow4))
            have KLd := KL.out d w4 hW4.out.lw.low (by omega)
            rw [hys.out] at KLd
            replace KLd := Lib.hid KLd
            go_wp2_with (fail)
            refine KLd.out.mono ?_
            rintro e w5 ⟨v5, rfl, o5, b5⟩
            obtain ⟨A5, c5, rfl, s5⟩ := o5.strs
            have hW5 := hW4.out.below b5
            have hsrc := Lib.hid s5.src
            have hW5B := hW5.lw.low.size
            have m1 := Lib.hid (show ws2.length + ys.length ≤ maxLen by have := hwsm.out; unfold maxLen; omega)
            have m2 := Lib.hid (show (ws2.length + ys.length) * 16 ≤ 140737488355328 by have := hwsm.out; omega)
            have hW5o := Lib.hid hW5.lw.own
            replace hW5 := Lib.hid hW5
            clear KLd b5 o5 s5 hW4 hW1 ck
            rw [htl.out] at hW5 hW5o
            go_wp2_with (at_builtin; refine wpList_app _ rfl (.tmp 34) (.tmp 37) _ rfl w.heap.size 9 i0 _ 16 Try.underlying23 hi hz0 hz1 hz2 rfl (.slice (some ⟨b3, o3, none⟩) m c3) ws2.length _ rfl hW5o.out A5 ys.length c5 _ rfl hsrc.out m1.out m2.out hW5B ?_; intro v6 w6 ho6 hg6 hat6)
            have ho : OwnStrs w6 w.heap.size v6 (ws2 ++ ys) := by
              unfold OwnStrs
              simpa using ho6
            have hO : OnRow w5 (.slice (some ⟨b3, o3, none⟩) m c3) v6 := by
              rcases hat6 with e | e
              · exact .inl e
              · exact .inr ⟨_, e, Nat.le_refl _⟩
            have hW6 := Lib.hid (hW5.out.turn ho hg6 hO)
            clear ho6 hg6 hat6 ho hO hW5 hW5o
            go_roundg (7 * (30 - (ks.length + 1)) + (ws2.length + ys.length))
            case measure => have := hwsm.out; omega
            case rel => exact ⟨ws2 ++ ys, d :: ks, hW6.out, hR2.out, by simp, by have := hwsm.out; simp; omega⟩
      · have hws : ws = [] := List.eq_nil_of_length_eq_zero (by omega)
        subst hws
        have hr := Lib.hid (HEnd.out ks hR)
        replace hW := Lib.hid hW
        clear hR
        go_wp2
        go_ret
        exact ⟨ret_bool hr.out.symm, hW.out.lw.low⟩
end Go.Proofs.Ytbghgpgpljdjkaa
