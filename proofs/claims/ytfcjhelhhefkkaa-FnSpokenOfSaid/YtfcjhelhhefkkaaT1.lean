/-
  The program's runs of a text: the contract of runsIn, and of the function over which one ranges.
-/
import Derived.Test.YtfcjhelhhefkkaaRange
import Derived.Test.YtfcjhelhhefkkaaS2
namespace Go.Proofs.Ytfcjhelhhefkkaa
open Go Go.RowKit Go.Shelf
attribute [local go_sem] Oper.semAt_some

theorem runsIn_any (s : ByteArray) (w : World) :
    Calls Try.prog 54 #[.string s] w fun e w' => e = .returned (.func (.func 76) #[] #[.pointer (some ⟨w.heap.size, 0, none⟩)]) ∧ w' = w.alloc (.cells #[.string s] 9) := by
  go_enter Try.func54, Try.ntmps54
  go_wp2
  go_ret
  exact ⟨rfl, rfl⟩

/-- A run as it is yielded. -/
def encRun {Q : RunB → Prop} (x : { x : RunB // Q x }) : Array Value := #[.agg #[.int .i64 (x.1.1 : Int), .int .i64 ((x.1.2.toNat : Int) - 48)]]
/-- The block of the text stands. -/
def KeptAt (B : Nat) (W W' : World) : Prop := W'.heap[B]? = W.heap[B]?
theorem KeptAt.cell {B : Nat} {W W' : World} (h : KeptAt B W W') {i : Nat} {v : Value} (hc : W.cell? ⟨B, i, none⟩ = some v) : W'.cell? ⟨B, i, none⟩ = some v := by
  unfold World.cell? at hc ⊢
  simp only at hc ⊢
  rw [show W'.heap[B]? = W.heap[B]? from h]; exact hc
theorem drop_rep {l : List UInt8} {f k : Nat} {c : UInt8} (hk : k < l.length) (hfk : f ≤ k) (h : ∀ i (hi : i < l.length), f ≤ i → i ≤ k → l[i] = c) : l.drop f = List.replicate (k + 1 - f) c ++ l.drop (k + 1) := by
  obtain ⟨d, rfl⟩ : ∃ d, k = f + d := ⟨k - f, by omega⟩
  induction d generalizing f with
  | zero =>
    rw [show f + 0 + 1 - f = 1 by omega, List.drop_eq_getElem_cons (by omega), h f (by omega) (Nat.le_refl _) (by omega)]
    rfl
  | succ d ih =>
    have := ih (f := f + 1) (by omega) (by omega) (fun i hi h1 h2 => h i hi (by omega) (by omega))
    rw [List.drop_eq_getElem_cons (by omega), h f (by omega) (Nat.le_refl _) (by omega), this, show f + 1 + d + 1 = f + (d + 1) + 1 by omega, show f + (d + 1) + 1 - f = (f + (d + 1) + 1 - (f + 1)) + 1 by omega, List.replicate_succ]
    rfl
theorem runs_drop {l : List UInt8} {f k : Nat} {c : UInt8} (hk : k < l.length) (hfk : f ≤ k) (h : ∀ i (hi : i < l.length), f ≤ i → i ≤ k → l[i] = c) (hn : ∀ (h1 : k + 1 < l.length), l[k + 1] ≠ c) :
    runs (l.drop f) = (k + 1 - f, c) :: runs (l.drop (k + 1)) := by
  rw [drop_rep hk hfk h, show k + 1 - f = k - f + 1 by omega]
  refine runs_rep _ c ?_ _ rfl
  intro x hx
  have := runs_head (l.drop (k + 1))
  rw [hx] at this
  intro e
  rw [Option.map_some, e] at this
  by_cases h1 : k + 1 < l.length
  · rw [List.drop_eq_getElem_cons h1] at this
    rw [List.head?_cons] at this
    exact hn h1 (Option.some.inj this).symm
  · rw [List.drop_of_length_le (by omega)] at this; cases this

/-- Where one stands: the runs that have come, from where the present one is, up to where. -/
structure At (s : ByteArray) (pre : List RunB) (f k : Nat) : Prop where
  fk : f ≤ k
  kn : k ≤ s.size
  rest : pre ++ runs ((tl s).drop f) = runs (tl s)
  same : ∀ (h : k < s.size) i (hi : i < s.size), f ≤ i → i ≤ k → s[i] = s[f]
  done : k = s.size → f = s.size
theorem At.start (s : ByteArray) : At s [] 0 0 := ⟨Nat.le_refl _, Nat.zero_le _, rfl, fun h i hi h1 h2 => by
  obtain rfl : i = 0 := by omega
  rfl, fun h => h⟩
theorem At.on {s : ByteArray} {pre : List RunB} {f k : Nat} (h : At s pre f k) (hk : k + 1 < s.size) (hf : f < s.size) (e : (s[k + 1]).toNat = (s[f]).toNat) : At s pre f (k + 1) :=
  ⟨by have := h.fk; omega, by omega, h.rest, fun h' i hi h1 h2 => by
    by_cases ei : i = k + 1
    · subst ei; exact UInt8.toNat_inj.1 e
    · exact h.same (by omega) i hi h1 (by omega), fun h' => by omega⟩
theorem At.run {s : ByteArray} {pre : List RunB} {f k : Nat} (h : At s pre f k) (hk : k < s.size) (hf : f < s.size) (hn : ∀ (h1 : k + 1 < s.size), ¬ (s[k + 1]).toNat = (s[f]).toNat) :
    runs ((tl s).drop f) = (k + 1 - f, s[f]) :: runs ((tl s).drop (k + 1)) :=
  runs_drop (by rw [tl_len]; exact hk) h.fk (fun i hi h1 h2 => h.same hk i (by rwa [tl_len] at hi) h1 h2) (fun h1 e => hn (by rwa [tl_len] at h1) (by rw [← tl_get]; exact congrArg UInt8.toNat e))
theorem At.next {s : ByteArray} {pre : List RunB} {f k : Nat} (h : At s pre f k) (hk : k < s.size) (hf : f < s.size) (hn : ∀ (h1 : k + 1 < s.size), ¬ (s[k + 1]).toNat = (s[f]).toNat) : At s (pre ++ [(k + 1 - f, s[f])]) (k + 1) (k + 1) :=
  ⟨Nat.le_refl _, hk, by rw [List.append_assoc, ← h.rest, h.run hk hf hn]; rfl, fun h' i hi h1 h2 => by
    obtain rfl : i = k + 1 := by omega
    rfl, fun h' => h'⟩

set_option maxRecDepth 100000 in
set_option maxHeartbeats 4000000 in
theorem runsIn1_stops (Q : RunB → Prop) (n : Nat) (s : ByteArray) (Bn : Nat) (w : World) (hs : s.size ≤ 2097152) (hBn : w.cell? ⟨Bn, 0, none⟩ = some (.string s)) (hQ : ∀ x ∈ runs (tl s), Q x) :
    SeqStopsK Fence.wide n Try.prog 76 #[.pointer (some ⟨Bn, 0, none⟩)] (encRun (Q := Q)) (KeptAt Bn) (fun xs => xs.map (·.1) = runs (tl s)) (fun pre => ∃ r, pre.map (·.1) ++ r = runs (tl s)) (runs (tl s)).length w := by
  intro l J Jx W hW hJo hJxo hY h0
  have hb0 : Bn < w.heap.size := lt_of_cell hBn
  refine callsIn_of_wp Try.func76 rfl trivial ?_ rfl
  simp only [Try.ntmps76, List.size_toArray, List.length_cons, List.length_nil, Nat.reduceAdd, Nat.reduceSub, Array.replicate_succ, Array.replicate_zero, List.push_toArray, List.append_toArray, List.nil_append, List.cons_append]
  have hB1 : W.cell? ⟨Bn, 0, none⟩ = some (.string s) := (hW.cell (p := ⟨Bn, 0, none⟩) hb0).trans hBn
  clear hBn
  replace hQ := Lib.hid hQ
  replace hJo := Lib.hid hJo
  replace hJxo := Lib.hid hJxo
  replace hW := Lib.hid hW
  gi_wp2
  gi_loopw [3, 7] (fun f i wr => ∃ (pre : List { x : RunB // Q x }) (fr k : Nat), f = .int .i64 fr ∧ i = .int .i64 k ∧ At s (pre.map (·.1)) fr k ∧ J pre wr ∧ wr.cell? ⟨Bn, 0, none⟩ = some (.string s))
    (fun _ i _ => s.size - (intOf i).toNat)
  case atStart => exact ⟨[], 0, 0, rfl, rfl, At.start s, h0, hB1⟩
  case round =>
    obtain ⟨pre, fr, k, rfl, rfl, hat, hJ, hbx⟩ := hrel
    have hfk := hat.fk
    have hkn := hat.kn
    by_cases hlt : k < s.size
    · have hf : fr < s.size := by omega
      replace hJ := Lib.hid hJ
      have hf' : (fr : Int) < (s.size : Int) := by omega
      have hk1 : ((k : Int) + 1).toNat = k + 1 := by omega
      by_cases hgo : ∃ (h1 : k + 1 < s.size), (s[k + 1]).toNat = (s[fr]).toNat
      · obtain ⟨h1, he⟩ := hgo
        have hat2 := Lib.hid (hat.on h1 hf he)
        have hk2 : (k : Int) + 1 < (s.size : Int) := by omega
        have hk3 : (0 : Int) ≤ (k : Int) + 1 := by omega
        clear hat hY
        gi_wp2
        gi_big_quiet_th (fail)
        replace hJ := Lib.hid (hJo.out _ wr (wr.drewN nq) none hJ.out ⟨rfl, rfl, rfl, Nat.le_refl _, fun _ _ _ => rfl⟩ (fun r e => by cases e))
        have hx : (wr.drewN nq).cell? ⟨Bn, 0, none⟩ = some (.string s) := hbx
        gi_wp2
        go_roundw
        case rel => exact ⟨pre, fr, k + 1, rfl, by go_num, hat2.out, hJ.out, hx⟩
        case measure => simp [intOf]; omega
      · have hn : ∀ (h1 : k + 1 < s.size), ¬ (s[k + 1]).toNat = (s[fr]).toNat := fun h1 e => hgo ⟨h1, e⟩
        have hrun := hat.run hlt hf hn
        have hnx := hat.next hlt hf hn
        have hrest := hat.rest
        rw [hrun] at hrest
        obtain ⟨T, hT⟩ : ∃ T, T = k + 1 - fr := ⟨_, rfl⟩
        have hT2 : (k : Int) + 1 - (fr : Int) = (T : Int) := by omega
        have hTw : IntKind.i64.wrap (T : Int) = (T : Int) := IntWalk.i64_in _ (by omega)
        have hbt := UInt8.toNat_lt s[fr]
        have hDw : IntKind.i64.wrap (((s[fr]).toNat : Int) - 48) = ((s[fr]).toNat : Int) - 48 := IntWalk.i64_in _ (by omega)
        have hDc : IntKind.i64.wrap ((s[fr]).toNat : Int) = ((s[fr]).toNat : Int) := IntWalk.i64_in _ (by omega)
        rw [← hT] at hrest hnx
        have hq : Q (T, s[fr]) := hQ.out _ (by rw [← hrest]; simp)
        have hlen : pre.length < (runs (tl s)).length := by rw [← hrest]; simp
        have hsp : ∃ r, (pre ++ [(⟨(T, s[fr]), hq⟩ : { x : RunB // Q x })]).map (·.1) ++ r = runs (tl s) := ⟨runs ((tl s).drop (k + 1)), by rw [← hrest]; simp⟩
        have hnx' : At s ((pre ++ [(⟨(T, s[fr]), hq⟩ : { x : RunB // Q x })]).map (·.1)) (k + 1) (k + 1) := by rw [List.map_append]; exact hnx
        replace hsp := Lib.hid hsp
        replace hnx := Lib.hid hnx'
        replace hlen := Lib.hid hlen
        replace hq := Lib.hid hq
        replace hT := Lib.hid hT
        clear hnx' hrest hrun hat
        by_cases h1 : k + 1 < s.size
        · have he := hn h1
          have hk2 : (k : Int) + 1 < (s.size : Int) := by omega
          have hk3 : (0 : Int) ≤ (k : Int) + 1 := by omega
          clear hn hgo
          gi_wp2
          gi_big_quiet_th (fail)
          replace hJ := Lib.hid (hJo.out _ wr (wr.drewN nq) none hJ.out ⟨rfl, rfl, rfl, Nat.le_refl _, fun _ _ _ => rfl⟩ (fun r e => by cases e))
          have hx : (wr.drewN nq).cell? ⟨Bn, 0, none⟩ = some (.string s) := hbx
          generalize wr.drewN nq = W1 at *
          obtain ⟨fn, tmps, assign, body, hy, hR⟩ := hY pre ⟨(T, s[fr]), hq.out⟩ W1 hJ.out hlen.out
          simp only [encRun] at hy
          have hR' := Lib.hid hR
          clear hR hbx
          gi_wp2
          refine ⟨fun h => absurd h (by decide), hR'.out.mono ?_⟩
          rintro e W3 (⟨rfl, hJ3, hk3⟩ | ⟨rfl, hJx3⟩)
          · have hbx3 := hk3.cell hx
            replace hJ3 := Lib.hid hJ3
            clear hk3
            gi_wp2
            go_roundw
            case rel => exact ⟨pre ++ [⟨(T, s[fr]), hq.out⟩], k + 1, k + 1, by go_num, by go_num, hnx.out, hJ3.out, hbx3⟩
            case measure => simp [intOf]; omega
          · replace hJx3 := Lib.hid hJx3
            gi_wp2
            refine bodyPost_ret (results_none rfl _ _ _) rfl ?_
            exact ⟨⟨_, rfl⟩, .inr ⟨_, hsp.out, hJx3.out⟩⟩
        · have hk2 : ¬ (k : Int) + 1 < (s.size : Int) := by omega
          have hk4 : decide ((k : Int) + 1 < (s.size : Int)) = false := decide_eq_false hk2
          clear hn hgo
          gi_wp2
          gi_big_quiet_th (fail)
          replace hJ := Lib.hid (hJo.out _ wr (wr.drewN nq) none hJ.out ⟨rfl, rfl, rfl, Nat.le_refl _, fun _ _ _ => rfl⟩ (fun r e => by cases e))
          have hx : (wr.drewN nq).cell? ⟨Bn, 0, none⟩ = some (.string s) := hbx
          generalize wr.drewN nq = W1 at *
          obtain ⟨fn, tmps, assign, body, hy, hR⟩ := hY pre ⟨(T, s[fr]), hq.out⟩ W1 hJ.out hlen.out
          simp only [encRun] at hy
          have hR' := Lib.hid hR
          clear hR hbx
          gi_wp2
          refine ⟨fun h => absurd h (by decide), hR'.out.mono ?_⟩
          rintro e W3 (⟨rfl, hJ3, hk3⟩ | ⟨rfl, hJx3⟩)
          · have hbx3 := hk3.cell hx
            replace hJ3 := Lib.hid hJ3
            clear hk3
            gi_wp2
            go_roundw
            case rel => exact ⟨pre ++ [⟨(T, s[fr]), hq.out⟩], k + 1, k + 1, by go_num, by go_num, hnx.out, hJ3.out, hbx3⟩
            case measure => simp [intOf]; omega
          · replace hJx3 := Lib.hid hJx3
            gi_wp2
            refine bodyPost_ret (results_none rfl _ _ _) rfl ?_
            exact ⟨⟨_, rfl⟩, .inr ⟨_, hsp.out, hJx3.out⟩⟩
    · obtain rfl : k = s.size := by omega
      obtain rfl : fr = s.size := hat.done rfl
      have hE : pre.map (·.1) = runs (tl s) := by
        have := hat.rest
        rw [List.drop_of_length_le (by rw [tl_len]; exact Nat.le_refl _)] at this
        rw [← this]; simp [runs]
      replace hE := Lib.hid hE
      replace hJ := Lib.hid hJ
      clear hat hY h0
      gi_wp2
      go_end0
      exact ⟨⟨_, rfl⟩, .inl ⟨_, hE.out, hJ.out⟩⟩
end Go.Proofs.Ytfcjhelhhefkkaa
