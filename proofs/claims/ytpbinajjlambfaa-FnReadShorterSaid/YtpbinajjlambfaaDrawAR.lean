/-
  The contract of the draw of a tongue, words that often are a shorter name, a word and a bound.
-/
import Derived.Test.YtpbinajjlambfaaDrawAB
import Derived.Test.YtpbinajjlambfaaGD
import Derived.Test.YtpbinajjlambfaaA3
namespace Go.Proofs.Ytpbinajjlambfaa
open Go.RowKit

/-- A tongue, words, a word and a bound are drawn. -/
def DrawnSaidA (w : World) (e : Ending) (w' : World) : Prop := ∃ v t u xs x b, e = .returned (.tuple #[v, u, .string x, .int .i64 b]) ∧ OwnTng w' w.heap.size v t ∧ OwnStrs w' w.heap.size u xs ∧ SmallT 40 t ∧ SmallW 70 xs ∧ x.size ≤ 16 ∧ (0 ≤ b ∧ b ≤ 101) ∧ Below w.heap.size w w'
section
variable {w wx w' : World} {z q : Nat} {cs : Array Value} {v : Value} {t : Tg}
theorem DM.down (h : DM w z cs v t wx q) (hb : Below wx.heap.size wx w') : DM w z cs v t w' q :=
  ⟨h.rd.below hb (Nat.le_refl _), h.hx.below hb h.hx.lt, h.hz.below hb h.hz.lt, h.own.below hb (Nat.le_refl _), h.low.trans (hb.mono h.low.size)⟩
theorem DM.store {gl k n c : Nat} {u : Value} (h : DM w z cs v t wx q) (hz : z < gl) (hw : w.heap.size + 1 < z) (hap : Apart3 v (.slice (some ⟨gl, 0, none⟩) n c)) (hg : wx.grownBy (wx.setCell ⟨gl, k, none⟩ u) (some gl)) : DM w z cs v t (wx.setCell ⟨gl, k, none⟩ u) q :=
  ⟨rd_set h.rd (by omega) _, h.hx.far (p := ⟨gl, k, none⟩) (by show w.heap.size ≠ gl; omega) _, h.hz.far (p := ⟨gl, k, none⟩) (by show z ≠ gl; omega) _, h.own.apart3 (u := .slice (some ⟨gl, 0, none⟩) n c) hg hap, h.low.setCell (p := ⟨gl, k, none⟩) (by show w.heap.size ≤ gl; omega) _⟩
theorem rd_appB {a b : World} {g q B : Nat} {e : TypeId} {v : Value} {n : Nat} {xs : List Value} (hlt : g < B) (hr : Rd a g q) (ho : a.ownsRow B e 1 v n xs) (hg : a.grownBy b v.ownBlock) : Rd b g q := by
  obtain ⟨A, m, c, ys, hb, hi, hm, hy, ha⟩ := hr.ex
  have hne : ∀ k, k < B → some k ≠ v.ownBlock := fun k hk e => by have := (ho.lt k e.symm).1; omega
  exact ⟨A, m, c, ys, hb.grown hg (hne g hlt), hi.grown hg (fun h0 b' o e => hne b' (by have := ha h0 b' o e; omega)), hm, hy, ha⟩
theorem DM.turn {gl n c B : Nat} {l : List ByteArray} (h : DM w z cs v t wx q) (ho : OwnStrs wx B (.slice (some ⟨gl, 0, none⟩) n c) l) (hB : z < B) (hw : w.heap.size + 1 < z) (hap : Apart3 v (.slice (some ⟨gl, 0, none⟩) n c)) (hg : wx.grownBy w' (some gl)) : DM w z cs v t w' q := by
  have hlt := (ho.lt gl rfl).1
  refine ⟨rd_appB (by omega) h.rd ho hg, h.hx.grown hg (by simp; omega), h.hz.grown hg (by simp; omega), h.own.apart3 (u := .slice (some ⟨gl, 0, none⟩) n c) hg hap, h.low.grown hg h.low.size (fun k e => by cases e; omega)⟩
theorem DM.saidA {B : Nat} {u u0 u1 u2 : Value} {xs : List ByteArray} {x : ByteArray} {b : Int} (h : DM w z cs v t wx q) (ho : OwnStrs wx B u xs) (hB : w.heap.size + 1 ≤ B) (hs : SmallT 40 t) (hx : SmallW 70 xs) (hxs : x.size ≤ 16) (hb : 0 ≤ b ∧ b ≤ 101) :
    DrawnSaidA w (.returned (.tuple #[v, u, .string x, .int .i64 b])) (((wx.setCell ⟨w.heap.size, 0, none⟩ u0).setCell ⟨w.heap.size, 1, none⟩ u1).setCell ⟨w.heap.size, 2, none⟩ u2) :=
  ⟨v, t, u, xs, x, b, rfl, (h.own.set3 h.hx).mono (by omega), OwnStrs.mono (own_far (own_far (own_far ho (by omega) _) (by omega) _) (by omega) _) (by omega), hs, hx, hxs, hb, below_tng3 h.low (Nat.le_refl _)⟩
end

set_option maxRecDepth 100000 in
set_option maxHeartbeats 8000000 in
theorem drawReadShorter_any (A : Option Addr) (n c : Nat) (xs : List Int) (w : World) (h : Ints w .u8 A n c xs) (hn : n ≤ 1048576) (hwf : ∀ x ∈ xs, (Lit.int .u8 x).wf = true) (hc : c ≤ maxLen) :
    Calls Try.prog 21 #[.slice A n c] w (DrawnSaidA w) := by
  obtain ⟨is0, his, hzs0, hzs1, hzs2⟩ := info_parts str_info
  have hB0 : Below w.heap.size w (w.alloc zeroTng) := (Below.refl _ _).alloc (Nat.le_refl _) _
  have HO := Lib.hid (open_any A n c xs (w.alloc zeroTng) (h.below hB0 (Nat.le_refl _)) hn hwf hc)
  have HB0 := Lib.hid hB0
  have HX := Lib.hid (Blk.new w 26 #[.slice none 0 0, .slice none 0 0, .slice none 0 0])
  clear h hwf hc hB0
  go_enter Try.func21, Try.ntmps21
  go_wp2_with (fail)
  refine HO.out.mono ?_
  rintro e w1 ⟨rfl, hr, hb, -⟩
  have hX1 := Lib.hid (HX.out.below hb (by simp))
  have hB1 := Lib.hid (HB0.out.trans (hb.mono (by simp)))
  have hs1 := hb.size
  simp only [World.size_alloc] at hs1
  rw [World.size_alloc] at hr
  have hl1 := hr.lt
  clear hb HO
  go_wp2_with (fail)
  refine (away_any _ w1 hr).mono ?_
  rintro e w2 ⟨v, t, m, x, bd, q, rfl, ho, hsm, hm, hx16, hbd, hr2, hq, hg⟩
  obtain ⟨A1, c1, A2, c2, A3, c3, rfl⟩ := ho.shape
  have hX2 : Blk w2 w.heap.size 26 #[.slice none 0 0, .slice none 0 0, .slice none 0 0] := hX1.out.grown hg (by simp)
  have hB2 := below_read hB1.out hg (by omega) (by omega)
  have hA := (Below.refl w2.heap.size w2).alloc (Nat.le_refl _) (.cells #[.slice A1 t.us.length c1, .slice A2 t.bs.length c2, .slice A3 t.ns.length c3] 26)
  have hs2 := hg.size
  have D : DM w w2.heap.size #[.slice A1 t.us.length c1, .slice A2 t.bs.length c2, .slice A3 t.ns.length c3] (.agg #[.slice A1 t.us.length c1, .slice A2 t.bs.length c2, .slice A3 t.ns.length c3]) t (w2.alloc (.cells #[.slice A1 t.us.length c1, .slice A2 t.bs.length c2, .slice A3 t.ns.length c3] 26)) q :=
    ⟨hr2.below hA (Nat.le_refl _), hX2.below hA hX2.lt, Blk.new w2 26 #[.slice A1 t.us.length c1, .slice A2 t.bs.length c2, .slice A3 t.ns.length c3], (ho.mono (by omega)).below hA (Nat.le_refl _), hB2.trans (hA.mono hB2.size)⟩
  have hz : w.heap.size + 1 < w2.heap.size := by omega
  replace D := Lib.hid D
  have hf := Lib.hid (hsm.fine (by omega))
  replace hsm := Lib.hid hsm
  obtain ⟨m1, m2⟩ := hm
  clear hA hB2 hX2 ho hr2 hg hs1 hs2 hl1 hr hB1 hX1 HX HB0
  go_upto_region 3 with (fail)
  generalize w2.alloc (.cells #[.slice A1 t.us.length c1, .slice A2 t.bs.length c2, .slice A3 t.ns.length c3] 26) = W at *
  generalize w2.heap.size = z at *
  have hxl : x.size ≤ maxLen := by unfold maxLen; omega
  replace hxl := Lib.hid hxl
  obtain ⟨z0, z1, z2, -, -, -⟩ := blk3 D.out.hz
  have K4 := Lib.hid (specShorterName_any _ t m x bd W D.out.own.tng hf.out (by omega) hxl.out (by omega))
  have hl32 := short_len t m x bd
  have hlz := short_size t m x bd
  have hpos : shortB t m x bd = true → 0 < (shortOf t m x bd).length := fun h => of_decide_eq_true h
  generalize shortOf t m x bd = l at *
  generalize shortB t m x bd = nb at *
  have hsl : SmallW 70 l := ⟨by omega, fun y hy => by have := (hlz y hy).2; omega⟩
  replace hsl := Lib.hid hsl
  replace hpos := Lib.hid hpos
  clear hlz
  go_wp2_with (fail)
  refine K4.out.mono ?_
  rintro e V4 ⟨v4, rfl, o4, b4⟩
  obtain ⟨A4, c4, rfl, s4⟩ := o4.strs
  replace D := Lib.hid (D.out.down b4)
  have hzV := D.out.hz.lt
  have hB0 : Below V4.heap.size V4 (V4.alloc (.cells #[] 9)) := (Below.refl _ _).alloc (Nat.le_refl _) _
  have HO0 : (V4.alloc (.cells #[] 9)).ownsRow V4.heap.size 9 1 (.slice (some ⟨V4.heap.size, 0, none⟩) 0 0) 0 [] := owns_empty (Blk.new V4 9 #[]) (Nat.le_refl _)
  have HS := Lib.hid ((s4.below hB0 (Nat.le_refl _)).src)
  have k1 := Lib.hid (show 0 + l.length ≤ maxLen by unfold maxLen; omega)
  have k2 := Lib.hid (show (0 + l.length) * 16 ≤ 140737488355328 by omega)
  replace hB0 := Lib.hid hB0
  replace HO0 := Lib.hid HO0
  clear o4 b4 s4 z0 z1 z2 K4
  go_upto_region 5 with (at_builtin; refine wpList_app _ rfl (.tmp 31) (.tmp 32) _ rfl V4.heap.size 9 is0 _ 16 Try.underlying23 his hzs0 hzs1 hzs2 rfl (.slice (some ⟨V4.heap.size, 0, none⟩) 0 0) 0 [] rfl HO0.out A4 _ c4 _ rfl HS.out k1.out k2.out hB0.out.size ?_; intro v5 w5 ho5 hg5 _)
  have hB5 := below_own hB0.out HO0.out hg5 hB0.out.size (Nat.le_refl _)
  have hol0 : OwnStrs w5 V4.heap.size v5 l := by
    unfold OwnStrs
    simpa using ho5
  have hap := apart3_of_lt D.out.own
  replace D := Lib.hid (D.out.down hB5)
  obtain ⟨A5, c5, rfl, -⟩ := hol0.strs
  replace hap := Lib.hid hap
  have hzg : z + 1 ≤ V4.heap.size := hzV
  replace hol0 := Lib.hid hol0
  have hs45 := hB5.size
  clear ho5 hg5 hB5 HS HO0 hB0 k1 k2
  generalize V4.heap.size = g4 at *
  cases nb
  · obtain ⟨z0, z1, z2, -, -, -⟩ := blk3 D.out.hz
    obtain ⟨r0, r1, r2, f0, f1, f2⟩ := blk3 D.out.hx
    go_wp2
    refine bodyPost_ret (v := .tuple #[.agg #[.slice A1 t.us.length c1, .slice A2 t.bs.length c2, .slice A3 t.ns.length c3], .slice A5 l.length c5, .string x, .int .i64 bd]) (by simp [results, Try.results21, go_sem, r0, r1, r2]) rfl ?_
    exact D.out.saidA hol0.out (by omega) hsm.out hsl.out hx16 hbd
  · have hl0 := hpos.out rfl
    obtain ⟨gl, c5', ea, hgl0, hgl1⟩ := World.ownsRow.form hol0.out hl0
    cases ea
    go_wp2_with (fail)
    refine (pick_any (w.heap.size + 1) (q) 3 w5 D.out.rd (by omega) (by omega) (by omega)).mono ?_
    rintro e V6 ⟨k6, rfl, hk6, hr6, hg6, -⟩
    replace D := Lib.hid (D.out.pick hg6 hr6 hz)
    replace hol0 := Lib.hid (show OwnStrs V6 g4 (.slice (some ⟨gl, 0, none⟩) l.length c5) l from own_kept hol0.out hg6 (fun r e => .inl (by cases e; omega)))
    have a6 : 0 ≤ k6 := hk6.1
    have b6 : k6 < 3 := by omega
    have hs56 := hg6.size
    clear hk6 hr6 hg6
    by_cases h60 : k6 = 0
    · subst h60
      clear a6 b6
      go_wp2_with (fail)
      refine (pick_any (w.heap.size + 1) (q+1) (l.length : Int) V6 D.out.rd (by omega) (by omega) (by omega)).mono ?_
      rintro e V7 ⟨k7, rfl, hk7, hr7, hg7, -⟩
      obtain ⟨k, rfl⟩ : ∃ k : Nat, k7 = (k : Int) := ⟨k7.toNat, by omega⟩
      have hkl : k < l.length := by omega
      replace D := Lib.hid (D.out.pick hg7 hr7 hz)
      replace hol0 := Lib.hid (show OwnStrs V7 g4 (.slice (some ⟨gl, 0, none⟩) l.length c5) l from own_kept hol0.out hg7 (fun r e => .inl (by cases e; omega)))
      have hs67 := hg7.size
      clear hk7 hr7 hg7
      go_wp2_with (fail)
      refine (pick_any (w.heap.size + 1) (q+1+1) 2 V7 D.out.rd (by omega) (by omega) (by omega)).mono ?_
      rintro e V8 ⟨k8, rfl, hk8, hr8, hg8, -⟩
      replace D := Lib.hid (D.out.pick hg8 hr8 hz)
      replace hol0 := Lib.hid (show OwnStrs V8 g4 (.slice (some ⟨gl, 0, none⟩) l.length c5) l from own_kept hol0.out hg8 (fun r e => .inl (by cases e; omega)))
      have a8 : 0 ≤ k8 := hk8.1
      have b8 : k8 < 2 := by omega
      have hs78 := hg8.size
      clear hk8 hr8 hg8
      by_cases h80 : k8 = 0
      · subst h80
        have ck := World.ownsRow.cellAt hol0.out k (by simpa using hkl)
        rw [List.getElem?_map, List.getElem?_eq_getElem hkl] at ck
        simp only [Option.map_some] at ck
        have fk := World.ownsRow.frozenAt hol0.out k
        obtain ⟨st1, st2⟩ := World.ownsRow.stored hol0.out k (.string x)
        have D9 := Lib.hid (D.out.store (hz := by omega) hz (hap.out (.slice (some ⟨gl, 0, none⟩) l.length c5) (fun r hr => by simp [Value.ownBlock] at hr; omega)) st2)
        have ho9 : OwnStrs (V8.setCell ⟨gl, k, none⟩ (.string x)) g4 (.slice (some ⟨gl, 0, none⟩) l.length c5) (l.set k x) := by
          unfold OwnStrs
          rw [List.length_set]
          simpa [List.map_set] using st1
        have hs9 : SmallW 70 (l.set k x) := ⟨by rw [List.length_set]; omega, fun y hy => by
          rcases List.mem_or_eq_of_mem_set hy with h | h
          · exact hsl.out.2 y h
          · rw [h]; exact hx16⟩
        obtain ⟨z0, z1, z2, -, -, -⟩ := blk3 D9.out.hz
        obtain ⟨r0, r1, r2, f0, f1, f2⟩ := blk3 D9.out.hx
        have kl : (k : Int) < (l.length : Int) := by omega
        have k0 : (0 : Int) ≤ (k : Int) := by omega
        replace ho9 := Lib.hid ho9
        replace hs9 := Lib.hid hs9
        generalize l[k] = y at *
        clear st1 st2 hol0 D hap
        go_wp2
        refine bodyPost_ret (v := .tuple #[.agg #[.slice A1 t.us.length c1, .slice A2 t.bs.length c2, .slice A3 t.ns.length c3], .slice (some ⟨gl, 0, none⟩) l.length c5, .string x, .int .i64 bd]) (by simp [results, Try.results21, go_sem, r0, r1, r2]) rfl ?_
        exact D9.out.saidA ho9.out (by omega) hsm.out hs9.out hx16 hbd
      · have h80' : (k8 == 0) = false := by rw [beq_eq_false_iff_ne]; exact h80
        obtain rfl : k8 = 1 := by omega
        obtain ⟨z0, z1, z2, -, -, -⟩ := blk3 D.out.hz
        have hs0 : Strs V8 (some ⟨gl, 0, none⟩) l.length c5 l := by
          obtain ⟨_, _, e, s⟩ := hol0.out.strs
          cases e
          exact s
        have hld := hs0.le
        have kc : (k : Int) ≤ (c5 : Int) := by omega
        have kc' : k ≤ c5 := by omega
        have HB0 : Below V8.heap.size V8 ((V8.alloc (.cells #[] 9)).drew) := ((Below.refl _ _).alloc (Nat.le_refl _) _).drew
        have HO0 : ((V8.alloc (.cells #[] 9)).drew).ownsRow V8.heap.size 9 1 (.slice (some ⟨V8.heap.size, 0, none⟩) 0 0) 0 [] := owns_empty ((Blk.new V8 9 #[]).drew) (Nat.le_refl _)
        have HS1 := Lib.hid (((hs0.take (m := k) (by omega)).below HB0 (Nat.le_refl _)).src)
        have m1 := Lib.hid (show 0 + k ≤ maxLen by unfold maxLen; omega)
        have m2 := Lib.hid (show (0 + k) * 16 ≤ 140737488355328 by omega)
        have hzV := D.out.hz.lt
        replace HB0 := Lib.hid HB0
        replace HO0 := Lib.hid HO0
        have pk : (k : Int) + 1 ≤ (l.length : Int) := by omega
        have pw : IntKind.i64.wrap ((k : Int) + 1) = (k : Int) + 1 := IntWalk.i64_in _ (by omega)
        have p0 : (0 : Int) ≤ (k : Int) + 1 := by omega
        have pn : ((k : Int) + 1).toNat = k + 1 := by omega
        have pk' : k + 1 ≤ l.length := by omega
        have m3 := Lib.hid (show 0 + k + (l.length - (k + 1)) ≤ maxLen by unfold maxLen; omega)
        have m4 := Lib.hid (show (0 + k + (l.length - (k + 1))) * 16 ≤ 140737488355328 by omega)
        have hsw : SmallW 70 (l.take k ++ l.drop (k + 1)) := ⟨by simp; omega, fun b hb => by
          rcases List.mem_append.1 hb with h | h
          · exact hsl.out.2 b (List.mem_of_mem_take h)
          · exact hsl.out.2 b (List.mem_of_mem_drop h)⟩
        replace hsw := Lib.hid hsw
        have hlen : 0 + k + (l.length - (k + 1)) = (l.take k ++ l.drop (k + 1)).length := by simp; omega
        replace hlen := Lib.hid hlen
        go_upto_region 9 with (fail)
        obtain ⟨Ad, hAd, hsd⟩ : ∃ Ad : Option Addr, Ad = (if k + 1 = c5 then some ⟨gl, 0, none⟩ else some ⟨gl, k + 1, none⟩) ∧ Strs V8 Ad (l.length - (k + 1)) (c5 - (k + 1)) (l.drop (k + 1)) := by
          refine ⟨_, rfl, ?_⟩
          by_cases hcp : k + 1 = c5
          · rw [if_pos hcp, List.drop_eq_nil_of_le (by omega), show l.length - (k + 1) = 0 by omega]
            exact ⟨rfl, Nat.zero_le _, fun h => absurd h (by omega)⟩
          · rw [if_neg hcp]
            have := hs0.drop (m := k + 1) pk'
            rwa [Nat.zero_add] at this
        by_cases hcp : k + 1 = c5
        · have hdn := Lib.hid (List.drop_eq_nil_of_le (show l.length ≤ k + 1 by omega))
          have hlen2 := Lib.hid (show 0 + k + 0 = (l.take k ++ l.drop (k + 1)).length by rw [← hlen.out]; omega)
          have m5 := Lib.hid (show 0 + k + 0 ≤ maxLen by unfold maxLen; omega)
          have m6 := Lib.hid (show (0 + k + 0) * 16 ≤ 140737488355328 by omega)
          have hLk : l.length = k + 1 := by omega
          clear hsd hAd m3 m4
          replace hsl := Lib.hid hsl.out
          generalize hL : l.length = L at *
          replace hL := Lib.hid hL
          subst hLk
          subst hcp
          have kc3 : (k : Int) ≤ (k : Int) + 1 := by omega
          have kc4 : k ≤ k + 1 := by omega
          have kc5 : (k : Int) < (k : Int) + 1 := by omega
          go_region_law (first
            | (refine step_app _ (by rfl) (.tmp 52) (.tmp 55) _ (by rfl) V8.heap.size 9 is0 _ 16 Try.underlying23 his hzs0 hzs1 hzs2 rfl (.slice (some ⟨V8.heap.size, 0, none⟩) 0 0) 0 [] (by rfl) HO0.out (some ⟨gl, 0, none⟩) k (k + 1) _ (by rfl) HS1.out m1.out m2.out (by simp) ?_; intro v5 w5 ho5 hg5 hat5; have hB5 := below_own HB0.out HO0.out hg5 (by simp) (Nat.le_refl _); have hS5 : Src w5 (some ⟨gl, 0, none⟩) 0 [] := ⟨rfl, by simp, fun h => absurd h (by omega)⟩; obtain ⟨z0', z1', z2', -, -, -⟩ := blk3 (D.out.hz.below hB5 D.out.hz.lt); replace ho5 := Lib.hid ho5; replace hg5 := Lib.hid hg5; replace hB5 := Lib.hid hB5; replace hS5 := Lib.hid hS5)
            | (refine step_app _ (by rfl) (.tmp 56) (.tmp 60) _ (by rfl) V8.heap.size 9 is0 _ 16 Try.underlying23 his hzs0 hzs1 hzs2 rfl v5 _ _ (by rfl) ho5.out (some ⟨gl, 0, none⟩) 0 _ _ (by rfl) hS5.out m5.out m6.out hB5.out.size ?_; intro v6 w6 ho6 hg6 hat6; have hB6 := below_own hB5.out ho5.out hg6 hB5.out.size (Nat.le_refl _); obtain ⟨r0, r1, r2, f0, f1, f2⟩ := blk3 (D.out.hx.below hB6 D.out.hx.lt); obtain ⟨z0'', z1'', z2'', -, -, -⟩ := blk3 (D.out.hz.below hB6 D.out.hz.lt); have hR6 : OwnStrs w6 V8.heap.size v6 (l.take k ++ l.drop (k + 1)) := (by unfold OwnStrs; rw [← hlen2.out, hdn.out, List.append_nil]; simpa using ho6); have D6 := Lib.hid (D.out.down hB6); obtain ⟨A9, c9, e9, -⟩ := hR6.strs; obtain ⟨L9, hL9⟩ : ∃ L9, L9 = (l.take k ++ l.drop (k + 1)).length := (⟨_, rfl⟩); rw [← hL9] at e9; subst e9; replace hL9 := Lib.hid hL9; replace hR6 := Lib.hid hR6; clear ho6 hg6 hat6 hB6))
          all_goals
            clear z0 z1 z2 z0' z1' z2' z0'' z1'' z2'' hB5 ho5 hg5 hS5
            go_wp2
            refine bodyPost_ret (v := .tuple #[.agg #[.slice A1 t.us.length c1, .slice A2 t.bs.length c2, .slice A3 t.ns.length c3], .slice A9 L9 c9, .string x, .int .i64 bd]) (by simp [results, Try.results21, go_sem, r0, r1, r2]) rfl ?_
            exact D6.out.saidA hR6.out (by omega) hsm.out hsw.out hx16 hbd
        · rw [if_neg hcp] at hAd
          subst hAd
          have hcp' : ¬ c5 = k + 1 := fun e => hcp e.symm
          replace hsd := Lib.hid hsd
          go_region_law (first
            | (refine step_app _ (by rfl) (.tmp 52) (.tmp 55) _ (by rfl) V8.heap.size 9 is0 _ 16 Try.underlying23 his hzs0 hzs1 hzs2 rfl (.slice (some ⟨V8.heap.size, 0, none⟩) 0 0) 0 [] (by rfl) HO0.out (some ⟨gl, 0, none⟩) k c5 _ (by rfl) HS1.out m1.out m2.out (by simp) ?_; intro v5 w5 ho5 hg5 hat5; have hB5 := below_own HB0.out HO0.out hg5 (by simp) (Nat.le_refl _); have hS5 := (hsd.out.below hB5 (Nat.le_refl _)).src; obtain ⟨z0', z1', z2', -, -, -⟩ := blk3 (D.out.hz.below hB5 D.out.hz.lt); replace ho5 := Lib.hid ho5; replace hg5 := Lib.hid hg5; replace hB5 := Lib.hid hB5; replace hS5 := Lib.hid hS5)
            | (refine step_app _ (by rfl) (.tmp 56) (.tmp 60) _ (by rfl) V8.heap.size 9 is0 _ 16 Try.underlying23 his hzs0 hzs1 hzs2 rfl v5 _ _ (by rfl) ho5.out (some ⟨gl, k + 1, none⟩) _ _ _ (by rfl) hS5.out m3.out m4.out hB5.out.size ?_; intro v6 w6 ho6 hg6 hat6; have hB6 := below_own hB5.out ho5.out hg6 hB5.out.size (Nat.le_refl _); obtain ⟨r0, r1, r2, f0, f1, f2⟩ := blk3 (D.out.hx.below hB6 D.out.hx.lt); obtain ⟨z0'', z1'', z2'', -, -, -⟩ := blk3 (D.out.hz.below hB6 D.out.hz.lt); have hR6 : OwnStrs w6 V8.heap.size v6 (l.take k ++ l.drop (k + 1)) := (by unfold OwnStrs; rw [← hlen.out]; simpa using ho6); have D6 := Lib.hid (D.out.down hB6); obtain ⟨A9, c9, e9, -⟩ := hR6.strs; obtain ⟨L9, hL9⟩ : ∃ L9, L9 = (l.take k ++ l.drop (k + 1)).length := (⟨_, rfl⟩); rw [← hL9] at e9; subst e9; replace hL9 := Lib.hid hL9; replace hR6 := Lib.hid hR6; clear ho6 hg6 hat6 hB6))
          all_goals
            clear z0 z1 z2 z0' z1' z2' z0'' z1'' z2'' hB5 ho5 hg5 hS5
            go_wp2
            refine bodyPost_ret (v := .tuple #[.agg #[.slice A1 t.us.length c1, .slice A2 t.bs.length c2, .slice A3 t.ns.length c3], .slice A9 L9 c9, .string x, .int .i64 bd]) (by simp [results, Try.results21, go_sem, r0, r1, r2]) rfl ?_
            exact D6.out.saidA hR6.out (by omega) hsm.out hsw.out hx16 hbd
    · have h60' : (k6 == 0) = false := by rw [beq_eq_false_iff_ne]; exact h60
      obtain ⟨z0, z1, z2, -, -, -⟩ := blk3 D.out.hz
      obtain ⟨r0, r1, r2, f0, f1, f2⟩ := blk3 D.out.hx
      clear hap
      go_wp2
      refine bodyPost_ret (v := .tuple #[.agg #[.slice A1 t.us.length c1, .slice A2 t.bs.length c2, .slice A3 t.ns.length c3], .slice (some ⟨gl, 0, none⟩) l.length c5, .string x, .int .i64 bd]) (by simp [results, Try.results21, go_sem, r0, r1, r2]) rfl ?_
      exact D.out.saidA hol0.out (by omega) hsm.out hsl.out hx16 hbd
end Go.Proofs.Ytpbinajjlambfaa
