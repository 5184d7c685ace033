/-
  Contracts of DeskNew and DeskDo of the program.
-/
import Derived.Test.YtjnlpknjdclalaaIb
import Derived.Test.YtjnlpknjdclalaaIc
import Derived.Test.YtjnlpknjdclalaaId
import Derived.Deep.RegionHeld3
import Derived.Test.YtjnlpknjdclalaaInv
namespace Go.Proofs.Ytjnlpknjdclalaa
open Go.RowKit

theorem bare_ok (t : Tg) (n : Int) : dkOk ⟨t, n, []⟩ = namedB t n := by
  cases h : namedB t n
  · exact ok_no_now h
  · exact (dkOk_iff _).2 ⟨h, by simp, by simp⟩


/-- What is known of the operations of DeskDo's last statement that have come up. -/
structure DDR (V : World) (S B gz : Nat) (DV : Value) (kd n mp : Int) (rd : Dk) (rb : Bool) (l : Array Bool) (w : World) (s5 s19 s20 s21 s22 s23 s24 s25 : Value) : Prop where
  f0 : l.getD 0 false = true → s19 = DV
  f1 : l.getD 1 false = true → s20 = DV
  f2 : l.getD 2 false = true → s21 = .agg #[.int .i64 kd, .int .i64 n]
  f3 : l.getD 3 false = true → s22 = .int .i64 mp
  f4 : l.getD 4 false = true → ∃ v, s23 = .tuple #[v, .bool rb] ∧ OwnDk w B v rd
  f5 : l.getD 5 false = true → OwnDk w B s24 rd
  f6 : l.getD 6 false = true → s25 = .bool rb
  f7 : l.getD 7 false = true → ∃ u0 u1 u2 u3 u4, Blk w gz 28 #[u0, u1, u2, u3, u4] ∧ OwnDk w B (.agg #[u0, u1, u2, u3, u4]) rd
  f8 : l.getD 8 false = true → s5 = .bool rb
  d3 : l.getD 3 false = true → l.getD 1 false = true ∧ l.getD 2 false = true
  d4 : l.getD 4 false = true → l.getD 0 false = true ∧ l.getD 3 false = true
  d5 : l.getD 5 false = true → l.getD 4 false = true
  d7 : l.getD 7 false = true → l.getD 4 false = true
  low : Below S V w
  lo : l.getD 4 false = false → Below V.heap.size V w
  hz : l.getD 7 false = false → Blk w gz 28 #[.slice none 0 0, .slice none 0 0, .slice none 0 0, .int .i64 0, .slice none 0 0]
  sz : B ≤ w.heap.size
section
variable {V w w' : World} {S B gz : Nat} {DV v : Value} {kd n mp : Int} {rd : Dk} {rb : Bool} {l : Array Bool} {s5 s19 s20 s21 s22 s23 s24 s25 : Value}
theorem DDR.no4a (h : DDR V S B gz DV kd n mp rd rb l w s5 s19 s20 s21 s22 s23 s24 s25) (h0 : l.getD 0 false = false) : l.getD 4 false = false := by
  cases e : l.getD 4 false
  · rfl
  · have := (h.d4 e).1; rw [h0] at this; cases this
theorem DDR.no4b (h : DDR V S B gz DV kd n mp rd rb l w s5 s19 s20 s21 s22 s23 s24 s25) (h0 : l.getD 3 false = false) : l.getD 4 false = false := by
  cases e : l.getD 4 false
  · rfl
  · have := (h.d4 e).2; rw [h0] at this; cases this
theorem DDR.no3 (h : DDR V S B gz DV kd n mp rd rb l w s5 s19 s20 s21 s22 s23 s24 s25) (h0 : l.getD 1 false = false ∨ l.getD 2 false = false) : l.getD 3 false = false := by
  cases e : l.getD 3 false
  · rfl
  · obtain ⟨a, b⟩ := h.d3 e
    rcases h0 with h0 | h0
    · rw [h0] at a; cases a
    · rw [h0] at b; cases b
theorem still {l : Array Bool} {i j : Nat} (h : l.getD j false = true) : (l.setIfInBounds i true).getD j false = true := by
  by_cases e : j = i
  · subst e
    have hj : j < l.size := by
      rcases Nat.lt_or_ge j l.size with hh | hh
      · exact hh
      · rw [Array.getD_eq_getD_getElem?, Array.getElem?_eq_none hh] at h; cases h
    exact listed_at hj
  · rw [listed_same e]; exact h
theorem DDR.up0 (h : DDR V S B gz DV kd n mp rd rb l w s5 s19 s20 s21 s22 s23 s24 s25) (hv : v = DV) : DDR V S B gz DV kd n mp rd rb (l.setIfInBounds 0 true) w s5 v s20 s21 s22 s23 s24 s25 :=
  ⟨(fun _ => hv), (fun h' => h.f1 (listed_set h' (by decide))), (fun h' => h.f2 (listed_set h' (by decide))), (fun h' => h.f3 (listed_set h' (by decide))), (fun h' => h.f4 (listed_set h' (by decide))), (fun h' => h.f5 (listed_set h' (by decide))), (fun h' => h.f6 (listed_set h' (by decide))), (fun h' => h.f7 (listed_set h' (by decide))), (fun h' => h.f8 (listed_set h' (by decide))), (fun h' => ⟨still (h.d3 (listed_set h' (by decide))).1, still (h.d3 (listed_set h' (by decide))).2⟩), (fun h' => ⟨still (h.d4 (listed_set h' (by decide))).1, still (h.d4 (listed_set h' (by decide))).2⟩), (fun h' => still (h.d5 (listed_set h' (by decide)))), (fun h' => still (h.d7 (listed_set h' (by decide)))), h.low, (fun h' => h.lo (by rwa [listed_same (by decide)] at h')), (fun h' => h.hz (by rwa [listed_same (by decide)] at h')), h.sz⟩
theorem DDR.up1 (h : DDR V S B gz DV kd n mp rd rb l w s5 s19 s20 s21 s22 s23 s24 s25) (hv : v = DV) : DDR V S B gz DV kd n mp rd rb (l.setIfInBounds 1 true) w s5 s19 v s21 s22 s23 s24 s25 :=
  ⟨(fun h' => h.f0 (listed_set h' (by decide))), (fun _ => hv), (fun h' => h.f2 (listed_set h' (by decide))), (fun h' => h.f3 (listed_set h' (by decide))), (fun h' => h.f4 (listed_set h' (by decide))), (fun h' => h.f5 (listed_set h' (by decide))), (fun h' => h.f6 (listed_set h' (by decide))), (fun h' => h.f7 (listed_set h' (by decide))), (fun h' => h.f8 (listed_set h' (by decide))), (fun h' => ⟨still (h.d3 (listed_set h' (by decide))).1, still (h.d3 (listed_set h' (by decide))).2⟩), (fun h' => ⟨still (h.d4 (listed_set h' (by decide))).1, still (h.d4 (listed_set h' (by decide))).2⟩), (fun h' => still (h.d5 (listed_set h' (by decide)))), (fun h' => still (h.d7 (listed_set h' (by decide)))), h.low, (fun h' => h.lo (by rwa [listed_same (by decide)] at h')), (fun h' => h.hz (by rwa [listed_same (by decide)] at h')), h.sz⟩
theorem DDR.up2 (h : DDR V S B gz DV kd n mp rd rb l w s5 s19 s20 s21 s22 s23 s24 s25) (hv : v = .agg #[.int .i64 kd, .int .i64 n]) : DDR V S B gz DV kd n mp rd rb (l.setIfInBounds 2 true) w s5 s19 s20 v s22 s23 s24 s25 :=
  ⟨(fun h' => h.f0 (listed_set h' (by decide))), (fun h' => h.f1 (listed_set h' (by decide))), (fun _ => hv), (fun h' => h.f3 (listed_set h' (by decide))), (fun h' => h.f4 (listed_set h' (by decide))), (fun h' => h.f5 (listed_set h' (by decide))), (fun h' => h.f6 (listed_set h' (by decide))), (fun h' => h.f7 (listed_set h' (by decide))), (fun h' => h.f8 (listed_set h' (by decide))), (fun h' => ⟨still (h.d3 (listed_set h' (by decide))).1, still (h.d3 (listed_set h' (by decide))).2⟩), (fun h' => ⟨still (h.d4 (listed_set h' (by decide))).1, still (h.d4 (listed_set h' (by decide))).2⟩), (fun h' => still (h.d5 (listed_set h' (by decide)))), (fun h' => still (h.d7 (listed_set h' (by decide)))), h.low, (fun h' => h.lo (by rwa [listed_same (by decide)] at h')), (fun h' => h.hz (by rwa [listed_same (by decide)] at h')), h.sz⟩
theorem DDR.up6 (h : DDR V S B gz DV kd n mp rd rb l w s5 s19 s20 s21 s22 s23 s24 s25) (hv : v = .bool rb) : DDR V S B gz DV kd n mp rd rb (l.setIfInBounds 6 true) w s5 s19 s20 s21 s22 s23 s24 v :=
  ⟨(fun h' => h.f0 (listed_set h' (by decide))), (fun h' => h.f1 (listed_set h' (by decide))), (fun h' => h.f2 (listed_set h' (by decide))), (fun h' => h.f3 (listed_set h' (by decide))), (fun h' => h.f4 (listed_set h' (by decide))), (fun h' => h.f5 (listed_set h' (by decide))), (fun _ => hv), (fun h' => h.f7 (listed_set h' (by decide))), (fun h' => h.f8 (listed_set h' (by decide))), (fun h' => ⟨still (h.d3 (listed_set h' (by decide))).1, still (h.d3 (listed_set h' (by decide))).2⟩), (fun h' => ⟨still (h.d4 (listed_set h' (by decide))).1, still (h.d4 (listed_set h' (by decide))).2⟩), (fun h' => still (h.d5 (listed_set h' (by decide)))), (fun h' => still (h.d7 (listed_set h' (by decide)))), h.low, (fun h' => h.lo (by rwa [listed_same (by decide)] at h')), (fun h' => h.hz (by rwa [listed_same (by decide)] at h')), h.sz⟩
theorem DDR.up8 (h : DDR V S B gz DV kd n mp rd rb l w s5 s19 s20 s21 s22 s23 s24 s25) (hv : v = .bool rb) : DDR V S B gz DV kd n mp rd rb (l.setIfInBounds 8 true) w v s19 s20 s21 s22 s23 s24 s25 :=
  ⟨(fun h' => h.f0 (listed_set h' (by decide))), (fun h' => h.f1 (listed_set h' (by decide))), (fun h' => h.f2 (listed_set h' (by decide))), (fun h' => h.f3 (listed_set h' (by decide))), (fun h' => h.f4 (listed_set h' (by decide))), (fun h' => h.f5 (listed_set h' (by decide))), (fun h' => h.f6 (listed_set h' (by decide))), (fun h' => h.f7 (listed_set h' (by decide))), (fun _ => hv), (fun h' => ⟨still (h.d3 (listed_set h' (by decide))).1, still (h.d3 (listed_set h' (by decide))).2⟩), (fun h' => ⟨still (h.d4 (listed_set h' (by decide))).1, still (h.d4 (listed_set h' (by decide))).2⟩), (fun h' => still (h.d5 (listed_set h' (by decide)))), (fun h' => still (h.d7 (listed_set h' (by decide)))), h.low, (fun h' => h.lo (by rwa [listed_same (by decide)] at h')), (fun h' => h.hz (by rwa [listed_same (by decide)] at h')), h.sz⟩
theorem DDR.up3 (h : DDR V S B gz DV kd n mp rd rb l w s5 s19 s20 s21 s22 s23 s24 s25) (hS : S ≤ w.heap.size) (h12 : l.getD 1 false = true ∧ l.getD 2 false = true) (hv : v = .int .i64 mp) (hb : Below w.heap.size w w') : DDR V S B gz DV kd n mp rd rb (l.setIfInBounds 3 true) w' s5 s19 s20 s21 v s23 s24 s25 :=
  ⟨(fun h' => h.f0 (listed_set h' (by decide))), (fun h' => h.f1 (listed_set h' (by decide))), (fun h' => h.f2 (listed_set h' (by decide))), (fun _ => hv), (fun h' => (let ⟨x, e, ho⟩ := h.f4 (listed_set h' (by decide)); ⟨x, e, ho.below hb (Nat.le_refl _)⟩)), (fun h' => (h.f5 (listed_set h' (by decide))).below hb (Nat.le_refl _)), (fun h' => h.f6 (listed_set h' (by decide))), (fun h' => (let ⟨u0, u1, u2, u3, u4, b, ho⟩ := h.f7 (listed_set h' (by decide)); ⟨u0, u1, u2, u3, u4, b.below hb b.lt, ho.below hb (Nat.le_refl _)⟩)), (fun h' => h.f8 (listed_set h' (by decide))), (fun _ => ⟨still h12.1, still h12.2⟩), (fun h' => ⟨still (h.d4 (listed_set h' (by decide))).1, still (h.d4 (listed_set h' (by decide))).2⟩), (fun h' => still (h.d5 (listed_set h' (by decide)))), (fun h' => still (h.d7 (listed_set h' (by decide)))), h.low.trans (hb.mono hS), (fun h' => let b := h.lo (by rwa [listed_same (by decide)] at h'); b.trans (hb.mono b.size)), (fun h' => let b := h.hz (by rwa [listed_same (by decide)] at h'); b.below hb b.lt), Nat.le_trans h.sz hb.size⟩
theorem DDR.up4 (h : DDR V S B gz DV kd n mp rd rb l w s5 s19 s20 s21 s22 s23 s24 s25) (hsz : l.size = 9) (hun : l.getD 4 false = false) (hgz : gz < B) (hSB : S ≤ B) (h03 : l.getD 0 false = true ∧ l.getD 3 false = true) (hv : ∃ x, v = .tuple #[x, .bool rb] ∧ OwnDk w' B x rd) (hb : Below B w w') : DDR V S B gz DV kd n mp rd rb (l.setIfInBounds 4 true) w' s5 s19 s20 s21 s22 v s24 s25 :=
  ⟨(fun h' => h.f0 (listed_set h' (by decide))), (fun h' => h.f1 (listed_set h' (by decide))), (fun h' => h.f2 (listed_set h' (by decide))), (fun h' => h.f3 (listed_set h' (by decide))), (fun _ => hv), (fun h' => absurd (h.d5 (listed_set h' (by decide))) (by rw [hun]; simp)), (fun h' => h.f6 (listed_set h' (by decide))), (fun h' => absurd (h.d7 (listed_set h' (by decide))) (by rw [hun]; simp)), (fun h' => h.f8 (listed_set h' (by decide))), (fun h' => ⟨still (h.d3 (listed_set h' (by decide))).1, still (h.d3 (listed_set h' (by decide))).2⟩), (fun _ => ⟨still h03.1, still h03.2⟩), (fun h' => still (h.d5 (listed_set h' (by decide)))), (fun h' => still (h.d7 (listed_set h' (by decide)))), h.low.trans (hb.mono hSB), (fun h' => by rw [listed_at (by omega)] at h'; cases h'), (fun h' => (h.hz (by rwa [listed_same (by decide)] at h')).below hb hgz), Nat.le_trans h.sz hb.size⟩
theorem DDR.up5 (h : DDR V S B gz DV kd n mp rd rb l w s5 s19 s20 s21 s22 s23 s24 s25) (h4 : l.getD 4 false = true) (hv : OwnDk w B v rd) : DDR V S B gz DV kd n mp rd rb (l.setIfInBounds 5 true) w s5 s19 s20 s21 s22 s23 v s25 :=
  ⟨(fun h' => h.f0 (listed_set h' (by decide))), (fun h' => h.f1 (listed_set h' (by decide))), (fun h' => h.f2 (listed_set h' (by decide))), (fun h' => h.f3 (listed_set h' (by decide))), (fun h' => h.f4 (listed_set h' (by decide))), (fun _ => hv), (fun h' => h.f6 (listed_set h' (by decide))), (fun h' => h.f7 (listed_set h' (by decide))), (fun h' => h.f8 (listed_set h' (by decide))), (fun h' => ⟨still (h.d3 (listed_set h' (by decide))).1, still (h.d3 (listed_set h' (by decide))).2⟩), (fun h' => ⟨still (h.d4 (listed_set h' (by decide))).1, still (h.d4 (listed_set h' (by decide))).2⟩), (fun _ => still h4), (fun h' => still (h.d7 (listed_set h' (by decide)))), h.low, (fun h' => h.lo (by rwa [listed_same (by decide)] at h')), (fun h' => h.hz (by rwa [listed_same (by decide)] at h')), h.sz⟩
theorem DDR.up7 (h : DDR V S B gz DV kd n mp rd rb l w s5 s19 s20 s21 s22 s23 s24 s25) {u0 u1 u2 u3 u4 : Value} (hsz : l.size = 9) (hun : l.getD 7 false = false) (h4 : l.getD 4 false = true) (hS : S ≤ gz) (hv : OwnDk w B (.agg #[u0, u1, u2, u3, u4]) rd) : DDR V S B gz DV kd n mp rd rb (l.setIfInBounds 7 true) (((((w.setCell ⟨gz, 0, none⟩ u0).setCell ⟨gz, 1, none⟩ u1).setCell ⟨gz, 2, none⟩ u2).setCell ⟨gz, 3, none⟩ u3).setCell ⟨gz, 4, none⟩ u4) s5 s19 s20 s21 s22 s23 s24 s25 := by
  have hz := h.hz hun
  have HB : Blk (((((w.setCell ⟨gz, 0, none⟩ u0).setCell ⟨gz, 1, none⟩ u1).setCell ⟨gz, 2, none⟩ u2).setCell ⟨gz, 3, none⟩ u3).setCell ⟨gz, 4, none⟩ u4) gz 28 #[u0, u1, u2, u3, u4] := by
    have := ((((hz.set_ 0 u0).set_ 1 u1).set_ 2 u2).set_ 3 u3).set_ 4 u4
    simpa using this
  have HO : ∀ {x : Value}, OwnDk w B x rd → OwnDk (((((w.setCell ⟨gz, 0, none⟩ u0).setCell ⟨gz, 1, none⟩ u1).setCell ⟨gz, 2, none⟩ u2).setCell ⟨gz, 3, none⟩ u3).setCell ⟨gz, 4, none⟩ u4) B x rd := fun {x} ho => by
    obtain ⟨A1, c1, A2, c2, A3, c3, A5, c5, rfl, -⟩ := ho.dsk.ex
    exact own_dk5t ho hz
  have HL : Below S V (((((w.setCell ⟨gz, 0, none⟩ u0).setCell ⟨gz, 1, none⟩ u1).setCell ⟨gz, 2, none⟩ u2).setCell ⟨gz, 3, none⟩ u3).setCell ⟨gz, 4, none⟩ u4) := below_dk5 h.low hS
  exact ⟨(fun h' => h.f0 (listed_set h' (by decide))), (fun h' => h.f1 (listed_set h' (by decide))), (fun h' => h.f2 (listed_set h' (by decide))), (fun h' => h.f3 (listed_set h' (by decide))), (fun h' => (let ⟨x, e, ho⟩ := h.f4 (listed_set h' (by decide)); ⟨x, e, HO ho⟩)), (fun h' => HO (h.f5 (listed_set h' (by decide)))), (fun h' => h.f6 (listed_set h' (by decide))), (fun _ => ⟨_, _, _, _, _, HB, HO hv⟩), (fun h' => h.f8 (listed_set h' (by decide))), (fun h' => ⟨still (h.d3 (listed_set h' (by decide))).1, still (h.d3 (listed_set h' (by decide))).2⟩), (fun h' => ⟨still (h.d4 (listed_set h' (by decide))).1, still (h.d4 (listed_set h' (by decide))).2⟩), (fun h' => still (h.d5 (listed_set h' (by decide)))), (fun _ => still h4), HL, (fun h' => by rw [listed_same (by decide), h4] at h'; cases h'), (fun h' => by rw [listed_at (by omega)] at h'; cases h'), by simpa using h.sz⟩
end

set_option maxRecDepth 100000 in
set_option maxHeartbeats 8000000 in
theorem implDeskDo_any (v : Value) (d : Dk) (a : Dd) (w : World) (h : Dsk w v d) (hf : d.Fine) :
    Calls Try.prog 18 #[v, .agg #[.int .i64 a.kind, .int .i64 a.n]] w (RetDkB w (dkDo d a).1 (dkDo d a).2) := by
  obtain ⟨A1, c1, A2, c2, A3, c3, A5, c5, rfl, -⟩ := h.ex
  obtain ⟨kd, n⟩ := a
  dsimp only
  have hB := (((Below.refl w.heap.size w).alloc (Nat.le_refl _) (.cells #[.slice A1 d.t.us.length c1, .slice A2 d.t.bs.length c2, .slice A3 d.t.ns.length c3, .int .i64 d.now, .slice A5 d.past.length c5] 28)).alloc (by simp) (.cells #[.int .i64 kd, .int .i64 n] 47)).alloc (by simp; omega) (.cells #[.slice none 0 0, .slice none 0 0, .slice none 0 0, .int .i64 0, .slice none 0 0] 28)
  have HX := ((Blk.new w 28 #[.slice A1 d.t.us.length c1, .slice A2 d.t.bs.length c2, .slice A3 d.t.ns.length c3, .int .i64 d.now, .slice A5 d.past.length c5]).alloc (.cells #[.int .i64 kd, .int .i64 n] 47)).alloc (.cells #[.slice none 0 0, .slice none 0 0, .slice none 0 0, .int .i64 0, .slice none 0 0] 28)
  have HY : Blk (((w.alloc (.cells #[.slice A1 d.t.us.length c1, .slice A2 d.t.bs.length c2, .slice A3 d.t.ns.length c3, .int .i64 d.now, .slice A5 d.past.length c5] 28)).alloc (.cells #[.int .i64 kd, .int .i64 n] 47)).alloc (.cells #[.slice none 0 0, .slice none 0 0, .slice none 0 0, .int .i64 0, .slice none 0 0] 28)) (w.heap.size + 1) 47 #[.int .i64 kd, .int .i64 n] := (blk_new_at _ (by simp)).alloc _
  have HZ : Blk (((w.alloc (.cells #[.slice A1 d.t.us.length c1, .slice A2 d.t.bs.length c2, .slice A3 d.t.ns.length c3, .int .i64 d.now, .slice A5 d.past.length c5] 28)).alloc (.cells #[.int .i64 kd, .int .i64 n] 47)).alloc (.cells #[.slice none 0 0, .slice none 0 0, .slice none 0 0, .int .i64 0, .slice none 0 0] 28)) (w.heap.size + 2) 28 #[.slice none 0 0, .slice none 0 0, .slice none 0 0, .int .i64 0, .slice none 0 0] := blk_new_at _ (by simp)
  have HD := h.below hB (Nat.le_refl _)
  have K1 := Lib.hid (implDeskOk_any _ d _ HD hf)
  have hno := Lib.hid (do_no (d := d) (a := ⟨kd, n⟩))
  have hback := Lib.hid (do_back (d := d) (a := ⟨kd, n⟩))
  have hput := Lib.hid (do_put (d := d) (a := ⟨kd, n⟩))
  have hdk := Lib.hid ((dkOk_iff d).1)
  have hff := Lib.hid hf
  generalize hnb : dkOk d = nb at *
  replace hnb := Lib.hid hnb
  replace hB := Lib.hid hB
  replace HX := Lib.hid HX
  replace HY := Lib.hid HY
  replace HZ := Lib.hid HZ
  replace HD := Lib.hid HD
  clear h hf
  go_enter Try.func18, Try.ntmps18
  go_upto_region 1 with (fail)
  generalize ((w.alloc (.cells #[.slice A1 d.t.us.length c1, .slice A2 d.t.bs.length c2, .slice A3 d.t.ns.length c3, .int .i64 d.now, .slice A5 d.past.length c5] 28)).alloc (.cells #[.int .i64 kd, .int .i64 n] 47)).alloc (.cells #[.slice none 0 0, .slice none 0 0, .slice none 0 0, .int .i64 0, .slice none 0 0] 28) = W at *
  obtain ⟨⟨x0, x1, x2, x3, x4⟩, -⟩ := blk5 HX.out
  go_wp2_with (fail)
  refine K1.out.mono ?_
  rintro e w1 ⟨rfl, b1⟩
  have hB1 := Lib.hid (hB.out.trans (b1.mono hB.out.size))
  have HX1 := Lib.hid (HX.out.below b1 HX.out.lt)
  have HY1 := Lib.hid (HY.out.below b1 HY.out.lt)
  have HZ1 := Lib.hid (HZ.out.below b1 HZ.out.lt)
  have HD1 := Lib.hid (HD.out.below b1 (Nat.le_refl _))
  clear x0 x1 x2 x3 x4 K1 b1 HX HY HZ HD hB
  cases nb
  · have hg := Lib.hid (hno.out rfl)
    obtain ⟨⟨z0, z1, z2, z3, z4⟩, ⟨e0, e1, e2, e3, e4⟩⟩ := blk5 HZ1.out
    have HF := fun u0 u1 u2 u3 u4 => own_dk5 (w := w1) (B := w.heap.size) (g := w.heap.size + 2) (v1 := .slice none 0 0) (v2 := .slice none 0 0) (v3 := .slice none 0 0) (v5 := .slice none 0 0) (u0 := u0) (u1 := u1) (u2 := u2) (u3 := u3) (u4 := u4) (now := 0) (d := noDk) rfl (own_noTg w1 _) (owns_none _ _ _) (fun k hk => by simp [Value.ownBlock] at hk) HZ1.out
    have HG := fun u0 u1 u2 u3 u4 => below_dk5 (u0 := u0) (u1 := u1) (u2 := u2) (u3 := u3) (u4 := u4) (g := w.heap.size + 2) hB1.out (by omega)
    replace HF := Lib.hid HF
    replace HG := Lib.hid HG
    clear HX1 HY1 HZ1 HD1 hno hback hput hdk
    go_wp2
    refine bodyPost_ret (v := .tuple #[.agg #[.slice none 0 0, .slice none 0 0, .slice none 0 0, .int .i64 0, .slice none 0 0], .bool false]) (by simp [results, Try.results18, go_sem, z0, z1, z2, z3, z4]) rfl ?_
    rw [hg.out]
    exact ⟨_, rfl, (HF.out _ _ _ _ _).own, HG.out _ _ _ _ _⟩
  · obtain ⟨d1, d2, d3⟩ := hdk.out rfl
    have hnow := named_bd d1
    have hbd := madeP_bd d ⟨kd, n⟩ hnow
    have K2 := Lib.hid (copiedDesk_any _ d w1 HD1.out hff.out)
    obtain ⟨⟨x0, x1, x2, x3, x4⟩, ⟨f0, f1, f2, f3, f4⟩⟩ := blk5 HX1.out
    have hs1 := HZ1.out.lt
    clear d1 d2 HD1 hno hdk
    go_wp2_with (go_at_call 30; refine K2.out.mono ?_; rintro e w2 ⟨v2, rfl, o2, b2⟩; obtain ⟨X1, k1, X2, k2, X3, k3, X5, k5, rfl⟩ := o2.shape; refine Hid.out ?_)
    have HX2 := HX1.out.below b2 HX1.out.lt
    have HY2 := HY1.out.below b2 HY1.out.lt
    have HZ2 := HZ1.out.below b2 HZ1.out.lt
    have hB2 := hB1.out.trans (b2.mono hB1.out.size)
    have hs2 := b2.size
    obtain ⟨y1, y2, y3, y5, ee, ht, h5, ap⟩ := o2.ex
    cases ee
    have HF0 := fun u0 u1 u2 u3 u4 => own_dk5 (u0 := u0) (u1 := u1) (u2 := u2) (u3 := u3) (u4 := u4) (now := d.now) (d := d) rfl ht h5 ap HX2
    have HG0 := fun u0 u1 u2 u3 u4 => below_dk5 (u0 := u0) (u1 := u1) (u2 := u2) (u3 := u3) (u4 := u4) (g := w.heap.size) hB2 (Nat.le_refl _)
    clear x0 x1 x2 x3 x4 f0 f1 f2 f3 f4
    obtain ⟨⟨x0, x1, x2, x3, x4⟩, ⟨f0, f1, f2, f3, f4⟩⟩ := blk5 HX2
    have XA := ((((HX2.set_ 0 (.slice X1 d.t.us.length k1)).set_ 1 (.slice X2 d.t.bs.length k2)).set_ 2 (.slice X3 d.t.ns.length k3)).set_ 3 (.int .i64 d.now)).set_ 4 (.slice X5 d.past.length k5)
    simp at XA
    have YA := ((((HY2.far (p := ⟨w.heap.size, 0, none⟩) (by simp) (.slice X1 d.t.us.length k1)).far (p := ⟨w.heap.size, 1, none⟩) (by simp) (.slice X2 d.t.bs.length k2)).far (p := ⟨w.heap.size, 2, none⟩) (by simp) (.slice X3 d.t.ns.length k3)).far (p := ⟨w.heap.size, 3, none⟩) (by simp) (.int .i64 d.now)).far (p := ⟨w.heap.size, 4, none⟩) (by simp) (.slice X5 d.past.length k5)
    have ZA := ((((HZ2.far (p := ⟨w.heap.size, 0, none⟩) (by simp) (.slice X1 d.t.us.length k1)).far (p := ⟨w.heap.size, 1, none⟩) (by simp) (.slice X2 d.t.bs.length k2)).far (p := ⟨w.heap.size, 2, none⟩) (by simp) (.slice X3 d.t.ns.length k3)).far (p := ⟨w.heap.size, 3, none⟩) (by simp) (.int .i64 d.now)).far (p := ⟨w.heap.size, 4, none⟩) (by simp) (.slice X5 d.past.length k5)
    have OA := HF0 (.slice X1 d.t.us.length k1) (.slice X2 d.t.bs.length k2) (.slice X3 d.t.ns.length k3) (.int .i64 d.now) (.slice X5 d.past.length k5)
    have BA := HG0 (.slice X1 d.t.us.length k1) (.slice X2 d.t.bs.length k2) (.slice X3 d.t.ns.length k3) (.int .i64 d.now) (.slice X5 d.past.length k5)
    have hsV : w1.heap.size ≤ (((((w2.setCell ⟨w.heap.size, 0, none⟩ (.slice X1 d.t.us.length k1)).setCell ⟨w.heap.size, 1, none⟩ (.slice X2 d.t.bs.length k2)).setCell ⟨w.heap.size, 2, none⟩ (.slice X3 d.t.ns.length k3)).setCell ⟨w.heap.size, 3, none⟩ (.int .i64 d.now)).setCell ⟨w.heap.size, 4, none⟩ (.slice X5 d.past.length k5)).heap.size := by simpa using hs2
    replace XA := Lib.hid XA
    replace YA := Lib.hid YA
    replace ZA := Lib.hid ZA
    replace OA := Lib.hid OA
    replace BA := Lib.hid BA
    replace hsV := Lib.hid hsV
    clear HF0 HG0 HX2 HY2 HZ2 hB2 o2 b2 ht h5 ap K2 HX1 HY1 HZ1 hB1
    refine Lib.hid ?_
    go_upto_region 4 with (fail)
    generalize ((((w2.setCell ⟨w.heap.size, 0, none⟩ (.slice X1 d.t.us.length k1)).setCell ⟨w.heap.size, 1, none⟩ (.slice X2 d.t.bs.length k2)).setCell ⟨w.heap.size, 2, none⟩ (.slice X3 d.t.ns.length k3)).setCell ⟨w.heap.size, 3, none⟩ (.int .i64 d.now)).setCell ⟨w.heap.size, 4, none⟩ (.slice X5 d.past.length k5) = V at *
    clear x0 x1 x2 x3 x4 f0 f1 f2 f3 f4
    obtain ⟨⟨x0, x1, x2, x3, x4⟩, -⟩ := blk5 XA.out
    have yc0 : V.cell? ⟨w.heap.size + 1, 0, none⟩ = some (.int .i64 kd) := YA.out.cell 0
    have yc1 : V.cell? ⟨w.heap.size + 1, 1, none⟩ = some (.int .i64 n) := YA.out.cell 1
    by_cases hk : kd = 4 ∧ n = 0
    · have hg := Lib.hid (hback.out (by simp) hk)
      obtain ⟨ek, en⟩ := hk
      have K3 := Lib.hid (putBack_any w1.heap.size _ d V OA.out hff.out)
      rw [ek] at yc0
      rw [en] at yc1
      replace ek := Lib.hid ek
      replace en := Lib.hid en
      clear hback hput
      go_wp2_with (go_at_call 42; refine K3.out.mono ?_; rintro e w3 ⟨v3, rfl, o3, b3⟩; obtain ⟨Y1, j1, Y2, j2, Y3, j3, Y5, j5, rfl, -⟩ := o3.dsk.ex; refine Hid.out ?_)
      have ZB := ZA.out.below b3 ZA.out.lt
      have BB := BA.out.trans (b3.mono BA.out.size)
      obtain ⟨⟨z0, z1, z2, z3, z4⟩, ⟨e0, e1, e2, e3, e4⟩⟩ := blk5 ZB
      have HF := fun u0 u1 u2 u3 u4 => (own_dk5t (u0 := u0) (u1 := u1) (u2 := u2) (u3 := u3) (u4 := u4) o3 ZB).mono (B' := w.heap.size) (by omega)
      have HG := fun u0 u1 u2 u3 u4 => below_dk5 (u0 := u0) (u1 := u1) (u2 := u2) (u3 := u3) (u4 := u4) (g := w.heap.size + 2) BB (by omega)
      generalize backD d = bd at *
      replace HF := Lib.hid HF
      replace HG := Lib.hid HG
      clear x0 x1 x2 x3 x4 yc0 yc1 o3 b3 ZB BB K3
      refine Lib.hid ?_
      go_wp2
      refine bodyPost_ret (v := .tuple #[.agg #[.slice Y1 bd.1.t.us.length j1, .slice Y2 bd.1.t.bs.length j2, .slice Y3 bd.1.t.ns.length j3, .int .i64 bd.1.now, .slice Y5 bd.1.past.length j5], .bool bd.2]) (by simp [results, Try.results18, go_sem, z0, z1, z2, z3, z4]) rfl ?_
      rw [hg.out]
      exact ⟨_, rfl, HF.out _ _ _ _ _, HG.out _ _ _ _ _⟩
    · by_cases e4 : kd = 4
      · subst e4
        have hn0 : ¬ n = 0 := fun e => hk ⟨rfl, e⟩
        have hn1 : (n == 0) = false := by simpa using hn0
        have hg := Lib.hid ((hput.out (by simp) hk).trans (put_made d _).symm)
        have HVd := OA.out.own.dsk
        have K3 := Lib.hid (fun W (hb : Below V.heap.size V W) => numberBy_any _ d ⟨4, n⟩ W (HVd.below hb (Nat.le_refl _)) hff.out hnow)
        have K4 := Lib.hid (fun W (hb : Below V.heap.size V W) => putInstead_any w1.heap.size _ d (madeP d ⟨4, n⟩) W (OA.out.below hb (Nat.le_refl _)) hff.out (Nat.le_trans hsV.out hb.size) d3 (by omega))
        generalize madeP d ⟨4, n⟩ = mp at *
        generalize putD d mp = bd at *
        clear HVd hback hput
        have hXc := Lib.hid (fun W (b : Below V.heap.size V W) => (blk5 (XA.out.below b XA.out.lt)).1)
        have hYc := Lib.hid (fun W (b : Below V.heap.size V W) => (⟨(YA.out.below b YA.out.lt).cell 0, (YA.out.below b YA.out.lt).cell 1⟩ : W.cell? ⟨w.heap.size + 1, 0, none⟩ = some (.int .i64 (4)) ∧ W.cell? ⟨w.heap.size + 1, 1, none⟩ = some (.int .i64 n)))
        have hsv := hsV.out
        have hBs : w.heap.size ≤ V.heap.size := by omega
        go_upto_region 6 with (fail)
        clear x0 x1 x2 x3 x4 yc0 yc1 XA YA hk
        refine wp_region_any (by kernel_rfl) ?_
        refine wpAny_inv (Inv := fun l a' w' => ∃ (s5 s19 s20 s21 s22 s23 s24 s25 : Value), a' = ⟨#[.agg #[.slice A1 d.t.us.length c1, .slice A2 d.t.bs.length c2, .slice A3 d.t.ns.length c3, .int .i64 d.now, .slice A5 d.past.length c5], .agg #[.int .i64 4, .int .i64 n], .pointer (some ⟨w.heap.size, 0, none⟩), .pointer (some ⟨w.heap.size + 1, 0, none⟩), .pointer (some ⟨w.heap.size + 2, 0, none⟩), s5, .agg #[.slice A1 d.t.us.length c1, .slice A2 d.t.bs.length c2, .slice A3 d.t.ns.length c3, .int .i64 d.now, .slice A5 d.past.length c5], .bool true, .bool false, undef, .agg #[.slice A1 d.t.us.length c1, .slice A2 d.t.bs.length c2, .slice A3 d.t.ns.length c3, .int .i64 d.now, .slice A5 d.past.length c5], .agg #[.slice X1 d.t.us.length k1, .slice X2 d.t.bs.length k2, .slice X3 d.t.ns.length k3, .int .i64 d.now, .slice X5 d.past.length k5], .agg #[.int .i64 4, .int .i64 n], .agg #[.int .i64 4, .int .i64 0], .bool false, undef, undef, undef, undef, s19, s20, s21, s22, s23, s24, s25], []⟩ ∧ DDR V w.heap.size w1.heap.size (w.heap.size + 2) (.agg #[.slice X1 d.t.us.length k1, .slice X2 d.t.bs.length k2, .slice X3 d.t.ns.length k3, .int .i64 d.now, .slice X5 d.past.length k5]) 4 n mp bd.1 bd.2 l w' s5 s19 s20 s21 s22 s23 s24 s25) (ord_spec (by kernel_rfl)) ?_ ?_ _ _ _ _ rfl (by decide) ?_
        · rintro l a' w' ⟨s5, s19, s20, s21, s22, s23, s24, s25, rfl, hF⟩ hsz hl
          have hl' : ∀ j, j < 9 → l.getD j false = true := hl
          obtain ⟨u0, u1, u2, u3, u4, HB, HO⟩ := hF.f7 (hl' 7 (by decide))
          have e8 := hF.f8 (hl' 8 (by decide))
          subst e8
          obtain ⟨z0, z1, z2, z3, z4⟩ := (blk5 HB).1
          have HR : RetDkB w (dkDo d ⟨4, n⟩).1 (dkDo d ⟨4, n⟩).2 (.returned (.tuple #[.agg #[u0, u1, u2, u3, u4], .bool bd.2])) w' := by
            rw [hg.out]
            exact ⟨_, rfl, HO.mono (by omega), BA.out.trans hF.low⟩
          replace HR := Lib.hid HR
          clear hF hl hl' HB HO
          go_wp2
          refine bodyPost_ret (v := .tuple #[.agg #[u0, u1, u2, u3, u4], .bool bd.2]) (by simp [results, Try.results18, go_sem, z0, z1, z2, z3, z4]) rfl ?_
          exact HR.out
        · rintro l a' w' ⟨s5, s19, s20, s21, s22, s23, s24, s25, rfl, hF⟩ hsz i o hlt ho hun hall
          have hlt' : i < 9 := hlt
          refine wpOp_step ho (fun K' hK => ?_)
          replace hK := Lib.hid hK
          obtain rfl | rfl | rfl | rfl | rfl | rfl | rfl | rfl | rfl : i = 0 ∨ i = 1 ∨ i = 2 ∨ i = 3 ∨ i = 4 ∨ i = 5 ∨ i = 6 ∨ i = 7 ∨ i = 8 := by omega
          · simp only [List.getElem?_toArray, List.getElem?_cons_zero, Option.some.injEq] at ho
            subst ho
            have hbl := hF.lo (hF.no4a hun)
            obtain ⟨p0, p1, p2, p3, p4⟩ := hXc.out _ hbl
            replace hF := Lib.hid hF
            clear hall
            go_simp
            refine hK.out _ _ ?_
            exact ⟨_, _, _, _, _, _, _, _, rfl, hF.out.up0 rfl⟩
          · simp only [List.getElem?_toArray, List.getElem?_cons_succ, List.getElem?_cons_zero, Option.some.injEq] at ho
            subst ho
            have hbl := hF.lo (hF.no4b (hF.no3 (.inl hun)))
            obtain ⟨p0, p1, p2, p3, p4⟩ := hXc.out _ hbl
            replace hF := Lib.hid hF
            clear hall
            go_simp
            refine hK.out _ _ ?_
            exact ⟨_, _, _, _, _, _, _, _, rfl, hF.out.up1 rfl⟩
          · simp only [List.getElem?_toArray, List.getElem?_cons_succ, List.getElem?_cons_zero, Option.some.injEq] at ho
            subst ho
            have hbl := hF.lo (hF.no4b (hF.no3 (.inr hun)))
            obtain ⟨q0, q1⟩ := hYc.out _ hbl
            replace hF := Lib.hid hF
            clear hall
            go_simp
            refine hK.out _ _ ?_
            exact ⟨_, _, _, _, _, _, _, _, rfl, hF.out.up2 rfl⟩
          · simp only [List.getElem?_toArray, List.getElem?_cons_succ, List.getElem?_cons_zero, Option.some.injEq] at ho
            subst ho
            have h1 := (hall ⟨1, Ground.data⟩ (by simp) rfl)
            have h2 := (hall ⟨2, Ground.data⟩ (by simp) rfl)
            have e1 := hF.f1 h1
            subst e1
            have e2 := hF.f2 h2
            subst e2
            have hbl := hF.lo (hF.no4b hun)
            have hsz1 := hF.sz
            have KK := Lib.hid (K3.out _ hbl)
            replace hF := Lib.hid hF
            clear hall
            go_simp
            go_at_call 44
            refine KK.out.mono ?_
            rintro e V2 ⟨rfl, b3⟩
            go_simp
            refine hK.out _ _ ?_
            exact ⟨_, _, _, _, _, _, _, _, rfl, hF.out.up3 (by omega) ⟨h1, h2⟩ rfl b3⟩
          · simp only [List.getElem?_toArray, List.getElem?_cons_succ, List.getElem?_cons_zero, Option.some.injEq] at ho
            subst ho
            have h0 := (hall ⟨0, Ground.data⟩ (by simp) rfl)
            have h3 := (hall ⟨3, Ground.data⟩ (by simp) rfl)
            have e1 := hF.f0 h0
            subst e1
            have e2 := hF.f3 h3
            subst e2
            have hbl := hF.lo hun
            have KK := Lib.hid (K4.out _ hbl)
            replace hF := Lib.hid hF
            clear hall
            go_simp
            go_at_call 43
            refine KK.out.mono ?_
            rintro e V3 ⟨v3, rfl, o3, b4⟩
            go_simp
            refine hK.out _ _ ?_
            exact ⟨_, _, _, _, _, _, _, _, rfl, hF.out.up4 hsz hun (by omega) (by omega) ⟨h0, h3⟩ ⟨_, rfl, o3⟩ b4⟩
          · simp only [List.getElem?_toArray, List.getElem?_cons_succ, List.getElem?_cons_zero, Option.some.injEq] at ho
            subst ho
            have h4 := (hall ⟨4, Ground.data⟩ (by simp) rfl)
            obtain ⟨x, e1, o3⟩ := hF.f4 h4
            subst e1
            replace o3 := Lib.hid o3
            replace hF := Lib.hid hF
            clear hall
            go_simp
            refine hK.out _ _ ?_
            exact ⟨_, _, _, _, _, _, _, _, rfl, hF.out.up5 h4 o3.out⟩
          · simp only [List.getElem?_toArray, List.getElem?_cons_succ, List.getElem?_cons_zero, Option.some.injEq] at ho
            subst ho
            have h4 := (hall ⟨4, Ground.data⟩ (by simp) rfl)
            obtain ⟨x, e1, -⟩ := hF.f4 h4
            subst e1
            replace hF := Lib.hid hF
            clear hall
            go_simp
            refine hK.out _ _ ?_
            exact ⟨_, _, _, _, _, _, _, _, rfl, hF.out.up6 rfl⟩
          · simp only [List.getElem?_toArray, List.getElem?_cons_succ, List.getElem?_cons_zero, Option.some.injEq] at ho
            subst ho
            have h5 := (hall ⟨5, Ground.data⟩ (by simp) rfl)
            have h4 := hF.d5 h5
            have o3 := hF.f5 h5
            obtain ⟨Y1, j1, Y2, j2, Y3, j3, Y5, j5, e1, -⟩ := o3.dsk.ex
            subst e1
            obtain ⟨⟨z0, z1, z2, z3, z4⟩, ⟨e0, e1, e2, e3, e4⟩⟩ := blk5 (hF.hz hun)
            replace o3 := Lib.hid o3
            replace hF := Lib.hid hF
            clear hall
            go_simp
            refine hK.out _ _ ?_
            exact ⟨_, _, _, _, _, _, _, _, rfl, hF.out.up7 hsz hun h4 (by omega) o3.out⟩
          · simp only [List.getElem?_toArray, List.getElem?_cons_succ, List.getElem?_cons_zero, Option.some.injEq] at ho
            subst ho
            have e1 := hF.f6 (hall ⟨6, Ground.data⟩ (by simp) rfl)
            subst e1
            replace hF := Lib.hid hF
            clear hall
            go_simp
            refine hK.out _ _ ?_
            exact ⟨_, _, _, _, _, _, _, _, rfl, hF.out.up8 rfl⟩
        · exact ⟨_, _, _, _, _, _, _, _, rfl, (fun h => by simp at h), (fun h => by simp at h), (fun h => by simp at h), (fun h => by simp at h), (fun h => by simp at h), (fun h => by simp at h), (fun h => by simp at h), (fun h => by simp at h), (fun h => by simp at h), (fun h => by simp at h), (fun h => by simp at h), (fun h => by simp at h), (fun h => by simp at h), (Below.refl _ _).drew, (fun _ => (Below.refl _ _).drew), (fun _ => ZA.out.drew), hsV.out⟩
      · have q4 : (kd == 4) = false := by simpa using e4
        have hg := Lib.hid ((hput.out (by simp) hk).trans (put_made d _).symm)
        have HVd := OA.out.own.dsk
        have K3 := Lib.hid (fun W (hb : Below V.heap.size V W) => numberBy_any _ d ⟨kd, n⟩ W (HVd.below hb (Nat.le_refl _)) hff.out hnow)
        have K4 := Lib.hid (fun W (hb : Below V.heap.size V W) => putInstead_any w1.heap.size _ d (madeP d ⟨kd, n⟩) W (OA.out.below hb (Nat.le_refl _)) hff.out (Nat.le_trans hsV.out hb.size) d3 (by omega))
        generalize madeP d ⟨kd, n⟩ = mp at *
        generalize putD d mp = bd at *
        clear HVd hback hput
        have hXc := Lib.hid (fun W (b : Below V.heap.size V W) => (blk5 (XA.out.below b XA.out.lt)).1)
        have hYc := Lib.hid (fun W (b : Below V.heap.size V W) => (⟨(YA.out.below b YA.out.lt).cell 0, (YA.out.below b YA.out.lt).cell 1⟩ : W.cell? ⟨w.heap.size + 1, 0, none⟩ = some (.int .i64 (kd)) ∧ W.cell? ⟨w.heap.size + 1, 1, none⟩ = some (.int .i64 n)))
        have hsv := hsV.out
        have hBs : w.heap.size ≤ V.heap.size := by omega
        go_upto_region 6 with (fail)
        clear x0 x1 x2 x3 x4 yc0 yc1 XA YA hk
        refine wp_region_any (by kernel_rfl) ?_
        refine wpAny_inv (Inv := fun l a' w' => ∃ (s5 s19 s20 s21 s22 s23 s24 s25 : Value), a' = ⟨#[.agg #[.slice A1 d.t.us.length c1, .slice A2 d.t.bs.length c2, .slice A3 d.t.ns.length c3, .int .i64 d.now, .slice A5 d.past.length c5], .agg #[.int .i64 kd, .int .i64 n], .pointer (some ⟨w.heap.size, 0, none⟩), .pointer (some ⟨w.heap.size + 1, 0, none⟩), .pointer (some ⟨w.heap.size + 2, 0, none⟩), s5, .agg #[.slice A1 d.t.us.length c1, .slice A2 d.t.bs.length c2, .slice A3 d.t.ns.length c3, .int .i64 d.now, .slice A5 d.past.length c5], .bool true, .bool false, undef, .agg #[.slice A1 d.t.us.length c1, .slice A2 d.t.bs.length c2, .slice A3 d.t.ns.length c3, .int .i64 d.now, .slice A5 d.past.length c5], .agg #[.slice X1 d.t.us.length k1, .slice X2 d.t.bs.length k2, .slice X3 d.t.ns.length k3, .int .i64 d.now, .slice X5 d.past.length k5], .agg #[.int .i64 kd, .int .i64 n], .agg #[.int .i64 4, .int .i64 0], .bool false, undef, undef, undef, undef, s19, s20, s21, s22, s23, s24, s25], []⟩ ∧ DDR V w.heap.size w1.heap.size (w.heap.size + 2) (.agg #[.slice X1 d.t.us.length k1, .slice X2 d.t.bs.length k2, .slice X3 d.t.ns.length k3, .int .i64 d.now, .slice X5 d.past.length k5]) kd n mp bd.1 bd.2 l w' s5 s19 s20 s21 s22 s23 s24 s25) (ord_spec (by kernel_rfl)) ?_ ?_ _ _ _ _ rfl (by decide) ?_
        · rintro l a' w' ⟨s5, s19, s20, s21, s22, s23, s24, s25, rfl, hF⟩ hsz hl
          have hl' : ∀ j, j < 9 → l.getD j false = true := hl
          obtain ⟨u0, u1, u2, u3, u4, HB, HO⟩ := hF.f7 (hl' 7 (by decide))
          have e8 := hF.f8 (hl' 8 (by decide))
          subst e8
          obtain ⟨z0, z1, z2, z3, z4⟩ := (blk5 HB).1
          have HR : RetDkB w (dkDo d ⟨kd, n⟩).1 (dkDo d ⟨kd, n⟩).2 (.returned (.tuple #[.agg #[u0, u1, u2, u3, u4], .bool bd.2])) w' := by
            rw [hg.out]
            exact ⟨_, rfl, HO.mono (by omega), BA.out.trans hF.low⟩
          replace HR := Lib.hid HR
          clear hF hl hl' HB HO
          go_wp2
          refine bodyPost_ret (v := .tuple #[.agg #[u0, u1, u2, u3, u4], .bool bd.2]) (by simp [results, Try.results18, go_sem, z0, z1, z2, z3, z4]) rfl ?_
          exact HR.out
        · rintro l a' w' ⟨s5, s19, s20, s21, s22, s23, s24, s25, rfl, hF⟩ hsz i o hlt ho hun hall
          have hlt' : i < 9 := hlt
          refine wpOp_step ho (fun K' hK => ?_)
          replace hK := Lib.hid hK
          obtain rfl | rfl | rfl | rfl | rfl | rfl | rfl | rfl | rfl : i = 0 ∨ i = 1 ∨ i = 2 ∨ i = 3 ∨ i = 4 ∨ i = 5 ∨ i = 6 ∨ i = 7 ∨ i = 8 := by omega
          · simp only [List.getElem?_toArray, List.getElem?_cons_zero, Option.some.injEq] at ho
            subst ho
            have hbl := hF.lo (hF.no4a hun)
            obtain ⟨p0, p1, p2, p3, p4⟩ := hXc.out _ hbl
            replace hF := Lib.hid hF
            clear hall
            go_simp
            refine hK.out _ _ ?_
            exact ⟨_, _, _, _, _, _, _, _, rfl, hF.out.up0 rfl⟩
          · simp only [List.getElem?_toArray, List.getElem?_cons_succ, List.getElem?_cons_zero, Option.some.injEq] at ho
            subst ho
            have hbl := hF.lo (hF.no4b (hF.no3 (.inl hun)))
            obtain ⟨p0, p1, p2, p3, p4⟩ := hXc.out _ hbl
            replace hF := Lib.hid hF
            clear hall
            go_simp
            refine hK.out _ _ ?_
            exact ⟨_, _, _, _, _, _, _, _, rfl, hF.out.up1 rfl⟩
          · simp only [List.getElem?_toArray, List.getElem?_cons_succ, List.getElem?_cons_zero, Option.some.injEq] at ho
            subst ho
            have hbl := hF.lo (hF.no4b (hF.no3 (.inr hun)))
            obtain ⟨q0, q1⟩ := hYc.out _ hbl
            replace hF := Lib.hid hF
            clear hall
            go_simp
            refine hK.out _ _ ?_
            exact ⟨_, _, _, _, _, _, _, _, rfl, hF.out.up2 rfl⟩
          · simp only [List.getElem?_toArray, List.getElem?_cons_succ, List.getElem?_cons_zero, Option.some.injEq] at ho
            subst ho
            have h1 := (hall ⟨1, Ground.data⟩ (by simp) rfl)
            have h2 := (hall ⟨2, Ground.data⟩ (by simp) rfl)
            have e1 := hF.f1 h1
            subst e1
            have e2 := hF.f2 h2
            subst e2
            have hbl := hF.lo (hF.no4b hun)
            have hsz1 := hF.sz
            have KK := Lib.hid (K3.out _ hbl)
            replace hF := Lib.hid hF
            clear hall
            go_simp
            go_at_call 44
            refine KK.out.mono ?_
            rintro e V2 ⟨rfl, b3⟩
            go_simp
            refine hK.out _ _ ?_
            exact ⟨_, _, _, _, _, _, _, _, rfl, hF.out.up3 (by omega) ⟨h1, h2⟩ rfl b3⟩
          · simp only [List.getElem?_toArray, List.getElem?_cons_succ, List.getElem?_cons_zero, Option.some.injEq] at ho
            subst ho
            have h0 := (hall ⟨0, Ground.data⟩ (by simp) rfl)
            have h3 := (hall ⟨3, Ground.data⟩ (by simp) rfl)
            have e1 := hF.f0 h0
            subst e1
            have e2 := hF.f3 h3
            subst e2
            have hbl := hF.lo hun
            have KK := Lib.hid (K4.out _ hbl)
            replace hF := Lib.hid hF
            clear hall
            go_simp
            go_at_call 43
            refine KK.out.mono ?_
            rintro e V3 ⟨v3, rfl, o3, b4⟩
            go_simp
            refine hK.out _ _ ?_
            exact ⟨_, _, _, _, _, _, _, _, rfl, hF.out.up4 hsz hun (by omega) (by omega) ⟨h0, h3⟩ ⟨_, rfl, o3⟩ b4⟩
          · simp only [List.getElem?_toArray, List.getElem?_cons_succ, List.getElem?_cons_zero, Option.some.injEq] at ho
            subst ho
            have h4 := (hall ⟨4, Ground.data⟩ (by simp) rfl)
            obtain ⟨x, e1, o3⟩ := hF.f4 h4
            subst e1
            replace o3 := Lib.hid o3
            replace hF := Lib.hid hF
            clear hall
            go_simp
            refine hK.out _ _ ?_
            exact ⟨_, _, _, _, _, _, _, _, rfl, hF.out.up5 h4 o3.out⟩
          · simp only [List.getElem?_toArray, List.getElem?_cons_succ, List.getElem?_cons_zero, Option.some.injEq] at ho
            subst ho
            have h4 := (hall ⟨4, Ground.data⟩ (by simp) rfl)
            obtain ⟨x, e1, -⟩ := hF.f4 h4
            subst e1
            replace hF := Lib.hid hF
            clear hall
            go_simp
            refine hK.out _ _ ?_
            exact ⟨_, _, _, _, _, _, _, _, rfl, hF.out.up6 rfl⟩
          · simp only [List.getElem?_toArray, List.getElem?_cons_succ, List.getElem?_cons_zero, Option.some.injEq] at ho
            subst ho
            have h5 := (hall ⟨5, Ground.data⟩ (by simp) rfl)
            have h4 := hF.d5 h5
            have o3 := hF.f5 h5
            obtain ⟨Y1, j1, Y2, j2, Y3, j3, Y5, j5, e1, -⟩ := o3.dsk.ex
            subst e1
            obtain ⟨⟨z0, z1, z2, z3, z4⟩, ⟨e0, e1, e2, e3, e4⟩⟩ := blk5 (hF.hz hun)
            replace o3 := Lib.hid o3
            replace hF := Lib.hid hF
            clear hall
            go_simp
            refine hK.out _ _ ?_
            exact ⟨_, _, _, _, _, _, _, _, rfl, hF.out.up7 hsz hun h4 (by omega) o3.out⟩
          · simp only [List.getElem?_toArray, List.getElem?_cons_succ, List.getElem?_cons_zero, Option.some.injEq] at ho
            subst ho
            have e1 := hF.f6 (hall ⟨6, Ground.data⟩ (by simp) rfl)
            subst e1
            replace hF := Lib.hid hF
            clear hall
            go_simp
            refine hK.out _ _ ?_
            exact ⟨_, _, _, _, _, _, _, _, rfl, hF.out.up8 rfl⟩
        · exact ⟨_, _, _, _, _, _, _, _, rfl, (fun h => by simp at h), (fun h => by simp at h), (fun h => by simp at h), (fun h => by simp at h), (fun h => by simp at h), (fun h => by simp at h), (fun h => by simp at h), (fun h => by simp at h), (fun h => by simp at h), (fun h => by simp at h), (fun h => by simp at h), (fun h => by simp at h), (fun h => by simp at h), (Below.refl _ _).drew, (fun _ => (Below.refl _ _).drew), (fun _ => ZA.out.drew), hsV.out⟩
end Go.Proofs.Ytjnlpknjdclalaa
