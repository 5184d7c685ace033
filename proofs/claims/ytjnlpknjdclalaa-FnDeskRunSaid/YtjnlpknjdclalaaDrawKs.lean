/-
  A desk while it is drawn: its box, its rows, the reader.
-/
import Derived.Test.YtjnlpknjdclalaaDkW
import Derived.Test.YtjnlpknjdclalaaGC
import Derived.Test.YtjnlpknjdclalaaInv
namespace Go.Proofs.Ytjnlpknjdclalaa
open Go.RowKit

/-- While a desk is drawn in world w: the reader at g, read q times; the desk d in its box b; the result's block. -/
structure KSt (w : World) (g : Nat) (wx : World) (b : Nat) (d : Dk) (cs : Array Value) (q : Nat) : Prop where
  rd : Rd wx g q
  res : Blk wx w.heap.size 28 #[.slice none 0 0, .slice none 0 0, .slice none 0 0, .int .i64 0, .slice none 0 0]
  box : Blk wx b 28 cs
  own : WDk wx w.heap.size (.agg cs) d
  sm : SmallD d
  gr : w.grownBy wx (some g)
  g0 : g < w.heap.size
  b0 : w.heap.size < b
section
variable {w wx w' : World} {g b q q' : Nat} {d d' : Dk} {cs : Array Value}
theorem KSt.pick (h : KSt w g wx b d cs q) (hr : Rd w' g q') (hg : wx.grownBy w' (some g)) : KSt w g w' b d cs q' :=
  ⟨hr, h.res.grown hg (by simp; have := h.g0; omega), h.box.grown hg (by simp; have := h.g0; have := h.b0; omega), h.own.keptG hg h.g0, h.sm, h.gr.trans hg, h.g0, h.b0⟩
theorem KSt.below (h : KSt w g wx b d cs q) (hb : Below wx.heap.size wx w') : KSt w g w' b d cs q :=
  ⟨h.rd.below hb (Nat.le_refl _), h.res.below hb h.res.lt, h.box.below hb h.box.lt, h.own.below hb (Nat.le_refl _), h.sm, h.gr.trans (grown_of_below (some g) hb), h.g0, h.b0⟩
theorem KSt.lit (h : KSt w g wx b d cs q) (o : Obj) : KSt w g (wx.alloc o) b d cs q := h.below ((Below.refl _ _).alloc (Nat.le_refl _) o)
theorem KSt.start {w3 : World} (hr : Rd w3 g q) (hres : Blk w3 w.heap.size 28 #[.slice none 0 0, .slice none 0 0, .slice none 0 0, .int .i64 0, .slice none 0 0]) (hw : WDk w3 w.heap.size (.agg cs) d) (hs : SmallD d) (hgr : w.grownBy w3 (some g)) (g0 : g < w.heap.size) :
    KSt w g (w3.alloc (.cells cs 28)) w3.heap.size d cs q :=
  have hb := (Below.refl w3.heap.size w3).alloc (Nat.le_refl _) (.cells cs 28)
  ⟨hr.alloc' _, hres.alloc _, Blk.new _ _ _, hw.below hb (Nat.le_refl _), hs, hgr.trans (grown_of_below (some g) hb), g0, hres.lt⟩
/-- Another desk is put into the box. -/
theorem KSt.put {c0 c1 c2 c3 c4 u0 u1 u2 u3 u4 : Value} (h : KSt w g wx b d #[c0, c1, c2, c3, c4] q) (hd : WDk wx w.heap.size (.agg #[u0, u1, u2, u3, u4]) d') (hs : SmallD d') :
    KSt w g (((((wx.setCell ⟨b, 0, none⟩ u0).setCell ⟨b, 1, none⟩ u1).setCell ⟨b, 2, none⟩ u2).setCell ⟨b, 3, none⟩ u3).setCell ⟨b, 4, none⟩ u4) b d' #[u0, u1, u2, u3, u4] q := by
  have hg0 := h.g0
  have hb0 := h.b0
  have hne : w.heap.size ≠ b := by omega
  have hgb : g < b := by omega
  refine ⟨rd_set (rd_set (rd_set (rd_set (rd_set h.rd hgb _) hgb _) hgb _) hgb _) hgb _, ((((h.res.far hne _).far hne _).far hne _).far hne _).far hne _, ?_, own_wd5 hd h.box, hs, ?_, hg0, hb0⟩
  · have := ((((h.box.set_ 0 u0).set_ 1 u1).set_ 2 u2).set_ 3 u3).set_ 4 u4
    simpa using this
  · have hle : w.heap.size ≤ b := by omega
    exact grown_set (grown_set (grown_set (grown_set (grown_set h.gr hle _) hle _) hle _) hle _) hle _
theorem WDk.shape {v : Value} {B : Nat} (h : WDk w B v d) : ∃ A1 c1 A2 c2 A3 c3 A5 c5, v = .agg #[.slice A1 d.t.us.length c1, .slice A2 d.t.bs.length c2, .slice A3 d.t.ns.length c3, .int .i64 d.now, .slice A5 d.past.length c5] :=
  let ⟨A1, c1, A2, c2, A3, c3, A5, c5, e, _⟩ := h.dsk.ex; ⟨A1, c1, A2, c2, A3, c3, A5, c5, e⟩
end
/-- Some desk with at most m numbers of before lies in the box. -/
def KAt (w : World) (g p m : Nat) (wx : World) (b : Nat) : Prop := ∃ d A1 c1 A2 c2 A3 c3 A5 c5 q, KSt w g wx b d #[.slice A1 d.t.us.length c1, .slice A2 d.t.bs.length c2, .slice A3 d.t.ns.length c3, .int .i64 d.now, .slice A5 d.past.length c5] q ∧ d.past.length ≤ m ∧ q ≤ p
/-- A desk is drawn by a reader. -/
def RetKDesk (w : World) (g p : Nat) (e : Ending) (w' : World) : Prop := ∃ v d q, e = .returned v ∧ MDk w' w.heap.size v d ∧ SmallD d ∧ Rd w' g q ∧ q ≤ p + 200 ∧ w.grownBy w' (some g)

theorem own_offK {a b : World} {B n : Nat} {e : TypeId} {u : Value} {xs : List Value} {row : Option Nat} (h : a.ownsRow B e 1 u n xs) (hg : a.grownBy b row) (hne : ∀ k, u.ownBlock = some k → row ≠ some k) : b.ownsRow B e 1 u n xs := by
  refine h.kept hg ?_
  cases hv : u.ownBlock with
  | none => exact .inl rfl
  | some k => exact .inr fun e => hne k hv e.symm
section
variable {w wx w' : World} {g b q q' c1 c2 c3 c5 : Nat} {A1 A2 A3 A5 : Option Addr} {d : Dk} {cs : Array Value}
theorem KSt.past (h : KSt w g wx b d #[.slice A1 d.t.us.length c1, .slice A2 d.t.bs.length c2, .slice A3 d.t.ns.length c3, .int .i64 d.now, .slice A5 d.past.length c5] q) : OwnI wx w.heap.size (.slice A5 d.past.length c5) d.past := by
  obtain ⟨v1, v2, v3, v5, e, -, h5, -⟩ := h.own.ex
  cases e
  exact h5
/-- The box's number is 0. -/
theorem KSt.now0 (h : KSt w g wx b d #[.slice A1 d.t.us.length c1, .slice A2 d.t.bs.length c2, .slice A3 d.t.ns.length c3, .int .i64 d.now, .slice A5 d.past.length c5] q) : KSt w g (wx.setCell ⟨b, 3, none⟩ (.int .i64 0)) b ⟨d.t, 0, d.past⟩ #[.slice A1 d.t.us.length c1, .slice A2 d.t.bs.length c2, .slice A3 d.t.ns.length c3, .int .i64 0, .slice A5 d.past.length c5] q := by
  have hb0 := h.b0
  have hg0 := h.g0
  have h2 := h.own.setM (i := 3) (u := .int .i64 0) h.box
  refine ⟨rd_set h.rd (by omega) _, h.res.far (by show w.heap.size ≠ b; omega) _, ?_, ?_, ⟨h.sm.t, by show (-200000 : Int) ≤ 0 ∧ (0 : Int) ≤ 200000; omega, h.sm.len, h.sm.bd⟩, grown_set h.gr (by omega) _, hg0, hb0⟩
  · have := h.box.set_ 3 (.int .i64 0)
    simpa using this
  · obtain ⟨v1, v2, v3, v5, e, ht, h5, ap⟩ := h2.ex
    cases e
    exact ⟨_, _, _, _, rfl, ht, h5, ap⟩
theorem KSt.mid (h : KSt w g wx b d #[.slice A1 d.t.us.length c1, .slice A2 d.t.bs.length c2, .slice A3 d.t.ns.length c3, .int .i64 d.now, .slice A5 d.past.length c5] q) (hg : wx.grownBy w' (Value.slice A5 d.past.length c5).ownBlock) : Blk w' b 28 #[.slice A1 d.t.us.length c1, .slice A2 d.t.bs.length c2, .slice A3 d.t.ns.length c3, .int .i64 d.now, .slice A5 d.past.length c5] ∧ Blk w' w.heap.size 28 #[.slice none 0 0, .slice none 0 0, .slice none 0 0, .int .i64 0, .slice none 0 0] :=
  ⟨h.box.grown hg (Ne.symm (own_blk_ne h.past h.box (by decide))), h.res.grown hg (Ne.symm (own_blk_ne h.past h.res (by decide)))⟩
/-- A number of before is appended. -/
theorem KSt.snoc (h : KSt w g wx b d #[.slice A1 d.t.us.length c1, .slice A2 d.t.bs.length c2, .slice A3 d.t.ns.length c3, .int .i64 d.now, .slice A5 d.past.length c5] q) {v' : Value} (ho : w'.ownsRow w.heap.size 3 1 v' (d.past.length + 1) (d.past.map (Value.int .i64) ++ [.int .i64 0])) (hg : wx.grownBy w' (Value.slice A5 d.past.length c5).ownBlock) (hat : v'.ownBlock = (Value.slice A5 d.past.length c5).ownBlock ∨ v'.ownBlock = some wx.heap.size) (hl : d.past.length ≤ 8) :
    KSt w g (w'.setCell ⟨b, 4, none⟩ v') b ⟨d.t, d.now, d.past ++ [0]⟩ #[.slice A1 d.t.us.length c1, .slice A2 d.t.bs.length c2, .slice A3 d.t.ns.length c3, .int .i64 d.now, v'] q := by
  have hb0 := h.b0
  have hg0 := h.g0
  obtain ⟨hB, hR⟩ := h.mid hg
  have hp := h.past
  have hr := rd_append (w := w) h.g0 h.rd hp hg
  have hgr := grown_append h.gr hp hg
  obtain ⟨v1, v2, v3, v5, e, ht, h5, ap⟩ := h.own.ex
  cases e
  obtain ⟨y1, y2, y3, ee, o1, o2, o3⟩ := ht.ex
  cases ee
  have ho2 : OwnI w' w.heap.size v' (d.past ++ [0]) := by
    unfold OwnI
    rw [List.length_append, List.length_singleton, List.map_append]
    exact ho
  have hT : LTng w' w.heap.size (.agg #[.slice A1 d.t.us.length c1, .slice A2 d.t.bs.length c2, .slice A3 d.t.ns.length c3]) d.t := ⟨_, _, _, rfl, own_offK o1 hg (fun k hk e => own_type_ne o1 hp (by decide) k hk e), own_offK o2 hg (fun k hk e => ap k hk e), own_offK o3 hg (fun k hk e => own_type_ne o3 hp (by decide) k hk e)⟩
  have hap : ∀ k, (Value.slice A2 d.t.bs.length c2).ownBlock = some k → v'.ownBlock ≠ some k := fun k hk e => by
    rcases hat with h1 | h1
    · exact ap k hk (h1.symm.trans e)
    · rw [h1] at e
      cases e
      have := (o2.lt _ hk).2
      omega
  have hW : WDk w' w.heap.size (.agg #[.slice A1 d.t.us.length c1, .slice A2 d.t.bs.length c2, .slice A3 d.t.ns.length c3, .int .i64 d.now, v']) ⟨d.t, d.now, d.past ++ [0]⟩ := ⟨_, _, _, _, rfl, hT, ho2, hap⟩
  refine ⟨rd_set hr (by omega) _, hR.far (by show w.heap.size ≠ b; omega) _, ?_, hW.setM hB, ⟨h.sm.t, h.sm.now, by simp; omega, fun x hx => ?_⟩, grown_set hgr (by omega) _, hg0, hb0⟩
  · have := hB.set_ 4 v'
    simpa using this
  · rcases List.mem_append.1 hx with hm | hm
    · exact h.sm.bd x hm
    · rw [List.mem_singleton] at hm
      subst hm
      exact ⟨by decide, by decide⟩
theorem KSt.finish {p : Nat} {u0 u1 u2 u3 u4 : Value} (h : KSt w g wx b d cs q) (hq : q ≤ p + 200) :
    RetKDesk w g p (.returned (.agg cs)) (((((wx.setCell ⟨w.heap.size, 0, none⟩ u0).setCell ⟨w.heap.size, 1, none⟩ u1).setCell ⟨w.heap.size, 2, none⟩ u2).setCell ⟨w.heap.size, 3, none⟩ u3).setCell ⟨w.heap.size, 4, none⟩ u4) := by
  have hg0 := h.g0
  have hl := Nat.le_refl w.heap.size
  exact ⟨_, d, q, rfl, (own_wd5 h.own h.res).m, h.sm, rd_set (rd_set (rd_set (rd_set (rd_set h.rd hg0 _) hg0 _) hg0 _) hg0 _) hg0 _, hq, grown_set (grown_set (grown_set (grown_set (grown_set h.gr hl _) hl _) hl _) hl _) hl _⟩
theorem KSt.finish0 {p : Nat} {u0 u1 u2 u3 u4 : Value} (h : KSt w g wx b d cs q) (hq : q ≤ p + 200) :
    RetKDesk w g p (.returned (.agg #[.slice none 0 0, .slice none 0 0, .slice none 0 0, .int .i64 0, .slice none 0 0])) (((((wx.setCell ⟨w.heap.size, 0, none⟩ u0).setCell ⟨w.heap.size, 1, none⟩ u1).setCell ⟨w.heap.size, 2, none⟩ u2).setCell ⟨w.heap.size, 3, none⟩ u3).setCell ⟨w.heap.size, 4, none⟩ u4) := by
  have hg0 := h.g0
  have hl := Nat.le_refl w.heap.size
  exact ⟨_, noDk, q, rfl, (own_wd5 (own_wdNo _ _) h.res).m, small_noDk, rd_set (rd_set (rd_set (rd_set (rd_set h.rd hg0 _) hg0 _) hg0 _) hg0 _) hg0 _, hq, grown_set (grown_set (grown_set (grown_set (grown_set h.gr hl _) hl _) hl _) hl _) hl _⟩
end



/-- A drawn desk with at most m numbers of before. -/
structure SmN (m : Nat) (d : Dk) : Prop where
  s : SmallD d
  l : d.past.length ≤ m
/-- While a deed is drawn and done. -/
structure DKL (w1 : World) (g rr : Nat) (DV : Value) (m : Nat) (l : Array Bool) (w : World) (s8 s9 s33 s34 s35 s36 s37 s38 s39 : Value) : Prop where
  f0 : l.getD 0 false = true → s34 = DV
  f1 : l.getD 1 false = true → s35 = .pointer (some ⟨g, 0, none⟩)
  f2 : l.getD 2 false = true → ∃ kd n : Int, s36 = .agg #[.int .i64 kd, .int .i64 n]
  f3 : l.getD 3 false = true → ∃ v b d', s37 = .tuple #[v, .bool b] ∧ WDk w (w1.heap.size) v d' ∧ SmN m d'
  f4 : l.getD 4 false = true → ∃ v b d', s33 = .tuple #[v, .bool b] ∧ WDk w (w1.heap.size) v d' ∧ SmN m d'
  f5 : l.getD 5 false = true → ∃ d', WDk w (w1.heap.size) s38 d' ∧ SmN m d'
  f6 : l.getD 6 false = true → ∃ b, s39 = .bool b
  f7 : l.getD 7 false = true → ∃ q, s8 = .pointer (some ⟨q, 0, none⟩) ∧ w1.heap.size ≤ q ∧ (l.getD 8 false = false → Blk w q 28 #[.slice none 0 0, .slice none 0 0, .slice none 0 0, .int .i64 0, .slice none 0 0])
  f8 : l.getD 8 false = true → ∃ (q : Nat) (u0 u1 u2 u3 u4 : Value) (d' : Dk), s8 = .pointer (some ⟨q, 0, none⟩) ∧ w1.heap.size ≤ q ∧ Blk w q 28 #[u0, u1, u2, u3, u4] ∧ WDk w (w1.heap.size) (.agg #[u0, u1, u2, u3, u4]) d' ∧ SmN m d'
  f9 : l.getD 9 false = true → ∃ b, s9 = .bool b
  da : l.getD 8 false = true → l.getD 7 false = true
  dr : ∃ r, Rd w g r ∧ r ≤ (if l.getD 2 false = true then rr + 20 else rr)
  gr : w1.grownBy w (some g)
  g0 : g < w1.heap.size
section
variable {w1 w w' : World} {g rr m : Nat} {DV : Value} {l : Array Bool} {s8 s9 s33 s34 s35 s36 s37 s38 s39 v : Value}
theorem DKL.up0 (h : DKL w1 g rr DV m l w s8 s9 s33 s34 s35 s36 s37 s38 s39) (hv : v = DV) : DKL w1 g rr DV m (l.setIfInBounds 0 true) w s8 s9 s33 v s35 s36 s37 s38 s39 := by
  exact ⟨(fun _ => hv), (fun h' => h.f1 (listed_set h' (by decide))), (fun h' => h.f2 (listed_set h' (by decide))), (fun h' => h.f3 (listed_set h' (by decide))), (fun h' => h.f4 (listed_set h' (by decide))), (fun h' => h.f5 (listed_set h' (by decide))), (fun h' => h.f6 (listed_set h' (by decide))), (fun h' => (let ⟨q, e, hq, hh⟩ := h.f7 (listed_set h' (by decide)); ⟨q, e, hq, fun hn => hh (by rwa [listed_same (by decide)] at hn)⟩)), (fun h' => h.f8 (listed_set h' (by decide))), (fun h' => h.f9 (listed_set h' (by decide))), (fun h' => by rw [listed_same (by decide)] at h' ⊢; exact h.da h'), (by rw [listed_same (by decide)]; exact h.dr), h.gr, h.g0⟩
theorem DKL.up1 (h : DKL w1 g rr DV m l w s8 s9 s33 s34 s35 s36 s37 s38 s39) (hv : v = .pointer (some ⟨g, 0, none⟩)) : DKL w1 g rr DV m (l.setIfInBounds 1 true) w s8 s9 s33 s34 v s36 s37 s38 s39 := by
  exact ⟨(fun h' => h.f0 (listed_set h' (by decide))), (fun _ => hv), (fun h' => h.f2 (listed_set h' (by decide))), (fun h' => h.f3 (listed_set h' (by decide))), (fun h' => h.f4 (listed_set h' (by decide))), (fun h' => h.f5 (listed_set h' (by decide))), (fun h' => h.f6 (listed_set h' (by decide))), (fun h' => (let ⟨q, e, hq, hh⟩ := h.f7 (listed_set h' (by decide)); ⟨q, e, hq, fun hn => hh (by rwa [listed_same (by decide)] at hn)⟩)), (fun h' => h.f8 (listed_set h' (by decide))), (fun h' => h.f9 (listed_set h' (by decide))), (fun h' => by rw [listed_same (by decide)] at h' ⊢; exact h.da h'), (by rw [listed_same (by decide)]; exact h.dr), h.gr, h.g0⟩
theorem DKL.up4 (h : DKL w1 g rr DV m l w s8 s9 s33 s34 s35 s36 s37 s38 s39) (hv : ∃ x b d', v = .tuple #[x, .bool b] ∧ WDk w (w1.heap.size) x d' ∧ SmN m d') : DKL w1 g rr DV m (l.setIfInBounds 4 true) w s8 s9 v s34 s35 s36 s37 s38 s39 := by
  exact ⟨(fun h' => h.f0 (listed_set h' (by decide))), (fun h' => h.f1 (listed_set h' (by decide))), (fun h' => h.f2 (listed_set h' (by decide))), (fun h' => h.f3 (listed_set h' (by decide))), (fun _ => hv), (fun h' => h.f5 (listed_set h' (by decide))), (fun h' => h.f6 (listed_set h' (by decide))), (fun h' => (let ⟨q, e, hq, hh⟩ := h.f7 (listed_set h' (by decide)); ⟨q, e, hq, fun hn => hh (by rwa [listed_same (by decide)] at hn)⟩)), (fun h' => h.f8 (listed_set h' (by decide))), (fun h' => h.f9 (listed_set h' (by decide))), (fun h' => by rw [listed_same (by decide)] at h' ⊢; exact h.da h'), (by rw [listed_same (by decide)]; exact h.dr), h.gr, h.g0⟩
theorem DKL.up5 (h : DKL w1 g rr DV m l w s8 s9 s33 s34 s35 s36 s37 s38 s39) (hv : ∃ d', WDk w (w1.heap.size) v d' ∧ SmN m d') : DKL w1 g rr DV m (l.setIfInBounds 5 true) w s8 s9 s33 s34 s35 s36 s37 v s39 := by
  exact ⟨(fun h' => h.f0 (listed_set h' (by decide))), (fun h' => h.f1 (listed_set h' (by decide))), (fun h' => h.f2 (listed_set h' (by decide))), (fun h' => h.f3 (listed_set h' (by decide))), (fun h' => h.f4 (listed_set h' (by decide))), (fun _ => hv), (fun h' => h.f6 (listed_set h' (by decide))), (fun h' => (let ⟨q, e, hq, hh⟩ := h.f7 (listed_set h' (by decide)); ⟨q, e, hq, fun hn => hh (by rwa [listed_same (by decide)] at hn)⟩)), (fun h' => h.f8 (listed_set h' (by decide))), (fun h' => h.f9 (listed_set h' (by decide))), (fun h' => by rw [listed_same (by decide)] at h' ⊢; exact h.da h'), (by rw [listed_same (by decide)]; exact h.dr), h.gr, h.g0⟩
theorem DKL.up6 (h : DKL w1 g rr DV m l w s8 s9 s33 s34 s35 s36 s37 s38 s39) (hv : ∃ b, v = .bool b) : DKL w1 g rr DV m (l.setIfInBounds 6 true) w s8 s9 s33 s34 s35 s36 s37 s38 v := by
  exact ⟨(fun h' => h.f0 (listed_set h' (by decide))), (fun h' => h.f1 (listed_set h' (by decide))), (fun h' => h.f2 (listed_set h' (by decide))), (fun h' => h.f3 (listed_set h' (by decide))), (fun h' => h.f4 (listed_set h' (by decide))), (fun h' => h.f5 (listed_set h' (by decide))), (fun _ => hv), (fun h' => (let ⟨q, e, hq, hh⟩ := h.f7 (listed_set h' (by decide)); ⟨q, e, hq, fun hn => hh (by rwa [listed_same (by decide)] at hn)⟩)), (fun h' => h.f8 (listed_set h' (by decide))), (fun h' => h.f9 (listed_set h' (by decide))), (fun h' => by rw [listed_same (by decide)] at h' ⊢; exact h.da h'), (by rw [listed_same (by decide)]; exact h.dr), h.gr, h.g0⟩
theorem DKL.up9 (h : DKL w1 g rr DV m l w s8 s9 s33 s34 s35 s36 s37 s38 s39) (hv : ∃ b, v = .bool b) : DKL w1 g rr DV m (l.setIfInBounds 9 true) w s8 v s33 s34 s35 s36 s37 s38 s39 := by
  exact ⟨(fun h' => h.f0 (listed_set h' (by decide))), (fun h' => h.f1 (listed_set h' (by decide))), (fun h' => h.f2 (listed_set h' (by decide))), (fun h' => h.f3 (listed_set h' (by decide))), (fun h' => h.f4 (listed_set h' (by decide))), (fun h' => h.f5 (listed_set h' (by decide))), (fun h' => h.f6 (listed_set h' (by decide))), (fun h' => (let ⟨q, e, hq, hh⟩ := h.f7 (listed_set h' (by decide)); ⟨q, e, hq, fun hn => hh (by rwa [listed_same (by decide)] at hn)⟩)), (fun h' => h.f8 (listed_set h' (by decide))), (fun _ => hv), (fun h' => by rw [listed_same (by decide)] at h' ⊢; exact h.da h'), (by rw [listed_same (by decide)]; exact h.dr), h.gr, h.g0⟩
theorem DKL.up2 (h : DKL w1 g rr DV m l w s8 s9 s33 s34 s35 s36 s37 s38 s39) (hsz : l.size = 10) (hv : ∃ kd n : Int, v = .agg #[.int .i64 kd, .int .i64 n]) (hg : w.grownBy w' (some g)) (hr : ∃ r, Rd w' g r ∧ r ≤ rr + 20) : DKL w1 g rr DV m (l.setIfInBounds 2 true) w' s8 s9 s33 s34 s35 v s37 s38 s39 := by
  exact ⟨(fun h' => h.f0 (listed_set h' (by decide))), (fun h' => h.f1 (listed_set h' (by decide))), (fun _ => hv), (fun h' => (let ⟨v, b, d', e, ho, hs⟩ := h.f3 (listed_set h' (by decide)); ⟨v, b, d', e, (ho).keptG hg h.g0, hs⟩)), (fun h' => (let ⟨v, b, d', e, ho, hs⟩ := h.f4 (listed_set h' (by decide)); ⟨v, b, d', e, (ho).keptG hg h.g0, hs⟩)), (fun h' => (let ⟨d', ho, hs⟩ := h.f5 (listed_set h' (by decide)); ⟨d', (ho).keptG hg h.g0, hs⟩)), (fun h' => h.f6 (listed_set h' (by decide))), (fun h' => (let ⟨q, e, hq, hh⟩ := h.f7 (listed_set h' (by decide)); ⟨q, e, hq, fun hn => let b := hh (by rwa [listed_same (by decide)] at hn); (b).grown hg (by simp; have := h.g0; omega)⟩)), (fun h' => (let ⟨q, u0, u1, u2, u3, u4, d', e, hq, b, ho, hs⟩ := h.f8 (listed_set h' (by decide)); ⟨q, u0, u1, u2, u3, u4, d', e, hq, (b).grown hg (by simp; have := h.g0; omega), (ho).keptG hg h.g0, hs⟩)), (fun h' => h.f9 (listed_set h' (by decide))), (fun h' => by rw [listed_same (by decide)] at h' ⊢; exact h.da h'), (by rw [listed_at (by omega), if_pos rfl]; exact hr), h.gr.trans hg, h.g0⟩
theorem DKL.up3 (h : DKL w1 g rr DV m l w s8 s9 s33 s34 s35 s36 s37 s38 s39) (hv : ∃ x b d', v = .tuple #[x, .bool b] ∧ WDk w' (w1.heap.size) x d' ∧ SmN m d') (hb : Below w.heap.size w w') : DKL w1 g rr DV m (l.setIfInBounds 3 true) w' s8 s9 s33 s34 s35 s36 v s38 s39 := by
  exact ⟨(fun h' => h.f0 (listed_set h' (by decide))), (fun h' => h.f1 (listed_set h' (by decide))), (fun h' => h.f2 (listed_set h' (by decide))), (fun _ => hv), (fun h' => (let ⟨v, b, d', e, ho, hs⟩ := h.f4 (listed_set h' (by decide)); ⟨v, b, d', e, (ho).below hb (Nat.le_refl _), hs⟩)), (fun h' => (let ⟨d', ho, hs⟩ := h.f5 (listed_set h' (by decide)); ⟨d', (ho).below hb (Nat.le_refl _), hs⟩)), (fun h' => h.f6 (listed_set h' (by decide))), (fun h' => (let ⟨q, e, hq, hh⟩ := h.f7 (listed_set h' (by decide)); ⟨q, e, hq, fun hn => let b := hh (by rwa [listed_same (by decide)] at hn); (b).below hb (b).lt⟩)), (fun h' => (let ⟨q, u0, u1, u2, u3, u4, d', e, hq, b, ho, hs⟩ := h.f8 (listed_set h' (by decide)); ⟨q, u0, u1, u2, u3, u4, d', e, hq, (b).below hb (b).lt, (ho).below hb (Nat.le_refl _), hs⟩)), (fun h' => h.f9 (listed_set h' (by decide))), (fun h' => by rw [listed_same (by decide)] at h' ⊢; exact h.da h'), (let ⟨r, hr, hq⟩ := h.dr; ⟨r, hr.below hb (Nat.le_refl _), by rw [listed_same (by decide)]; exact hq⟩), h.gr.trans (grown_of_below (some g) hb), h.g0⟩
theorem DKL.up7 (h : DKL w1 g rr DV m l w s8 s9 s33 s34 s35 s36 s37 s38 s39) (hsz : l.size = 10) (hun : l.getD 7 false = false)  : DKL w1 g rr DV m (l.setIfInBounds 7 true) (w.alloc (.cells #[.slice none 0 0, .slice none 0 0, .slice none 0 0, .int .i64 0, .slice none 0 0] 28)) (.pointer (some ⟨w.heap.size, 0, none⟩)) s9 s33 s34 s35 s36 s37 s38 s39 := by
  have hb := (Below.refl w.heap.size w).alloc (Nat.le_refl _) (.cells #[.slice none 0 0, .slice none 0 0, .slice none 0 0, .int .i64 0, .slice none 0 0] 28)
  exact ⟨(fun h' => h.f0 (listed_set h' (by decide))), (fun h' => h.f1 (listed_set h' (by decide))), (fun h' => h.f2 (listed_set h' (by decide))), (fun h' => (let ⟨v, b, d', e, ho, hs⟩ := h.f3 (listed_set h' (by decide)); ⟨v, b, d', e, (ho).below hb (Nat.le_refl _), hs⟩)), (fun h' => (let ⟨v, b, d', e, ho, hs⟩ := h.f4 (listed_set h' (by decide)); ⟨v, b, d', e, (ho).below hb (Nat.le_refl _), hs⟩)), (fun h' => (let ⟨d', ho, hs⟩ := h.f5 (listed_set h' (by decide)); ⟨d', (ho).below hb (Nat.le_refl _), hs⟩)), (fun h' => h.f6 (listed_set h' (by decide))), (fun _ => ⟨w.heap.size, rfl, h.gr.size, fun _ => Blk.new _ _ _⟩), (fun h' => absurd (h.da (listed_set h' (by decide))) (by rw [hun]; simp)), (fun h' => h.f9 (listed_set h' (by decide))), (fun _ => listed_at (by omega)), (let ⟨r, hr, hq⟩ := h.dr; ⟨r, hr.below hb (Nat.le_refl _), by rw [listed_same (by decide)]; exact hq⟩), h.gr.trans (grown_of_below (some g) hb), h.g0⟩
theorem DKL.up8 (h : DKL w1 g rr DV m l w s8 s9 s33 s34 s35 s36 s37 s38 s39) (hsz : l.size = 10) {q : Nat} {u0 u1 u2 u3 u4 : Value} {d' : Dk} (hA : l.getD 7 false = true) (e8 : s8 = .pointer (some ⟨q, 0, none⟩)) (hq : w1.heap.size ≤ q) (hz : Blk w q 28 #[.slice none 0 0, .slice none 0 0, .slice none 0 0, .int .i64 0, .slice none 0 0]) (ho : WDk w (w1.heap.size) (.agg #[u0, u1, u2, u3, u4]) d') (hs : SmN m d') : DKL w1 g rr DV m (l.setIfInBounds 8 true) (((((w.setCell ⟨q, 0, none⟩ u0).setCell ⟨q, 1, none⟩ u1).setCell ⟨q, 2, none⟩ u2).setCell ⟨q, 3, none⟩ u3).setCell ⟨q, 4, none⟩ u4) s8 s9 s33 s34 s35 s36 s37 s38 s39 := by
  have HB : Blk (((((w.setCell ⟨q, 0, none⟩ u0).setCell ⟨q, 1, none⟩ u1).setCell ⟨q, 2, none⟩ u2).setCell ⟨q, 3, none⟩ u3).setCell ⟨q, 4, none⟩ u4) q 28 #[u0, u1, u2, u3, u4] := by
    have := ((((hz.set_ 0 u0).set_ 1 u1).set_ 2 u2).set_ 3 u3).set_ 4 u4
    simpa using this
  exact ⟨(fun h' => h.f0 (listed_set h' (by decide))), (fun h' => h.f1 (listed_set h' (by decide))), (fun h' => h.f2 (listed_set h' (by decide))), (fun h' => let ⟨v, b, d', e, ho, hs⟩ := h.f3 (listed_set h' (by decide)); ⟨v, b, d', e, own_wd5 ho hz, hs⟩), (fun h' => let ⟨v, b, d', e, ho, hs⟩ := h.f4 (listed_set h' (by decide)); ⟨v, b, d', e, own_wd5 ho hz, hs⟩), (fun h' => let ⟨d', ho, hs⟩ := h.f5 (listed_set h' (by decide)); ⟨d', own_wd5 ho hz, hs⟩), (fun h' => h.f6 (listed_set h' (by decide))), (fun h' => let ⟨q, e, hq, hh⟩ := h.f7 (listed_set h' (by decide)); ⟨q, e, hq, fun hn => by rw [listed_at (by omega)] at hn; cases hn⟩), (fun _ => ⟨q, u0, u1, u2, u3, u4, d', e8, hq, HB, own_wd5 ho hz, hs⟩), (fun h' => h.f9 (listed_set h' (by decide))), (fun _ => by rw [listed_same (by decide)]; exact hA), (let ⟨r, hr, hle⟩ := h.dr; ⟨r, (rd_set (rd_set (rd_set (rd_set (rd_set hr (by have := h.g0; omega) u0) (by have := h.g0; omega) u1) (by have := h.g0; omega) u2) (by have := h.g0; omega) u3) (by have := h.g0; omega) u4), by rw [listed_same (by decide)]; exact hle⟩), (grown_set (grown_set (grown_set (grown_set (grown_set h.gr hq u0) hq u1) hq u2) hq u3) hq u4), h.g0⟩
end

end Go.Proofs.Ytjnlpknjdclalaa
