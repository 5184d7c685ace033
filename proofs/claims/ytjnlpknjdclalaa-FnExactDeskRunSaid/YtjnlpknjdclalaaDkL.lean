/-
  Rows of a tongue without a word on whether they are apart; appends onto an empty literal, which turn nothing old.
-/
import Derived.Test.YtjnlpknjdclalaaDkM
import Derived.Test.YtjnlpknjdclalaaGA
namespace Go.Proofs.Ytjnlpknjdclalaa
open Go.RowKit

/-- A desk of the call's own, its numbers of before a whole row. -/
structure OwnDkW (w : World) (B : Nat) (v : Value) (d : Dk) : Prop where
  ex : ∃ v1 v2 v3 v5, v = .agg #[v1, v2, v3, .int .i64 d.now, v5] ∧ OwnTng w B (.agg #[v1, v2, v3]) d.t ∧ OwnI w B v5 d.past ∧ ∀ k, v2.ownBlock = some k → v5.ownBlock ≠ some k
section
variable {w w' : World} {B B' S : Nat} {v : Value} {d : Dk}
theorem OwnDkW.below (h : OwnDkW w B v d) (hb : Below S w w') (hS : w.heap.size ≤ S) : OwnDkW w' B v d := let ⟨v1, v2, v3, v5, e, h1, h2, h3⟩ := h.ex; ⟨v1, v2, v3, v5, e, h1.below hb hS, h2.below hb hS, h3⟩
theorem OwnDkW.mono (h : OwnDkW w B v d) (hB : B' ≤ B) : OwnDkW w B' v d := let ⟨v1, v2, v3, v5, e, h1, h2, h3⟩ := h.ex; ⟨v1, v2, v3, v5, e, h1.mono hB, h2.mono hB, h3⟩
theorem OwnDkW.own (h : OwnDkW w B v d) : OwnDk w B v d := let ⟨v1, v2, v3, v5, e, h1, h2, h3⟩ := h.ex; ⟨v1, v2, v3, v5, e, h1, h2.tail, h3⟩
end
def RetDkW (w : World) (d : Dk) (e : Ending) (w' : World) : Prop := ∃ v, e = .returned v ∧ OwnDkW w' w.heap.size v d ∧ Below w.heap.size w w'
theorem OwnI.take {w : World} {B n c : Nat} {A : Option Addr} {xs : List Int} (h : OwnI w B (.slice A n c) xs) (m : Nat) (hm : m ≤ xs.length) : OwnI w B (.slice A m c) (xs.take m) := by
  unfold OwnI at h ⊢
  have hl : (xs.take m).length = m := by rw [List.length_take]; omega
  rw [hl]
  rcases h.2 with ⟨e, h0⟩ | ⟨g, cap, cur, e, hb, hh, hn, hc, hs, ht⟩
  · cases e
    have : m = 0 := by omega
    subst this
    exact ⟨by simp, .inl ⟨rfl, rfl⟩⟩
  · cases e
    refine ⟨by rw [List.length_map, hl]; omega, .inr ⟨g, c, cur, rfl, hb, hh, by omega, hc, hs, ?_⟩⟩
    rw [List.map_take, ← ht, List.take_take]
    congr 1; omega
structure LTng (w : World) (B : Nat) (v : Value) (t : Tg) : Prop where
  ex : ∃ v1 v2 v3, v = .agg #[v1, v2, v3] ∧ OwnStrs w B v1 t.us ∧ OwnI w B v2 t.bs ∧ OwnStrs w B v3 t.ns
section
variable {w w' : World} {B B' S : Nat} {v : Value} {t : Tg}
theorem OwnTng.l (h : OwnTng w B v t) : LTng w B v t := let ⟨v1, v2, v3, e, h1, h2, h3, _⟩ := h.ex; ⟨v1, v2, v3, e, h1, h2, h3⟩
theorem LTng.below (h : LTng w B v t) (hb : Below S w w') (hS : w.heap.size ≤ S) : LTng w' B v t := let ⟨v1, v2, v3, e, h1, h2, h3⟩ := h.ex; ⟨v1, v2, v3, e, h1.below hb hS, h2.below hb hS, h3.below hb hS⟩
theorem LTng.mono (h : LTng w B v t) (hB : B' ≤ B) : LTng w B' v t := let ⟨v1, v2, v3, e, h1, h2, h3⟩ := h.ex; ⟨v1, v2, v3, e, h1.mono hB, h2.mono hB, h3.mono hB⟩
theorem LTng.tng (h : LTng w B v t) : Tng w v t := by
  obtain ⟨v1, v2, v3, e, h1, h2, h3⟩ := h.ex
  obtain ⟨A1, c1, rfl, s1⟩ := h1.strs
  obtain ⟨A2, c2, rfl, s2⟩ := h2.ints
  obtain ⟨A3, c3, rfl, s3⟩ := h3.strs
  exact ⟨A1, c1, A2, c2, A3, c3, e, s1, s2, s3⟩
theorem LTng.shape (h : LTng w B v t) : ∃ A1 c1 A2 c2 A3 c3, v = .agg #[.slice A1 t.us.length c1, .slice A2 t.bs.length c2, .slice A3 t.ns.length c3] := by
  obtain ⟨A1, c1, A2, c2, A3, c3, e, _⟩ := h.tng.ex
  exact ⟨A1, c1, A2, c2, A3, c3, e⟩
theorem OwnStrs.shape {xs : List ByteArray} (h : OwnStrs w B v xs) : ∃ A c, v = .slice A xs.length c := let ⟨A, c, e, _⟩ := h.strs; ⟨A, c, e⟩
theorem OwnI.shape {xs : List Int} (h : OwnI w B v xs) : ∃ A c, v = .slice A xs.length c := let ⟨A, c, e, _⟩ := h.ints; ⟨A, c, e⟩
end
/-- A desk in rows of the call's own, without a word on whether they are apart. -/
structure LDk (w : World) (B : Nat) (v : Value) (d : Dk) : Prop where
  ex : ∃ v1 v2 v3 v5, v = .agg #[v1, v2, v3, .int .i64 d.now, v5] ∧ LTng w B (.agg #[v1, v2, v3]) d.t ∧ OwnI w B v5 d.past ∧ ∀ k, v2.ownBlock = some k → v5.ownBlock ≠ some k
section
variable {w w' : World} {B B' S : Nat} {v : Value} {d : Dk}
theorem LDk.below (h : LDk w B v d) (hb : Below S w w') (hS : w.heap.size ≤ S) : LDk w' B v d := let ⟨v1, v2, v3, v5, e, h1, h2, h3⟩ := h.ex; ⟨v1, v2, v3, v5, e, h1.below hb hS, h2.below hb hS, h3⟩
theorem LDk.mono (h : LDk w B v d) (hB : B' ≤ B) : LDk w B' v d := let ⟨v1, v2, v3, v5, e, h1, h2, h3⟩ := h.ex; ⟨v1, v2, v3, v5, e, h1.mono hB, h2.mono hB, h3⟩
theorem LDk.dsk (h : LDk w B v d) : Dsk w v d := by
  obtain ⟨v1, v2, v3, v5, rfl, h1, h2, -⟩ := h.ex
  obtain ⟨A1, c1, A2, c2, A3, c3, e, s1, s2, s3⟩ := h1.tng.ex
  obtain ⟨A5, c5, rfl, s5⟩ := h2.ints
  cases e
  exact ⟨A1, c1, A2, c2, A3, c3, A5, c5, rfl, s1, s2, s3, s5⟩
end

section
variable {P : Program} (w : World)
theorem run_app0 (base : Nat) (t ty e : TypeId) (i : TypeInfo) (z : Value) (bytes : Nat) (ht : P.underlying t = some (.slice e)) (hi : P.info? e = some i) (hz : i.zero = some z)
    (hsize : i.size = 1) (hby : i.bytes = bytes) (hzs : z.cells.size = 1) (g : Nat) (hb : Blk w g e #[]) (hbg : base ≤ g)
    (A : Option Addr) (m c : Nat) (news : List Value) (hr : Src w A m news) (h63 : m ≤ maxLen) (hbytes : m * bytes ≤ 140737488355328) (hbase : base ≤ w.heap.size) :
    ∃ v' w', (Builtin.append_ #[t, t] ty #[.slice (some ⟨g, 0, none⟩) 0 0, .slice A m c]).run P w = .ok v' w' ∧ w'.ownsRow base e 1 v' m news ∧ Below w.heap.size w w' ∧ (v'.ownBlock = some g ∨ v'.ownBlock = some w.heap.size) := by
  have hown : w.ownsRow base e 1 (.slice (some ⟨g, 0, none⟩) 0 0) 0 [] := owns_empty hb hbg
  obtain ⟨v', w', hrun, h2, h3, h4⟩ := run_app (P := P) w base t ty e i z bytes ht hi hz hsize hby hzs _ 0 [] hown A m c news hr (by omega) (by simpa using hbytes) hbase
  rw [Nat.zero_add, List.nil_append] at h2
  refine ⟨v', w', hrun, h2, ⟨h3.os, h3.tape, h3.output, h3.size, fun k hk => ?_⟩, by simpa [Value.ownBlock] using h4⟩
  by_cases hkg : k = g
  · subst hkg
    obtain ⟨hl, h1, hat⟩ := hr
    rcases Nat.eq_zero_or_pos m with h0 | h0
    · subst h0
      have hn : news = [] := List.eq_nil_of_length_eq_zero hl
      subst hn
      rcases A with _ | ad
      · have e1 := run_app_nil (P := P) w base t ty e i 1 ht hi _ 0 [] hown c
        rw [hrun] at e1
        injection e1 with _ e2
        rw [e2]
      · have e1 := run_append_room (P := P) w t ty e i ht hi k 0 0 #[] hb ad 0 c [] (by simp) (by simp) (by simp) (Nat.le_refl _) (by simp)
        rw [hrun] at e1
        injection e1 with _ e2
        rw [e2, setRow_heap w k #[] _ e _ hb]
        rw [show w.heap[k]? = _ from hb]
        simp
    · obtain ⟨b, o, rfl, _, hc⟩ := hat h0
      have hnb : ∀ j u, news[j]? = some u → w.cell? ((⟨b, o, none⟩ : Addr).add j) = some u := fun j u hu => by rw [add_plain']; exact hc j u hu
      have e1 := run_append_grow (P := P) w t ty e i z ht hi hz ⟨k, 0, none⟩ 0 0 [] (by simp) (by simp) ⟨b, o, none⟩ m c news (by rw [hsize]; omega) hnb (by omega) (by unfold maxLen at h63; omega) (by rw [hby]; exact growslice_fits (by omega) (by simpa using hbytes))
      rw [hrun] at e1
      injection e1 with _ e2
      rw [e2]
      exact Below.heap_alloc w.drew _ k hk
  · exact h3.block k hk (fun e => hkg (by simpa [Value.ownBlock] using e))

theorem step_app0 {ops : Array Oper} {o : Oper} {a : Act} {K : Act → World → Prop} {Q : Exit → Act → World → Prop} {E : Prop} (hgd : o.guard = none) (s x : Operand) (t : TypeId)
    (ho : o.op = .call { callee := .builtin .append, args := #[s, x], argTypes := #[t, t] })
    (base : Nat) (e : TypeId) (i : TypeInfo) (z : Value) (bytes : Nat) (ht : P.underlying t = some (.slice e)) (hi : P.info? e = some i) (hz : i.zero = some z)
    (hsize : i.size = 1) (hby : i.bytes = bytes) (hzs : z.cells.size = 1) (g : Nat) (hs : a.eval s = .slice (some ⟨g, 0, none⟩) 0 0) (hb : Blk w g e #[]) (hbg : base ≤ g)
    (A : Option Addr) (m c : Nat) (news : List Value) (hx : a.eval x = .slice A m c) (hr : Src w A m news)
    (h63 : m ≤ maxLen) (hbytes : m * bytes ≤ 140737488355328) (hbase : base ≤ w.heap.size)
    (h : ∀ v' w', w'.ownsRow base e 1 v' m news → Below w.heap.size w w' → (v'.ownBlock = some g ∨ v'.ownBlock = some w.heap.size) → K (a.put o.dst v') w') :
    if Region.wanted o (yielded ops a.tmps) = true then Oper.wp P o a w K Q else E := by
  have hw : Region.wanted o (yielded ops a.tmps) = true := by simp [Region.wanted, hgd]
  rw [if_pos hw]
  obtain ⟨v', w', hrun, h2, h3, h4⟩ := run_app0 (P := P) w base t o.type e i z bytes ht hi hz hsize hby hzs g hb hbg A m c news hr h63 hbytes hbase
  unfold Oper.wp execOp
  simp only [ho, resolve, invoke, builtin, Sem.run_bind, Sem.run_pure, Result.andThen_ok, List.map_toArray, List.map_cons, List.map_nil, hs, hx, hrun]
  exact h v' w' h2 h3 h4
end

/-- The same where the past lacks its first number. -/
theorem own_dk5t {w : World} {B g : Nat} {v1 v2 v3 v5 u0 u1 u2 u3 u4 : Value} {cs : Array Value} {d : Dk} (h : OwnDk w B (.agg #[v1, v2, v3, .int .i64 d.now, v5]) d) (hb : Blk w g 28 cs) :
    OwnDk (((((w.setCell ⟨g, 0, none⟩ u0).setCell ⟨g, 1, none⟩ u1).setCell ⟨g, 2, none⟩ u2).setCell ⟨g, 3, none⟩ u3).setCell ⟨g, 4, none⟩ u4) B (.agg #[v1, v2, v3, .int .i64 d.now, v5]) d := by
  obtain ⟨w1, w2, w3, w5, e, ht, h5, ap⟩ := h.ex
  cases e
  obtain ⟨y1, y2, y3, e, o1, o2, o3, a13⟩ := ht.ex
  cases e
  have m1 := own_blk_ne o1 hb (by decide)
  have m2 := own_blk_ne o2 hb (by decide)
  have m3 := own_blk_ne o3 hb (by decide)
  refine ⟨_, _, _, _, rfl, ⟨_, _, _, rfl, own_set (own_set (own_set (own_set (own_set o1 m1) m1) m1) m1) m1, own_set (own_set (own_set (own_set (own_set o2 m2) m2) m2) m2) m2, own_set (own_set (own_set (own_set (own_set o3 m3) m3) m3) m3) m3, a13⟩, ?_, ap⟩
  rcases h5.ex with ho | ⟨z, g', cap, ho, rfl⟩
  · have m5 := own_blk_ne ho hb (by decide)
    exact ⟨.inl (own_set (own_set (own_set (own_set (own_set ho m5) m5) m5) m5) m5)⟩
  · have m5 := own_blk_ne ho hb (by decide)
    exact ⟨.inr ⟨z, g', cap, own_set (own_set (own_set (own_set (own_set ho m5) m5) m5) m5) m5, rfl⟩⟩
/-- A result of five cells, written into its block. -/
theorem own_dk5 {w : World} {B g : Nat} {v1 v2 v3 v5 u0 u1 u2 u3 u4 : Value} {cs : Array Value} {now : Int} {d : Dk} (hn : now = d.now) (h : OwnTng w B (.agg #[v1, v2, v3]) d.t) (h5 : OwnI w B v5 d.past) (ap : ∀ k, v2.ownBlock = some k → v5.ownBlock ≠ some k) (hb : Blk w g 28 cs) :
    OwnDkW (((((w.setCell ⟨g, 0, none⟩ u0).setCell ⟨g, 1, none⟩ u1).setCell ⟨g, 2, none⟩ u2).setCell ⟨g, 3, none⟩ u3).setCell ⟨g, 4, none⟩ u4) B (.agg #[v1, v2, v3, .int .i64 now, v5]) d := by
  subst hn
  obtain ⟨w1, w2, w3, e, o1, o2, o3, a13⟩ := h.ex
  cases e
  have m1 := own_blk_ne o1 hb (by decide)
  have m2 := own_blk_ne o2 hb (by decide)
  have m3 := own_blk_ne o3 hb (by decide)
  have m5 := own_blk_ne h5 hb (by decide)
  exact ⟨_, _, _, _, rfl, ⟨_, _, _, rfl, own_set (own_set (own_set (own_set (own_set o1 m1) m1) m1) m1) m1, own_set (own_set (own_set (own_set (own_set o2 m2) m2) m2) m2) m2, own_set (own_set (own_set (own_set (own_set o3 m3) m3) m3) m3) m3, a13⟩, own_set (own_set (own_set (own_set (own_set h5 m5) m5) m5) m5) m5, ap⟩
theorem below_dk5 {w w1 : World} {g : Nat} {u0 u1 u2 u3 u4 : Value} {B : Nat} (h : Below B w w1) (hg : B ≤ g) : Below B w (((((w1.setCell ⟨g, 0, none⟩ u0).setCell ⟨g, 1, none⟩ u1).setCell ⟨g, 2, none⟩ u2).setCell ⟨g, 3, none⟩ u3).setCell ⟨g, 4, none⟩ u4) :=
  ((((h.setCell (by simpa using hg) _).setCell (by simpa using hg) _).setCell (by simpa using hg) _).setCell (by simpa using hg) _).setCell (by simpa using hg) _

/-- A desk in rows of the call's own, the past without its first number perhaps. -/
structure MDk (w : World) (B : Nat) (v : Value) (d : Dk) : Prop where
  ex : ∃ v1 v2 v3 v5, v = .agg #[v1, v2, v3, .int .i64 d.now, v5] ∧ LTng w B (.agg #[v1, v2, v3]) d.t ∧ TailI w B v5 d.past
section
variable {w w' : World} {B B' S g i : Nat} {v u : Value} {d : Dk} {cs : Array Value}
theorem MDk.below (h : MDk w B v d) (hb : Below S w w') (hS : w.heap.size ≤ S) : MDk w' B v d := let ⟨v1, v2, v3, v5, e, h1, h2⟩ := h.ex; ⟨v1, v2, v3, v5, e, h1.below hb hS, h2.below hb hS⟩
theorem MDk.mono (h : MDk w B v d) (hB : B' ≤ B) : MDk w B' v d := let ⟨v1, v2, v3, v5, e, h1, h2⟩ := h.ex; ⟨v1, v2, v3, v5, e, h1.mono hB, h2.mono hB⟩
theorem LDk.m (h : LDk w B v d) : MDk w B v d := let ⟨v1, v2, v3, v5, e, h1, h2, _⟩ := h.ex; ⟨v1, v2, v3, v5, e, h1, h2.tail⟩
theorem OwnDk.m (h : OwnDk w B v d) : MDk w B v d := let ⟨v1, v2, v3, v5, e, h1, h2, _⟩ := h.ex; ⟨v1, v2, v3, v5, e, h1.l, h2⟩
theorem MDk.dsk (h : MDk w B v d) : Dsk w v d := by
  obtain ⟨v1, v2, v3, v5, rfl, h1, h2⟩ := h.ex
  obtain ⟨A1, c1, A2, c2, A3, c3, e, s1, s2, s3⟩ := h1.tng.ex
  obtain ⟨A5, c5, rfl, s5⟩ := h2.ints
  cases e
  exact ⟨A1, c1, A2, c2, A3, c3, A5, c5, rfl, s1, s2, s3, s5⟩
theorem TailI.setM {xs : List Int} (h : TailI w B v xs) (hb : Blk w g 28 cs) : TailI (w.setCell ⟨g, i, none⟩ u) B v xs := by
  rcases h.ex with ho | ⟨z, g', cap, ho, rfl⟩
  · exact ⟨.inl (own_set ho (own_blk_ne ho hb (by decide)))⟩
  · exact ⟨.inr ⟨z, g', cap, own_set ho (own_blk_ne ho hb (by decide)), rfl⟩⟩
theorem LTng.setM {t : Tg} (h : LTng w B v t) (hb : Blk w g 28 cs) : LTng (w.setCell ⟨g, i, none⟩ u) B v t := by
  obtain ⟨v1, v2, v3, e, o1, o2, o3⟩ := h.ex
  exact ⟨v1, v2, v3, e, own_set o1 (own_blk_ne o1 hb (by decide)), own_set o2 (own_blk_ne o2 hb (by decide)), own_set o3 (own_blk_ne o3 hb (by decide))⟩
theorem MDk.setM (h : MDk w B v d) (hb : Blk w g 28 cs) : MDk (w.setCell ⟨g, i, none⟩ u) B v d := let ⟨v1, v2, v3, v5, e, h1, h2⟩ := h.ex; ⟨v1, v2, v3, v5, e, h1.setM hb, h2.setM hb⟩
end
theorem own_md5 {w : World} {B g : Nat} {v u0 u1 u2 u3 u4 : Value} {cs : Array Value} {d : Dk} (h : MDk w B v d) (hb : Blk w g 28 cs) :
    MDk (((((w.setCell ⟨g, 0, none⟩ u0).setCell ⟨g, 1, none⟩ u1).setCell ⟨g, 2, none⟩ u2).setCell ⟨g, 3, none⟩ u3).setCell ⟨g, 4, none⟩ u4) B v d :=
  ((((h.setM hb).setM (hb.set_ 0 u0)).setM ((hb.set_ 0 u0).set_ 1 u1)).setM (((hb.set_ 0 u0).set_ 1 u1).set_ 2 u2)).setM ((((hb.set_ 0 u0).set_ 1 u1).set_ 2 u2).set_ 3 u3)
/-- What the model returns: a desk and a Boolean. -/
def RetMB (w : World) (d : Dk) (b : Bool) (e : Ending) (w' : World) : Prop := ∃ v, e = .returned (.tuple #[v, .bool b]) ∧ MDk w' w.heap.size v d ∧ Below w.heap.size w w'
theorem own_ltNo (w : World) (B : Nat) : LTng w B (.agg #[.slice none 0 0, .slice none 0 0, .slice none 0 0]) noTg := (own_noTg w B).l
theorem own_mdNo (w : World) (B : Nat) : MDk w B (.agg #[.slice none 0 0, .slice none 0 0, .slice none 0 0, .int .i64 0, .slice none 0 0]) noDk := (own_noDk w B).m

theorem own_tngD1 {w : World} {B g i : Nat} {v u : Value} {cs : Array Value} {t : Tg} (h : OwnTng w B v t) (hb : Blk w g 28 cs) : OwnTng (w.setCell ⟨g, i, none⟩ u) B v t := by
  obtain ⟨v1, v2, v3, e, o1, o2, o3, a⟩ := h.ex
  exact ⟨v1, v2, v3, e, own_set o1 (own_blk_ne o1 hb (by decide)), own_set o2 (own_blk_ne o2 hb (by decide)), own_set o3 (own_blk_ne o3 hb (by decide)), a⟩
theorem own_tngD {w : World} {B g : Nat} {v u0 u1 u2 u3 : Value} {cs : Array Value} {t : Tg} (h : OwnTng w B v t) (hb : Blk w g 28 cs) : OwnTng ((((w.setCell ⟨g, 0, none⟩ u0).setCell ⟨g, 1, none⟩ u1).setCell ⟨g, 2, none⟩ u2).setCell ⟨g, 3, none⟩ u3) B v t :=
  own_tngD1 (own_tngD1 (own_tngD1 (own_tngD1 h hb) (hb.set_ 0 u0)) ((hb.set_ 0 u0).set_ 1 u1)) (((hb.set_ 0 u0).set_ 1 u1).set_ 2 u2)
/-- Numbers read out of another block than a zero desk's. -/
theorem ints_offD {w : World} {g n c : Nat} {A : Option Addr} {xs : List Int} {u0 u1 u2 u3 : Value} (_hb : Blk w g 28 #[.slice none 0 0, .slice none 0 0, .slice none 0 0, .int .i64 0, .slice none 0 0]) (h : Ints w .i64 A n c xs) (hne : ∀ b o, A = some ⟨b, o, none⟩ → 0 < n → b ≠ g) : Ints ((((w.setCell ⟨g, 0, none⟩ u0).setCell ⟨g, 1, none⟩ u1).setCell ⟨g, 2, none⟩ u2).setCell ⟨g, 3, none⟩ u3) .i64 A n c xs := by
  refine ⟨h.len, h.le, fun hn => ?_⟩
  obtain ⟨b, o, e, hlt, hc⟩ := h.at_ hn
  have hbg := hne b o e hn
  have hk : ((((w.setCell ⟨g, 0, none⟩ u0).setCell ⟨g, 1, none⟩ u1).setCell ⟨g, 2, none⟩ u2).setCell ⟨g, 3, none⟩ u3).heap[b]? = w.heap[b]? :=
    (Below.heap_setCell _ ⟨g, 3, none⟩ u3 b hbg).trans ((Below.heap_setCell _ ⟨g, 2, none⟩ u2 b hbg).trans ((Below.heap_setCell _ ⟨g, 1, none⟩ u1 b hbg).trans (Below.heap_setCell _ ⟨g, 0, none⟩ u0 b hbg)))
  exact ⟨b, o, e, by simpa using hlt, fun j hj => (World.cell?_of_block (a := ⟨b, o + j, none⟩) (w := w) hk).trans (hc j hj)⟩
end Go.Proofs.Ytjnlpknjdclalaa
