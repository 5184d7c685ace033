/-
  The contract of the program's ReadText.
-/
import Derived.Test.YteemgkabhkdeaaaDoorP4e
import Derived.Test.YteemgkabhkdeaaaDoorSplit
import Derived.Deep.RegionHeld3
namespace Go.Proofs.YteemgkabhkdeaaaDoor
open Go.RowKit

set_option maxRecDepth 100000 in
set_option maxHeartbeats 4000000 in
theorem implReadText_any (v : Value) (t : Tg) (s : ByteArray) (w : World) (h : Tng w v t) (hf : t.Fine) (hs : s.size ≤ 1048576) :
    Calls Tryd.prog 7 #[v, .string s] w fun e w' => e = .returned (.tuple #[.int .i64 (readTV t s), .bool (readTB t s)]) ∧ Below w.heap.size w w' := by
  obtain ⟨A1, c1, A2, c2, A3, c3, rfl, -⟩ := h.ex
  have hB := (Below.refl w.heap.size w).alloc (Nat.le_refl _) (.cells #[.slice A1 t.us.length c1, .slice A2 t.bs.length c2, .slice A3 t.ns.length c3] 26)
  have HX := Blk.new w 26 #[.slice A1 t.us.length c1, .slice A2 t.bs.length c2, .slice A3 t.ns.length c3]
  have HT := h.below hB (Nat.le_refl _)
  have hcs := Lib.hid (show ∀ x ∈ splitL s, x.size ≤ 1048576 from fun x hx => by have := splitL_size s x hx; omega)
  have hcl := (splitL_len s).1
  obtain ⟨e1, e2⟩ := read_split t s
  rw [e1, e2]
  clear e1 e2
  replace hB := Lib.hid hB
  replace HX := Lib.hid HX
  replace HT := Lib.hid HT
  clear h
  go_enter Tryd.func7, Tryd.ntmps7
  go_upto_region 1 with (fail)
  generalize w.alloc (.cells #[.slice A1 t.us.length c1, .slice A2 t.bs.length c2, .slice A3 t.ns.length c3] 26) = W at *
  have hXc := Lib.hid (fun W' (h : Below W.heap.size W W') => blk3 (HX.out.below h HX.out.lt))
  have KC := Lib.hid (fun W' => splitN_any s W' (by omega))
  have KR := Lib.hid (fun A c W' (h : Below W.heap.size W W') hs => implReadName_any _ t A (splitL s).length c (splitL s) W' (HT.out.below h (Nat.le_refl _)) hf hs (by omega) hcs.out)
  obtain ⟨x0, x1, x2, -, -, -⟩ := blk3 HX.out
  go_region_held3 (fun w' => w'.cell? ⟨w.heap.size, 0, none⟩ = some (.slice A1 t.us.length c1) ∧ w'.cell? ⟨w.heap.size, 1, none⟩ = some (.slice A2 t.bs.length c2) ∧ w'.cell? ⟨w.heap.size, 2, none⟩ = some (.slice A3 t.ns.length c3))
    (first | go_keep | exact hS2 | exact hS3)
    (first
      | (go_at_call 23; refine (KC.out _).mono ?_; rintro e w2 ⟨c5, rfl, s5, b2'⟩; have b2 : Below W.heap.size W w2 := ⟨b2'.os, b2'.tape, b2'.output, b2'.size, b2'.block⟩; obtain ⟨x0', x1', x2', -, -, -⟩ := hXc.out _ b2; have hS2 := And.intro x0' (And.intro x1' x2'); replace s5 := Lib.hid s5; replace b2 := Lib.hid b2; clear b2')
      | (go_at_call 22; refine (KR.out _ _ _ b2.out s5.out).mono ?_; rintro e w3 ⟨rfl, b3'⟩; have b3 := b2.out.trans (b3'.mono b2.out.size); obtain ⟨x0'', x1'', x2'', -, -, -⟩ := hXc.out _ b3; have hS3 := And.intro x0'' (And.intro x1'' x2''); replace b3 := Lib.hid b3; clear b3'))
  all_goals
    clear hS2 hS3 x0 x1 x2 x0' x1' x2' KC KR s5
    have hB3 := Lib.hid (hB.out.trans (b3.out.mono hB.out.size))
    go_wp2
    go_ret2
    exact ⟨two_ret rfl rfl, hB3.out⟩
end Go.Proofs.YteemgkabhkdeaaaDoor
