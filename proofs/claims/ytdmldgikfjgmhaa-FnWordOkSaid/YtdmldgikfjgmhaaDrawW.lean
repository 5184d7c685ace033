/-
  The contract of the drawn word.
-/
import Derived.Test.YtdmldgikfjgmhaaC2
import Derived.Test.YtdmldgikfjgmhaaAlive
namespace Go.Proofs.Ytdmldgikfjgmhaa
open Go.RowKit

/-- A word is drawn. -/
def DrawnWord (w : World) (e : Ending) (w' : World) : Prop := ∃ x : ByteArray, e = .returned (.string x) ∧ x.size ≤ 40 ∧ Below w.heap.size w w'
theorem getW (l : List Value) (kk : Nat) (hk : kk < l.length) (h : ∀ v ∈ l, ∃ y : ByteArray, v = .string y ∧ y.size ≤ 16) : ∃ y : ByteArray, l.toArray[kk]? = some (.string y) ∧ y.size ≤ 16 ∧ l[kk] = .string y := by
  obtain ⟨y, e, hy⟩ := h _ (List.getElem_mem hk)
  exact ⟨y, by rw [List.getElem?_toArray, List.getElem?_eq_getElem hk, e], hy, e⟩

set_option maxRecDepth 100000 in
set_option maxHeartbeats 1000000 in
theorem drawWordOk_any (A : Option Addr) (n c : Nat) (xs : List Int) (w : World) (h : Ints w .u8 A n c xs) (hn : n ≤ 1048576) (hwf : ∀ x ∈ xs, (Lit.int .u8 x).wf = true) (hc : c ≤ maxLen) :
    Calls Try.prog 15 #[.slice A n c] w (DrawnWord w) := by
  have HO := Lib.hid (open_any A n c xs w h hn hwf hc)
  clear h hwf hc
  go_enter Try.func15, Try.ntmps15
  go_wp2_with (fail)
  refine HO.out.mono ?_
  rintro e w1 ⟨rfl, hr, hb, -⟩
  go_wp2_with (fail)
  refine (pick_any _ _ 9 _ (hr.alloc' _) (by omega) (by omega) (by omega)).mono ?_
  rintro e w2 ⟨k, rfl, hk, hr2, hg2, -⟩
  obtain ⟨kk, rfl⟩ : ∃ kk : Nat, k = (kk : Int) := ⟨k.toNat, by omega⟩
  have hkk : kk < 9 := by omega
  have hkk1 : (kk : Int) < 9 := by omega
  have hkk0 : (0 : Int) ≤ (kk : Int) := by omega
  obtain ⟨y, hy, hys, hy2⟩ := getW [.string ⟨#[]⟩, .string ⟨#[97]⟩, .string ⟨#[111, 110, 101]⟩, .string ⟨#[116, 104, 111, 117, 115, 97, 110, 100]⟩, .string ⟨#[116, 104, 111, 117, 115, 97, 110, 100, 115]⟩, .string ⟨#[65]⟩, .string ⟨#[111, 32, 101]⟩, .string ⟨#[122]⟩, .string ⟨#[116, 119, 111, 50]⟩] kk (by simpa using hkk) (by simp; decide)
  have hs1 := hb.size
  have hc2 : w2.cell? ⟨w1.heap.size, kk, none⟩ = some (.string y) := (((Blk.new w1 _ _).grown hg2 (fun e => by have e' := Option.some.inj e; have := hr.lt; omega)).cell kk).trans hy
  have HB : Below w.heap.size w w2 := (hb.alloc hs1 _).grown hg2 (by simp; omega) (fun k e => by cases e; exact Nat.le_refl _)
  replace HB := Lib.hid HB
  clear hr hb hr2 hg2 hy hy2 hk
  go_wp2
  go_ret
  exact ⟨y, rfl, by omega, HB.out⟩
end Go.Proofs.Ytdmldgikfjgmhaa
