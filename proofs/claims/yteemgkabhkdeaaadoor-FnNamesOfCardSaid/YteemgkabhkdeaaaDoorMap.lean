/-
  A map from words to their places, as data; the contract of placesOf.
-/
import Derived.Test.YteemgkabhkdeaaaDoorC2
import Derived.Test.YteemgkabhkdeaaaDoorCat
import Derived.Maps.OwnSet
import Derived.Maps.Views
import Derived.StringKeys
import Derived.Maps.Own
namespace Go.Proofs.YteemgkabhkdeaaaDoor
open Go.RowKit Go.WideMaps Go.Maps

abbrev keyL (s : ByteArray) : Lit := .string s.data.toList
theorem keyL_is (s : ByteArray) : WideAt.IsKeyLit (keyL s) := trivial
theorem keyL_inj {a b : ByteArray} (h : a ≠ b) : keyL a ≠ keyL b := fun e => h (by
  injection e with e
  exact ByteArray.ext (Array.toList_inj.1 e))
/-- The map behind k words. -/
def plD (ws : List ByteArray) : Nat → DataW Unit
  | 0 => .map []
  | k+1 => (plD ws k).put (keyL (ws.getD k ByteArray.empty)) (.lit (.int .i64 (k : Int)))
theorem plD_tidy (ws : List ByteArray) : ∀ k, Tidy (plD ws k)
  | 0 => tidy_empty
  | k+1 => (plD_tidy ws k).put (keyL_is _) _
theorem plD_has (ws : List ByteArray) (x : ByteArray) : ∀ k, k ≤ ws.length → (Maps.has (plD ws k) (keyL x) = true ↔ x ∈ ws.take k)
  | 0, _ => by simp [plD, Maps.has]
  | k+1, h => by
    have hk : k < ws.length := by omega
    have hg : ws.getD k ByteArray.empty = ws[k] := by simp [List.getD_eq_getElem?_getD, hk]
    have hr := plD_has ws x k (by omega)
    rw [List.take_succ_eq_append_getElem hk]
    by_cases e : x = ws[k]
    · subst e
      show Maps.has ((plD ws k).put _ _) _ = true ↔ _
      rw [hg, has_put_same (plD_tidy ws k).isMap (keyL_is _)]
      simp only [List.mem_append, List.mem_singleton, or_true]
    · show Maps.has ((plD ws k).put _ _) _ = true ↔ _
      rw [hg, has_put_other (keyL_inj e), hr]
      simp only [List.mem_append, List.mem_singleton, e, or_false]
theorem plD_size (ws : List ByteArray) : ∀ k, k ≤ ws.length → Maps.size (plD ws k) ≤ k ∧ (Maps.size (plD ws k) = k ↔ (ws.take k).Nodup)
  | 0, _ => by simp [plD, Maps.size]
  | k+1, h => by
    have hk : k < ws.length := by omega
    have hg : ws.getD k ByteArray.empty = ws[k] := by simp [List.getD_eq_getElem?_getD, hk]
    obtain ⟨h1, h2⟩ := plD_size ws k (by omega)
    have hs : Maps.size (plD ws (k+1)) = if Maps.has (plD ws k) (keyL ws[k]) then Maps.size (plD ws k) else Maps.size (plD ws k) + 1 := by
      show Maps.size ((plD ws k).put _ _) = _
      rw [hg, size_put (plD_tidy ws k)]
    have hh := plD_has ws ws[k] k (by omega)
    rw [hs, List.take_succ_eq_append_getElem hk, List.nodup_append]
    by_cases hm : ws[k] ∈ ws.take k
    · rw [if_pos (hh.2 hm)]
      refine ⟨by omega, fun e => by omega, fun ⟨_, _, hd⟩ => absurd rfl (hd _ hm _ (by simp))⟩
    · rw [if_neg (fun e => hm (hh.1 e))]
      refine ⟨by omega, fun e => ⟨h2.1 (by omega), by simp, fun a ha b hb => ?_⟩, fun ⟨hd, _, _⟩ => by rw [h2.2 hd]⟩
      simp at hb; subst hb
      rintro rfl; exact hm ha
theorem plD_at (ws : List ByteArray) (hd : ws.Nodup) (z : DataW Unit) : ∀ k, k ≤ ws.length → ∀ j, (hj : j < k) → (plD ws k).atKey (keyL (ws.getD j ByteArray.empty)) z = .lit (.int .i64 (j : Int))
  | k+1, h, j, hj => by
    by_cases e : j = k
    · subst e
      exact atKey_put_same (plD_tidy ws j).isMap (keyL_is _) _ _
    · have hne : ws.getD j ByteArray.empty ≠ ws.getD k ByteArray.empty := by
        have hjl : j < ws.length := by omega
        have hkl : k < ws.length := by omega
        simp only [List.getD_eq_getElem?_getD, List.getElem?_eq_getElem hjl, List.getElem?_eq_getElem hkl, Option.getD_some]
        exact List.pairwise_iff_getElem.1 hd j k hjl hkl (by omega)
      show ((plD ws k).put _ _).atKey _ _ = _
      rw [atKey_put_other (keyL_inj hne)]
      exact plD_at ws hd z k (by omega) j (by omega)

theorem keyLaw : Keyed Tryd.prog 9 := string_keyed Tryd.underlying9
theorem zeroInt (w : World) : (zeroValue 3).run Tryd.prog w = .ok (.int .i64 0) w := by kernel_rfl

theorem run_makeMap_n {P : Program} (t k e : TypeId) (kd : IntKind) (n : Int) (ht : P.underlying t = some (.map k e)) (w : World) :
    (Instr.makeMap t (some (.int kd n))).run P w = .ok (.map (some w.heap.size)) (w.alloc (.map #[] 0)) := by
  simp [Instr.makeMap, run_underlying ht]; rfl

/-- The map of the places of words, at a block of the call's own. -/
def Placed (w : World) (b : Nat) (ws : List ByteArray) : Prop := w.ownsMap Tryd.prog 9 (plainElem Tryd.prog 3) b ws.length (plD ws ws.length)

set_option maxRecDepth 100000 in
theorem places_any (A : Option Addr) (n c : Nat) (ws : List ByteArray) (w : World) (h : Strs w A n c ws) (hn : n ≤ 2097152) (hs : ∀ x ∈ ws, x.size ≤ maxLen) :
    Calls Tryd.prog 55 #[.slice A n c] w fun e w' => e = .returned (.map (some w.heap.size)) ∧ Placed w' w.heap.size ws ∧ Below w.heap.size w w' := by
  have hmm := fun kd n W => run_makeMap_n (P := Tryd.prog) 85 9 3 kd n Tryd.underlying85 W
  obtain ⟨rfl, hcap, h⟩ := h
  have hD0 : (w.alloc (.map #[] 0)).ownsMap Tryd.prog 9 (plainElem Tryd.prog 3) w.heap.size 0 (plD ws 0) := World.ownsMap_made _ _ _ _
  replace hD0 := Lib.hid hD0
  have hS : ∀ k, ∃ hz : (ws.getD k ByteArray.empty).size ≤ maxLen, True := fun k => by
    refine ⟨?_, trivial⟩
    by_cases hk : k < ws.length
    · rw [List.getD, List.getElem?_eq_getElem hk]; exact hs _ (List.getElem_mem hk)
    · rw [List.getD, List.getElem?_eq_none (by omega)]; exact Nat.zero_le _
  replace hS := Lib.hid hS
  clear hs
  go_enter Tryd.func55, Tryd.ntmps55
  go_wp2
  go_loopw [11] (fun i wr => ∃ k : Nat, k ≤ ws.length ∧ i = .int .i64 k ∧ wr.ownsMap Tryd.prog 9 (plainElem Tryd.prog 3) w.heap.size k (plD ws k) ∧ Below w.heap.size w wr) (fun i _ => ws.length - (intOf i).toNat)
  case atStart => exact ⟨0, Nat.zero_le _, rfl, hD0.out, (Below.refl _ _).alloc (Nat.le_refl _) _⟩
  case round =>
    obtain ⟨k, hk, rfl, hown, hb⟩ := hrel
    by_cases hlt : k < ws.length
    · obtain ⟨b, o, rfl, hbo, h⟩ := h (by omega)
      have c1 := (hb.cell (p := ⟨b, o + k, none⟩) hbo).trans (h k hlt)
      have hkey := keyOf_string_mk (P := Tryd.prog) Tryd.underlying9 (hS.out k).1
      have HD : Hid (plD ws (k+1) = (plD ws k).put (keyL (ws.getD k ByteArray.empty)) (.lit (.int .i64 (k : Int)))) := rfl
      generalize ws.getD k ByteArray.empty = x at *
      replace hown := Lib.hid hown
      replace hb := Lib.hid hb
      replace hkey := Lib.hid hkey
      clear h hmm
      go_wp2_with (at_mapUpdate; refine wpList_mapUpdate_own _ rfl _ _ _ 85 rfl 9 3 keyLaw Tryd.underlying85 _ w.heap.size k _ rfl hown.out (by unfold maxLen; omega) _ _ _ rfl rfl hkey.out _ [] (plainElem_int Tryd.underlying3 (by simp [Lit.wf, IntKind.min, IntKind.max, IntKind.signed, IntKind.bits]; omega)) ?_; intro w1 hown1 hgrow1)
      have HB := Lib.hid (hb.out.grown hgrow1 hb.out.size (fun j hj => by cases hj; exact Nat.le_refl _))
      rw [← HD.out] at hown1
      replace hown1 := Lib.hid hown1
      clear hgrow1
      go_wp2
      go_roundw
      case rel => exact ⟨k+1, by omega, by go_num, hown1.out, HB.out⟩
      case measure => simp [intOf]; omega
    · obtain rfl : k = ws.length := by omega
      replace hown := Lib.hid hown
      replace hb := Lib.hid hb
      clear h hmm
      go_wp2
      go_ret
      exact ⟨rfl, hown.out, hb.out⟩
end Go.Proofs.YteemgkabhkdeaaaDoor
