/-
  Numbers and deeds that come in by a row's form, opened; rows of two cells an element as rows of one.
-/
import Derived.Test.YtmhgpbfogdoaeaaGreatDoorChecked
import Derived.Test.YtmhgpbfogdoaeaaGreatDoorXlDdsB
import Derived.Lib.SmallJoins
import Derived.Deep.SlicePairs
import Derived.OpenShut
import Derived.KernelRfl
namespace Go.Proofs.YtmhgpbfogdoaeaaGreatDoor
open Go.ChangeShapes Go.WideShapes Go.RowKit Go.Joins Go.Deep
set_option maxRecDepth 100000 in
theorem in_int {H:Type} {enc:TypeId × Value→H} {W:World} {v:Value} {n:Nat} {y:DataW H × List MemPlace} (h:DataW.trod enc Tryz.prog W 0 (fun _=>true) true n 3 [v]=some y):∃ x:Int,v=.int .i64 x∧(Lit.int .i64 x).wf=true:=by
 cases n with
 | zero=>simp [DataW.trod] at h
 | succ n =>
  simp only [DataW.trod,Tryz.underlying3] at h;cases v <;> simp at h
  obtain ⟨⟨rfl,hw⟩,-⟩:=h;exact ⟨_,rfl,hw⟩
theorem wfI_bd {x:Int} (h:(Lit.int .i64 x).wf=true):-9223372036854775808≤x∧x≤9223372036854775807:=by simpa [Lit.wf,IntKind.min,IntKind.max,IntKind.signed,IntKind.bits] using h
end Go.Proofs.YtmhgpbfogdoaeaaGreatDoor
