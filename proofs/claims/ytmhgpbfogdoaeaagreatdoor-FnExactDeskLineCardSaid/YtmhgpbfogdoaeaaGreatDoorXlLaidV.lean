/-
  What the rows' list of variables gives: the library's table and its two errors.
-/
import Derived.Stop.LaidErr
import Derived.Test.YtmhgpbfogdoaeaaGreatDoorRows
import Derived.Test.YtmhgpbfogdoaeaaGreatDoorXlGV
namespace Go.Proofs.YtmhgpbfogdoaeaaGreatDoor
open Go.ChangeShapes Go.WideShapes Go.RowKit
theorem row_err (u:TypeId) (h:Tryz.prog.typeName? 3 u=some "*errors.errorString"):u=204 :=
 typeName_ptr_named (nm:= "errors.errorString") (by kernel_rfl) (by kernel_rfl) (by decide) u h
theorem libT_of {r:List (String × DataW Unit)} {W:World} (h:laidMet Tryz.prog (("internal/strconv.uint64pow10",Rows.laid_internal_strconv_uint64pow10) :: r) W):LibT W :=
 ⟨Lib.tabIs_of_head (g:=3) (t:=194) (e:=166) (n:=20) (by kernel_rfl) (by kernel_rfl) Tryz.underlying194 Tryz.underlying166 (by kernel_rfl) (by kernel_rfl) h⟩
theorem libE_of {r:List (String × DataW Unit)} {W:World} (h:laidMet Tryz.prog (("strconv.ErrRange",Rows.laid_strconv_ErrRange) :: ("strconv.ErrSyntax",Rows.laid_strconv_ErrSyntax) :: r) W):LibE W:=by
 obtain ⟨a1,s1,h1,-⟩:=laid_sentinel (g:=2) h (by kernel_rfl) (by kernel_rfl) Tryz.underlying90 row_err Tryz.underlying204 Tryz.underlying206 rfl rfl Tryz.underlying9 (by kernel_rfl) (by kernel_rfl);obtain ⟨a2,s2,h2,-⟩:=laid_sentinel (g:=1) h.tail (by kernel_rfl) (by kernel_rfl) Tryz.underlying90 row_err Tryz.underlying204 Tryz.underlying206 rfl rfl Tryz.underlying9 (by kernel_rfl) (by kernel_rfl);exact ⟨⟨_,_,h2⟩,⟨_,_,h1⟩⟩
structure LibV (W:World):Prop where
 t:LibT W
 e:LibE W
theorem LibV.below {w w':World} {B:Nat} (h:LibV w) (hb:Below B w w') (hB:w.heap.size≤B):LibV w':=⟨h.t.below hb hB,h.e.below hb hB⟩
end Go.Proofs.YtmhgpbfogdoaeaaGreatDoor
