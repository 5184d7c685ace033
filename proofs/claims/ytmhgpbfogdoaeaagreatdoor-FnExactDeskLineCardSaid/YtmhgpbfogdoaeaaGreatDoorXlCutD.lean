/-
  The model's cut of a text is that of its bytes.
-/
import Derived.Test.YtmhgpbfogdoaeaaGreatDoorXlRcut
import Derived.Test.YtmhgpbfogdoaeaaGreatDoorXlCutR
namespace Go.Proofs.YtmhgpbfogdoaeaaGreatDoor
open Go.RowKit
theorem extract_snoc (s:ByteArray) (a k:Nat) (ha:a≤k) (hk:k < s.size):(s.extract a (k+1)).data.toList=(s.extract a k).data.toList++[s[k]]:=by
 have hk':k < s.data.toList.length:=by simpa using hk
 rw [Lib.extract_data,Lib.extract_data];have e:s.data.toList[k]=s[k]:=rfl
 have h1:(s.data.toList.drop a).take (k+1 - a)=(s.data.toList.drop a).take (k - a)++[s[k]]:=by
  rw [show k+1 - a=(k - a)+1 by omega,List.take_succ_eq_append_getElem (by simp;omega)]
  congr 1
  rw [List.getElem_drop];simp only [show a+(k - a)=k by omega];rw [e]
 simpa using h1
theorem cutTo_glue (s:ByteArray):∀ k,k≤s.size→(cutTo s k).1.map (·.data.toList)++glue (s.extract (cutTo s k).2 k).data.toList (cutR (s.data.toList.drop k))=cutR s.data.toList:=by
 intro k
 induction k with
 | zero =>
  intro _;have e:(s.extract 0 0).data.toList=[]:=by rw [Lib.extract_data];simp
  show []++glue (s.extract 0 0).data.toList (cutR (s.data.toList.drop 0))=_
  rw [e,List.drop_zero,glue_nil,List.nil_append]
 | succ k ih =>
  intro hk;have hlt:k < s.size:=by omega
  have hat:=(cutTo_at s k).1;have hk':k < s.data.toList.length:=by simpa using hlt
  have hd:s.data.toList.drop k=s[k] :: s.data.toList.drop (k+1):=List.drop_eq_getElem_cons hk';rw [← ih (by omega),cutTo,dif_pos hlt,hd,cutR]
  by_cases h32:s[k].toNat=32
  · have hc:s[k]=32:=UInt8.toNat_inj.1 (by rw [h32];rfl);have e0:(s.extract (k+1) (k+1)).data.toList=[]:=by rw [Lib.extract_data];simp
    rw [if_pos h32,if_pos hc]
    show (_++[s.extract (cutTo s k).2 k]).map (·.data.toList)++glue (s.extract (k+1) (k+1)).data.toList _=_
    rw [e0,glue_nil,List.map_append]
    simp [glue]
  · have hc:¬ s[k]=32:=fun e=>h32 (by rw [e];rfl)
    rw [if_neg h32,if_neg hc,extract_snoc s _ k hat hlt]
    simp [glue]
theorem cutL_data (s:ByteArray):(cutL s).map (·.data.toList)=cutR s.data.toList:=by
 rw [← cutTo_glue s s.size (Nat.le_refl _)];have e:s.data.toList.drop s.size=[]:=List.drop_eq_nil_of_le (by simp);unfold cutL;rw [e,List.map_append]
 simp [glue,cutR]
end Go.Proofs.YtmhgpbfogdoaeaaGreatDoor
