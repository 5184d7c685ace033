/-
  Lists of bytes cut at each space, and where the first space stands.
-/
import Derived.Test.YtmhgpbfogdoaeaaGreatDoorXlGA
import Derived.Lib.IndexLaws
import Derived.Lib.IndexBytes
namespace Go.Proofs.YtmhgpbfogdoaeaaGreatDoor
open Go.RowKit
def cutR:List UInt8→List (List UInt8)
 | []=>[[]]
 | c :: r=>if c=32 then [] :: cutR r else (c :: (cutR r).headD []) :: (cutR r).tail
def glue (p:List UInt8) (l:List (List UInt8)):List (List UInt8):=(p++l.headD []) :: l.tail
theorem cutR_ne (l:List UInt8):∃ q qs,cutR l=q :: qs:=by
 cases l with
 | nil=>exact ⟨_,_,rfl⟩
 | cons c r=>rw [cutR];split <;> exact ⟨_,_,rfl⟩
theorem glue_nil (l:List UInt8):glue [] (cutR l)=cutR l:=by
 obtain ⟨q,qs,e⟩:=cutR_ne l;rw [e];rfl
theorem cutR_len (l:List UInt8):(cutR l).length≤l.length+1:=by
 induction l with
 | nil=>exact Nat.le_refl _
 | cons c r ih =>
  rw [cutR]
  split
  · simp only [List.length_cons];omega
  · simp only [List.length_cons,List.length_tail];omega
theorem cutR_miss {l:List UInt8} (h:∀ k:Nat,l[k]?≠some 32):cutR l=[l]:=by
 induction l with
 | nil=>rfl
 | cons c r ih =>
  have h0:¬ c=32:=fun e=>h 0 (by rw [e];rfl)
  rw [cutR,if_neg h0,ih (fun k=>by have:=h (k+1);simpa using this)];rfl
theorem cutR_hit {l:List UInt8}:∀ {i:Nat},l[i]?=some 32→(∀ k:Nat,k < i→l[k]?≠some 32)→cutR l=l.take i :: cutR (l.drop (i+1)):=by
 induction l with
 | nil=>intro i h;simp at h
 | cons c r ih =>
  intro i hi hk;cases i with
  | zero =>
   have hc:c=32:=by simpa using hi
   rw [cutR,if_pos hc];rfl
  | succ i =>
   have h0:¬ c=32:=fun e=>hk 0 (by omega) (by rw [e];rfl)
   have:=ih (i:=i) (by simpa using hi) (fun k h=>by have:=hk (k+1) (by omega);simpa using this);rw [cutR,if_neg h0,this]
   simp
theorem space_cases (l:List UInt8):(Lib.indexByte l 32=-1∧(∀ k:Nat,l[k]?≠some 32)∧cutR l=[l])∨∃ i:Nat,Lib.indexByte l 32=i∧l[i]?=some 32∧(∀ k:Nat,k < i→l[k]?≠some 32)∧cutR l=l.take i :: cutR (l.drop (i+1)):=by
 by_cases h:Lib.indexByte l 32=-1
 · exact .inl ⟨h,Lib.indexByte_none h,cutR_miss (Lib.indexByte_none h)⟩
 · obtain ⟨i,hi⟩:∃ i:Nat,Lib.indexByte l 32=i:=⟨(Lib.indexByte l 32).toNat,by have:=Lib.indexByte_ge l 32;omega⟩;obtain ⟨h1,h2⟩:=Lib.indexByte_some hi;exact .inr ⟨i,hi,h1,h2,cutR_hit h1 h2⟩
end Go.Proofs.YtmhgpbfogdoaeaaGreatDoor
