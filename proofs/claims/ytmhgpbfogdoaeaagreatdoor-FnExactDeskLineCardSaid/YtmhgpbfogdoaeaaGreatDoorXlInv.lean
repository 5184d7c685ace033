/-
  A region that draws its order, by one relation of what has come up, the frame and the world: each operation keeps it, whichever order.
-/
import Derived.Test.YtmhgpbfogdoaeaaGreatDoorXlGA
import Derived.RegionTactic
namespace Go.Proofs.YtmhgpbfogdoaeaaGreatDoor
open Go.RowKit
theorem listed_iff {l:Array Bool} {i:Nat} (h:i < l.size):l.getD i true=l.getD i false:=by
 simp [Array.getD,h]
theorem count_set_true {l:List Bool} {i:Nat} (h:i < l.length) (hf:l[i]=false):(l.set i true).count false+1=l.count false:=by
 have hp:0 < l.count false:=List.count_pos_iff.2 (by rw [← hf];exact List.getElem_mem h);rw [List.count_set h,hf]
 simp
 omega
theorem listed_set {l:Array Bool} {i j:Nat} (h:(l.setIfInBounds i true).getD j false=true) (hne:j≠i):l.getD j false=true:=by
 simp only [Array.getD_eq_getD_getElem?] at h ⊢
 rwa [Array.getElem?_setIfInBounds_ne (Ne.symm hne)] at h
theorem listed_same {l:Array Bool} {i j:Nat} (hne:j≠i):(l.setIfInBounds i true).getD j false=l.getD j false:=by
 simp only [Array.getD_eq_getD_getElem?];rw [Array.getElem?_setIfInBounds_ne (Ne.symm hne)]
theorem listed_at {l:Array Bool} {i:Nat} (h:i < l.size):(l.setIfInBounds i true).getD i false=true:=by
 simp [Array.getD,h]
theorem wpAny_inv {P:Program} {ops:Array Oper} {Q:Exit→Act→World→Prop} {md:Region.Mode} {Inv:Array Bool→Act→World→Prop}
 (hord:∀ i o,ops[i]?=some o→∀ e ∈ o.after,Region.binds md e=true→e.on < i)
 (hd:∀ l a w,Inv l a w→l.size=ops.size→(∀ j,j < ops.size→l.getD j false=true)→Q .normal a w)
 (hs:∀ l a w,Inv l a w→l.size=ops.size→∀ i o,i < ops.size→ops[i]?=some o→l.getD i false=false→(∀ e ∈ o.after,Region.binds md e=true→l.getD e.on false=true)→wpOp P ops Q i (fun a' w'=>Inv (l.setIfInBounds i true) a' w') a w) :
 ∀ n l a w,l.size=ops.size→l.toList.count false≤n→Inv l a w→wpAny P md ops Q n l a w:=by
 intro n
 induction n with
 | zero =>
  intro l a w hsz hc hI
  have hall:∀ j,j < ops.size→l.getD j false=true:=fun j hj=>by
   cases h:l.getD j false with
   | true=>rfl
   | false =>
    exfalso
    have hj':j < l.size:=by omega
    have hm:false ∈ l.toList:=by
     have e:l.getD j false=l[j]:=by simp [Array.getD,hj']
     rw [e] at h;rw [← h];simp
    have:=List.count_pos_iff.2 hm;omega
  refine ⟨List.eq_nil_iff_forall_not_mem.2 fun i hi=>?_,hd l a w hI hsz hall⟩;obtain ⟨h1,o,ho,-⟩:=mem_ready.1 hi;have hlt:=(Array.getElem?_eq_some_iff.1 ho).1;rw [listed_iff (by omega),hall i hlt] at h1;cases h1
 | succ n ih =>
  intro l a w hsz hc hI;refine ⟨fun h0=>hd l a w hI hsz ?_,fun i hi=>?_⟩
  · intro j
    induction j using Nat.strongRecOn with
    | _ j ihj =>
     intro hj;cases h:l.getD j false with
     | true=>rfl
     | false =>
      exfalso
      have hj':j < l.size:=by omega
      have hm:j ∈ Region.ready md ops l:=mem_ready.2 ⟨by rw [listed_iff hj'];exact h,ops[j],by simp [hj],fun e he hb=>by
       have hlt:=hord j ops[j] (by simp [hj]) e he hb;exact ihj e.on hlt (by omega)⟩
      rw [h0] at hm;cases hm
  · obtain ⟨h1,o,ho,hall⟩:=mem_ready.1 hi;have hlt:=(Array.getElem?_eq_some_iff.1 ho).1;have hlt':i < l.size:=by omega
    rw [listed_iff hlt'] at h1;refine wpOp_mono (fun a' w' h=>ih _ a' w' (by simp [hsz]) ?_ h) (hs l a w hI hsz i o hlt ho h1 hall);have e:l.getD i false=l.toList[i]:=by simp [Array.getD,hlt']
    rw [e] at h1;have:=count_set_true (l:=l.toList) (i:=i) (by simpa using hlt') h1;rw [Array.toList_setIfInBounds];omega
def ordB (md:Region.Mode) (ops:Array Oper):Bool:=(List.range ops.size).all fun i=>match ops[i]? with | some o=>o.after.all (fun e=>!Region.binds md e || decide (e.on < i)) | none=>true
theorem ord_spec {md:Region.Mode} {ops:Array Oper} (h:ordB md ops=true):∀ i o,ops[i]?=some o→∀ e ∈ o.after,Region.binds md e=true→e.on < i:=by
 intro i o ho e he hb;have hlt:=(Array.getElem?_eq_some_iff.1 ho).1;have h1:=List.all_eq_true.1 h i (List.mem_range.2 hlt);rw [ho] at h1;have h2:=Array.all_eq_true_iff_forall_mem.1 h1 e he;rw [hb] at h2
 simpa using h2
end Go.Proofs.YtmhgpbfogdoaeaaGreatDoor
