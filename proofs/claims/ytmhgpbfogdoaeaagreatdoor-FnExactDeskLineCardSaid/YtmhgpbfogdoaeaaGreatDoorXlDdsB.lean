/-
  Rows of deeds in memory: anywhere, and of the call's own.
-/
import Derived.Test.YtmhgpbfogdoaeaaGreatDoorXlGX
import Derived.Test.YtmhgpbfogdoaeaaGreatDoorXlGA
namespace Go.Proofs.YtmhgpbfogdoaeaaGreatDoor
open Go.RowKit
def ddCells:List Dd→List Value
 | []=>[]
 | a :: q=>.int .i64 a.kind :: .int .i64 a.n :: ddCells q
theorem ddCells_len (q:List Dd):(ddCells q).length=q.length * 2:=by
 induction q with
 | nil=>rfl
 | cons x q ih=>simp [ddCells,ih];omega
theorem ddCells_app (p q:List Dd):ddCells (p++q)=ddCells p++ddCells q:=by
 induction p with
 | nil=>rfl
 | cons x p ih=>simp [ddCells,ih]
theorem ddCells_at0 (q r:List Dd) (x:Dd):(ddCells (q++x :: r))[q.length * 2]?=some (.int .i64 x.kind):=by
 rw [ddCells_app,List.getElem?_append_right (by rw [ddCells_len];exact Nat.le_refl _),ddCells_len];simp [ddCells]
theorem ddCells_at1 (q r:List Dd) (x:Dd):(ddCells (q++x :: r))[q.length * 2+1]?=some (.int .i64 x.n):=by
 rw [ddCells_app,List.getElem?_append_right (by rw [ddCells_len];omega),ddCells_len,show q.length * 2+1 - q.length * 2=1 by omega];simp [ddCells]
theorem split_at {α:Type} {q:List α} {j:Nat} {x:α} (hj:q[j]?=some x):∃ p r,q=p++x :: r∧p.length=j:=by
 have hjl:j < q.length:=by
  rcases Nat.lt_or_ge j q.length with h1 | h1
  · exact h1
  · rw [List.getElem?_eq_none h1] at hj;cases hj
 refine ⟨q.take j,q.drop (j+1),?_,by rw [List.length_take];omega⟩;have:q[j]=x:=by rw [List.getElem?_eq_getElem hjl] at hj;exact Option.some.inj hj
 rw [← this,List.getElem_cons_drop,List.take_append_drop]
theorem ddCells_j0 {q:List Dd} {j:Nat} {x:Dd} (hj:q[j]?=some x):(ddCells q)[j * 2]?=some (.int .i64 x.kind):=by
 obtain ⟨p,r,rfl,rfl⟩:=split_at hj;exact ddCells_at0 p r x
theorem ddCells_j1 {q:List Dd} {j:Nat} {x:Dd} (hj:q[j]?=some x):(ddCells q)[j * 2+1]?=some (.int .i64 x.n):=by
 obtain ⟨p,r,rfl,rfl⟩:=split_at hj;exact ddCells_at1 p r x
theorem dd_info:(Tryz.prog.info? 41).map (fun i=>(i.zero,i.size,i.bytes))=some (some (.agg #[.int .i64 0,.int .i64 0]),2,16):=by kernel_rfl
theorem dd_cells:Tryz.prog.cellsOf 41=2:=by kernel_rfl
theorem ownD_below {w w':World} {B S z:Nat} {t:TypeId} {v:Value} {n:Nat} {xs:List Value} (h:w.ownsRow B t z v n xs) (hb:Below S w w') (hS:w.heap.size≤S):w'.ownsRow B t z v n xs :=
 h.kept (row:=none) ⟨hb.os,hb.tape,hb.output,hb.size,fun k hk _=>hb.block k (by omega)⟩ (by
  cases hv:v.ownBlock
  · exact .inl rfl
  · exact .inr (by simp))
structure DeedsAre (w:World) (A:Option Addr) (n c:Nat) (q:List Dd):Prop where
 len:q.length=n
 le:n≤c
 at_:0 < n→∃ b o,A=some ⟨b,o,none⟩∧b < w.heap.size∧∀ j x,q[j]?=some x→w.cell? ⟨b,o+j * 2,none⟩=some (.int .i64 x.kind)∧w.cell? ⟨b,o+j * 2+1,none⟩=some (.int .i64 x.n)
section
variable {w w' : World} {A : Option Addr} {n c B S : Nat} {q : List Dd} {v : Value}
theorem DeedsAre.below (h:DeedsAre w A n c q) (hb:Below B w w') (hB:w.heap.size≤B):DeedsAre w' A n c q :=
 ⟨h.len,h.le,fun hn=>by
  obtain ⟨b,o,e,hlt,hc⟩:=h.at_ hn;exact ⟨b,o,e,Nat.lt_of_lt_of_le hlt hb.size,fun j x hj=>⟨(hb.cell (p:=⟨b,o+j * 2,none⟩) (Nat.lt_of_lt_of_le hlt hB)).trans (hc j x hj).1,(hb.cell (p:=⟨b,o+j * 2+1,none⟩) (Nat.lt_of_lt_of_le hlt hB)).trans (hc j x hj).2⟩⟩⟩
def OwnDds (w:World) (B:Nat) (v:Value) (q:List Dd):Prop:=w.ownsRow B 41 2 v q.length (ddCells q)
theorem OwnDds.below (h:OwnDds w B v q) (hb:Below S w w') (hS:w.heap.size≤S):OwnDds w' B v q:=ownD_below h hb hS
theorem OwnDds.deeds (h:OwnDds w B v q):∃ A c,v=.slice A q.length c∧DeedsAre w A q.length c q:=by
 have h':=h;rcases h.2 with ⟨rfl,hn⟩ | ⟨g,cap,cur,rfl,hb,hg,hnc,hcm,hcs,htake⟩
 · rw [hn];exact ⟨none,0,rfl,hn,Nat.le_refl _,fun h=>absurd h (by omega)⟩
 · refine ⟨_,cap,rfl,rfl,hnc,fun hn=>⟨g,0,rfl,?_,fun j x hj=>?_⟩⟩
   · rcases Nat.lt_or_ge g w.heap.size with hlt | hge
     · exact hlt
     · rw [Array.getElem?_eq_none hge] at hg;cases hg
   · obtain ⟨p,r,e,hp⟩:=split_at hj;have hjl:j < q.length:=by rw [e,List.length_append];simp;omega
     unfold OwnDds at h';rw [Nat.zero_add,h'.cellAt (j * 2) (by omega),h'.cellAt (j * 2+1) (by omega),ddCells_j0 hj,ddCells_j1 hj];exact ⟨rfl,rfl⟩
end
theorem own_of_blk {w:World} {B g n:Nat} {q:List Dd} (hb:Blk w g 41 (ddCells q).toArray) (hg:B≤g) (hn:q.length=n) (hm:n≤maxLen):w.ownsRow B 41 2 (.slice (some ⟨g,0,none⟩) n n) n (ddCells q):=by
 refine ⟨by rw [ddCells_len,hn],.inr ⟨g,n,_,rfl,hg,hb,Nat.le_refl _,hm,by simp [ddCells_len,hn],?_⟩⟩;rw [List.take_of_length_le (by simp [ddCells_len,hn])]
end Go.Proofs.YtmhgpbfogdoaeaaGreatDoor
