/-
  GK: DkM DkL DkW Dds Dbi SlD Ia Ib Ic Id Ie Ir Il.
-/
import Derived.Test.YtmhgpbfogdoaeaaGreatDoorXlGX
import Derived.Test.YtmhgpbfogdoaeaaGreatDoorXlGA
import Derived.Test.YtmhgpbfogdoaeaaGreatDoorXlGB
import Derived.Test.YtmhgpbfogdoaeaaGreatDoorXlGC
import Derived.Test.YtmhgpbfogdoaeaaGreatDoorXlDdsB
import Derived.Test.YtmhgpbfogdoaeaaGreatDoorXlGP
import Derived.Test.YtmhgpbfogdoaeaaGreatDoorXlInv
import Derived.Test.YtmhgpbfogdoaeaaGreatDoorXlClone
import Derived.Test.YtmhgpbfogdoaeaaGreatDoorXlGI
import Derived.Deep.RegionHeld3
import Derived.Test.YtmhgpbfogdoaeaaGreatDoorXlGV
namespace Go.Proofs.YtmhgpbfogdoaeaaGreatDoor
section
open Go.RowKit
structure Dsk (w:World) (v:Value) (d:Dk):Prop where
 ex:∃ A1 c1 A2 c2 A3 c3 A5 c5,v=.agg #[.slice A1 d.t.us.length c1,.slice A2 d.t.bs.length c2,.slice A3 d.t.ns.length c3,.int .i64 d.now,.slice A5 d.past.length c5]∧Strs w A1 d.t.us.length c1 d.t.us∧Ints w .i64 A2 d.t.bs.length c2 d.t.bs∧Strs w A3 d.t.ns.length c3 d.t.ns∧Ints w .i64 A5 d.past.length c5 d.past
theorem Dsk.below {w w':World} {B:Nat} {v:Value} {d:Dk} (h:Dsk w v d) (hb:Below B w w') (hB:w.heap.size≤B):Dsk w' v d:=by
 obtain ⟨A1,c1,A2,c2,A3,c3,A5,c5,e,h1,h2,h3,h5⟩:=h.ex;exact ⟨A1,c1,A2,c2,A3,c3,A5,c5,e,h1.below hb hB,h2.below hb hB,h3.below hb hB,h5.below hb hB⟩
structure TailI (w:World) (B:Nat) (v:Value) (xs:List Int):Prop where
 ex:OwnI w B v xs∨∃ z g cap,OwnI w B (.slice (some ⟨g,0,none⟩) (xs.length+1) (cap+1)) (z :: xs)∧v=.slice (some ⟨g,1,none⟩) xs.length cap
section
variable {w w' : World} {B B' S : Nat} {v : Value} {xs : List Int}
theorem OwnI.tail (h:OwnI w B v xs):TailI w B v xs:=⟨.inl h⟩
theorem TailI.below (h:TailI w B v xs) (hb:Below S w w') (hS:w.heap.size≤S):TailI w' B v xs:=by
 rcases h.ex with h | ⟨z,g,cap,h,e⟩
 · exact ⟨.inl (h.below hb hS)⟩
 · exact ⟨.inr ⟨z,g,cap,h.below hb hS,e⟩⟩
theorem TailI.mono (h:TailI w B v xs) (hB:B'≤B):TailI w B' v xs:=by
 rcases h.ex with h | ⟨z,g,cap,h,e⟩
 · exact ⟨.inl (h.mono hB)⟩
 · exact ⟨.inr ⟨z,g,cap,h.mono hB,e⟩⟩
theorem TailI.ints (h:TailI w B v xs):∃ A c,v=.slice A xs.length c∧Ints w .i64 A xs.length c xs:=by
 rcases h.ex with ho | ⟨z,g,cap,ho,rfl⟩
 · exact ho.ints
 · obtain ⟨A,c,e,hi⟩:=ho.ints;cases e;refine ⟨some ⟨g,1,none⟩,cap,rfl,rfl,by have:=hi.le;simp only [List.length_cons] at this;omega,fun _=>?_⟩;obtain ⟨b,o,e,hlt,hc⟩:=hi.at_ (by simp);cases e;refine ⟨g,1,rfl,hlt,fun j hj=>?_⟩;have:=hc (1+j) (by simp only [List.length_cons];omega);rw [Nat.zero_add,Nat.add_comm 1 j] at this;rw [Nat.add_comm 1 j,this]
   simp
theorem TailI.lt (h:TailI w B v xs):∀ k,v.ownBlock=some k→B≤k∧k < w.heap.size:=by
 rcases h.ex with ho | ⟨z,g,cap,ho,rfl⟩
 · exact World.ownsRow.lt ho
 · intro k hk;exact World.ownsRow.lt ho k hk
end
structure OwnDk (w:World) (B:Nat) (v:Value) (d:Dk):Prop where
 ex:∃ v1 v2 v3 v5,v=.agg #[v1,v2,v3,.int .i64 d.now,v5]∧OwnTng w B (.agg #[v1,v2,v3]) d.t∧TailI w B v5 d.past∧∀ k,v2.ownBlock=some k→v5.ownBlock≠some k
section
variable {w w' : World} {B B' S : Nat} {v : Value} {d : Dk}
theorem OwnDk.below (h:OwnDk w B v d) (hb:Below S w w') (hS:w.heap.size≤S):OwnDk w' B v d:=by
 obtain ⟨v1,v2,v3,v5,e,h1,h2,h3⟩:=h.ex;exact ⟨v1,v2,v3,v5,e,h1.below hb hS,h2.below hb hS,h3⟩
theorem OwnDk.mono (h:OwnDk w B v d) (hB:B'≤B):OwnDk w B' v d:=by
 obtain ⟨v1,v2,v3,v5,e,h1,h2,h3⟩:=h.ex;exact ⟨v1,v2,v3,v5,e,h1.mono hB,h2.mono hB,h3⟩
theorem OwnDk.dsk (h:OwnDk w B v d):Dsk w v d:=by
 obtain ⟨v1,v2,v3,v5,rfl,h1,h2,h3⟩:=h.ex;obtain ⟨A1,c1,A2,c2,A3,c3,e,s1,s2,s3⟩:=h1.tng.ex;obtain ⟨A5,c5,rfl,s5⟩:=h2.ints;cases e;exact ⟨A1,c1,A2,c2,A3,c3,A5,c5,rfl,s1,s2,s3,s5⟩
end
theorem own_noDk (w:World) (B:Nat):OwnDk w B (.agg #[.slice none 0 0,.slice none 0 0,.slice none 0 0,.int .i64 0,.slice none 0 0]) noDk :=
 ⟨_,_,_,_,rfl,own_noTg w B,OwnI.tail (owns_none _ _ _),fun k hk=>by simp [Value.ownBlock] at hk⟩
def RetDkB (w:World) (d:Dk) (b:Bool) (e:Ending) (w':World):Prop:=∃ v,e=.returned (.tuple #[v,.bool b])∧OwnDk w' w.heap.size v d∧Below w.heap.size w w'
theorem blk5 {w:World} {g:Nat} {t:TypeId} {a b c d e:Value} (h:Blk w g t #[a,b,c,d,e]):(w.cell? ⟨g,0,none⟩=some a∧w.cell? ⟨g,1,none⟩=some b∧w.cell? ⟨g,2,none⟩=some c∧w.cell? ⟨g,3,none⟩=some d∧w.cell? ⟨g,4,none⟩=some e)∧(w.frozen? ⟨g,0,none⟩=false∧w.frozen? ⟨g,1,none⟩=false∧w.frozen? ⟨g,2,none⟩=false∧w.frozen? ⟨g,3,none⟩=false∧w.frozen? ⟨g,4,none⟩=false) :=
 ⟨⟨h.cell 0,h.cell 1,h.cell 2,h.cell 3,h.cell 4⟩,⟨h.frozen 0,h.frozen 1,h.frozen 2,h.frozen 3,h.frozen 4⟩⟩
end
section
open Go.RowKit
structure OwnDkW (w:World) (B:Nat) (v:Value) (d:Dk):Prop where
 ex:∃ v1 v2 v3 v5,v=.agg #[v1,v2,v3,.int .i64 d.now,v5]∧OwnTng w B (.agg #[v1,v2,v3]) d.t∧OwnI w B v5 d.past∧∀ k,v2.ownBlock=some k→v5.ownBlock≠some k
section
variable {w w' : World} {B B' S : Nat} {v : Value} {d : Dk}
theorem OwnDkW.below (h:OwnDkW w B v d) (hb:Below S w w') (hS:w.heap.size≤S):OwnDkW w' B v d:=let ⟨v1,v2,v3,v5,e,h1,h2,h3⟩:=h.ex;⟨v1,v2,v3,v5,e,h1.below hb hS,h2.below hb hS,h3⟩
theorem OwnDkW.mono (h:OwnDkW w B v d) (hB:B'≤B):OwnDkW w B' v d:=let ⟨v1,v2,v3,v5,e,h1,h2,h3⟩:=h.ex;⟨v1,v2,v3,v5,e,h1.mono hB,h2.mono hB,h3⟩
theorem OwnDkW.own (h:OwnDkW w B v d):OwnDk w B v d:=let ⟨v1,v2,v3,v5,e,h1,h2,h3⟩:=h.ex;⟨v1,v2,v3,v5,e,h1,h2.tail,h3⟩
end
def RetDkW (w:World) (d:Dk) (e:Ending) (w':World):Prop:=∃ v,e=.returned v∧OwnDkW w' w.heap.size v d∧Below w.heap.size w w'
theorem OwnI.take {w:World} {B n c:Nat} {A:Option Addr} {xs:List Int} (h:OwnI w B (.slice A n c) xs) (m:Nat) (hm:m≤xs.length):OwnI w B (.slice A m c) (xs.take m):=by
 unfold OwnI at h ⊢;have hl:(xs.take m).length=m:=by rw [List.length_take];omega
 rw [hl];rcases h.2 with ⟨e,h0⟩ | ⟨g,cap,cur,e,hb,hh,hn,hc,hs,ht⟩
 · cases e;have:m=0:=by omega
   subst this;exact ⟨by simp,.inl ⟨rfl,rfl⟩⟩
 · cases e;refine ⟨by rw [List.length_map,hl];omega,.inr ⟨g,c,cur,rfl,hb,hh,by omega,hc,hs,?_⟩⟩;rw [List.map_take,← ht,List.take_take]
   congr 1;omega
structure LTng (w:World) (B:Nat) (v:Value) (t:Tg):Prop where
 ex:∃ v1 v2 v3,v=.agg #[v1,v2,v3]∧OwnStrs w B v1 t.us∧OwnI w B v2 t.bs∧OwnStrs w B v3 t.ns
section
variable {w w' : World} {B B' S : Nat} {v : Value} {t : Tg}
theorem OwnTng.l (h:OwnTng w B v t):LTng w B v t:=let ⟨v1,v2,v3,e,h1,h2,h3,_⟩:=h.ex;⟨v1,v2,v3,e,h1,h2,h3⟩
theorem LTng.below (h:LTng w B v t) (hb:Below S w w') (hS:w.heap.size≤S):LTng w' B v t:=let ⟨v1,v2,v3,e,h1,h2,h3⟩:=h.ex;⟨v1,v2,v3,e,h1.below hb hS,h2.below hb hS,h3.below hb hS⟩
theorem LTng.mono (h:LTng w B v t) (hB:B'≤B):LTng w B' v t:=let ⟨v1,v2,v3,e,h1,h2,h3⟩:=h.ex;⟨v1,v2,v3,e,h1.mono hB,h2.mono hB,h3.mono hB⟩
theorem LTng.tng (h:LTng w B v t):Tng w v t:=by
 obtain ⟨v1,v2,v3,e,h1,h2,h3⟩:=h.ex;obtain ⟨A1,c1,rfl,s1⟩:=h1.strs;obtain ⟨A2,c2,rfl,s2⟩:=h2.ints;obtain ⟨A3,c3,rfl,s3⟩:=h3.strs;exact ⟨A1,c1,A2,c2,A3,c3,e,s1,s2,s3⟩
theorem LTng.shape (h:LTng w B v t):∃ A1 c1 A2 c2 A3 c3,v=.agg #[.slice A1 t.us.length c1,.slice A2 t.bs.length c2,.slice A3 t.ns.length c3]:=by
 obtain ⟨A1,c1,A2,c2,A3,c3,e,_⟩:=h.tng.ex;exact ⟨A1,c1,A2,c2,A3,c3,e⟩
theorem OwnStrs.shape {xs:List ByteArray} (h:OwnStrs w B v xs):∃ A c,v=.slice A xs.length c:=let ⟨A,c,e,_⟩:=h.strs;⟨A,c,e⟩
theorem OwnI.shape {xs:List Int} (h:OwnI w B v xs):∃ A c,v=.slice A xs.length c:=let ⟨A,c,e,_⟩:=h.ints;⟨A,c,e⟩
end
structure LDk (w:World) (B:Nat) (v:Value) (d:Dk):Prop where
 ex:∃ v1 v2 v3 v5,v=.agg #[v1,v2,v3,.int .i64 d.now,v5]∧LTng w B (.agg #[v1,v2,v3]) d.t∧OwnI w B v5 d.past∧∀ k,v2.ownBlock=some k→v5.ownBlock≠some k
section
variable {w w' : World} {B B' S : Nat} {v : Value} {d : Dk}
theorem LDk.below (h:LDk w B v d) (hb:Below S w w') (hS:w.heap.size≤S):LDk w' B v d:=let ⟨v1,v2,v3,v5,e,h1,h2,h3⟩:=h.ex;⟨v1,v2,v3,v5,e,h1.below hb hS,h2.below hb hS,h3⟩
theorem LDk.mono (h:LDk w B v d) (hB:B'≤B):LDk w B' v d:=let ⟨v1,v2,v3,v5,e,h1,h2,h3⟩:=h.ex;⟨v1,v2,v3,v5,e,h1.mono hB,h2.mono hB,h3⟩
theorem LDk.dsk (h:LDk w B v d):Dsk w v d:=by
 obtain ⟨v1,v2,v3,v5,rfl,h1,h2,-⟩:=h.ex;obtain ⟨A1,c1,A2,c2,A3,c3,e,s1,s2,s3⟩:=h1.tng.ex;obtain ⟨A5,c5,rfl,s5⟩:=h2.ints;cases e;exact ⟨A1,c1,A2,c2,A3,c3,A5,c5,rfl,s1,s2,s3,s5⟩
end
section
variable {P : Program} (w : World)
theorem run_app0 (base:Nat) (t ty e:TypeId) (i:TypeInfo) (z:Value) (bytes:Nat) (ht:P.underlying t=some (.slice e)) (hi:P.info? e=some i) (hz:i.zero=some z)
 (hsize:i.size=1) (hby:i.bytes=bytes) (hzs:z.cells.size=1) (g:Nat) (hb:Blk w g e #[]) (hbg:base≤g)
 (A:Option Addr) (m c:Nat) (news:List Value) (hr:Src w A m news) (h63:m≤maxLen) (hbytes:m * bytes≤140737488355328) (hbase:base≤w.heap.size) :
 ∃ v' w',(Builtin.append_ #[t,t] ty #[.slice (some ⟨g,0,none⟩) 0 0,.slice A m c]).run P w=.ok v' w'∧w'.ownsRow base e 1 v' m news∧Below w.heap.size w w'∧(v'.ownBlock=some g∨v'.ownBlock=some w.heap.size):=by
 have hown:w.ownsRow base e 1 (.slice (some ⟨g,0,none⟩) 0 0) 0 []:=owns_empty hb hbg;obtain ⟨v',w',hrun,h2,h3,h4⟩:=run_app (P:=P) w base t ty e i z bytes ht hi hz hsize hby hzs _ 0 [] hown A m c news hr (by omega) (by simpa using hbytes) hbase;rw [Nat.zero_add,List.nil_append] at h2;refine ⟨v',w',hrun,h2,⟨h3.os,h3.tape,h3.output,h3.size,fun k hk=>?_⟩,by simpa [Value.ownBlock] using h4⟩
 by_cases hkg:k=g
 · subst hkg;obtain ⟨hl,h1,hat⟩:=hr;rcases Nat.eq_zero_or_pos m with h0 | h0
   · subst h0;have hn:news=[]:=List.eq_nil_of_length_eq_zero hl;subst hn;rcases A with _ | ad
     · have e1:=run_app_nil (P:=P) w base t ty e i 1 ht hi _ 0 [] hown c;rw [hrun] at e1;injection e1 with _ e2
       rw [e2]
     · have e1:=run_append_room (P:=P) w t ty e i ht hi k 0 0 #[] hb ad 0 c [] (by simp) (by simp) (by simp) (Nat.le_refl _) (by simp);rw [hrun] at e1;injection e1 with _ e2
       rw [e2,setRow_heap w k #[] _ e _ hb];rw [show w.heap[k]?=_ from hb]
       simp
   · obtain ⟨b,o,rfl,_,hc⟩:=hat h0;have hnb:∀ j u,news[j]?=some u→w.cell? ((⟨b,o,none⟩:Addr).add j)=some u:=fun j u hu=>by rw [add_plain'];exact hc j u hu
     have e1:=run_append_grow (P:=P) w t ty e i z ht hi hz ⟨k,0,none⟩ 0 0 [] (by simp) (by simp) ⟨b,o,none⟩ m c news (by rw [hsize];omega) hnb (by omega) (by unfold maxLen at h63;omega) (by rw [hby];exact growslice_fits (by omega) (by simpa using hbytes));rw [hrun] at e1;injection e1 with _ e2
     rw [e2];exact Below.heap_alloc w.drew _ k hk
 · exact h3.block k hk (fun e=>hkg (by simpa [Value.ownBlock] using e))
theorem step_app0 {ops:Array Oper} {o:Oper} {a:Act} {K:Act→World→Prop} {Q:Exit→Act→World→Prop} {E:Prop} (hgd:o.guard=none) (s x:Operand) (t:TypeId)
 (ho:o.op=.call { callee:=.builtin .append,args:=#[s,x],argTypes:=#[t,t] })
 (base:Nat) (e:TypeId) (i:TypeInfo) (z:Value) (bytes:Nat) (ht:P.underlying t=some (.slice e)) (hi:P.info? e=some i) (hz:i.zero=some z)
 (hsize:i.size=1) (hby:i.bytes=bytes) (hzs:z.cells.size=1) (g:Nat) (hs:a.eval s=.slice (some ⟨g,0,none⟩) 0 0) (hb:Blk w g e #[]) (hbg:base≤g)
 (A:Option Addr) (m c:Nat) (news:List Value) (hx:a.eval x=.slice A m c) (hr:Src w A m news)
 (h63:m≤maxLen) (hbytes:m * bytes≤140737488355328) (hbase:base≤w.heap.size)
 (h:∀ v' w',w'.ownsRow base e 1 v' m news→Below w.heap.size w w'→(v'.ownBlock=some g∨v'.ownBlock=some w.heap.size)→K (a.put o.dst v') w') :
 if Region.wanted o (yielded ops a.tmps)=true then Oper.wp P o a w K Q else E:=by
 have hw:Region.wanted o (yielded ops a.tmps)=true:=by simp [Region.wanted,hgd]
 rw [if_pos hw];obtain ⟨v',w',hrun,h2,h3,h4⟩:=run_app0 (P:=P) w base t o.type e i z bytes ht hi hz hsize hby hzs g hb hbg A m c news hr h63 hbytes hbase;unfold Oper.wp execOp;simp only [ho,resolve,invoke,builtin,Sem.run_bind,Sem.run_pure,Result.andThen_ok,List.map_toArray,List.map_cons,List.map_nil,hs,hx,hrun];exact h v' w' h2 h3 h4
end
theorem own_dk5t {w:World} {B g:Nat} {v1 v2 v3 v5 u0 u1 u2 u3 u4:Value} {cs:Array Value} {d:Dk} (h:OwnDk w B (.agg #[v1,v2,v3,.int .i64 d.now,v5]) d) (hb:Blk w g 33 cs) :
 OwnDk (((((w.setCell ⟨g,0,none⟩ u0).setCell ⟨g,1,none⟩ u1).setCell ⟨g,2,none⟩ u2).setCell ⟨g,3,none⟩ u3).setCell ⟨g,4,none⟩ u4) B (.agg #[v1,v2,v3,.int .i64 d.now,v5]) d:=by
 obtain ⟨w1,w2,w3,w5,e,ht,h5,ap⟩:=h.ex;cases e;obtain ⟨y1,y2,y3,e,o1,o2,o3,a13⟩:=ht.ex;cases e;have m1:=own_blk_ne o1 hb (by decide);have m2:=own_blk_ne o2 hb (by decide);have m3:=own_blk_ne o3 hb (by decide);refine ⟨_,_,_,_,rfl,⟨_,_,_,rfl,own_set (own_set (own_set (own_set (own_set o1 m1) m1) m1) m1) m1,own_set (own_set (own_set (own_set (own_set o2 m2) m2) m2) m2) m2,own_set (own_set (own_set (own_set (own_set o3 m3) m3) m3) m3) m3,a13⟩,?_,ap⟩;rcases h5.ex with ho | ⟨z,g',cap,ho,rfl⟩
 · have m5:=own_blk_ne ho hb (by decide);exact ⟨.inl (own_set (own_set (own_set (own_set (own_set ho m5) m5) m5) m5) m5)⟩
 · have m5:=own_blk_ne ho hb (by decide);exact ⟨.inr ⟨z,g',cap,own_set (own_set (own_set (own_set (own_set ho m5) m5) m5) m5) m5,rfl⟩⟩
theorem own_dk5 {w:World} {B g:Nat} {v1 v2 v3 v5 u0 u1 u2 u3 u4:Value} {cs:Array Value} {now:Int} {d:Dk} (hn:now=d.now) (h:OwnTng w B (.agg #[v1,v2,v3]) d.t) (h5:OwnI w B v5 d.past) (ap:∀ k,v2.ownBlock=some k→v5.ownBlock≠some k) (hb:Blk w g 33 cs) :
 OwnDkW (((((w.setCell ⟨g,0,none⟩ u0).setCell ⟨g,1,none⟩ u1).setCell ⟨g,2,none⟩ u2).setCell ⟨g,3,none⟩ u3).setCell ⟨g,4,none⟩ u4) B (.agg #[v1,v2,v3,.int .i64 now,v5]) d:=by
 subst hn;obtain ⟨w1,w2,w3,e,o1,o2,o3,a13⟩:=h.ex;cases e;have m1:=own_blk_ne o1 hb (by decide);have m2:=own_blk_ne o2 hb (by decide);have m3:=own_blk_ne o3 hb (by decide);have m5:=own_blk_ne h5 hb (by decide);exact ⟨_,_,_,_,rfl,⟨_,_,_,rfl,own_set (own_set (own_set (own_set (own_set o1 m1) m1) m1) m1) m1,own_set (own_set (own_set (own_set (own_set o2 m2) m2) m2) m2) m2,own_set (own_set (own_set (own_set (own_set o3 m3) m3) m3) m3) m3,a13⟩,own_set (own_set (own_set (own_set (own_set h5 m5) m5) m5) m5) m5,ap⟩
theorem below_dk5 {w w1:World} {g:Nat} {u0 u1 u2 u3 u4:Value} {B:Nat} (h:Below B w w1) (hg:B≤g):Below B w (((((w1.setCell ⟨g,0,none⟩ u0).setCell ⟨g,1,none⟩ u1).setCell ⟨g,2,none⟩ u2).setCell ⟨g,3,none⟩ u3).setCell ⟨g,4,none⟩ u4) :=
 ((((h.setCell (by simpa using hg) _).setCell (by simpa using hg) _).setCell (by simpa using hg) _).setCell (by simpa using hg) _).setCell (by simpa using hg) _
structure MDk (w:World) (B:Nat) (v:Value) (d:Dk):Prop where
 ex:∃ v1 v2 v3 v5,v=.agg #[v1,v2,v3,.int .i64 d.now,v5]∧LTng w B (.agg #[v1,v2,v3]) d.t∧TailI w B v5 d.past
section
variable {w w' : World} {B B' S g i : Nat} {v u : Value} {d : Dk} {cs : Array Value}
theorem MDk.below (h:MDk w B v d) (hb:Below S w w') (hS:w.heap.size≤S):MDk w' B v d:=let ⟨v1,v2,v3,v5,e,h1,h2⟩:=h.ex;⟨v1,v2,v3,v5,e,h1.below hb hS,h2.below hb hS⟩
theorem MDk.mono (h:MDk w B v d) (hB:B'≤B):MDk w B' v d:=let ⟨v1,v2,v3,v5,e,h1,h2⟩:=h.ex;⟨v1,v2,v3,v5,e,h1.mono hB,h2.mono hB⟩
theorem LDk.m (h:LDk w B v d):MDk w B v d:=let ⟨v1,v2,v3,v5,e,h1,h2,_⟩:=h.ex;⟨v1,v2,v3,v5,e,h1,h2.tail⟩
theorem OwnDk.m (h:OwnDk w B v d):MDk w B v d:=let ⟨v1,v2,v3,v5,e,h1,h2,_⟩:=h.ex;⟨v1,v2,v3,v5,e,h1.l,h2⟩
theorem MDk.dsk (h:MDk w B v d):Dsk w v d:=by
 obtain ⟨v1,v2,v3,v5,rfl,h1,h2⟩:=h.ex;obtain ⟨A1,c1,A2,c2,A3,c3,e,s1,s2,s3⟩:=h1.tng.ex;obtain ⟨A5,c5,rfl,s5⟩:=h2.ints;cases e;exact ⟨A1,c1,A2,c2,A3,c3,A5,c5,rfl,s1,s2,s3,s5⟩
theorem TailI.setM {xs:List Int} (h:TailI w B v xs) (hb:Blk w g 33 cs):TailI (w.setCell ⟨g,i,none⟩ u) B v xs:=by
 rcases h.ex with ho | ⟨z,g',cap,ho,rfl⟩
 · exact ⟨.inl (own_set ho (own_blk_ne ho hb (by decide)))⟩
 · exact ⟨.inr ⟨z,g',cap,own_set ho (own_blk_ne ho hb (by decide)),rfl⟩⟩
theorem LTng.setM {t:Tg} (h:LTng w B v t) (hb:Blk w g 33 cs):LTng (w.setCell ⟨g,i,none⟩ u) B v t:=by
 obtain ⟨v1,v2,v3,e,o1,o2,o3⟩:=h.ex;exact ⟨v1,v2,v3,e,own_set o1 (own_blk_ne o1 hb (by decide)),own_set o2 (own_blk_ne o2 hb (by decide)),own_set o3 (own_blk_ne o3 hb (by decide))⟩
theorem MDk.setM (h:MDk w B v d) (hb:Blk w g 33 cs):MDk (w.setCell ⟨g,i,none⟩ u) B v d:=let ⟨v1,v2,v3,v5,e,h1,h2⟩:=h.ex;⟨v1,v2,v3,v5,e,h1.setM hb,h2.setM hb⟩
end
theorem own_md5 {w:World} {B g:Nat} {v u0 u1 u2 u3 u4:Value} {cs:Array Value} {d:Dk} (h:MDk w B v d) (hb:Blk w g 33 cs) :
 MDk (((((w.setCell ⟨g,0,none⟩ u0).setCell ⟨g,1,none⟩ u1).setCell ⟨g,2,none⟩ u2).setCell ⟨g,3,none⟩ u3).setCell ⟨g,4,none⟩ u4) B v d :=
 ((((h.setM hb).setM (hb.set_ 0 u0)).setM ((hb.set_ 0 u0).set_ 1 u1)).setM (((hb.set_ 0 u0).set_ 1 u1).set_ 2 u2)).setM ((((hb.set_ 0 u0).set_ 1 u1).set_ 2 u2).set_ 3 u3)
theorem own_ltNo (w:World) (B:Nat):LTng w B (.agg #[.slice none 0 0,.slice none 0 0,.slice none 0 0]) noTg:=(own_noTg w B).l
theorem own_mdNo (w:World) (B:Nat):MDk w B (.agg #[.slice none 0 0,.slice none 0 0,.slice none 0 0,.int .i64 0,.slice none 0 0]) noDk:=(own_noDk w B).m
theorem own_tngD1 {w:World} {B g i:Nat} {v u:Value} {cs:Array Value} {t:Tg} (h:OwnTng w B v t) (hb:Blk w g 33 cs):OwnTng (w.setCell ⟨g,i,none⟩ u) B v t:=by
 obtain ⟨v1,v2,v3,e,o1,o2,o3,a⟩:=h.ex;exact ⟨v1,v2,v3,e,own_set o1 (own_blk_ne o1 hb (by decide)),own_set o2 (own_blk_ne o2 hb (by decide)),own_set o3 (own_blk_ne o3 hb (by decide)),a⟩
theorem own_tngD {w:World} {B g:Nat} {v u0 u1 u2 u3:Value} {cs:Array Value} {t:Tg} (h:OwnTng w B v t) (hb:Blk w g 33 cs):OwnTng ((((w.setCell ⟨g,0,none⟩ u0).setCell ⟨g,1,none⟩ u1).setCell ⟨g,2,none⟩ u2).setCell ⟨g,3,none⟩ u3) B v t :=
 own_tngD1 (own_tngD1 (own_tngD1 (own_tngD1 h hb) (hb.set_ 0 u0)) ((hb.set_ 0 u0).set_ 1 u1)) (((hb.set_ 0 u0).set_ 1 u1).set_ 2 u2)
theorem ints_offD {w:World} {g n c:Nat} {A:Option Addr} {xs:List Int} {u0 u1 u2 u3:Value} (_hb:Blk w g 33 #[.slice none 0 0,.slice none 0 0,.slice none 0 0,.int .i64 0,.slice none 0 0]) (h:Ints w .i64 A n c xs) (hne:∀ b o,A=some ⟨b,o,none⟩→0 < n→b≠g):Ints ((((w.setCell ⟨g,0,none⟩ u0).setCell ⟨g,1,none⟩ u1).setCell ⟨g,2,none⟩ u2).setCell ⟨g,3,none⟩ u3) .i64 A n c xs:=by
 refine ⟨h.len,h.le,fun hn=>?_⟩;obtain ⟨b,o,e,hlt,hc⟩:=h.at_ hn;have hbg:=hne b o e hn
 have hk:((((w.setCell ⟨g,0,none⟩ u0).setCell ⟨g,1,none⟩ u1).setCell ⟨g,2,none⟩ u2).setCell ⟨g,3,none⟩ u3).heap[b]?=w.heap[b]? :=
  (Below.heap_setCell _ ⟨g,3,none⟩ u3 b hbg).trans ((Below.heap_setCell _ ⟨g,2,none⟩ u2 b hbg).trans ((Below.heap_setCell _ ⟨g,1,none⟩ u1 b hbg).trans (Below.heap_setCell _ ⟨g,0,none⟩ u0 b hbg)))
 exact ⟨b,o,e,by simpa using hlt,fun j hj=>(World.cell?_of_block (a:=⟨b,o+j,none⟩) (w:=w) hk).trans (hc j hj)⟩
end
section
open Go.RowKit
structure WDk (w:World) (B:Nat) (v:Value) (d:Dk):Prop where
 ex:∃ v1 v2 v3 v5,v=.agg #[v1,v2,v3,.int .i64 d.now,v5]∧LTng w B (.agg #[v1,v2,v3]) d.t∧OwnI w B v5 d.past∧∀ k,v2.ownBlock=some k→v5.ownBlock≠some k
section
variable {w w' : World} {B B' S g i : Nat} {v u : Value} {d : Dk} {cs : Array Value}
theorem WDk.mono (h:WDk w B v d) (hB:B'≤B):WDk w B' v d:=let ⟨v1,v2,v3,v5,e,h1,h2,h3⟩:=h.ex;⟨v1,v2,v3,v5,e,h1.mono hB,h2.mono hB,h3⟩
theorem LDk.whole (h:LDk w B v d):WDk w B v d:=h.ex.elim fun v1 ⟨v2,v3,v5,e,h1,h2,h3⟩=>⟨v1,v2,v3,v5,e,h1,h2,h3⟩
theorem WDk.setM (h:WDk w B v d) (hb:Blk w g 33 cs):WDk (w.setCell ⟨g,i,none⟩ u) B v d:=let ⟨v1,v2,v3,v5,e,h1,h2,h3⟩:=h.ex;⟨v1,v2,v3,v5,e,h1.setM hb,own_set h2 (own_blk_ne h2 hb (by decide)),h3⟩
end
theorem own_wd5 {w:World} {B g:Nat} {v u0 u1 u2 u3 u4:Value} {cs:Array Value} {d:Dk} (h:WDk w B v d) (hb:Blk w g 33 cs) :
 WDk (((((w.setCell ⟨g,0,none⟩ u0).setCell ⟨g,1,none⟩ u1).setCell ⟨g,2,none⟩ u2).setCell ⟨g,3,none⟩ u3).setCell ⟨g,4,none⟩ u4) B v d :=
 ((((h.setM hb).setM (hb.set_ 0 u0)).setM ((hb.set_ 0 u0).set_ 1 u1)).setM (((hb.set_ 0 u0).set_ 1 u1).set_ 2 u2)).setM ((((hb.set_ 0 u0).set_ 1 u1).set_ 2 u2).set_ 3 u3)
theorem own_wdNo (w:World) (B:Nat):WDk w B (.agg #[.slice none 0 0,.slice none 0 0,.slice none 0 0,.int .i64 0,.slice none 0 0]) noDk:=⟨_,_,_,_,rfl,own_ltNo w B,owns_none _ _ _,fun k _ e=>by simp [Value.ownBlock] at e⟩
def RetMW (w:World) (n0:Nat) (d:Dk) (b:Bool) (e:Ending) (w':World):Prop:=∃ v,e=.returned (.tuple #[v,.bool b])∧MDk w' w.heap.size v d∧(n0≤7→WDk w' w.heap.size v d)∧Below w.heap.size w w'
end
section
open Go.RowKit
theorem fine_of_ok {d:Dk} (h:dkOk d=true) (ht:d.t.Fine):d.Fine:=by
 obtain ⟨h1,h2,h3⟩:=(dkOk_iff d).1 h;have hb:=named_bd h1;exact ⟨ht,by omega,by omega,Fits.of_small fun x hx=>by have:=named_bd (h2 x hx);omega⟩
theorem OwnDk.set5 {w:World} {B g:Nat} {v u0 u1 u2 u3 u4:Value} {cs:Array Value} {d:Dk} (h:OwnDk w B v d) (hb:Blk w g 33 cs) :
 OwnDk (((((w.setCell ⟨g,0,none⟩ u0).setCell ⟨g,1,none⟩ u1).setCell ⟨g,2,none⟩ u2).setCell ⟨g,3,none⟩ u3).setCell ⟨g,4,none⟩ u4) B v d:=by
 obtain ⟨A1,c1,A2,c2,A3,c3,A5,c5,rfl,-⟩:=h.dsk.ex;exact own_dk5t h hb
end
section
open Go.RowKit
set_option maxRecDepth 100000 in
set_option maxHeartbeats 2000000 in
theorem hasName_any (v:Value) (t:Tg) (n:Int) (w:World) (h:Tng w v t) (hf:t.Fine) (hn:-9223372036854775808≤n∧n≤9223372036854775807) :
 Calls Tryz.prog 75 #[v,.int .i64 n] w fun e w'=>e=.returned (.bool (namedB t n))∧Below w.heap.size w w':=by
 obtain ⟨A1,c1,A2,c2,A3,c3,rfl,-⟩:=h.ex;have hB:=(Below.refl w.heap.size w).alloc (Nat.le_refl _) (.cells #[.slice A1 t.us.length c1,.slice A2 t.bs.length c2,.slice A3 t.ns.length c3] 31);have HX:=Blk.new w 31 #[.slice A1 t.us.length c1,.slice A2 t.bs.length c2,.slice A3 t.ns.length c3];have K1:=implNameOf_any _ t n _ (h.below hB (Nat.le_refl _)) hf hn;generalize namedB t n=nb at *;generalize nameOf t n=xs at *;replace K1:=Lib.hid K1;replace hB:=Lib.hid hB;replace HX:=Lib.hid HX;clear h hf;go_enter Tryz.func75,Tryz.ntmps75;go_upto_region 1 with (fail)
 generalize w.alloc (.cells #[.slice A1 t.us.length c1,.slice A2 t.bs.length c2,.slice A3 t.ns.length c3] 31)=W at *;obtain ⟨x0,x1,x2,-,-,-⟩:=blk3 HX.out;go_wp2_with (fail);refine K1.out.mono ?_;rintro e w1 ⟨v1,rfl,-,b1⟩;replace hB:=Lib.hid (hB.out.trans (b1.mono hB.out.size));clear b1 x0 x1 x2 K1 HX;go_wp2;go_ret;exact ⟨rfl,hB.out⟩
theorem fits_at {xs:List Int} (h:Fits xs) (k:Nat):-9223372036854775808≤xs.getD k 0∧xs.getD k 0≤9223372036854775807:=by
 have:=h k;omega
theorem ok_no_now {d:Dk} (h:namedB d.t d.now=false):dkOk d=false:=by unfold dkOk;rw [h];rfl
theorem ok_no_long {d:Dk} (h:¬ d.past.length≤8):dkOk d=false:=by unfold dkOk;rw [decide_eq_false h];simp
theorem ok_no_past {d:Dk} {k:Nat} (hk:k < d.past.length) (h:namedB d.t (d.past.getD k 0)=false):dkOk d=false:=by
 cases hb:dkOk d
 · rfl
 · have:=((dkOk_iff d).1 hb).2.1 _ (getD_memW hk);rw [h] at this;cases this
theorem ok_all {d:Dk} (h1:namedB d.t d.now=true) (h2:d.past.length≤8) (h3:∀ j,j < d.past.length→namedB d.t (d.past.getD j 0)=true):dkOk d=true :=
 (dkOk_iff d).2 ⟨h1,fun x hx=>by
  obtain ⟨j,hj,rfl⟩:=List.mem_iff_getElem.1 hx;have:=h3 j hj
  simpa [List.getD_eq_getElem?_getD,hj] using this,h2⟩
set_option maxRecDepth 100000 in
set_option maxHeartbeats 2000000 in
theorem implDeskOk_any (v:Value) (d:Dk) (w:World) (h:Dsk w v d) (hf:d.Fine) :
 Calls Tryz.prog 23 #[v] w fun e w'=>e=.returned (.bool (dkOk d))∧Below w.heap.size w w':=by
 obtain ⟨A1,c1,A2,c2,A3,c3,A5,c5,rfl,h1,h2,h3,h5⟩:=h.ex;have hB:=(Below.refl w.heap.size w).alloc (Nat.le_refl _) (.cells #[.slice A1 d.t.us.length c1,.slice A2 d.t.bs.length c2,.slice A3 d.t.ns.length c3,.int .i64 d.now,.slice A5 d.past.length c5] 33);have HX:=Blk.new w 33 #[.slice A1 d.t.us.length c1,.slice A2 d.t.bs.length c2,.slice A3 d.t.ns.length c3,.int .i64 d.now,.slice A5 d.past.length c5];have HT:Tng (w.alloc (.cells #[.slice A1 d.t.us.length c1,.slice A2 d.t.bs.length c2,.slice A3 d.t.ns.length c3,.int .i64 d.now,.slice A5 d.past.length c5] 33)) (.agg #[.slice A1 d.t.us.length c1,.slice A2 d.t.bs.length c2,.slice A3 d.t.ns.length c3]) d.t:=⟨A1,c1,A2,c2,A3,c3,rfl,h1.below hB (Nat.le_refl _),h2.below hB (Nat.le_refl _),h3.below hB (Nat.le_refl _)⟩;have H5:=h5.below hB (Nat.le_refl _);have hn1:=Lib.hid (ok_no_now (d:=d));have hn2:=Lib.hid (ok_no_long (d:=d));have hn3:=Lib.hid (fun k=>ok_no_past (d:=d) (k:=k));have hyes:=Lib.hid (ok_all (d:=d));have hfa:=Lib.hid (fits_at hf.fits);have hnow:=Lib.hid hf.now;have hft:=Lib.hid hf.t;have hpl:=hf.past;replace hB:=Lib.hid hB;replace HX:=Lib.hid HX;replace HT:=Lib.hid HT;replace H5:=Lib.hid H5;clear h h1 h2 h3 h5 hf;go_enter Tryz.func23,Tryz.ntmps23;go_upto_region 1 with (fail)
 generalize w.alloc (.cells #[.slice A1 d.t.us.length c1,.slice A2 d.t.bs.length c2,.slice A3 d.t.ns.length c3,.int .i64 d.now,.slice A5 d.past.length c5] 33)=W at *;have hXc:=Lib.hid (fun W' (b:Below W.heap.size W W')=>(blk5 (HX.out.below b HX.out.lt)).1);have hN:=Lib.hid (fun n (hn:-9223372036854775808≤n∧n≤9223372036854775807) W' (b:Below W.heap.size W W')=>hasName_any _ d.t n W' (HT.out.below b (Nat.le_refl _)) hft.out hn);have D:=Lib.hid (Below.refl W.heap.size W);obtain ⟨x0,x1,x2,x3,x4⟩:=hXc.out _ D.out;have K1:=Lib.hid (hN.out _ hnow.out _ D.out);go_wp2_with (fail);refine K1.out.mono ?_;rintro e w1 ⟨rfl,b1⟩;replace D:=Lib.hid (D.out.trans (b1.mono D.out.size));clear b1 x0 x1 x2 x3 x4 K1;obtain ⟨x0,x1,x2,x3,x4⟩:=hXc.out _ D.out;cases hnb:namedB d.t d.now
 · have hg:=Lib.hid (hn1.out hnb);clear hn1 hn2 hn3 hyes;go_wp2;go_ret;exact ⟨ret_bool hg.out.symm,hB.out.trans (D.out.mono hB.out.size)⟩
 · replace hnb:=Lib.hid hnb
   by_cases hl:d.past.length≤8
   · have hg1:¬ (8 < (d.past.length:Int)):=by omega
     have hg2:decide (8 < (d.past.length:Int))=false:=decide_eq_false hg1;go_wp2
     go_loopw [20] (fun i wr=>∃ k:Nat,k≤d.past.length∧i=.int .i64 k∧(∀ j,j < k→namedB d.t (d.past.getD j 0)=true)∧Below W.heap.size W wr) (fun i _=>d.past.length - (intOf i).toNat)
     case atStart=>exact ⟨0,Nat.zero_le _,rfl,fun j hj=>absurd hj (by omega),D.out⟩
     case round =>
      obtain ⟨k,hk,rfl,hj,hD⟩:=hrel;clear x0 x1 x2 x3 x4 D
      by_cases hlt:k < d.past.length
      · obtain ⟨b,o,rfl,hbo,hc⟩:=H5.out.at_ (by omega);have ck:=(hD.cell (p:=⟨b,o+k,none⟩) hbo).trans (hc k hlt);obtain ⟨x0,x1,x2,x3,x4⟩:=hXc.out _ hD;have K2:=Lib.hid (hN.out _ (hfa.out k) _ hD);have hno:=Lib.hid (hn3.out k hlt)
        have HJ:namedB d.t (d.past.getD k 0)=true→∀ j,j < k+1→namedB d.t (d.past.getD j 0)=true:=fun hx j hjk=>by
         by_cases e:j=k
         · subst e;exact hx
         · exact hj j (by omega)
        generalize d.past.getD k 0=y at *;generalize namedB d.t y=nb at *;replace HJ:=Lib.hid HJ;replace hD:=Lib.hid hD;clear hc hj hn1 hn2 hn3 hyes;go_wp2_with (fail);refine K2.out.mono ?_;rintro e w2 ⟨rfl,b2⟩;replace hD:=Lib.hid (hD.out.trans (b2.mono hD.out.size));clear b2 x0 x1 x2 x3 x4 K2 ck;cases nb
        · have hg:=Lib.hid (hno.out (by simp));go_wp2;go_ret;exact ⟨ret_bool hg.out.symm,hB.out.trans (hD.out.mono hB.out.size)⟩
        · go_wp2
          go_roundw
          case rel=>exact ⟨k+1,by omega,by go_num,HJ.out (by simp),hD.out⟩
          case measure=>simp [intOf];omega
      · obtain rfl:k=d.past.length:=by omega
        have hg:=Lib.hid (hyes.out hnb.out hl hj);replace hD:=Lib.hid hD;clear hj hn1 hn2 hn3 hyes;go_wp2;go_ret;exact ⟨ret_bool hg.out.symm,hB.out.trans (hD.out.mono hB.out.size)⟩
   · have hg1:8 < (d.past.length:Int):=by omega
     have hg2:decide (8 < (d.past.length:Int))=true:=decide_eq_true hg1;have hg:=Lib.hid (hn2.out hl);clear hn1 hn2 hn3 hyes;go_wp2;go_ret;exact ⟨ret_bool hg.out.symm,hB.out.trans (D.out.mono hB.out.size)⟩
end
section
open Go.RowKit
structure CDC (w0:World) (t:Tg) (b0:Nat) (cs:Array Value) (A1:Option Addr) (c1:Nat) (A2:Option Addr) (c2:Nat) (A3:Option Addr) (c3:Nat) (l:Array Bool) (w:World) (s3 s4 s5 s6 s7 s8 s9 s10 s11 s12 s13 s14 s15 s16:Value):Prop where
 f0:l.getD 0 false=true→s4=.pointer (some ⟨b0,0,none⟩)
 f1:l.getD 1 false=true→s5=.pointer (some ⟨b0,0,none⟩)
 f2:l.getD 2 false=true→s6=.slice A1 t.us.length c1
 o3:l.getD 3 false=true→OwnStrs w w0.heap.size s7 t.us
 f4:l.getD 4 false=true→s8=.pointer (some ⟨b0,0,none⟩)
 f5:l.getD 5 false=true→s9=.pointer (some ⟨b0,1,none⟩)
 f6:l.getD 6 false=true→s10=.slice A2 t.bs.length c2
 o7:l.getD 7 false=true→OwnI w w0.heap.size s11 t.bs
 f8:l.getD 8 false=true→s12=.pointer (some ⟨b0,0,none⟩)
 f9:l.getD 9 false=true→s13=.pointer (some ⟨b0,2,none⟩)
 f10:l.getD 10 false=true→s14=.slice A3 t.ns.length c3
 o11:l.getD 11 false=true→OwnStrs w w0.heap.size s15 t.ns
 b12:l.getD 12 false=true→OwnTng w w0.heap.size s16 t
 a13:l.getD 13 false=true→∃ q,s3=.pointer (some ⟨q,0,none⟩)∧w0.heap.size≤q∧(l.getD 14 false=false→Blk w q 31 #[.slice none 0 0,.slice none 0 0,.slice none 0 0])
 hr:l.getD 14 false=true→∃ q u0 u1 u2,s3=.pointer (some ⟨q,0,none⟩)∧w0.heap.size≤q∧Blk w q 31 #[u0,u1,u2]∧OwnTng w w0.heap.size (.agg #[u0,u1,u2]) t
 p3x11:l.getD 3 false=true→l.getD 11 false=true→∀ k,s7.ownBlock=some k→s15.ownBlock≠some k
 da:l.getD 14 false=true→l.getD 13 false=true
 hx:Blk w (b0) 33 cs
 low:Below w0.heap.size w0 w
 sz:w0.heap.size≤w.heap.size
section
variable {w0 : World} {t : Tg} {b0 : Nat} {cs : Array Value} {A1 : Option Addr} {c1 : Nat} {A2 : Option Addr} {c2 : Nat} {A3 : Option Addr} {c3 : Nat} {l : Array Bool} {w w' : World} {s3 s4 s5 s6 s7 s8 s9 s10 s11 s12 s13 s14 s15 s16 v : Value}
theorem CDC.up0 (h:CDC w0 t b0 cs A1 c1 A2 c2 A3 c3 l w s3 s4 s5 s6 s7 s8 s9 s10 s11 s12 s13 s14 s15 s16) (hv:v=.pointer (some ⟨b0,0,none⟩)):CDC w0 t b0 cs A1 c1 A2 c2 A3 c3 (l.setIfInBounds 0 true) w s3 v s5 s6 s7 s8 s9 s10 s11 s12 s13 s14 s15 s16 :=
 ⟨(fun _=>hv),(fun h'=>h.f1 (listed_set h' (by decide))),(fun h'=>h.f2 (listed_set h' (by decide))),(fun h'=>h.o3 (listed_set h' (by decide))),(fun h'=>h.f4 (listed_set h' (by decide))),(fun h'=>h.f5 (listed_set h' (by decide))),(fun h'=>h.f6 (listed_set h' (by decide))),(fun h'=>h.o7 (listed_set h' (by decide))),(fun h'=>h.f8 (listed_set h' (by decide))),(fun h'=>h.f9 (listed_set h' (by decide))),(fun h'=>h.f10 (listed_set h' (by decide))),(fun h'=>h.o11 (listed_set h' (by decide))),(fun h'=>h.b12 (listed_set h' (by decide))),(fun h'=>(let ⟨q,e,hq,hh⟩:=h.a13 (listed_set h' (by decide));⟨q,e,hq,fun hn=>hh (by rwa [listed_same (by decide)] at hn)⟩)),(fun h'=>h.hr (listed_set h' (by decide))),(fun h1 h2=>h.p3x11 (listed_set h1 (by decide)) (listed_set h2 (by decide))),(fun h'=>by rw [listed_same (by decide)] at h' ⊢;exact h.da h'),h.hx,h.low,h.sz⟩
theorem CDC.up1 (h:CDC w0 t b0 cs A1 c1 A2 c2 A3 c3 l w s3 s4 s5 s6 s7 s8 s9 s10 s11 s12 s13 s14 s15 s16) (hv:v=.pointer (some ⟨b0,0,none⟩)):CDC w0 t b0 cs A1 c1 A2 c2 A3 c3 (l.setIfInBounds 1 true) w s3 s4 v s6 s7 s8 s9 s10 s11 s12 s13 s14 s15 s16 :=
 ⟨(fun h'=>h.f0 (listed_set h' (by decide))),(fun _=>hv),(fun h'=>h.f2 (listed_set h' (by decide))),(fun h'=>h.o3 (listed_set h' (by decide))),(fun h'=>h.f4 (listed_set h' (by decide))),(fun h'=>h.f5 (listed_set h' (by decide))),(fun h'=>h.f6 (listed_set h' (by decide))),(fun h'=>h.o7 (listed_set h' (by decide))),(fun h'=>h.f8 (listed_set h' (by decide))),(fun h'=>h.f9 (listed_set h' (by decide))),(fun h'=>h.f10 (listed_set h' (by decide))),(fun h'=>h.o11 (listed_set h' (by decide))),(fun h'=>h.b12 (listed_set h' (by decide))),(fun h'=>(let ⟨q,e,hq,hh⟩:=h.a13 (listed_set h' (by decide));⟨q,e,hq,fun hn=>hh (by rwa [listed_same (by decide)] at hn)⟩)),(fun h'=>h.hr (listed_set h' (by decide))),(fun h1 h2=>h.p3x11 (listed_set h1 (by decide)) (listed_set h2 (by decide))),(fun h'=>by rw [listed_same (by decide)] at h' ⊢;exact h.da h'),h.hx,h.low,h.sz⟩
theorem CDC.up2 (h:CDC w0 t b0 cs A1 c1 A2 c2 A3 c3 l w s3 s4 s5 s6 s7 s8 s9 s10 s11 s12 s13 s14 s15 s16) (hv:v=.slice A1 t.us.length c1):CDC w0 t b0 cs A1 c1 A2 c2 A3 c3 (l.setIfInBounds 2 true) w s3 s4 s5 v s7 s8 s9 s10 s11 s12 s13 s14 s15 s16 :=
 ⟨(fun h'=>h.f0 (listed_set h' (by decide))),(fun h'=>h.f1 (listed_set h' (by decide))),(fun _=>hv),(fun h'=>h.o3 (listed_set h' (by decide))),(fun h'=>h.f4 (listed_set h' (by decide))),(fun h'=>h.f5 (listed_set h' (by decide))),(fun h'=>h.f6 (listed_set h' (by decide))),(fun h'=>h.o7 (listed_set h' (by decide))),(fun h'=>h.f8 (listed_set h' (by decide))),(fun h'=>h.f9 (listed_set h' (by decide))),(fun h'=>h.f10 (listed_set h' (by decide))),(fun h'=>h.o11 (listed_set h' (by decide))),(fun h'=>h.b12 (listed_set h' (by decide))),(fun h'=>(let ⟨q,e,hq,hh⟩:=h.a13 (listed_set h' (by decide));⟨q,e,hq,fun hn=>hh (by rwa [listed_same (by decide)] at hn)⟩)),(fun h'=>h.hr (listed_set h' (by decide))),(fun h1 h2=>h.p3x11 (listed_set h1 (by decide)) (listed_set h2 (by decide))),(fun h'=>by rw [listed_same (by decide)] at h' ⊢;exact h.da h'),h.hx,h.low,h.sz⟩
theorem CDC.up3 (h:CDC w0 t b0 cs A1 c1 A2 c2 A3 c3 l w s3 s4 s5 s6 s7 s8 s9 s10 s11 s12 s13 s14 s15 s16) (hv:OwnStrs w' w0.heap.size v t.us) (hfr:∀ k,v.ownBlock=some k→w.heap.size≤k) (hb:Below w.heap.size w w'):CDC w0 t b0 cs A1 c1 A2 c2 A3 c3 (l.setIfInBounds 3 true) w' s3 s4 s5 s6 v s8 s9 s10 s11 s12 s13 s14 s15 s16 :=
 ⟨(fun h'=>h.f0 (listed_set h' (by decide))),(fun h'=>h.f1 (listed_set h' (by decide))),(fun h'=>h.f2 (listed_set h' (by decide))),(fun _=>hv),(fun h'=>h.f4 (listed_set h' (by decide))),(fun h'=>h.f5 (listed_set h' (by decide))),(fun h'=>h.f6 (listed_set h' (by decide))),(fun h'=>(h.o7 (listed_set h' (by decide))).below hb (Nat.le_refl _)),(fun h'=>h.f8 (listed_set h' (by decide))),(fun h'=>h.f9 (listed_set h' (by decide))),(fun h'=>h.f10 (listed_set h' (by decide))),(fun h'=>(h.o11 (listed_set h' (by decide))).below hb (Nat.le_refl _)),(fun h'=>(h.b12 (listed_set h' (by decide))).below hb (Nat.le_refl _)),(fun h'=>(let ⟨q,e,hq,hh⟩:=h.a13 (listed_set h' (by decide));⟨q,e,hq,fun hn=>let b:=hh (by rwa [listed_same (by decide)] at hn);b.below hb b.lt⟩)),(fun h'=>(let ⟨q,u0,u1,u2,e,hq,b,hd⟩:=h.hr (listed_set h' (by decide));⟨q,u0,u1,u2,e,hq,b.below hb b.lt,hd.below hb (Nat.le_refl _)⟩)),(fun _ h2=>fun k hk he=>by have h3:=(World.ownsRow.lt (h.o11 (listed_set h2 (by decide))) k he).2;have:=hfr k hk;omega),(fun h'=>by rw [listed_same (by decide)] at h' ⊢;exact h.da h'),h.hx.below hb h.hx.lt,h.low.trans (hb.mono h.low.size),Nat.le_trans h.sz hb.size⟩
theorem CDC.up4 (h:CDC w0 t b0 cs A1 c1 A2 c2 A3 c3 l w s3 s4 s5 s6 s7 s8 s9 s10 s11 s12 s13 s14 s15 s16) (hv:v=.pointer (some ⟨b0,0,none⟩)):CDC w0 t b0 cs A1 c1 A2 c2 A3 c3 (l.setIfInBounds 4 true) w s3 s4 s5 s6 s7 v s9 s10 s11 s12 s13 s14 s15 s16 :=
 ⟨(fun h'=>h.f0 (listed_set h' (by decide))),(fun h'=>h.f1 (listed_set h' (by decide))),(fun h'=>h.f2 (listed_set h' (by decide))),(fun h'=>h.o3 (listed_set h' (by decide))),(fun _=>hv),(fun h'=>h.f5 (listed_set h' (by decide))),(fun h'=>h.f6 (listed_set h' (by decide))),(fun h'=>h.o7 (listed_set h' (by decide))),(fun h'=>h.f8 (listed_set h' (by decide))),(fun h'=>h.f9 (listed_set h' (by decide))),(fun h'=>h.f10 (listed_set h' (by decide))),(fun h'=>h.o11 (listed_set h' (by decide))),(fun h'=>h.b12 (listed_set h' (by decide))),(fun h'=>(let ⟨q,e,hq,hh⟩:=h.a13 (listed_set h' (by decide));⟨q,e,hq,fun hn=>hh (by rwa [listed_same (by decide)] at hn)⟩)),(fun h'=>h.hr (listed_set h' (by decide))),(fun h1 h2=>h.p3x11 (listed_set h1 (by decide)) (listed_set h2 (by decide))),(fun h'=>by rw [listed_same (by decide)] at h' ⊢;exact h.da h'),h.hx,h.low,h.sz⟩
theorem CDC.up5 (h:CDC w0 t b0 cs A1 c1 A2 c2 A3 c3 l w s3 s4 s5 s6 s7 s8 s9 s10 s11 s12 s13 s14 s15 s16) (hv:v=.pointer (some ⟨b0,1,none⟩)):CDC w0 t b0 cs A1 c1 A2 c2 A3 c3 (l.setIfInBounds 5 true) w s3 s4 s5 s6 s7 s8 v s10 s11 s12 s13 s14 s15 s16 :=
 ⟨(fun h'=>h.f0 (listed_set h' (by decide))),(fun h'=>h.f1 (listed_set h' (by decide))),(fun h'=>h.f2 (listed_set h' (by decide))),(fun h'=>h.o3 (listed_set h' (by decide))),(fun h'=>h.f4 (listed_set h' (by decide))),(fun _=>hv),(fun h'=>h.f6 (listed_set h' (by decide))),(fun h'=>h.o7 (listed_set h' (by decide))),(fun h'=>h.f8 (listed_set h' (by decide))),(fun h'=>h.f9 (listed_set h' (by decide))),(fun h'=>h.f10 (listed_set h' (by decide))),(fun h'=>h.o11 (listed_set h' (by decide))),(fun h'=>h.b12 (listed_set h' (by decide))),(fun h'=>(let ⟨q,e,hq,hh⟩:=h.a13 (listed_set h' (by decide));⟨q,e,hq,fun hn=>hh (by rwa [listed_same (by decide)] at hn)⟩)),(fun h'=>h.hr (listed_set h' (by decide))),(fun h1 h2=>h.p3x11 (listed_set h1 (by decide)) (listed_set h2 (by decide))),(fun h'=>by rw [listed_same (by decide)] at h' ⊢;exact h.da h'),h.hx,h.low,h.sz⟩
theorem CDC.up6 (h:CDC w0 t b0 cs A1 c1 A2 c2 A3 c3 l w s3 s4 s5 s6 s7 s8 s9 s10 s11 s12 s13 s14 s15 s16) (hv:v=.slice A2 t.bs.length c2):CDC w0 t b0 cs A1 c1 A2 c2 A3 c3 (l.setIfInBounds 6 true) w s3 s4 s5 s6 s7 s8 s9 v s11 s12 s13 s14 s15 s16 :=
 ⟨(fun h'=>h.f0 (listed_set h' (by decide))),(fun h'=>h.f1 (listed_set h' (by decide))),(fun h'=>h.f2 (listed_set h' (by decide))),(fun h'=>h.o3 (listed_set h' (by decide))),(fun h'=>h.f4 (listed_set h' (by decide))),(fun h'=>h.f5 (listed_set h' (by decide))),(fun _=>hv),(fun h'=>h.o7 (listed_set h' (by decide))),(fun h'=>h.f8 (listed_set h' (by decide))),(fun h'=>h.f9 (listed_set h' (by decide))),(fun h'=>h.f10 (listed_set h' (by decide))),(fun h'=>h.o11 (listed_set h' (by decide))),(fun h'=>h.b12 (listed_set h' (by decide))),(fun h'=>(let ⟨q,e,hq,hh⟩:=h.a13 (listed_set h' (by decide));⟨q,e,hq,fun hn=>hh (by rwa [listed_same (by decide)] at hn)⟩)),(fun h'=>h.hr (listed_set h' (by decide))),(fun h1 h2=>h.p3x11 (listed_set h1 (by decide)) (listed_set h2 (by decide))),(fun h'=>by rw [listed_same (by decide)] at h' ⊢;exact h.da h'),h.hx,h.low,h.sz⟩
theorem CDC.up7 (h:CDC w0 t b0 cs A1 c1 A2 c2 A3 c3 l w s3 s4 s5 s6 s7 s8 s9 s10 s11 s12 s13 s14 s15 s16) (hv:OwnI w' w0.heap.size v t.bs) (hb:Below w.heap.size w w'):CDC w0 t b0 cs A1 c1 A2 c2 A3 c3 (l.setIfInBounds 7 true) w' s3 s4 s5 s6 s7 s8 s9 s10 v s12 s13 s14 s15 s16 :=
 ⟨(fun h'=>h.f0 (listed_set h' (by decide))),(fun h'=>h.f1 (listed_set h' (by decide))),(fun h'=>h.f2 (listed_set h' (by decide))),(fun h'=>(h.o3 (listed_set h' (by decide))).below hb (Nat.le_refl _)),(fun h'=>h.f4 (listed_set h' (by decide))),(fun h'=>h.f5 (listed_set h' (by decide))),(fun h'=>h.f6 (listed_set h' (by decide))),(fun _=>hv),(fun h'=>h.f8 (listed_set h' (by decide))),(fun h'=>h.f9 (listed_set h' (by decide))),(fun h'=>h.f10 (listed_set h' (by decide))),(fun h'=>(h.o11 (listed_set h' (by decide))).below hb (Nat.le_refl _)),(fun h'=>(h.b12 (listed_set h' (by decide))).below hb (Nat.le_refl _)),(fun h'=>(let ⟨q,e,hq,hh⟩:=h.a13 (listed_set h' (by decide));⟨q,e,hq,fun hn=>let b:=hh (by rwa [listed_same (by decide)] at hn);b.below hb b.lt⟩)),(fun h'=>(let ⟨q,u0,u1,u2,e,hq,b,hd⟩:=h.hr (listed_set h' (by decide));⟨q,u0,u1,u2,e,hq,b.below hb b.lt,hd.below hb (Nat.le_refl _)⟩)),(fun h1 h2=>h.p3x11 (listed_set h1 (by decide)) (listed_set h2 (by decide))),(fun h'=>by rw [listed_same (by decide)] at h' ⊢;exact h.da h'),h.hx.below hb h.hx.lt,h.low.trans (hb.mono h.low.size),Nat.le_trans h.sz hb.size⟩
theorem CDC.up8 (h:CDC w0 t b0 cs A1 c1 A2 c2 A3 c3 l w s3 s4 s5 s6 s7 s8 s9 s10 s11 s12 s13 s14 s15 s16) (hv:v=.pointer (some ⟨b0,0,none⟩)):CDC w0 t b0 cs A1 c1 A2 c2 A3 c3 (l.setIfInBounds 8 true) w s3 s4 s5 s6 s7 s8 s9 s10 s11 v s13 s14 s15 s16 :=
 ⟨(fun h'=>h.f0 (listed_set h' (by decide))),(fun h'=>h.f1 (listed_set h' (by decide))),(fun h'=>h.f2 (listed_set h' (by decide))),(fun h'=>h.o3 (listed_set h' (by decide))),(fun h'=>h.f4 (listed_set h' (by decide))),(fun h'=>h.f5 (listed_set h' (by decide))),(fun h'=>h.f6 (listed_set h' (by decide))),(fun h'=>h.o7 (listed_set h' (by decide))),(fun _=>hv),(fun h'=>h.f9 (listed_set h' (by decide))),(fun h'=>h.f10 (listed_set h' (by decide))),(fun h'=>h.o11 (listed_set h' (by decide))),(fun h'=>h.b12 (listed_set h' (by decide))),(fun h'=>(let ⟨q,e,hq,hh⟩:=h.a13 (listed_set h' (by decide));⟨q,e,hq,fun hn=>hh (by rwa [listed_same (by decide)] at hn)⟩)),(fun h'=>h.hr (listed_set h' (by decide))),(fun h1 h2=>h.p3x11 (listed_set h1 (by decide)) (listed_set h2 (by decide))),(fun h'=>by rw [listed_same (by decide)] at h' ⊢;exact h.da h'),h.hx,h.low,h.sz⟩
theorem CDC.up9 (h:CDC w0 t b0 cs A1 c1 A2 c2 A3 c3 l w s3 s4 s5 s6 s7 s8 s9 s10 s11 s12 s13 s14 s15 s16) (hv:v=.pointer (some ⟨b0,2,none⟩)):CDC w0 t b0 cs A1 c1 A2 c2 A3 c3 (l.setIfInBounds 9 true) w s3 s4 s5 s6 s7 s8 s9 s10 s11 s12 v s14 s15 s16 :=
 ⟨(fun h'=>h.f0 (listed_set h' (by decide))),(fun h'=>h.f1 (listed_set h' (by decide))),(fun h'=>h.f2 (listed_set h' (by decide))),(fun h'=>h.o3 (listed_set h' (by decide))),(fun h'=>h.f4 (listed_set h' (by decide))),(fun h'=>h.f5 (listed_set h' (by decide))),(fun h'=>h.f6 (listed_set h' (by decide))),(fun h'=>h.o7 (listed_set h' (by decide))),(fun h'=>h.f8 (listed_set h' (by decide))),(fun _=>hv),(fun h'=>h.f10 (listed_set h' (by decide))),(fun h'=>h.o11 (listed_set h' (by decide))),(fun h'=>h.b12 (listed_set h' (by decide))),(fun h'=>(let ⟨q,e,hq,hh⟩:=h.a13 (listed_set h' (by decide));⟨q,e,hq,fun hn=>hh (by rwa [listed_same (by decide)] at hn)⟩)),(fun h'=>h.hr (listed_set h' (by decide))),(fun h1 h2=>h.p3x11 (listed_set h1 (by decide)) (listed_set h2 (by decide))),(fun h'=>by rw [listed_same (by decide)] at h' ⊢;exact h.da h'),h.hx,h.low,h.sz⟩
theorem CDC.up10 (h:CDC w0 t b0 cs A1 c1 A2 c2 A3 c3 l w s3 s4 s5 s6 s7 s8 s9 s10 s11 s12 s13 s14 s15 s16) (hv:v=.slice A3 t.ns.length c3):CDC w0 t b0 cs A1 c1 A2 c2 A3 c3 (l.setIfInBounds 10 true) w s3 s4 s5 s6 s7 s8 s9 s10 s11 s12 s13 v s15 s16 :=
 ⟨(fun h'=>h.f0 (listed_set h' (by decide))),(fun h'=>h.f1 (listed_set h' (by decide))),(fun h'=>h.f2 (listed_set h' (by decide))),(fun h'=>h.o3 (listed_set h' (by decide))),(fun h'=>h.f4 (listed_set h' (by decide))),(fun h'=>h.f5 (listed_set h' (by decide))),(fun h'=>h.f6 (listed_set h' (by decide))),(fun h'=>h.o7 (listed_set h' (by decide))),(fun h'=>h.f8 (listed_set h' (by decide))),(fun h'=>h.f9 (listed_set h' (by decide))),(fun _=>hv),(fun h'=>h.o11 (listed_set h' (by decide))),(fun h'=>h.b12 (listed_set h' (by decide))),(fun h'=>(let ⟨q,e,hq,hh⟩:=h.a13 (listed_set h' (by decide));⟨q,e,hq,fun hn=>hh (by rwa [listed_same (by decide)] at hn)⟩)),(fun h'=>h.hr (listed_set h' (by decide))),(fun h1 h2=>h.p3x11 (listed_set h1 (by decide)) (listed_set h2 (by decide))),(fun h'=>by rw [listed_same (by decide)] at h' ⊢;exact h.da h'),h.hx,h.low,h.sz⟩
theorem CDC.up11 (h:CDC w0 t b0 cs A1 c1 A2 c2 A3 c3 l w s3 s4 s5 s6 s7 s8 s9 s10 s11 s12 s13 s14 s15 s16) (hv:OwnStrs w' w0.heap.size v t.ns) (hfr:∀ k,v.ownBlock=some k→w.heap.size≤k) (hb:Below w.heap.size w w'):CDC w0 t b0 cs A1 c1 A2 c2 A3 c3 (l.setIfInBounds 11 true) w' s3 s4 s5 s6 s7 s8 s9 s10 s11 s12 s13 s14 v s16 :=
 ⟨(fun h'=>h.f0 (listed_set h' (by decide))),(fun h'=>h.f1 (listed_set h' (by decide))),(fun h'=>h.f2 (listed_set h' (by decide))),(fun h'=>(h.o3 (listed_set h' (by decide))).below hb (Nat.le_refl _)),(fun h'=>h.f4 (listed_set h' (by decide))),(fun h'=>h.f5 (listed_set h' (by decide))),(fun h'=>h.f6 (listed_set h' (by decide))),(fun h'=>(h.o7 (listed_set h' (by decide))).below hb (Nat.le_refl _)),(fun h'=>h.f8 (listed_set h' (by decide))),(fun h'=>h.f9 (listed_set h' (by decide))),(fun h'=>h.f10 (listed_set h' (by decide))),(fun _=>hv),(fun h'=>(h.b12 (listed_set h' (by decide))).below hb (Nat.le_refl _)),(fun h'=>(let ⟨q,e,hq,hh⟩:=h.a13 (listed_set h' (by decide));⟨q,e,hq,fun hn=>let b:=hh (by rwa [listed_same (by decide)] at hn);b.below hb b.lt⟩)),(fun h'=>(let ⟨q,u0,u1,u2,e,hq,b,hd⟩:=h.hr (listed_set h' (by decide));⟨q,u0,u1,u2,e,hq,b.below hb b.lt,hd.below hb (Nat.le_refl _)⟩)),(fun h1 _=>fun k hk he=>by have h3:=(World.ownsRow.lt (h.o3 (listed_set h1 (by decide))) k hk).2;have:=hfr k he;omega),(fun h'=>by rw [listed_same (by decide)] at h' ⊢;exact h.da h'),h.hx.below hb h.hx.lt,h.low.trans (hb.mono h.low.size),Nat.le_trans h.sz hb.size⟩
theorem CDC.up12 (h:CDC w0 t b0 cs A1 c1 A2 c2 A3 c3 l w s3 s4 s5 s6 s7 s8 s9 s10 s11 s12 s13 s14 s15 s16) (hv:OwnTng w w0.heap.size v t):CDC w0 t b0 cs A1 c1 A2 c2 A3 c3 (l.setIfInBounds 12 true) w s3 s4 s5 s6 s7 s8 s9 s10 s11 s12 s13 s14 s15 v :=
 ⟨(fun h'=>h.f0 (listed_set h' (by decide))),(fun h'=>h.f1 (listed_set h' (by decide))),(fun h'=>h.f2 (listed_set h' (by decide))),(fun h'=>h.o3 (listed_set h' (by decide))),(fun h'=>h.f4 (listed_set h' (by decide))),(fun h'=>h.f5 (listed_set h' (by decide))),(fun h'=>h.f6 (listed_set h' (by decide))),(fun h'=>h.o7 (listed_set h' (by decide))),(fun h'=>h.f8 (listed_set h' (by decide))),(fun h'=>h.f9 (listed_set h' (by decide))),(fun h'=>h.f10 (listed_set h' (by decide))),(fun h'=>h.o11 (listed_set h' (by decide))),(fun _=>hv),(fun h'=>(let ⟨q,e,hq,hh⟩:=h.a13 (listed_set h' (by decide));⟨q,e,hq,fun hn=>hh (by rwa [listed_same (by decide)] at hn)⟩)),(fun h'=>h.hr (listed_set h' (by decide))),(fun h1 h2=>h.p3x11 (listed_set h1 (by decide)) (listed_set h2 (by decide))),(fun h'=>by rw [listed_same (by decide)] at h' ⊢;exact h.da h'),h.hx,h.low,h.sz⟩
theorem CDC.up13 (h:CDC w0 t b0 cs A1 c1 A2 c2 A3 c3 l w s3 s4 s5 s6 s7 s8 s9 s10 s11 s12 s13 s14 s15 s16) (hsz:l.size=15) (hun:l.getD 13 false=false):CDC w0 t b0 cs A1 c1 A2 c2 A3 c3 (l.setIfInBounds 13 true) (w.alloc (.cells #[.slice none 0 0,.slice none 0 0,.slice none 0 0] 31)) (.pointer (some ⟨w.heap.size,0,none⟩)) s4 s5 s6 s7 s8 s9 s10 s11 s12 s13 s14 s15 s16:=by
 have hb:=(Below.refl w.heap.size w).alloc (Nat.le_refl _) (.cells #[.slice none 0 0,.slice none 0 0,.slice none 0 0] 31);exact ⟨(fun h'=>h.f0 (listed_set h' (by decide))),(fun h'=>h.f1 (listed_set h' (by decide))),(fun h'=>h.f2 (listed_set h' (by decide))),(fun h'=>(h.o3 (listed_set h' (by decide))).below hb (Nat.le_refl _)),(fun h'=>h.f4 (listed_set h' (by decide))),(fun h'=>h.f5 (listed_set h' (by decide))),(fun h'=>h.f6 (listed_set h' (by decide))),(fun h'=>(h.o7 (listed_set h' (by decide))).below hb (Nat.le_refl _)),(fun h'=>h.f8 (listed_set h' (by decide))),(fun h'=>h.f9 (listed_set h' (by decide))),(fun h'=>h.f10 (listed_set h' (by decide))),(fun h'=>(h.o11 (listed_set h' (by decide))).below hb (Nat.le_refl _)),(fun h'=>(h.b12 (listed_set h' (by decide))).below hb (Nat.le_refl _)),(fun _=>⟨w.heap.size,rfl,h.sz,fun _=>Blk.new _ _ _⟩),(fun h'=>absurd (h.da (listed_set h' (by decide))) (by rw [hun];simp)),(fun h1 h2=>h.p3x11 (listed_set h1 (by decide)) (listed_set h2 (by decide))),(fun _=>listed_at (by omega)),h.hx.below hb h.hx.lt,h.low.trans (hb.mono h.low.size),Nat.le_trans h.sz hb.size⟩
theorem CDC.up14 (h:CDC w0 t b0 cs A1 c1 A2 c2 A3 c3 l w s3 s4 s5 s6 s7 s8 s9 s10 s11 s12 s13 s14 s15 s16) {u0 u1 u2:Value} {q:Nat} (hsz:l.size=15) (hA:l.getD 13 false=true) (hq:w0.heap.size≤q) (he:s3=.pointer (some ⟨q,0,none⟩)) (hz:Blk w q 31 #[.slice none 0 0,.slice none 0 0,.slice none 0 0]) (hv:OwnTng w w0.heap.size (.agg #[u0,u1,u2]) t) (hgq:w0.heap.size≤q) (hxq:b0≠q):CDC w0 t b0 cs A1 c1 A2 c2 A3 c3 (l.setIfInBounds 14 true) (((w.setCell ⟨q,0,none⟩ u0).setCell ⟨q,1,none⟩ u1).setCell ⟨q,2,none⟩ u2) s3 s4 s5 s6 s7 s8 s9 s10 s11 s12 s13 s14 s15 s16:=by
 have HB:Blk (((w.setCell ⟨q,0,none⟩ u0).setCell ⟨q,1,none⟩ u1).setCell ⟨q,2,none⟩ u2) q 31 #[u0,u1,u2]:=by
  have:=(Blk.set_ (Blk.set_ (Blk.set_ hz 0 u0) 1 u1) 2 u2)
  simpa using this
 have HS:∀ {B:Nat} {v:Value} {xs:List ByteArray},OwnStrs w B v xs→OwnStrs (((w.setCell ⟨q,0,none⟩ u0).setCell ⟨q,1,none⟩ u1).setCell ⟨q,2,none⟩ u2) B v xs:=fun {B v xs} ho=>by
  have m:=own_blk_ne ho hz (by decide);exact (own_set (own_set (own_set ho m) m) m)
 have HI:∀ {B:Nat} {v:Value} {xs:List Int},OwnI w B v xs→OwnI (((w.setCell ⟨q,0,none⟩ u0).setCell ⟨q,1,none⟩ u1).setCell ⟨q,2,none⟩ u2) B v xs:=fun {B v xs} ho=>by
  have m:=own_blk_ne ho hz (by decide);exact (own_set (own_set (own_set ho m) m) m)
 have HRS:=@HS;have HRI:=@HI
 have HRT:∀ {B:Nat} {v:Value} {t:Tg},LTng w B v t→LTng (((w.setCell ⟨q,0,none⟩ u0).setCell ⟨q,1,none⟩ u1).setCell ⟨q,2,none⟩ u2) B v t:=fun {B v t} ho=>by
  obtain ⟨v1,v2,v3,e,o1,o2,o3⟩:=ho.ex;exact ⟨v1,v2,v3,e,HS o1,HI o2,HS o3⟩
 have HRB:∀ {v:Value},OwnTng w w0.heap.size v t→OwnTng (((w.setCell ⟨q,0,none⟩ u0).setCell ⟨q,1,none⟩ u1).setCell ⟨q,2,none⟩ u2) w0.heap.size v t:=fun {v} ho=>by
  obtain ⟨v1,v2,v3,e,h1,h2,h3,ap⟩:=ho.ex;exact ⟨v1,v2,v3,e,HS h1,HI h2,HS h3,ap⟩
 have HL:∀ {g:Nat} {t:TypeId},Blk w g t #[]→t≠31→Blk (((w.setCell ⟨q,0,none⟩ u0).setCell ⟨q,1,none⟩ u1).setCell ⟨q,2,none⟩ u2) g t #[]:=fun {g t} b hne=>by
  have m:g≠q:=fun e=>by
   subst e;have e1:=b;have e2:=hz;unfold Blk at e1 e2;rw [e1] at e2;injection e2 with e2
   injection e2 with _ e3
   exact hne e3
  exact (Blk.far (Blk.far (Blk.far b (p:=⟨q,0,none⟩) m u0) (p:=⟨q,1,none⟩) m u1) (p:=⟨q,2,none⟩) m u2)
 have HX:Blk (((w.setCell ⟨q,0,none⟩ u0).setCell ⟨q,1,none⟩ u1).setCell ⟨q,2,none⟩ u2) (b0) 33 cs:=(Blk.far (Blk.far (Blk.far h.hx (p:=⟨q,0,none⟩) hxq u0) (p:=⟨q,1,none⟩) hxq u1) (p:=⟨q,2,none⟩) hxq u2);have HLow:Below w0.heap.size w0 (((w.setCell ⟨q,0,none⟩ u0).setCell ⟨q,1,none⟩ u1).setCell ⟨q,2,none⟩ u2):=(Below.setCell (Below.setCell (Below.setCell h.low (p:=⟨q,0,none⟩) (by simpa using hgq) u0) (p:=⟨q,1,none⟩) (by simpa using hgq) u1) (p:=⟨q,2,none⟩) (by simpa using hgq) u2);have HV:=HRB hv
 exact ⟨(fun h'=>h.f0 (listed_set h' (by decide))),(fun h'=>h.f1 (listed_set h' (by decide))),(fun h'=>h.f2 (listed_set h' (by decide))),(fun h'=>HRS (h.o3 (listed_set h' (by decide)))),(fun h'=>h.f4 (listed_set h' (by decide))),(fun h'=>h.f5 (listed_set h' (by decide))),(fun h'=>h.f6 (listed_set h' (by decide))),(fun h'=>HRI (h.o7 (listed_set h' (by decide)))),(fun h'=>h.f8 (listed_set h' (by decide))),(fun h'=>h.f9 (listed_set h' (by decide))),(fun h'=>h.f10 (listed_set h' (by decide))),(fun h'=>HRS (h.o11 (listed_set h' (by decide)))),(fun h'=>HRB (h.b12 (listed_set h' (by decide)))),(fun h'=>let ⟨q,e,hq,hh⟩:=h.a13 (listed_set h' (by decide));⟨q,e,hq,fun hn=>by rw [listed_at (by omega)] at hn;cases hn⟩),(fun _=>⟨q,_,_,_,he,hq,HB,HV⟩),(fun h1 h2=>h.p3x11 (listed_set h1 (by decide)) (listed_set h2 (by decide))),(fun _=>by rw [listed_same (by decide)];exact hA),HX,HLow,by simpa using h.sz⟩
end
set_option maxRecDepth 100000 in
set_option maxHeartbeats 8000000 in
theorem copiedDesk_any (v:Value) (d:Dk) (w:World) (h:Dsk w v d) (hf:d.Fine) :
 Calls Tryz.prog 51 #[v] w (RetDkW w d):=by
 obtain ⟨A1,c1,A2,c2,A3,c3,A5,c5,rfl,h1,h2,h3,h5⟩:=h.ex;have hu:=hf.t.us;have hb:=hf.t.bs;have hn:=hf.t.ns;have hp:=hf.past;have hB:=((Below.refl w.heap.size w).alloc (Nat.le_refl _) (.cells #[.slice A1 d.t.us.length c1,.slice A2 d.t.bs.length c2,.slice A3 d.t.ns.length c3,.int .i64 d.now,.slice A5 d.past.length c5] 33)).alloc (by simp) (.cells #[.slice none 0 0,.slice none 0 0,.slice none 0 0,.int .i64 0,.slice none 0 0] 33);have HX:=(Blk.new w 33 #[.slice A1 d.t.us.length c1,.slice A2 d.t.bs.length c2,.slice A3 d.t.ns.length c3,.int .i64 d.now,.slice A5 d.past.length c5]).alloc (.cells #[.slice none 0 0,.slice none 0 0,.slice none 0 0,.int .i64 0,.slice none 0 0] 33);have HZ:Blk ((w.alloc (.cells #[.slice A1 d.t.us.length c1,.slice A2 d.t.bs.length c2,.slice A3 d.t.ns.length c3,.int .i64 d.now,.slice A5 d.past.length c5] 33)).alloc (.cells #[.slice none 0 0,.slice none 0 0,.slice none 0 0,.int .i64 0,.slice none 0 0] 33)) (w.heap.size+1) 33 #[.slice none 0 0,.slice none 0 0,.slice none 0 0,.int .i64 0,.slice none 0 0]:=blk_new_at _ (by simp);have hsW:((w.alloc (.cells #[.slice A1 d.t.us.length c1,.slice A2 d.t.bs.length c2,.slice A3 d.t.ns.length c3,.int .i64 d.now,.slice A5 d.past.length c5] 33)).alloc (.cells #[.slice none 0 0,.slice none 0 0,.slice none 0 0,.int .i64 0,.slice none 0 0] 33)).heap.size=w.heap.size+2:=by simp
 have P1:=h1.below hB (Nat.le_refl _);have P2:=h2.below hB (Nat.le_refl _);have P3:=h3.below hB (Nat.le_refl _);have P5:=h5.below hB (Nat.le_refl _);replace hB:=Lib.hid hB;replace HX:=Lib.hid HX;replace HZ:=Lib.hid HZ;replace hsW:=Lib.hid hsW;replace P1:=Lib.hid P1;replace P2:=Lib.hid P2;replace P3:=Lib.hid P3;replace P5:=Lib.hid P5;clear h h1 h2 h3 h5 hf;go_enter Tryz.func51,Tryz.ntmps51;go_upto_region 1 with (fail)
 generalize hb0:w.heap.size=b0 at *;generalize (w.alloc (.cells #[.slice A1 d.t.us.length c1,.slice A2 d.t.bs.length c2,.slice A3 d.t.ns.length c3,.int .i64 d.now,.slice A5 d.past.length c5] 33)).alloc (.cells #[.slice none 0 0,.slice none 0 0,.slice none 0 0,.int .i64 0,.slice none 0 0] 33)=w0 at *;have K1:=Lib.hid (fun W (hb:Below w0.heap.size w0 W)=>cloneStr_any A1 d.t.us.length c1 d.t.us W (P1.out.below hb (Nat.le_refl _)) hu);have K2:=Lib.hid (fun W (hb':Below w0.heap.size w0 W)=>cloneInt_any A2 d.t.bs.length c2 d.t.bs W (P2.out.below hb' (Nat.le_refl _)) hb);have K3:=Lib.hid (fun W (hb:Below w0.heap.size w0 W)=>cloneStr_any A3 d.t.ns.length c3 d.t.ns W (P3.out.below hb (Nat.le_refl _)) hn);have hcs:Hid (∀ W,Blk W b0 33 #[.slice A1 d.t.us.length c1,.slice A2 d.t.bs.length c2,.slice A3 d.t.ns.length c3,.int .i64 d.now,.slice A5 d.past.length c5]→W.cell? ⟨b0,0,none⟩=some (.slice A1 d.t.us.length c1)∧W.cell? ⟨b0,1,none⟩=some (.slice A2 d.t.bs.length c2)∧W.cell? ⟨b0,2,none⟩=some (.slice A3 d.t.ns.length c3)):=fun W hh=>⟨hh.cell 0,hh.cell 1,hh.cell 2⟩
 have hsz0:=hsW.out;have hszb:b0 < w0.heap.size:=by omega
 refine wp_region_any (by kernel_rfl) ?_;refine wpAny_inv (Inv:=fun l a w'=>∃ (s3 s4 s5 s6 s7 s8 s9 s10 s11 s12 s13 s14 s15 s16:Value),a=⟨#[.agg #[.slice A1 d.t.us.length c1,.slice A2 d.t.bs.length c2,.slice A3 d.t.ns.length c3,.int .i64 d.now,.slice A5 d.past.length c5],.pointer (some ⟨b0,0,none⟩),.pointer (some ⟨b0+1,0,none⟩),s3,s4,s5,s6,s7,s8,s9,s10,s11,s12,s13,s14,s15,s16,undef,undef,undef,undef,undef,undef,undef],[]⟩∧CDC w0 d.t b0 (#[.slice A1 d.t.us.length c1,.slice A2 d.t.bs.length c2,.slice A3 d.t.ns.length c3,.int .i64 d.now,.slice A5 d.past.length c5]) A1 c1 A2 c2 A3 c3 l w' s3 s4 s5 s6 s7 s8 s9 s10 s11 s12 s13 s14 s15 s16) (ord_spec (by kernel_rfl)) ?_ ?_ _ _ _ _ rfl (by decide) ?_
 · rintro l a w' ⟨s3,s4,s5,s6,s7,s8,s9,s10,s11,s12,s13,s14,s15,s16,rfl,hF⟩ hsz hl;have hl':∀ j,j < 15→l.getD j false=true:=hl;obtain ⟨q,u0,u1,u2,e3,hq,HB,HV⟩:=hF.hr (hl' 14 (by decide));subst e3;obtain ⟨B1,d1,B2,d2,B3,d3,e1⟩:=HV.shape;cases e1;have hlow:=hF.low;have HX2:=HX.out.below hlow HX.out.lt;have HZ2:=HZ.out.below hlow HZ.out.lt;have HB2:=hB.out.trans (hlow.mono (by omega));have P5':=P5.out.below hlow (Nat.le_refl _);have hqs:=hlow.size;replace HB:=Lib.hid HB;replace HV:=Lib.hid HV;replace HX2:=Lib.hid HX2;replace HZ2:=Lib.hid HZ2;replace HB2:=Lib.hid HB2;replace P5':=Lib.hid P5';clear hF hl hl' hsz hlow K1 K2 K3 hcs HX HZ hB P1 P2 P3 P5 hsW;generalize w'=V at *;have hqn:q≠b0+1:=by omega
   have hxn:b0≠b0+1:=by omega
   obtain ⟨q0,q1,q2,-,-,-⟩:=blk3 HB.out;obtain ⟨x0,x1,x2,x3,x4⟩:=(blk5 HX2.out).1;have K5:=Lib.hid (fun W (hb':Below V.heap.size V W)=>cloneInt_any A5 d.past.length c5 d.past W (P5'.out.below hb' (Nat.le_refl _)) hp);have hXc:=Lib.hid (fun W (b:Below V.heap.size V W)=>(blk5 (HX2.out.below b HX2.out.lt)).1);have hQc:=Lib.hid (fun W (b:Below V.heap.size V W)=>blk3 (HB.out.below b HB.out.lt));go_upto_region 2 with (fail)
   go_region_held3 (fun W=>(W.cell? ⟨q,0,none⟩=some (.slice B1 d.t.us.length d1)∧W.cell? ⟨q,1,none⟩=some (.slice B2 d.t.bs.length d2)∧W.cell? ⟨q,2,none⟩=some (.slice B3 d.t.ns.length d3))∧W.cell? ⟨b0,3,none⟩=some (.int .i64 d.now)∧W.cell? ⟨b0,4,none⟩=some (.slice A5 d.past.length c5)) (first | go_keep | exact hS2 | exact hS3 _ _ _ _ _)
    (first
     | (go_at_call 104;refine (K5.out _ (by first | exact (Below.refl _ _).drew | exact Below.refl _ _)).mono ?_;rintro e V2 ⟨v5,rfl,o5,b5'⟩;have b5:Below V.heap.size V V2:=⟨b5'.os,b5'.tape,b5'.output,b5'.size,b5'.block⟩;obtain ⟨p5,k5,rfl⟩:=o5.shape;obtain ⟨y0,y1,y2,y3,y4⟩:=hXc.out _ b5;obtain ⟨z0,z1,z2,-,-,-⟩:=hQc.out _ b5;have hS2:=And.intro (And.intro z0 (And.intro z1 z2)) (And.intro y3 y4);have hS3:=(fun u0 u1 u2 u3 u4=>(let hq1:=(Blk.far (Blk.far (Blk.far (Blk.far (Blk.far (HB.out.below b5 HB.out.lt) (p:=⟨b0+1,0,none⟩) hqn u0) (p:=⟨b0+1,1,none⟩) hqn u1) (p:=⟨b0+1,2,none⟩) hqn u2) (p:=⟨b0+1,3,none⟩) hqn u3) (p:=⟨b0+1,4,none⟩) hqn u4);let hx1:=(Blk.far (Blk.far (Blk.far (Blk.far (Blk.far (HX2.out.below b5 HX2.out.lt) (p:=⟨b0+1,0,none⟩) hxn u0) (p:=⟨b0+1,1,none⟩) hxn u1) (p:=⟨b0+1,2,none⟩) hxn u2) (p:=⟨b0+1,3,none⟩) hxn u3) (p:=⟨b0+1,4,none⟩) hxn u4);And.intro (And.intro (hq1.cell 0) (And.intro (hq1.cell 1) (hq1.cell 2))) (And.intro (hx1.cell 3) (hx1.cell 4))));have HZ3:=HZ2.out.below b5 HZ2.out.lt;obtain ⟨⟨r0,r1,r2,r3,r4⟩,⟨f0,f1,f2,f3,f4⟩⟩:=blk5 HZ3;have b6:=Lib.hid b5;replace o5:=Lib.hid o5;replace HZ3:=Lib.hid HZ3;clear b5 b5' y0 y1 y2 y3 y4 z0 z1 z2))
   all_goals
    clear hS2 hS3 x0 x1 x2 x3 x4 q0 q1 q2 r0 r1 r2 r3 r4;have HT2:=HV.out.below b6.out (Nat.le_refl _);have HLow:=HB2.out.trans (b6.out.mono (by omega))
    have ap25:∀ k,(Value.slice B2 d.t.bs.length d2).ownBlock=some k→(Value.slice p5 d.past.length k5).ownBlock≠some k:=fun k hk he=>by
     obtain ⟨w1,w2,w3,ee,-,o2,-,-⟩:=HV.out.ex;cases ee;have h1:=(World.ownsRow.lt o2 k hk).2;have h2:=(World.ownsRow.lt o5.out k he).1;have hs:V.drew.heap.size=V.heap.size:=rfl;omega
    have HF:=fun u0 u1 u2 u3 u4=>own_dk5 (u0:=u0) (u1:=u1) (u2:=u2) (u3:=u3) (u4:=u4) (now:=d.now) (d:=d) rfl HT2 (o5.out.mono (B':=w0.heap.size) (by have hs:V.drew.heap.size=V.heap.size:=rfl;omega)) ap25 HZ3.out
    have HG:=fun u0 u1 u2 u3 u4=>below_dk5 (u0:=u0) (u1:=u1) (u2:=u2) (u3:=u3) (u4:=u4) (g:=b0+1) HLow (by omega)
    replace HF:=Lib.hid HF;replace HG:=Lib.hid HG;obtain ⟨r0,r1,r2,r3,r4⟩:=(blk5 HZ3.out).1;clear HT2 HLow ap25 HZ3;go_wp2;refine bodyPost_ret (v:=.agg #[.slice B1 d.t.us.length d1,.slice B2 d.t.bs.length d2,.slice B3 d.t.ns.length d3,.int .i64 d.now,.slice p5 d.past.length k5]) (by simp [results,Tryz.results51,go_sem,r0,r1,r2,r3,r4]) rfl ?_;exact ⟨_,rfl,(HF.out _ _ _ _ _).mono (by omega),by rw [hb0];exact HG.out _ _ _ _ _⟩
 · rintro l a w' ⟨s3,s4,s5,s6,s7,s8,s9,s10,s11,s12,s13,s14,s15,s16,rfl,hF⟩ hsz i o hlt ho hun hall;have hlt':i < 15:=hlt;refine wpOp_step ho (fun K' hK=>?_);replace hK:=Lib.hid hK;obtain rfl | rfl | rfl | rfl | rfl | rfl | rfl | rfl | rfl | rfl | rfl | rfl | rfl | rfl | rfl:i=0∨i=1∨i=2∨i=3∨i=4∨i=5∨i=6∨i=7∨i=8∨i=9∨i=10∨i=11∨i=12∨i=13∨i=14:=by omega
   · simp only [List.getElem?_toArray,List.getElem?_cons_zero,Option.some.injEq] at ho;subst ho;replace hF:=Lib.hid hF;clear hall;go_simp;refine hK.out _ _ ?_;exact ⟨_,_,_,_,_,_,_,_,_,_,_,_,_,_,rfl,hF.out.up0 rfl⟩
   · simp only [List.getElem?_toArray,List.getElem?_cons_succ,List.getElem?_cons_zero,Option.some.injEq] at ho;subst ho;have e0:=hF.f0 (hall ⟨0,Ground.data⟩ (by simp) rfl);subst e0;replace hF:=Lib.hid hF;clear hall;go_simp;refine hK.out _ _ ?_;exact ⟨_,_,_,_,_,_,_,_,_,_,_,_,_,_,rfl,hF.out.up1 rfl⟩
   · simp only [List.getElem?_toArray,List.getElem?_cons_succ,List.getElem?_cons_zero,Option.some.injEq] at ho;subst ho;have e1:=hF.f1 (hall ⟨1,Ground.data⟩ (by simp) rfl);subst e1;obtain ⟨x0,x1,x2⟩:=hcs.out w' hF.hx;replace hF:=Lib.hid hF;clear hall;go_simp;refine hK.out _ _ ?_;exact ⟨_,_,_,_,_,_,_,_,_,_,_,_,_,_,rfl,hF.out.up2 rfl⟩
   · simp only [List.getElem?_toArray,List.getElem?_cons_succ,List.getElem?_cons_zero,Option.some.injEq] at ho;subst ho;have e2:=hF.f2 (hall ⟨2,Ground.data⟩ (by simp) rfl);subst e2;have hlow:=hF.low;have hsB:=hF.sz;have K:=Lib.hid (K1.out w' hlow);clear hlow;replace hF:=Lib.hid hF;clear hall;go_simp;go_at_call 103;refine K.out.mono ?_;rintro e V ⟨v,rfl,ho',hb'⟩;obtain ⟨B1,d1,rfl⟩:=ho'.shape;have hv:=ho'.mono hsB;have hfr:=fun k hk=>(World.ownsRow.lt ho' k hk).1
     go_simp;refine hK.out _ _ ?_;exact ⟨_,_,_,_,_,_,_,_,_,_,_,_,_,_,rfl,hF.out.up3 hv hfr hb'⟩
   · simp only [List.getElem?_toArray,List.getElem?_cons_succ,List.getElem?_cons_zero,Option.some.injEq] at ho;subst ho;replace hF:=Lib.hid hF;clear hall;go_simp;refine hK.out _ _ ?_;exact ⟨_,_,_,_,_,_,_,_,_,_,_,_,_,_,rfl,hF.out.up4 rfl⟩
   · simp only [List.getElem?_toArray,List.getElem?_cons_succ,List.getElem?_cons_zero,Option.some.injEq] at ho;subst ho;have e4:=hF.f4 (hall ⟨4,Ground.data⟩ (by simp) rfl);subst e4;replace hF:=Lib.hid hF;clear hall;go_simp;refine hK.out _ _ ?_;exact ⟨_,_,_,_,_,_,_,_,_,_,_,_,_,_,rfl,hF.out.up5 rfl⟩
   · simp only [List.getElem?_toArray,List.getElem?_cons_succ,List.getElem?_cons_zero,Option.some.injEq] at ho;subst ho;have e5:=hF.f5 (hall ⟨5,Ground.data⟩ (by simp) rfl);subst e5;obtain ⟨x0,x1,x2⟩:=hcs.out w' hF.hx;replace hF:=Lib.hid hF;clear hall;go_simp;refine hK.out _ _ ?_;exact ⟨_,_,_,_,_,_,_,_,_,_,_,_,_,_,rfl,hF.out.up6 rfl⟩
   · simp only [List.getElem?_toArray,List.getElem?_cons_succ,List.getElem?_cons_zero,Option.some.injEq] at ho;subst ho;have e6:=hF.f6 (hall ⟨6,Ground.data⟩ (by simp) rfl);subst e6;have hlow:=hF.low;have hsB:=hF.sz;have K:=Lib.hid (K2.out w' hlow);clear hlow;replace hF:=Lib.hid hF;clear hall;go_simp;go_at_call 104;refine K.out.mono ?_;rintro e V ⟨v,rfl,ho',hb'⟩;obtain ⟨B1,d1,rfl⟩:=ho'.shape;have hv:=ho'.mono hsB;go_simp;refine hK.out _ _ ?_;exact ⟨_,_,_,_,_,_,_,_,_,_,_,_,_,_,rfl,hF.out.up7 hv hb'⟩
   · simp only [List.getElem?_toArray,List.getElem?_cons_succ,List.getElem?_cons_zero,Option.some.injEq] at ho;subst ho;replace hF:=Lib.hid hF;clear hall;go_simp;refine hK.out _ _ ?_;exact ⟨_,_,_,_,_,_,_,_,_,_,_,_,_,_,rfl,hF.out.up8 rfl⟩
   · simp only [List.getElem?_toArray,List.getElem?_cons_succ,List.getElem?_cons_zero,Option.some.injEq] at ho;subst ho;have e8:=hF.f8 (hall ⟨8,Ground.data⟩ (by simp) rfl);subst e8;replace hF:=Lib.hid hF;clear hall;go_simp;refine hK.out _ _ ?_;exact ⟨_,_,_,_,_,_,_,_,_,_,_,_,_,_,rfl,hF.out.up9 rfl⟩
   · simp only [List.getElem?_toArray,List.getElem?_cons_succ,List.getElem?_cons_zero,Option.some.injEq] at ho;subst ho;have e9:=hF.f9 (hall ⟨9,Ground.data⟩ (by simp) rfl);subst e9;obtain ⟨x0,x1,x2⟩:=hcs.out w' hF.hx;replace hF:=Lib.hid hF;clear hall;go_simp;refine hK.out _ _ ?_;exact ⟨_,_,_,_,_,_,_,_,_,_,_,_,_,_,rfl,hF.out.up10 rfl⟩
   · simp only [List.getElem?_toArray,List.getElem?_cons_succ,List.getElem?_cons_zero,Option.some.injEq] at ho;subst ho;have e10:=hF.f10 (hall ⟨10,Ground.data⟩ (by simp) rfl);subst e10;have hlow:=hF.low;have hsB:=hF.sz;have K:=Lib.hid (K3.out w' hlow);clear hlow;replace hF:=Lib.hid hF;clear hall;go_simp;go_at_call 103;refine K.out.mono ?_;rintro e V ⟨v,rfl,ho',hb'⟩;obtain ⟨B1,d1,rfl⟩:=ho'.shape;have hv:=ho'.mono hsB;have hfr:=fun k hk=>(World.ownsRow.lt ho' k hk).1
     go_simp;refine hK.out _ _ ?_;exact ⟨_,_,_,_,_,_,_,_,_,_,_,_,_,_,rfl,hF.out.up11 hv hfr hb'⟩
   · simp only [List.getElem?_toArray,List.getElem?_cons_succ,List.getElem?_cons_zero,Option.some.injEq] at ho;subst ho;have h1:=hF.o3 (hall ⟨3,Ground.data⟩ (by simp) rfl);obtain ⟨B1,d1,e1⟩:=h1.shape;subst e1;have h2:=hF.o7 (hall ⟨7,Ground.data⟩ (by simp) rfl);obtain ⟨B2,d2,e2⟩:=h2.shape;subst e2;have h3:=hF.o11 (hall ⟨11,Ground.data⟩ (by simp) rfl);obtain ⟨B3,d3,e3⟩:=h3.shape;subst e3;have hv:OwnTng w' w0.heap.size (.agg #[.slice B1 d.t.us.length d1,.slice B2 d.t.bs.length d2,.slice B3 d.t.ns.length d3]) d.t:=⟨_,_,_,rfl,h1,h2,h3,hF.p3x11 (hall ⟨3,Ground.data⟩ (by simp) rfl) (hall ⟨11,Ground.data⟩ (by simp) rfl)⟩;replace hF:=Lib.hid hF;clear hall;go_simp;refine hK.out _ _ ?_;exact ⟨_,_,_,_,_,_,_,_,_,_,_,_,_,_,rfl,hF.out.up12 hv⟩
   · simp only [List.getElem?_toArray,List.getElem?_cons_succ,List.getElem?_cons_zero,Option.some.injEq] at ho;subst ho;replace hF:=Lib.hid hF;clear hall;go_simp;refine hK.out _ _ ?_;exact ⟨_,_,_,_,_,_,_,_,_,_,_,_,_,_,rfl,hF.out.up13 hsz hun⟩
   · simp only [List.getElem?_toArray,List.getElem?_cons_succ,List.getElem?_cons_zero,Option.some.injEq] at ho;subst ho;have hv:=hF.b12 (hall ⟨12,Ground.data⟩ (by simp) rfl);obtain ⟨B1,d1,B2,d2,B3,d3,e1⟩:=hv.shape;subst e1;have hA:=(hall ⟨13,Ground.data⟩ (by simp) rfl);obtain ⟨q,e3,hq,hz⟩:=hF.a13 hA;subst e3;have hz':=hz hun;obtain ⟨r0,r1,r2,f0,f1,f2⟩:=blk3 hz';have hlw:=hF.low.size;replace hF:=Lib.hid hF;clear hall;go_simp;refine hK.out _ _ ?_;exact ⟨_,_,_,_,_,_,_,_,_,_,_,_,_,_,rfl,hF.out.up14 hsz hA hq rfl hz' hv hq (by omega)⟩
 · exact ⟨_,_,_,_,_,_,_,_,_,_,_,_,_,_,rfl,(fun h=>by simp at h),(fun h=>by simp at h),(fun h=>by simp at h),(fun h=>by simp at h),(fun h=>by simp at h),(fun h=>by simp at h),(fun h=>by simp at h),(fun h=>by simp at h),(fun h=>by simp at h),(fun h=>by simp at h),(fun h=>by simp at h),(fun h=>by simp at h),(fun h=>by simp at h),(fun h=>by simp at h),(fun h=>by simp at h),(fun h _=>by simp at h),(fun h=>by simp at h),HX.out.drew,(Below.refl _ _).drew,by simp⟩
end
section
open Go.RowKit
def madeP (d:Dk) (a:Dd):Int :=
 if a.kind=3∧a.n=0 then lettersOf d.t d.now
 else if 1≤a.n∧a.n≤99999 then (if a.kind=0 then a.n else if a.kind=1 then d.now+a.n else if a.kind=2 then d.now - a.n else d.now)
 else d.now
theorem put_made (d:Dk) (a:Dd):putD d (madeP d a)=putD d (madeOf d a):=by
 unfold madeP madeOf
 by_cases h1:a.kind=3∧a.n=0
 · rw [if_pos h1,if_pos h1]
 · rw [if_neg h1,if_neg h1]
   by_cases h2:1≤a.n∧a.n≤99999
   · rw [if_pos h2,if_pos h2]
     by_cases k0:a.kind=0
     · rw [if_pos k0,if_pos k0]
     · rw [if_neg k0,if_neg k0]
       by_cases k1:a.kind=1
       · rw [if_pos k1,if_pos k1]
       · rw [if_neg k1,if_neg k1]
         by_cases k2:a.kind=2
         · rw [if_pos k2,if_pos k2]
         · rw [if_neg k2,if_neg k2,put_zero,put_now]
   · rw [if_neg h2,if_neg h2,put_zero,put_now]
theorem madeP_bd (d:Dk) (a:Dd) (h:1≤d.now∧d.now≤99999):-200000≤madeP d a∧madeP d a≤200000:=by
 have h2:=letters_bd d.t d.now;unfold madeP
 split
 · omega
 · split
   · split
     · omega
     · split
       · omega
       · split <;> omega
   · omega
set_option maxRecDepth 100000 in
set_option maxHeartbeats 2000000 in
theorem numberBy_any (v:Value) (d:Dk) (a:Dd) (w:World) (h:Dsk w v d) (hf:d.Fine) (hnow:1≤d.now∧d.now≤99999) :
 Calls Tryz.prog 109 #[v,.agg #[.int .i64 a.kind,.int .i64 a.n]] w fun e w'=>e=.returned (.int .i64 (madeP d a))∧Below w.heap.size w w':=by
 obtain ⟨A1,c1,A2,c2,A3,c3,A5,c5,rfl,h1,h2,h3,h5⟩:=h.ex;obtain ⟨kd,n⟩:=a
 dsimp only
 have hB:=((Below.refl w.heap.size w).alloc (Nat.le_refl _) (.cells #[.slice A1 d.t.us.length c1,.slice A2 d.t.bs.length c2,.slice A3 d.t.ns.length c3,.int .i64 d.now,.slice A5 d.past.length c5] 33)).alloc (by simp) (.cells #[.int .i64 kd,.int .i64 n] 41);have HX:=(Blk.new w 33 #[.slice A1 d.t.us.length c1,.slice A2 d.t.bs.length c2,.slice A3 d.t.ns.length c3,.int .i64 d.now,.slice A5 d.past.length c5]).alloc (.cells #[.int .i64 kd,.int .i64 n] 41);have HY:Blk ((w.alloc (.cells #[.slice A1 d.t.us.length c1,.slice A2 d.t.bs.length c2,.slice A3 d.t.ns.length c3,.int .i64 d.now,.slice A5 d.past.length c5] 33)).alloc (.cells #[.int .i64 kd,.int .i64 n] 41)) (w.heap.size+1) 41 #[.int .i64 kd,.int .i64 n]:=blk_new_at _ (by simp);have HT:Tng ((w.alloc (.cells #[.slice A1 d.t.us.length c1,.slice A2 d.t.bs.length c2,.slice A3 d.t.ns.length c3,.int .i64 d.now,.slice A5 d.past.length c5] 33)).alloc (.cells #[.int .i64 kd,.int .i64 n] 41)) (.agg #[.slice A1 d.t.us.length c1,.slice A2 d.t.bs.length c2,.slice A3 d.t.ns.length c3]) d.t:=⟨A1,c1,A2,c2,A3,c3,rfl,h1.below hB (Nat.le_refl _),h2.below hB (Nat.le_refl _),h3.below hB (Nat.le_refl _)⟩;have K:=Lib.hid (implLettersOf_any _ d.t d.now _ HT hf.t (by omega));have hw1:1≤n∧n≤99999→IntKind.i64.wrap (d.now+n)=d.now+n:=fun h=>IntWalk.i64_in _ (by omega)
 have hw2:1≤n∧n≤99999→IntKind.i64.wrap (d.now - n)=d.now - n:=fun h=>IntWalk.i64_in _ (by omega)
 have HM:Hid (∀ m,m=madeP d ⟨kd,n⟩→Ending.returned (.int .i64 m)=.returned (.int .i64 (madeP d ⟨kd,n⟩))):=fun m h=>by rw [h]
 have M1:Hid (kd=3∧n=0→madeP d ⟨kd,n⟩=lettersOf d.t d.now):=fun h=>if_pos h
 have M2:Hid (¬ (kd=3∧n=0)→¬ (1≤n∧n≤99999)→madeP d ⟨kd,n⟩=d.now):=fun h1 h2=>(if_neg h1).trans (if_neg h2)
 have M3:Hid (¬ (kd=3∧n=0)→1≤n∧n≤99999→madeP d ⟨kd,n⟩=if kd=0 then n else if kd=1 then d.now+n else if kd=2 then d.now - n else d.now):=fun h1 h2=>(if_neg h1).trans (if_pos h2)
 generalize madeP d ⟨kd,n⟩=mp at *;replace hB:=Lib.hid hB;replace HX:=Lib.hid HX;replace HY:=Lib.hid HY;clear h h1 h2 h3 h5 hf HT;go_enter Tryz.func109,Tryz.ntmps109;go_upto_region 1 with (fail)
 generalize (w.alloc (.cells #[.slice A1 d.t.us.length c1,.slice A2 d.t.bs.length c2,.slice A3 d.t.ns.length c3,.int .i64 d.now,.slice A5 d.past.length c5] 33)).alloc (.cells #[.int .i64 kd,.int .i64 n] 41)=W at *;obtain ⟨x0,x1,x2,x3,x4⟩:=(blk5 HX.out).1;have y0:W.cell? ⟨w.heap.size+1,0,none⟩=some (.int .i64 kd):=HY.out.cell 0;have y1:W.cell? ⟨w.heap.size+1,1,none⟩=some (.int .i64 n):=HY.out.cell 1
 by_cases hk:kd=3∧n=0
 · obtain ⟨rfl,rfl⟩:=hk;have hm:=M1.out ⟨rfl,rfl⟩;replace hm:=Lib.hid hm;clear M1 M2 M3;generalize lettersOf d.t d.now=lt at *;go_wp2_with (fail);refine K.out.mono ?_;rintro e w1 ⟨rfl,b1⟩;have hE:=Lib.hid (hB.out.trans (b1.mono hB.out.size));clear b1 x0 x1 x2 x3 x4 y0 y1 K;go_wp2;go_ret;exact ⟨HM.out _ hm.out.symm,hE.out⟩
 · have hk1:(kd==3&&n==0)=false:=by
    rw [Bool.and_eq_false_iff];rcases Classical.em (kd=3) with e | e
    · right;simpa using fun e2=>hk ⟨e,e2⟩
    · left;simpa using e
   have hk2:decide (kd=3∧n=0)=false:=decide_eq_false hk;have hk3:kd=3→¬ n=0:=fun e e2=>hk ⟨e,e2⟩
   by_cases hn:1≤n∧n≤99999
   · obtain ⟨n1,n2⟩:=hn;have hm:=Lib.hid (M3.out hk ⟨n1,n2⟩);have g1:¬ n < 1:=by omega
     have g2:¬ 99999 < n:=by omega
     replace hw1:=hw1 ⟨n1,n2⟩;replace hw2:=hw2 ⟨n1,n2⟩;clear M1 M2 M3 K
     by_cases k0:kd=0
     · subst k0;have hm':=Lib.hid (hm.out.trans (if_pos rfl));clear hm;go_wp2
       all_goals
        go_ret;exact ⟨HM.out _ hm'.out.symm,hB.out⟩
     · by_cases k1:kd=1
       · subst k1;have hm':=Lib.hid (hm.out.trans ((if_neg (by decide)).trans (if_pos rfl)));clear hm;go_wp2
         all_goals
          go_ret;exact ⟨HM.out _ hm'.out.symm,hB.out⟩
       · by_cases k2:kd=2
         · subst k2;have hm':=Lib.hid (hm.out.trans ((if_neg (by decide)).trans ((if_neg (by decide)).trans (if_pos rfl))));clear hm;go_wp2
           all_goals
            go_ret;exact ⟨HM.out _ hm'.out.symm,hB.out⟩
         · have hm':=Lib.hid (hm.out.trans ((if_neg k0).trans ((if_neg k1).trans (if_neg k2))));have q0:(kd==0)=false:=by simpa using k0
           have q1:(kd==1)=false:=by simpa using k1
           have q2:(kd==2)=false:=by simpa using k2
           clear hm;go_wp2
           all_goals
            go_ret;exact ⟨HM.out _ hm'.out.symm,hB.out⟩
   · have hm:=Lib.hid (M2.out hk hn);clear M1 M2 M3 K hw1 hw2
     by_cases g1:n < 1
     · go_wp2
       all_goals
        go_ret;exact ⟨HM.out _ hm.out.symm,hB.out⟩
     · have g2:99999 < n:=by omega
       go_wp2
       all_goals
        go_ret;exact ⟨HM.out _ hm.out.symm,hB.out⟩
end
section
open Go.RowKit
section
variable {w : World} {B g i : Nat} {v u : Value} {cs : Array Value} {t : Tg} {xs : List Int} {d : Dk}
theorem OwnTng.setD (h:OwnTng w B v t) (hb:Blk w g 33 cs):OwnTng (w.setCell ⟨g,i,none⟩ u) B v t:=by
 obtain ⟨v1,v2,v3,e,o1,o2,o3,a⟩:=h.ex;exact ⟨v1,v2,v3,e,own_set o1 (own_blk_ne o1 hb (by decide)),own_set o2 (own_blk_ne o2 hb (by decide)),own_set o3 (own_blk_ne o3 hb (by decide)),a⟩
theorem OwnI.setD (h:OwnI w B v xs) (hb:Blk w g 33 cs):OwnI (w.setCell ⟨g,i,none⟩ u) B v xs:=own_set h (own_blk_ne h hb (by decide))
theorem OwnDkW.shape (h:OwnDkW w B v d):∃ A1 c1 A2 c2 A3 c3 A5 c5,v=.agg #[.slice A1 d.t.us.length c1,.slice A2 d.t.bs.length c2,.slice A3 d.t.ns.length c3,.int .i64 d.now,.slice A5 d.past.length c5]:=by
 obtain ⟨A1,c1,A2,c2,A3,c3,A5,c5,e,-⟩:=h.own.dsk.ex;exact ⟨A1,c1,A2,c2,A3,c3,A5,c5,e⟩
end
theorem own_offD {a b:World} {B n:Nat} {e:TypeId} {u:Value} {xs:List Value} {row:Option Nat} (h:a.ownsRow B e 1 u n xs) (hg:a.grownBy b row) (hne:∀ k,u.ownBlock=some k→row≠some k):b.ownsRow B e 1 u n xs:=by
 refine h.kept hg ?_;cases hv:u.ownBlock with
 | none=>exact .inl rfl
 | some k=>exact .inr fun e=>hne k hv e.symm
def RetPut (w:World) (B S:Nat) (r:Dk × Bool) (e:Ending) (w':World):Prop:=∃ v,e=.returned (.tuple #[v,.bool r.2])∧OwnDk w' B v r.1∧Below S w w'
set_option maxRecDepth 100000 in
set_option maxHeartbeats 4000000 in
theorem putBack_any (B:Nat) (v:Value) (d:Dk) (w:World) (h:OwnDkW w B v d) (hf:d.Fine) :
 Calls Tryz.prog 107 #[v] w (RetPut w B w.heap.size (backD d)):=by
 obtain ⟨A1,c1,A2,c2,A3,c3,A5,c5,rfl⟩:=h.shape;obtain ⟨v1,v2,v3,v5,e,ht,h5,ap⟩:=h.ex;cases e;have hp:=hf.past;have hB:=((Below.refl w.heap.size w).alloc (Nat.le_refl _) (.cells #[.slice A1 d.t.us.length c1,.slice A2 d.t.bs.length c2,.slice A3 d.t.ns.length c3,.int .i64 d.now,.slice A5 d.past.length c5] 33)).alloc (by simp) (.cells #[.slice none 0 0,.slice none 0 0,.slice none 0 0,.int .i64 0,.slice none 0 0] 33);have HX:=(Blk.new w 33 #[.slice A1 d.t.us.length c1,.slice A2 d.t.bs.length c2,.slice A3 d.t.ns.length c3,.int .i64 d.now,.slice A5 d.past.length c5]).alloc (.cells #[.slice none 0 0,.slice none 0 0,.slice none 0 0,.int .i64 0,.slice none 0 0] 33);have HZ:Blk ((w.alloc (.cells #[.slice A1 d.t.us.length c1,.slice A2 d.t.bs.length c2,.slice A3 d.t.ns.length c3,.int .i64 d.now,.slice A5 d.past.length c5] 33)).alloc (.cells #[.slice none 0 0,.slice none 0 0,.slice none 0 0,.int .i64 0,.slice none 0 0] 33)) (w.heap.size+1) 33 #[.slice none 0 0,.slice none 0 0,.slice none 0 0,.int .i64 0,.slice none 0 0]:=blk_new_at _ (by simp);have HT:=ht.below hB (Nat.le_refl _);have H5:=h5.below hB (Nat.le_refl _);replace hB:=Lib.hid hB;replace HX:=Lib.hid HX;replace HZ:=Lib.hid HZ;replace HT:=Lib.hid HT;replace H5:=Lib.hid H5;replace ap:=Lib.hid ap;clear h ht h5 hf;go_enter Tryz.func107,Tryz.ntmps107;go_upto_region 1 with (fail)
 generalize (w.alloc (.cells #[.slice A1 d.t.us.length c1,.slice A2 d.t.bs.length c2,.slice A3 d.t.ns.length c3,.int .i64 d.now,.slice A5 d.past.length c5] 33)).alloc (.cells #[.slice none 0 0,.slice none 0 0,.slice none 0 0,.int .i64 0,.slice none 0 0] 33)=W at *;obtain ⟨⟨x0,x1,x2,x3,x4⟩,⟨f0,f1,f2,f3,f4⟩⟩:=blk5 HX.out;obtain ⟨⟨z0,z1,z2,z3,z4⟩,⟨e0,e1,e2,e3,e4⟩⟩:=blk5 HZ.out
 by_cases h0:0 < d.past.length
 · have hback:backD d=(⟨d.t,d.past.getD (d.past.length - 1) 0,d.past.take (d.past.length - 1)⟩,true):=by unfold backD;rw [if_pos h0]
   obtain ⟨A,c,ee,hi⟩:=H5.out.ints;cases ee;obtain ⟨b,o,rfl,hbo,hc⟩:=hi.at_ h0;have ck:=hc (d.past.length - 1) (by omega);have hcap:=hi.le;have HTk:=Lib.hid (H5.out.take (d.past.length - 1) (by omega));obtain ⟨m,hm⟩:∃ m,d.past.length=m+1:=⟨d.past.length - 1,by omega⟩;have hm1:d.past.length - 1=m:=by omega
   rw [hm1] at ck HTk hback;have hlm:(d.past.take m).length=m:=by rw [List.length_take];omega
   generalize d.past.getD m 0=x at *;replace hback:=Lib.hid hback;have i0:((m:Int)+1 - 1)=m:=by omega
   have i1:((d.past.length:Int) - 1)=(m:Int):=by omega
   have i2:IntKind.i64.wrap (m:Int)=(m:Int):=IntWalk.i64_in _ (by omega);have i3:¬ ((m:Int) < 0):=by omega
   have i4:(0:Int)≤(m:Int):=by omega
   have i5:(m:Int) < (d.past.length:Int):=by omega
   have i6:(m:Int)≤(c5:Int):=by omega
   have XA:=(HX.out.set_ 3 (.int .i64 x)).set_ 4 (.slice (some ⟨b,o,none⟩) m c5);simp at XA;have ZA:=(HZ.out.far (p:=⟨w.heap.size,3,none⟩) (by simp) (.int .i64 x)).far (p:=⟨w.heap.size,4,none⟩) (by simp) (.slice (some ⟨b,o,none⟩) m c5);have TA:=(HT.out.setD (i:=3) (u:=.int .i64 x) HX.out).setD (i:=4) (u:=.slice (some ⟨b,o,none⟩) m c5) (HX.out.set_ 3 (.int .i64 x));have PA:=(HTk.out.setD (i:=3) (u:=.int .i64 x) HX.out).setD (i:=4) (u:=.slice (some ⟨b,o,none⟩) m c5) (HX.out.set_ 3 (.int .i64 x));have BA:=(hB.out.setCell (p:=⟨w.heap.size,3,none⟩) (Nat.le_refl _) (.int .i64 x)).setCell (p:=⟨w.heap.size,4,none⟩) (Nat.le_refl _) (.slice (some ⟨b,o,none⟩) m c5);replace XA:=Lib.hid XA;replace ZA:=Lib.hid ZA;replace TA:=Lib.hid TA;replace PA:=Lib.hid PA;replace BA:=Lib.hid BA;clear hi hc z0 z1 z2 z3 z4 e0 e1 e2 e3 e4;go_upto_region 6 with (fail)
   generalize (W.setCell ⟨w.heap.size,3,none⟩ (.int .i64 x)).setCell ⟨w.heap.size,4,none⟩ (.slice (some ⟨b,o,none⟩) m c5)=V at *;clear x0 x1 x2 x3 x4 f0 f1 f2 f3 f4 ck;obtain ⟨⟨x0,x1,x2,x3,x4⟩,-⟩:=blk5 XA.out;obtain ⟨⟨z0,z1,z2,z3,z4⟩,⟨e0,e1,e2,e3,e4⟩⟩:=blk5 ZA.out;have HF:=fun u0 u1 u2 u3 u4=>own_dk5 (u0:=u0) (u1:=u1) (u2:=u2) (u3:=u3) (u4:=u4) (now:=x) (d:=⟨d.t,x,d.past.take m⟩) rfl TA.out PA.out ap.out ZA.out
   have HG:=fun u0 u1 u2 u3 u4=>below_dk5 (u0:=u0) (u1:=u1) (u2:=u2) (u3:=u3) (u4:=u4) (g:=w.heap.size+1) BA.out (by omega)
   replace HF:=Lib.hid HF;replace HG:=Lib.hid HG;clear XA ZA TA PA BA HX HZ HT H5 HTk;go_wp2;refine bodyPost_ret (v:=.tuple #[.agg #[.slice A1 d.t.us.length c1,.slice A2 d.t.bs.length c2,.slice A3 d.t.ns.length c3,.int .i64 x,.slice (some ⟨b,o,none⟩) m c5],.bool true]) (by simp [results,Tryz.results107,go_sem,z0,z1,z2,z3,z4]) rfl ?_;rw [hback.out];exact ⟨_,rfl,(HF.out _ _ _ _ _).own,HG.out _ _ _ _ _⟩
 · have hback:=Lib.hid (show backD d=(d,false) by unfold backD;rw [if_neg h0]);have hn0:d.past.length=0:=by omega
   have i3:((d.past.length:Int) - 1)=-1:=by omega
   have HF:=fun u0 u1 u2 u3 u4=>own_dk5 (u0:=u0) (u1:=u1) (u2:=u2) (u3:=u3) (u4:=u4) (now:=d.now) (d:=d) rfl HT.out H5.out ap.out HZ.out
   have HG:=fun u0 u1 u2 u3 u4=>below_dk5 (u0:=u0) (u1:=u1) (u2:=u2) (u3:=u3) (u4:=u4) (g:=w.heap.size+1) hB.out (by omega)
   replace HF:=Lib.hid HF;replace HG:=Lib.hid HG;replace hn0:=Lib.hid hn0;clear HX HZ HT H5;go_wp2;refine bodyPost_ret (v:=.tuple #[.agg #[.slice A1 d.t.us.length c1,.slice A2 d.t.bs.length c2,.slice A3 d.t.ns.length c3,.int .i64 d.now,.slice A5 d.past.length c5],.bool false]) (by simp [results,Tryz.results107,go_sem,z0,z1,z2,z3,z4]) rfl ?_;rw [hback.out];exact ⟨_,rfl,(HF.out _ _ _ _ _).own,HG.out _ _ _ _ _⟩
set_option maxRecDepth 100000 in
set_option maxHeartbeats 8000000 in
theorem putInstead_any (B:Nat) (v:Value) (d:Dk) (m:Int) (w:World) (h:OwnDkW w B v d) (hf:d.Fine) (hBw:B≤w.heap.size) (hl:d.past.length≤8) (hm:-9223372036854775808≤m∧m≤9223372036854775807) :
 Calls Tryz.prog 108 #[v,.int .i64 m] w (RetPut w B B (putD d m)):=by
 obtain ⟨A1,c1,A2,c2,A3,c3,A5,c5,rfl⟩:=h.shape;obtain ⟨v1,v2,v3,v5,e,ht,h5,ap⟩:=h.ex;cases e;obtain ⟨i0,hi,hz0,hz1,hz2⟩:=info_parts int_info0;have hB:=((Below.refl w.heap.size w).alloc (Nat.le_refl _) (.cells #[.slice A1 d.t.us.length c1,.slice A2 d.t.bs.length c2,.slice A3 d.t.ns.length c3,.int .i64 d.now,.slice A5 d.past.length c5] 33)).alloc (by simp) (.cells #[.slice none 0 0,.slice none 0 0,.slice none 0 0,.int .i64 0,.slice none 0 0] 33);have HX:=(Blk.new w 33 #[.slice A1 d.t.us.length c1,.slice A2 d.t.bs.length c2,.slice A3 d.t.ns.length c3,.int .i64 d.now,.slice A5 d.past.length c5]).alloc (.cells #[.slice none 0 0,.slice none 0 0,.slice none 0 0,.int .i64 0,.slice none 0 0] 33);have HZ:Blk ((w.alloc (.cells #[.slice A1 d.t.us.length c1,.slice A2 d.t.bs.length c2,.slice A3 d.t.ns.length c3,.int .i64 d.now,.slice A5 d.past.length c5] 33)).alloc (.cells #[.slice none 0 0,.slice none 0 0,.slice none 0 0,.int .i64 0,.slice none 0 0] 33)) (w.heap.size+1) 33 #[.slice none 0 0,.slice none 0 0,.slice none 0 0,.int .i64 0,.slice none 0 0]:=blk_new_at _ (by simp);have HT:=ht.below hB (Nat.le_refl _);have H5:=h5.below hB (Nat.le_refl _);have KN:=Lib.hid (fun W (hb:Below w.heap.size w W)=>hasName_any (.agg #[.slice A1 d.t.us.length c1,.slice A2 d.t.bs.length c2,.slice A3 d.t.ns.length c3]) d.t m W (ht.tng.below hb (Nat.le_refl _)) hf.t hm);replace hB:=Lib.hid hB;replace HX:=Lib.hid HX
 replace HZ:=Lib.hid HZ;replace HT:=Lib.hid HT;replace H5:=Lib.hid H5;replace ap:=Lib.hid ap;have hno:=Lib.hid (put_no (d:=d) (m:=m));have hyes:=Lib.hid (put_yes (d:=d) (m:=m));clear h ht h5 hf;go_enter Tryz.func108,Tryz.ntmps108;go_upto_region 1 with (fail)
 generalize (w.alloc (.cells #[.slice A1 d.t.us.length c1,.slice A2 d.t.bs.length c2,.slice A3 d.t.ns.length c3,.int .i64 d.now,.slice A5 d.past.length c5] 33)).alloc (.cells #[.slice none 0 0,.slice none 0 0,.slice none 0 0,.int .i64 0,.slice none 0 0] 33)=W at *;obtain ⟨⟨x0,x1,x2,x3,x4⟩,⟨f0,f1,f2,f3,f4⟩⟩:=blk5 HX.out;obtain ⟨⟨z0,z1,z2,z3,z4⟩,⟨e0,e1,e2,e3,e4⟩⟩:=blk5 HZ.out
 by_cases hmn:m=d.now
 · have hput:=Lib.hid (hno.out (fun hh=>hh.2 hmn));have hmb:(m==d.now)=true:=by simpa using hmn
   have HF:=fun u0 u1 u2 u3 u4=>own_dk5 (u0:=u0) (u1:=u1) (u2:=u2) (u3:=u3) (u4:=u4) (now:=d.now) (d:=d) rfl HT.out H5.out ap.out HZ.out
   have HG:=fun u0 u1 u2 u3 u4=>below_dk5 (u0:=u0) (u1:=u1) (u2:=u2) (u3:=u3) (u4:=u4) (g:=w.heap.size+1) hB.out (by omega)
   replace HF:=Lib.hid HF;replace HG:=Lib.hid HG;subst hmn;clear HX HZ HT H5 KN hno hyes;go_wp2;refine bodyPost_ret (v:=.tuple #[.agg #[.slice A1 d.t.us.length c1,.slice A2 d.t.bs.length c2,.slice A3 d.t.ns.length c3,.int .i64 d.now,.slice A5 d.past.length c5],.bool false]) (by simp [results,Tryz.results108,go_sem,z0,z1,z2,z3,z4]) rfl ?_;rw [hput.out];exact ⟨_,rfl,(HF.out _ _ _ _ _).own,(HG.out _ _ _ _ _).mono hBw⟩
 · have hmb:(m==d.now)=false:=by simpa using hmn
   have K:=Lib.hid (KN.out W hB.out);go_wp2_with (fail);refine K.out.mono ?_;rintro e w1 ⟨rfl,b1⟩;have hB1:=Lib.hid (hB.out.trans (b1.mono hB.out.size));have HX1:=Lib.hid (HX.out.below b1 HX.out.lt);have HZ1:=Lib.hid (HZ.out.below b1 HZ.out.lt);have HT1:=Lib.hid (HT.out.below b1 (Nat.le_refl _));have H51:=Lib.hid (H5.out.below b1 (Nat.le_refl _));have hs1:=b1.size;have hgW:=HZ.out.lt;clear b1 x0 x1 x2 x3 x4 f0 f1 f2 f3 f4 z0 z1 z2 z3 z4 e0 e1 e2 e3 e4 K KN HX HZ HT H5 hB;obtain ⟨⟨x0,x1,x2,x3,x4⟩,⟨f0,f1,f2,f3,f4⟩⟩:=blk5 HX1.out;obtain ⟨⟨z0,z1,z2,z3,z4⟩,⟨e0,e1,e2,e3,e4⟩⟩:=blk5 HZ1.out;cases hnb:namedB d.t m
   · have hput:=Lib.hid (hno.out (fun hh=>by rw [hnb] at hh;exact absurd hh.1 (by simp)));have HF:=fun u0 u1 u2 u3 u4=>own_dk5 (u0:=u0) (u1:=u1) (u2:=u2) (u3:=u3) (u4:=u4) (now:=d.now) (d:=d) rfl HT1.out H51.out ap.out HZ1.out
     have HG:=fun u0 u1 u2 u3 u4=>below_dk5 (u0:=u0) (u1:=u1) (u2:=u2) (u3:=u3) (u4:=u4) (g:=w.heap.size+1) hB1.out (by omega)
     replace HF:=Lib.hid HF;replace HG:=Lib.hid HG;clear HX1 HZ1 HT1 H51 hno hyes hnb;go_wp2;refine bodyPost_ret (v:=.tuple #[.agg #[.slice A1 d.t.us.length c1,.slice A2 d.t.bs.length c2,.slice A3 d.t.ns.length c3,.int .i64 d.now,.slice A5 d.past.length c5],.bool false]) (by simp [results,Tryz.results108,go_sem,z0,z1,z2,z3,z4]) rfl ?_;rw [hput.out];exact ⟨_,rfl,(HF.out _ _ _ _ _).own,(HG.out _ _ _ _ _).mono hBw⟩
   · have hput:=Lib.hid (hyes.out ⟨hnb,hmn⟩);have hA:=(Below.refl w1.heap.size w1).alloc (Nat.le_refl _) (.cells #[.int .i64 d.now] 3);have hL:Blk (w1.alloc (.cells #[.int .i64 d.now] 3)) w1.heap.size 3 #[.int .i64 d.now]:=Blk.new _ _ _;have hB2:=hB1.out.trans (hA.mono hB1.out.size);have HX2:=HX1.out.below hA HX1.out.lt;have HZ2:=HZ1.out.below hA HZ1.out.lt;have HT2:=HT1.out.below hA (Nat.le_refl _);have H52:=H51.out.below hA (Nat.le_refl _);have hsz2:(w1.alloc (.cells #[.int .i64 d.now] 3)).heap.size=w1.heap.size+1:=by simp
     replace hL:=Lib.hid (Src.one hL rfl);replace hB2:=Lib.hid hB2;replace HX2:=Lib.hid HX2;replace HZ2:=Lib.hid HZ2;replace HT2:=Lib.hid HT2;replace H52:=Lib.hid H52;have k1:=Lib.hid (show d.past.length+1≤maxLen by unfold maxLen;omega);have k2:=Lib.hid (show (d.past.length+1) * 8≤140737488355328 by omega);have k3:=Lib.hid (show B≤(w1.alloc (.cells #[.int .i64 d.now] 3)).heap.size by rw [hsz2];have:=hB1.out.size;omega);have hsz3:=Lib.hid hsz2;clear hA hno hyes hnb z0 z1 z2 z3 z4 e0 e1 e2 e3 e4 HX1 HZ1 HT1 H51 hB1 hsz2;go_wp2_with (at_builtin;refine wpList_app _ rfl (.tmp 19) (.tmp 22) _ rfl B 3 i0 _ 8 Tryz.underlying29 hi hz0 hz1 hz2 rfl (.slice A5 d.past.length c5) d.past.length (d.past.map (Value.int .i64)) rfl H52.out (some ⟨w1.heap.size,0,none⟩) 1 1 _ rfl hL.out k1.out k2.out k3.out ?_;intro v6 w6 ho6 hg6 hat6;refine Hid.out ?_);obtain ⟨g6,c6,rfl,hg6B,hg6w⟩:=World.ownsRow.form ho6 (by omega);have hne5:=own_blk_ne H52.out HX2.out (by decide);have hneZ:=own_blk_ne H52.out HZ2.out (by decide);have HX3:=HX2.out.grown hg6 (fun e=>hne5 e.symm);have HZ3:=HZ2.out.grown hg6 (fun e=>hneZ e.symm);have hB3:Below B w w6:=below_own (hB2.out.mono hBw) H52.out hg6 k3.out (Nat.le_refl _)
     have ap2:∀ k,(Value.slice A2 d.t.bs.length c2).ownBlock=some k→(Value.slice (some ⟨g6,0,none⟩) (d.past.length+1) c6).ownBlock≠some k:=fun k hk he=>by
      obtain ⟨y1,y2,y3,ee,-,o2,-,-⟩:=HT2.out.ex;cases ee;rcases hat6 with h | h
      · rw [h] at he;exact ap.out k hk he
      · rw [h] at he;have:=(World.ownsRow.lt o2 k hk).2;injection he with he;omega
     have HT3:OwnTng w6 B (.agg #[.slice A1 d.t.us.length c1,.slice A2 d.t.bs.length c2,.slice A3 d.t.ns.length c3]) d.t:=by
      obtain ⟨y1,y2,y3,ee,o1,o2,o3,a13⟩:=HT2.out.ex;cases ee;exact ⟨_,_,_,rfl,own_offD o1 hg6 (fun k hk e=>own_type_ne o1 H52.out (by decide) k hk e),own_offD o2 hg6 (fun k hk e=>ap.out k hk e),own_offD o3 hg6 (fun k hk e=>own_type_ne o3 H52.out (by decide) k hk e),a13⟩
     have H53:OwnI w6 B (.slice (some ⟨g6,0,none⟩) (d.past.length+1) c6) (d.past++[d.now]):=by
      unfold OwnI;rw [List.length_append,List.length_singleton,List.map_append];exact ho6
     have hc6:d.past.length+1≤c6:=by
      obtain ⟨A,c,ee,hii⟩:=H53.ints;simp only [Value.slice.injEq] at ee;obtain ⟨rfl,-,rfl⟩:=ee;have:=hii.le;rw [List.length_append,List.length_singleton] at this;exact this
     have hsB:=hB3.size;have hszw:w.heap.size≤w6.heap.size:=hsB;replace HX3:=Lib.hid HX3;replace HZ3:=Lib.hid HZ3;replace HT3:=Lib.hid HT3;replace H53:=Lib.hid H53;replace hB3:=Lib.hid hB3;replace ap2:=Lib.hid ap2;clear ho6 hg6 hat6 hne5 hneZ HX2 HZ2 HT2 H52 hB2 hL ap x0 x1 x2 x3 x4 f0 f1 f2 f3 f4;obtain ⟨⟨x0,x1,x2,x3,x4⟩,⟨f0,f1,f2,f3,f4⟩⟩:=blk5 HX3.out;have q1:((d.past.length:Int)+1 - 8)=(d.past.length:Int) - 7:=by omega
     have q2:IntKind.i64.wrap ((d.past.length:Int) - 7)=(d.past.length:Int) - 7:=IntWalk.i64_in _ (by omega);have q3:IntKind.i64.wrap ((d.past.length:Int)+1 - 8)=(d.past.length:Int)+1 - 8:=IntWalk.i64_in _ (by omega);have q4:((d.past.length+1:Nat):Int)=(d.past.length:Int)+1:=by omega
     by_cases h8:d.past.length=8
     · have g1:(d.past.length:Int) - 7=1:=by omega
       have g2:max (0:Int) 1=1:=by decide
       have g3:(1:Int)≤(c6:Int):=by omega
       have g4:¬ c6=1:=by omega
       have g5:(1:Int)≤(d.past.length:Int)+1:=by omega
       have g6':(d.past.length:Int)+1≤(c6:Int):=by omega
       have g7:d.past.length+1 - 1=d.past.length:=by omega
       replace h8:=Lib.hid h8;have XA:=(HX3.out.set_ 4 (.slice (some ⟨g6,0,none⟩) (d.past.length+1) c6)).set_ 4 (.slice (some ⟨g6,1,none⟩) d.past.length (c6 - 1));have XB:=XA.set_ 3 (.int .i64 m);simp at XB;have ZA:=((HZ3.out.far (p:=⟨w.heap.size,4,none⟩) (by simp) (.slice (some ⟨g6,0,none⟩) (d.past.length+1) c6)).far (p:=⟨w.heap.size,4,none⟩) (by simp) (.slice (some ⟨g6,1,none⟩) d.past.length (c6 - 1))).far (p:=⟨w.heap.size,3,none⟩) (by simp) (.int .i64 m);have hX1:=HX3.out.set_ 4 (.slice (some ⟨g6,0,none⟩) (d.past.length+1) c6);have TA:=((HT3.out.setD (i:=4) (u:=.slice (some ⟨g6,0,none⟩) (d.past.length+1) c6) HX3.out).setD (i:=4) (u:=.slice (some ⟨g6,1,none⟩) d.past.length (c6 - 1)) hX1).setD (i:=3) (u:=.int .i64 m) XA;have PA:=((H53.out.setD (i:=4) (u:=.slice (some ⟨g6,0,none⟩) (d.past.length+1) c6) HX3.out).setD (i:=4) (u:=.slice (some ⟨g6,1,none⟩) d.past.length (c6 - 1)) hX1).setD (i:=3) (u:=.int .i64 m) XA;have BA:=((hB3.out.setCell (p:=⟨w.heap.size,4,none⟩) hBw (.slice (some ⟨g6,0,none⟩) (d.past.length+1) c6)).setCell (p:=⟨w.heap.size,4,none⟩) hBw (.slice (some ⟨g6,1,none⟩) d.past.length (c6 - 1))).setCell (p:=⟨w.heap.size,3,none⟩) hBw (.int .i64 m);replace XB:=Lib.hid XB;replace ZA:=Lib.hid ZA;replace TA:=Lib.hid TA;replace PA:=Lib.hid PA;replace BA:=Lib.hid BA;clear XA hX1 HX3 HZ3 HT3 H53 hB3;refine Lib.hid ?_;go_upto_region 6 with (fail)
       generalize ((w6.setCell ⟨w.heap.size,4,none⟩ (.slice (some ⟨g6,0,none⟩) (d.past.length+1) c6)).setCell ⟨w.heap.size,4,none⟩ (.slice (some ⟨g6,1,none⟩) d.past.length (c6 - 1))).setCell ⟨w.heap.size,3,none⟩ (.int .i64 m)=V at *;clear x0 x1 x2 x3 x4 f0 f1 f2 f3 f4;obtain ⟨⟨x0,x1,x2,x3,x4⟩,-⟩:=blk5 XB.out;obtain ⟨⟨z0,z1,z2,z3,z4⟩,⟨e0,e1,e2,e3,e4⟩⟩:=blk5 ZA.out;have hxl:((d.past++[d.now]).drop (d.past.length+1 - 8)).length=d.past.length:=by have h8':=h8.out;rw [List.length_drop,List.length_append,List.length_singleton];omega
       have PT:TailI V B (.slice (some ⟨g6,1,none⟩) d.past.length (c6 - 1)) ((d.past++[d.now]).drop (d.past.length+1 - 8)):=by
        have h8:=h8.out
        obtain ⟨z,r,er⟩:∃ z r,d.past=z :: r:=by
         cases hp:d.past with
         | nil=>rw [hp] at h8;simp at h8
         | cons z r=>exact ⟨z,r,rfl⟩
        have hd1:(d.past++[d.now]).drop (d.past.length+1 - 8)=r++[d.now]:=by rw [h8,er];rfl
        have hc:c6 - 1+1=c6:=by omega
        refine ⟨.inr ⟨z,g6,c6 - 1,?_,by rw [hxl]⟩⟩;have hz:(z :: (d.past++[d.now]).drop (d.past.length+1 - 8))=d.past++[d.now]:=by rw [hd1,er];rfl
        rw [hz,hxl,hc];exact PA.out
       have HD:OwnDk V B (.agg #[.slice A1 d.t.us.length c1,.slice A2 d.t.bs.length c2,.slice A3 d.t.ns.length c3,.int .i64 m,.slice (some ⟨g6,1,none⟩) d.past.length (c6 - 1)]) ⟨d.t,m,(d.past++[d.now]).drop (d.past.length+1 - 8)⟩:=⟨_,_,_,_,rfl,TA.out,PT,ap2.out⟩;have HF:=fun u0 u1 u2 u3 u4=>own_dk5t (u0:=u0) (u1:=u1) (u2:=u2) (u3:=u3) (u4:=u4) (d:=⟨d.t,m,(d.past++[d.now]).drop (d.past.length+1 - 8)⟩) HD ZA.out
       clear PT HD;have HG:=fun u0 u1 u2 u3 u4=>below_dk5 (u0:=u0) (u1:=u1) (u2:=u2) (u3:=u3) (u4:=u4) (g:=w.heap.size+1) BA.out (by omega)
       replace HF:=Lib.hid HF;replace HG:=Lib.hid HG;clear XB ZA TA PA BA;go_wp2;refine bodyPost_ret (v:=.tuple #[.agg #[.slice A1 d.t.us.length c1,.slice A2 d.t.bs.length c2,.slice A3 d.t.ns.length c3,.int .i64 m,.slice (some ⟨g6,1,none⟩) d.past.length (c6 - 1)],.bool true]) (by simp [results,Tryz.results108,go_sem,z0,z1,z2,z3,z4]) rfl ?_;rw [hput.out];exact ⟨_,rfl,HF.out _ _ _ _ _,HG.out _ _ _ _ _⟩
     · have g1:(d.past.length:Int) - 7≤0:=by omega
       have g2:max (0:Int) ((d.past.length:Int) - 7)=0:=by omega
       have g3:(0:Int)≤(c6:Int):=by omega
       have g4:¬ c6=0:=by omega
       have g5:(0:Int)≤(d.past.length:Int)+1:=by omega
       have g6':(d.past.length:Int)+1≤(c6:Int):=by omega
       have XA:=(HX3.out.set_ 4 (.slice (some ⟨g6,0,none⟩) (d.past.length+1) c6)).set_ 4 (.slice (some ⟨g6,0,none⟩) (d.past.length+1) c6);have XB:=XA.set_ 3 (.int .i64 m);simp at XB;have ZA:=((HZ3.out.far (p:=⟨w.heap.size,4,none⟩) (by simp) (.slice (some ⟨g6,0,none⟩) (d.past.length+1) c6)).far (p:=⟨w.heap.size,4,none⟩) (by simp) (.slice (some ⟨g6,0,none⟩) (d.past.length+1) c6)).far (p:=⟨w.heap.size,3,none⟩) (by simp) (.int .i64 m);have hX1:=HX3.out.set_ 4 (.slice (some ⟨g6,0,none⟩) (d.past.length+1) c6);have TA:=((HT3.out.setD (i:=4) (u:=.slice (some ⟨g6,0,none⟩) (d.past.length+1) c6) HX3.out).setD (i:=4) (u:=.slice (some ⟨g6,0,none⟩) (d.past.length+1) c6) hX1).setD (i:=3) (u:=.int .i64 m) XA;have PA:=((H53.out.setD (i:=4) (u:=.slice (some ⟨g6,0,none⟩) (d.past.length+1) c6) HX3.out).setD (i:=4) (u:=.slice (some ⟨g6,0,none⟩) (d.past.length+1) c6) hX1).setD (i:=3) (u:=.int .i64 m) XA;have BA:=((hB3.out.setCell (p:=⟨w.heap.size,4,none⟩) hBw (.slice (some ⟨g6,0,none⟩) (d.past.length+1) c6)).setCell (p:=⟨w.heap.size,4,none⟩) hBw (.slice (some ⟨g6,0,none⟩) (d.past.length+1) c6)).setCell (p:=⟨w.heap.size,3,none⟩) hBw (.int .i64 m);replace XB:=Lib.hid XB;replace ZA:=Lib.hid ZA;replace TA:=Lib.hid TA;replace PA:=Lib.hid PA;replace BA:=Lib.hid BA;clear XA hX1 HX3 HZ3 HT3 H53 hB3;refine Lib.hid ?_;go_upto_region 6 with (fail)
       generalize ((w6.setCell ⟨w.heap.size,4,none⟩ (.slice (some ⟨g6,0,none⟩) (d.past.length+1) c6)).setCell ⟨w.heap.size,4,none⟩ (.slice (some ⟨g6,0,none⟩) (d.past.length+1) c6)).setCell ⟨w.heap.size,3,none⟩ (.int .i64 m)=V at *;clear x0 x1 x2 x3 x4 f0 f1 f2 f3 f4;obtain ⟨⟨x0,x1,x2,x3,x4⟩,-⟩:=blk5 XB.out;obtain ⟨⟨z0,z1,z2,z3,z4⟩,⟨e0,e1,e2,e3,e4⟩⟩:=blk5 ZA.out;have hxd:(d.past++[d.now]).drop (d.past.length+1 - 8)=d.past++[d.now]:=by rw [show d.past.length+1 - 8=0 by omega];rfl
       have HF:=fun u0 u1 u2 u3 u4=>(own_dk5 (u0:=u0) (u1:=u1) (u2:=u2) (u3:=u3) (u4:=u4) (now:=m) (d:=⟨d.t,m,(d.past++[d.now]).drop (d.past.length+1 - 8)⟩) rfl TA.out (by rw [hxd];exact PA.out) ap2.out ZA.out).own
       clear hxd;have HG:=fun u0 u1 u2 u3 u4=>below_dk5 (u0:=u0) (u1:=u1) (u2:=u2) (u3:=u3) (u4:=u4) (g:=w.heap.size+1) BA.out (by omega)
       replace HF:=Lib.hid HF;replace HG:=Lib.hid HG;clear XB ZA TA PA BA;go_wp2;refine bodyPost_ret (v:=.tuple #[.agg #[.slice A1 d.t.us.length c1,.slice A2 d.t.bs.length c2,.slice A3 d.t.ns.length c3,.int .i64 m,.slice (some ⟨g6,0,none⟩) (d.past.length+1) c6],.bool true]) (by simp [results,Tryz.results108,go_sem,z0,z1,z2,z3,z4]) rfl ?_;rw [hput.out];exact ⟨_,rfl,HF.out _ _ _ _ _,HG.out _ _ _ _ _⟩
end
section
open Go.RowKit
structure DDR (V:World) (S B gz:Nat) (DV:Value) (kd n mp:Int) (rd:Dk) (rb:Bool) (l:Array Bool) (w:World) (s5 s19 s20 s21 s22 s23 s24 s25:Value):Prop where
 f0:l.getD 0 false=true→s19=DV
 f1:l.getD 1 false=true→s20=DV
 f2:l.getD 2 false=true→s21=.agg #[.int .i64 kd,.int .i64 n]
 f3:l.getD 3 false=true→s22=.int .i64 mp
 f4:l.getD 4 false=true→∃ v,s23=.tuple #[v,.bool rb]∧OwnDk w B v rd
 f5:l.getD 5 false=true→OwnDk w B s24 rd
 f6:l.getD 6 false=true→s25=.bool rb
 f7:l.getD 7 false=true→∃ u0 u1 u2 u3 u4,Blk w gz 33 #[u0,u1,u2,u3,u4]∧OwnDk w B (.agg #[u0,u1,u2,u3,u4]) rd
 f8:l.getD 8 false=true→s5=.bool rb
 d3:l.getD 3 false=true→l.getD 1 false=true∧l.getD 2 false=true
 d4:l.getD 4 false=true→l.getD 0 false=true∧l.getD 3 false=true
 d5:l.getD 5 false=true→l.getD 4 false=true
 d7:l.getD 7 false=true→l.getD 4 false=true
 low:Below S V w
 lo:l.getD 4 false=false→Below V.heap.size V w
 hz:l.getD 7 false=false→Blk w gz 33 #[.slice none 0 0,.slice none 0 0,.slice none 0 0,.int .i64 0,.slice none 0 0]
 sz:B≤w.heap.size
section
variable {V w w' : World} {S B gz : Nat} {DV v : Value} {kd n mp : Int} {rd : Dk} {rb : Bool} {l : Array Bool} {s5 s19 s20 s21 s22 s23 s24 s25 : Value}
theorem DDR.no4a (h:DDR V S B gz DV kd n mp rd rb l w s5 s19 s20 s21 s22 s23 s24 s25) (h0:l.getD 0 false=false):l.getD 4 false=false:=by
 cases e:l.getD 4 false
 · rfl
 · have:=(h.d4 e).1;rw [h0] at this;cases this
theorem DDR.no4b (h:DDR V S B gz DV kd n mp rd rb l w s5 s19 s20 s21 s22 s23 s24 s25) (h0:l.getD 3 false=false):l.getD 4 false=false:=by
 cases e:l.getD 4 false
 · rfl
 · have:=(h.d4 e).2;rw [h0] at this;cases this
theorem DDR.no3 (h:DDR V S B gz DV kd n mp rd rb l w s5 s19 s20 s21 s22 s23 s24 s25) (h0:l.getD 1 false=false∨l.getD 2 false=false):l.getD 3 false=false:=by
 cases e:l.getD 3 false
 · rfl
 · obtain ⟨a,b⟩:=h.d3 e;rcases h0 with h0 | h0
   · rw [h0] at a;cases a
   · rw [h0] at b;cases b
theorem still {l:Array Bool} {i j:Nat} (h:l.getD j false=true):(l.setIfInBounds i true).getD j false=true:=by
 by_cases e:j=i
 · subst e
   have hj:j < l.size:=by
    rcases Nat.lt_or_ge j l.size with hh | hh
    · exact hh
    · rw [Array.getD_eq_getD_getElem?,Array.getElem?_eq_none hh] at h;cases h
   exact listed_at hj
 · rw [listed_same e];exact h
theorem DDR.up0 (h:DDR V S B gz DV kd n mp rd rb l w s5 s19 s20 s21 s22 s23 s24 s25) (hv:v=DV):DDR V S B gz DV kd n mp rd rb (l.setIfInBounds 0 true) w s5 v s20 s21 s22 s23 s24 s25 :=
 ⟨(fun _=>hv),(fun h'=>h.f1 (listed_set h' (by decide))),(fun h'=>h.f2 (listed_set h' (by decide))),(fun h'=>h.f3 (listed_set h' (by decide))),(fun h'=>h.f4 (listed_set h' (by decide))),(fun h'=>h.f5 (listed_set h' (by decide))),(fun h'=>h.f6 (listed_set h' (by decide))),(fun h'=>h.f7 (listed_set h' (by decide))),(fun h'=>h.f8 (listed_set h' (by decide))),(fun h'=>⟨still (h.d3 (listed_set h' (by decide))).1,still (h.d3 (listed_set h' (by decide))).2⟩),(fun h'=>⟨still (h.d4 (listed_set h' (by decide))).1,still (h.d4 (listed_set h' (by decide))).2⟩),(fun h'=>still (h.d5 (listed_set h' (by decide)))),(fun h'=>still (h.d7 (listed_set h' (by decide)))),h.low,(fun h'=>h.lo (by rwa [listed_same (by decide)] at h')),(fun h'=>h.hz (by rwa [listed_same (by decide)] at h')),h.sz⟩
theorem DDR.up1 (h:DDR V S B gz DV kd n mp rd rb l w s5 s19 s20 s21 s22 s23 s24 s25) (hv:v=DV):DDR V S B gz DV kd n mp rd rb (l.setIfInBounds 1 true) w s5 s19 v s21 s22 s23 s24 s25 :=
 ⟨(fun h'=>h.f0 (listed_set h' (by decide))),(fun _=>hv),(fun h'=>h.f2 (listed_set h' (by decide))),(fun h'=>h.f3 (listed_set h' (by decide))),(fun h'=>h.f4 (listed_set h' (by decide))),(fun h'=>h.f5 (listed_set h' (by decide))),(fun h'=>h.f6 (listed_set h' (by decide))),(fun h'=>h.f7 (listed_set h' (by decide))),(fun h'=>h.f8 (listed_set h' (by decide))),(fun h'=>⟨still (h.d3 (listed_set h' (by decide))).1,still (h.d3 (listed_set h' (by decide))).2⟩),(fun h'=>⟨still (h.d4 (listed_set h' (by decide))).1,still (h.d4 (listed_set h' (by decide))).2⟩),(fun h'=>still (h.d5 (listed_set h' (by decide)))),(fun h'=>still (h.d7 (listed_set h' (by decide)))),h.low,(fun h'=>h.lo (by rwa [listed_same (by decide)] at h')),(fun h'=>h.hz (by rwa [listed_same (by decide)] at h')),h.sz⟩
theorem DDR.up2 (h:DDR V S B gz DV kd n mp rd rb l w s5 s19 s20 s21 s22 s23 s24 s25) (hv:v=.agg #[.int .i64 kd,.int .i64 n]):DDR V S B gz DV kd n mp rd rb (l.setIfInBounds 2 true) w s5 s19 s20 v s22 s23 s24 s25 :=
 ⟨(fun h'=>h.f0 (listed_set h' (by decide))),(fun h'=>h.f1 (listed_set h' (by decide))),(fun _=>hv),(fun h'=>h.f3 (listed_set h' (by decide))),(fun h'=>h.f4 (listed_set h' (by decide))),(fun h'=>h.f5 (listed_set h' (by decide))),(fun h'=>h.f6 (listed_set h' (by decide))),(fun h'=>h.f7 (listed_set h' (by decide))),(fun h'=>h.f8 (listed_set h' (by decide))),(fun h'=>⟨still (h.d3 (listed_set h' (by decide))).1,still (h.d3 (listed_set h' (by decide))).2⟩),(fun h'=>⟨still (h.d4 (listed_set h' (by decide))).1,still (h.d4 (listed_set h' (by decide))).2⟩),(fun h'=>still (h.d5 (listed_set h' (by decide)))),(fun h'=>still (h.d7 (listed_set h' (by decide)))),h.low,(fun h'=>h.lo (by rwa [listed_same (by decide)] at h')),(fun h'=>h.hz (by rwa [listed_same (by decide)] at h')),h.sz⟩
theorem DDR.up6 (h:DDR V S B gz DV kd n mp rd rb l w s5 s19 s20 s21 s22 s23 s24 s25) (hv:v=.bool rb):DDR V S B gz DV kd n mp rd rb (l.setIfInBounds 6 true) w s5 s19 s20 s21 s22 s23 s24 v :=
 ⟨(fun h'=>h.f0 (listed_set h' (by decide))),(fun h'=>h.f1 (listed_set h' (by decide))),(fun h'=>h.f2 (listed_set h' (by decide))),(fun h'=>h.f3 (listed_set h' (by decide))),(fun h'=>h.f4 (listed_set h' (by decide))),(fun h'=>h.f5 (listed_set h' (by decide))),(fun _=>hv),(fun h'=>h.f7 (listed_set h' (by decide))),(fun h'=>h.f8 (listed_set h' (by decide))),(fun h'=>⟨still (h.d3 (listed_set h' (by decide))).1,still (h.d3 (listed_set h' (by decide))).2⟩),(fun h'=>⟨still (h.d4 (listed_set h' (by decide))).1,still (h.d4 (listed_set h' (by decide))).2⟩),(fun h'=>still (h.d5 (listed_set h' (by decide)))),(fun h'=>still (h.d7 (listed_set h' (by decide)))),h.low,(fun h'=>h.lo (by rwa [listed_same (by decide)] at h')),(fun h'=>h.hz (by rwa [listed_same (by decide)] at h')),h.sz⟩
theorem DDR.up8 (h:DDR V S B gz DV kd n mp rd rb l w s5 s19 s20 s21 s22 s23 s24 s25) (hv:v=.bool rb):DDR V S B gz DV kd n mp rd rb (l.setIfInBounds 8 true) w v s19 s20 s21 s22 s23 s24 s25 :=
 ⟨(fun h'=>h.f0 (listed_set h' (by decide))),(fun h'=>h.f1 (listed_set h' (by decide))),(fun h'=>h.f2 (listed_set h' (by decide))),(fun h'=>h.f3 (listed_set h' (by decide))),(fun h'=>h.f4 (listed_set h' (by decide))),(fun h'=>h.f5 (listed_set h' (by decide))),(fun h'=>h.f6 (listed_set h' (by decide))),(fun h'=>h.f7 (listed_set h' (by decide))),(fun _=>hv),(fun h'=>⟨still (h.d3 (listed_set h' (by decide))).1,still (h.d3 (listed_set h' (by decide))).2⟩),(fun h'=>⟨still (h.d4 (listed_set h' (by decide))).1,still (h.d4 (listed_set h' (by decide))).2⟩),(fun h'=>still (h.d5 (listed_set h' (by decide)))),(fun h'=>still (h.d7 (listed_set h' (by decide)))),h.low,(fun h'=>h.lo (by rwa [listed_same (by decide)] at h')),(fun h'=>h.hz (by rwa [listed_same (by decide)] at h')),h.sz⟩
theorem DDR.up3 (h:DDR V S B gz DV kd n mp rd rb l w s5 s19 s20 s21 s22 s23 s24 s25) (hS:S≤w.heap.size) (h12:l.getD 1 false=true∧l.getD 2 false=true) (hv:v=.int .i64 mp) (hb:Below w.heap.size w w'):DDR V S B gz DV kd n mp rd rb (l.setIfInBounds 3 true) w' s5 s19 s20 s21 v s23 s24 s25 :=
 ⟨(fun h'=>h.f0 (listed_set h' (by decide))),(fun h'=>h.f1 (listed_set h' (by decide))),(fun h'=>h.f2 (listed_set h' (by decide))),(fun _=>hv),(fun h'=>(let ⟨x,e,ho⟩:=h.f4 (listed_set h' (by decide));⟨x,e,ho.below hb (Nat.le_refl _)⟩)),(fun h'=>(h.f5 (listed_set h' (by decide))).below hb (Nat.le_refl _)),(fun h'=>h.f6 (listed_set h' (by decide))),(fun h'=>(let ⟨u0,u1,u2,u3,u4,b,ho⟩:=h.f7 (listed_set h' (by decide));⟨u0,u1,u2,u3,u4,b.below hb b.lt,ho.below hb (Nat.le_refl _)⟩)),(fun h'=>h.f8 (listed_set h' (by decide))),(fun _=>⟨still h12.1,still h12.2⟩),(fun h'=>⟨still (h.d4 (listed_set h' (by decide))).1,still (h.d4 (listed_set h' (by decide))).2⟩),(fun h'=>still (h.d5 (listed_set h' (by decide)))),(fun h'=>still (h.d7 (listed_set h' (by decide)))),h.low.trans (hb.mono hS),(fun h'=>let b:=h.lo (by rwa [listed_same (by decide)] at h');b.trans (hb.mono b.size)),(fun h'=>let b:=h.hz (by rwa [listed_same (by decide)] at h');b.below hb b.lt),Nat.le_trans h.sz hb.size⟩
theorem DDR.up4 (h:DDR V S B gz DV kd n mp rd rb l w s5 s19 s20 s21 s22 s23 s24 s25) (hsz:l.size=9) (hun:l.getD 4 false=false) (hgz:gz < B) (hSB:S≤B) (h03:l.getD 0 false=true∧l.getD 3 false=true) (hv:∃ x,v=.tuple #[x,.bool rb]∧OwnDk w' B x rd) (hb:Below B w w'):DDR V S B gz DV kd n mp rd rb (l.setIfInBounds 4 true) w' s5 s19 s20 s21 s22 v s24 s25 :=
 ⟨(fun h'=>h.f0 (listed_set h' (by decide))),(fun h'=>h.f1 (listed_set h' (by decide))),(fun h'=>h.f2 (listed_set h' (by decide))),(fun h'=>h.f3 (listed_set h' (by decide))),(fun _=>hv),(fun h'=>absurd (h.d5 (listed_set h' (by decide))) (by rw [hun];simp)),(fun h'=>h.f6 (listed_set h' (by decide))),(fun h'=>absurd (h.d7 (listed_set h' (by decide))) (by rw [hun];simp)),(fun h'=>h.f8 (listed_set h' (by decide))),(fun h'=>⟨still (h.d3 (listed_set h' (by decide))).1,still (h.d3 (listed_set h' (by decide))).2⟩),(fun _=>⟨still h03.1,still h03.2⟩),(fun h'=>still (h.d5 (listed_set h' (by decide)))),(fun h'=>still (h.d7 (listed_set h' (by decide)))),h.low.trans (hb.mono hSB),(fun h'=>by rw [listed_at (by omega)] at h';cases h'),(fun h'=>(h.hz (by rwa [listed_same (by decide)] at h')).below hb hgz),Nat.le_trans h.sz hb.size⟩
theorem DDR.up5 (h:DDR V S B gz DV kd n mp rd rb l w s5 s19 s20 s21 s22 s23 s24 s25) (h4:l.getD 4 false=true) (hv:OwnDk w B v rd):DDR V S B gz DV kd n mp rd rb (l.setIfInBounds 5 true) w s5 s19 s20 s21 s22 s23 v s25 :=
 ⟨(fun h'=>h.f0 (listed_set h' (by decide))),(fun h'=>h.f1 (listed_set h' (by decide))),(fun h'=>h.f2 (listed_set h' (by decide))),(fun h'=>h.f3 (listed_set h' (by decide))),(fun h'=>h.f4 (listed_set h' (by decide))),(fun _=>hv),(fun h'=>h.f6 (listed_set h' (by decide))),(fun h'=>h.f7 (listed_set h' (by decide))),(fun h'=>h.f8 (listed_set h' (by decide))),(fun h'=>⟨still (h.d3 (listed_set h' (by decide))).1,still (h.d3 (listed_set h' (by decide))).2⟩),(fun h'=>⟨still (h.d4 (listed_set h' (by decide))).1,still (h.d4 (listed_set h' (by decide))).2⟩),(fun _=>still h4),(fun h'=>still (h.d7 (listed_set h' (by decide)))),h.low,(fun h'=>h.lo (by rwa [listed_same (by decide)] at h')),(fun h'=>h.hz (by rwa [listed_same (by decide)] at h')),h.sz⟩
theorem DDR.up7 (h:DDR V S B gz DV kd n mp rd rb l w s5 s19 s20 s21 s22 s23 s24 s25) {u0 u1 u2 u3 u4:Value} (hsz:l.size=9) (hun:l.getD 7 false=false) (h4:l.getD 4 false=true) (hS:S≤gz) (hv:OwnDk w B (.agg #[u0,u1,u2,u3,u4]) rd):DDR V S B gz DV kd n mp rd rb (l.setIfInBounds 7 true) (((((w.setCell ⟨gz,0,none⟩ u0).setCell ⟨gz,1,none⟩ u1).setCell ⟨gz,2,none⟩ u2).setCell ⟨gz,3,none⟩ u3).setCell ⟨gz,4,none⟩ u4) s5 s19 s20 s21 s22 s23 s24 s25:=by
 have hz:=h.hz hun
 have HB:Blk (((((w.setCell ⟨gz,0,none⟩ u0).setCell ⟨gz,1,none⟩ u1).setCell ⟨gz,2,none⟩ u2).setCell ⟨gz,3,none⟩ u3).setCell ⟨gz,4,none⟩ u4) gz 33 #[u0,u1,u2,u3,u4]:=by
  have:=((((hz.set_ 0 u0).set_ 1 u1).set_ 2 u2).set_ 3 u3).set_ 4 u4
  simpa using this
 have HO:∀ {x:Value},OwnDk w B x rd→OwnDk (((((w.setCell ⟨gz,0,none⟩ u0).setCell ⟨gz,1,none⟩ u1).setCell ⟨gz,2,none⟩ u2).setCell ⟨gz,3,none⟩ u3).setCell ⟨gz,4,none⟩ u4) B x rd:=fun {x} ho=>by
  obtain ⟨A1,c1,A2,c2,A3,c3,A5,c5,rfl,-⟩:=ho.dsk.ex;exact own_dk5t ho hz
 have HL:Below S V (((((w.setCell ⟨gz,0,none⟩ u0).setCell ⟨gz,1,none⟩ u1).setCell ⟨gz,2,none⟩ u2).setCell ⟨gz,3,none⟩ u3).setCell ⟨gz,4,none⟩ u4):=below_dk5 h.low hS;exact ⟨(fun h'=>h.f0 (listed_set h' (by decide))),(fun h'=>h.f1 (listed_set h' (by decide))),(fun h'=>h.f2 (listed_set h' (by decide))),(fun h'=>h.f3 (listed_set h' (by decide))),(fun h'=>(let ⟨x,e,ho⟩:=h.f4 (listed_set h' (by decide));⟨x,e,HO ho⟩)),(fun h'=>HO (h.f5 (listed_set h' (by decide)))),(fun h'=>h.f6 (listed_set h' (by decide))),(fun _=>⟨_,_,_,_,_,HB,HO hv⟩),(fun h'=>h.f8 (listed_set h' (by decide))),(fun h'=>⟨still (h.d3 (listed_set h' (by decide))).1,still (h.d3 (listed_set h' (by decide))).2⟩),(fun h'=>⟨still (h.d4 (listed_set h' (by decide))).1,still (h.d4 (listed_set h' (by decide))).2⟩),(fun h'=>still (h.d5 (listed_set h' (by decide)))),(fun _=>still h4),HL,(fun h'=>by rw [listed_same (by decide),h4] at h';cases h'),(fun h'=>by rw [listed_at (by omega)] at h';cases h'),by simpa using h.sz⟩
end
set_option maxRecDepth 100000 in
set_option maxHeartbeats 8000000 in
theorem implDeskDo_any (v:Value) (d:Dk) (a:Dd) (w:World) (h:Dsk w v d) (hf:d.Fine) :
 Calls Tryz.prog 53 #[v,.agg #[.int .i64 a.kind,.int .i64 a.n]] w (RetDkB w (dkDo d a).1 (dkDo d a).2):=by
 obtain ⟨A1,c1,A2,c2,A3,c3,A5,c5,rfl,-⟩:=h.ex;obtain ⟨kd,n⟩:=a
 dsimp only
 have hB:=(((Below.refl w.heap.size w).alloc (Nat.le_refl _) (.cells #[.slice A1 d.t.us.length c1,.slice A2 d.t.bs.length c2,.slice A3 d.t.ns.length c3,.int .i64 d.now,.slice A5 d.past.length c5] 33)).alloc (by simp) (.cells #[.int .i64 kd,.int .i64 n] 41)).alloc (by simp;omega) (.cells #[.slice none 0 0,.slice none 0 0,.slice none 0 0,.int .i64 0,.slice none 0 0] 33);have HX:=((Blk.new w 33 #[.slice A1 d.t.us.length c1,.slice A2 d.t.bs.length c2,.slice A3 d.t.ns.length c3,.int .i64 d.now,.slice A5 d.past.length c5]).alloc (.cells #[.int .i64 kd,.int .i64 n] 41)).alloc (.cells #[.slice none 0 0,.slice none 0 0,.slice none 0 0,.int .i64 0,.slice none 0 0] 33);have HY:Blk (((w.alloc (.cells #[.slice A1 d.t.us.length c1,.slice A2 d.t.bs.length c2,.slice A3 d.t.ns.length c3,.int .i64 d.now,.slice A5 d.past.length c5] 33)).alloc (.cells #[.int .i64 kd,.int .i64 n] 41)).alloc (.cells #[.slice none 0 0,.slice none 0 0,.slice none 0 0,.int .i64 0,.slice none 0 0] 33)) (w.heap.size+1) 41 #[.int .i64 kd,.int .i64 n]:=(blk_new_at _ (by simp)).alloc _
 have HZ:Blk (((w.alloc (.cells #[.slice A1 d.t.us.length c1,.slice A2 d.t.bs.length c2,.slice A3 d.t.ns.length c3,.int .i64 d.now,.slice A5 d.past.length c5] 33)).alloc (.cells #[.int .i64 kd,.int .i64 n] 41)).alloc (.cells #[.slice none 0 0,.slice none 0 0,.slice none 0 0,.int .i64 0,.slice none 0 0] 33)) (w.heap.size+2) 33 #[.slice none 0 0,.slice none 0 0,.slice none 0 0,.int .i64 0,.slice none 0 0]:=blk_new_at _ (by simp);have HD:=h.below hB (Nat.le_refl _);have K1:=Lib.hid (implDeskOk_any _ d _ HD hf);have hno:=Lib.hid (do_no (d:=d) (a:=⟨kd,n⟩));have hback:=Lib.hid (do_back (d:=d) (a:=⟨kd,n⟩));have hput:=Lib.hid (do_put (d:=d) (a:=⟨kd,n⟩));have hdk:=Lib.hid ((dkOk_iff d).1);have hff:=Lib.hid hf;generalize hnb:dkOk d=nb at *;replace hnb:=Lib.hid hnb;replace hB:=Lib.hid hB;replace HX:=Lib.hid HX;replace HY:=Lib.hid HY;replace HZ:=Lib.hid HZ;replace HD:=Lib.hid HD;clear h hf;go_enter Tryz.func53,Tryz.ntmps53;go_upto_region 1 with (fail)
 generalize ((w.alloc (.cells #[.slice A1 d.t.us.length c1,.slice A2 d.t.bs.length c2,.slice A3 d.t.ns.length c3,.int .i64 d.now,.slice A5 d.past.length c5] 33)).alloc (.cells #[.int .i64 kd,.int .i64 n] 41)).alloc (.cells #[.slice none 0 0,.slice none 0 0,.slice none 0 0,.int .i64 0,.slice none 0 0] 33)=W at *;obtain ⟨⟨x0,x1,x2,x3,x4⟩,-⟩:=blk5 HX.out;go_wp2_with (fail);refine K1.out.mono ?_;rintro e w1 ⟨rfl,b1⟩;have hB1:=Lib.hid (hB.out.trans (b1.mono hB.out.size));have HX1:=Lib.hid (HX.out.below b1 HX.out.lt);have HY1:=Lib.hid (HY.out.below b1 HY.out.lt);have HZ1:=Lib.hid (HZ.out.below b1 HZ.out.lt);have HD1:=Lib.hid (HD.out.below b1 (Nat.le_refl _));clear x0 x1 x2 x3 x4 K1 b1 HX HY HZ HD hB;cases nb
 · have hg:=Lib.hid (hno.out rfl);obtain ⟨⟨z0,z1,z2,z3,z4⟩,⟨e0,e1,e2,e3,e4⟩⟩:=blk5 HZ1.out;have HF:=fun u0 u1 u2 u3 u4=>own_dk5 (w:=w1) (B:=w.heap.size) (g:=w.heap.size+2) (v1:=.slice none 0 0) (v2:=.slice none 0 0) (v3:=.slice none 0 0) (v5:=.slice none 0 0) (u0:=u0) (u1:=u1) (u2:=u2) (u3:=u3) (u4:=u4) (now:=0) (d:=noDk) rfl (own_noTg w1 _) (owns_none _ _ _) (fun k hk=>by simp [Value.ownBlock] at hk) HZ1.out
   have HG:=fun u0 u1 u2 u3 u4=>below_dk5 (u0:=u0) (u1:=u1) (u2:=u2) (u3:=u3) (u4:=u4) (g:=w.heap.size+2) hB1.out (by omega)
   replace HF:=Lib.hid HF;replace HG:=Lib.hid HG;clear HX1 HY1 HZ1 HD1 hno hback hput hdk;go_wp2;refine bodyPost_ret (v:=.tuple #[.agg #[.slice none 0 0,.slice none 0 0,.slice none 0 0,.int .i64 0,.slice none 0 0],.bool false]) (by simp [results,Tryz.results53,go_sem,z0,z1,z2,z3,z4]) rfl ?_;rw [hg.out];exact ⟨_,rfl,(HF.out _ _ _ _ _).own,HG.out _ _ _ _ _⟩
 · obtain ⟨d1,d2,d3⟩:=hdk.out rfl;have hnow:=named_bd d1;have hbd:=madeP_bd d ⟨kd,n⟩ hnow;have K2:=Lib.hid (copiedDesk_any _ d w1 HD1.out hff.out);obtain ⟨⟨x0,x1,x2,x3,x4⟩,⟨f0,f1,f2,f3,f4⟩⟩:=blk5 HX1.out;have hs1:=HZ1.out.lt;clear d1 d2 HD1 hno hdk;go_wp2_with (go_at_call 51;refine K2.out.mono ?_;rintro e w2 ⟨v2,rfl,o2,b2⟩;obtain ⟨X1,k1,X2,k2,X3,k3,X5,k5,rfl⟩:=o2.shape;refine Hid.out ?_);have HX2:=HX1.out.below b2 HX1.out.lt;have HY2:=HY1.out.below b2 HY1.out.lt;have HZ2:=HZ1.out.below b2 HZ1.out.lt;have hB2:=hB1.out.trans (b2.mono hB1.out.size);have hs2:=b2.size;obtain ⟨y1,y2,y3,y5,ee,ht,h5,ap⟩:=o2.ex;cases ee;have HF0:=fun u0 u1 u2 u3 u4=>own_dk5 (u0:=u0) (u1:=u1) (u2:=u2) (u3:=u3) (u4:=u4) (now:=d.now) (d:=d) rfl ht h5 ap HX2
   have HG0:=fun u0 u1 u2 u3 u4=>below_dk5 (u0:=u0) (u1:=u1) (u2:=u2) (u3:=u3) (u4:=u4) (g:=w.heap.size) hB2 (Nat.le_refl _)
   clear x0 x1 x2 x3 x4 f0 f1 f2 f3 f4;obtain ⟨⟨x0,x1,x2,x3,x4⟩,⟨f0,f1,f2,f3,f4⟩⟩:=blk5 HX2;have XA:=((((HX2.set_ 0 (.slice X1 d.t.us.length k1)).set_ 1 (.slice X2 d.t.bs.length k2)).set_ 2 (.slice X3 d.t.ns.length k3)).set_ 3 (.int .i64 d.now)).set_ 4 (.slice X5 d.past.length k5);simp at XA;have YA:=((((HY2.far (p:=⟨w.heap.size,0,none⟩) (by simp) (.slice X1 d.t.us.length k1)).far (p:=⟨w.heap.size,1,none⟩) (by simp) (.slice X2 d.t.bs.length k2)).far (p:=⟨w.heap.size,2,none⟩) (by simp) (.slice X3 d.t.ns.length k3)).far (p:=⟨w.heap.size,3,none⟩) (by simp) (.int .i64 d.now)).far (p:=⟨w.heap.size,4,none⟩) (by simp) (.slice X5 d.past.length k5);have ZA:=((((HZ2.far (p:=⟨w.heap.size,0,none⟩) (by simp) (.slice X1 d.t.us.length k1)).far (p:=⟨w.heap.size,1,none⟩) (by simp) (.slice X2 d.t.bs.length k2)).far (p:=⟨w.heap.size,2,none⟩) (by simp) (.slice X3 d.t.ns.length k3)).far (p:=⟨w.heap.size,3,none⟩) (by simp) (.int .i64 d.now)).far (p:=⟨w.heap.size,4,none⟩) (by simp) (.slice X5 d.past.length k5);have OA:=HF0 (.slice X1 d.t.us.length k1) (.slice X2 d.t.bs.length k2) (.slice X3 d.t.ns.length k3) (.int .i64 d.now) (.slice X5 d.past.length k5);have BA:=HG0 (.slice X1 d.t.us.length k1) (.slice X2 d.t.bs.length k2) (.slice X3 d.t.ns.length k3) (.int .i64 d.now) (.slice X5 d.past.length k5)
   have hsV:w1.heap.size≤(((((w2.setCell ⟨w.heap.size,0,none⟩ (.slice X1 d.t.us.length k1)).setCell ⟨w.heap.size,1,none⟩ (.slice X2 d.t.bs.length k2)).setCell ⟨w.heap.size,2,none⟩ (.slice X3 d.t.ns.length k3)).setCell ⟨w.heap.size,3,none⟩ (.int .i64 d.now)).setCell ⟨w.heap.size,4,none⟩ (.slice X5 d.past.length k5)).heap.size:=by simpa using hs2
   replace XA:=Lib.hid XA;replace YA:=Lib.hid YA;replace ZA:=Lib.hid ZA;replace OA:=Lib.hid OA;replace BA:=Lib.hid BA;replace hsV:=Lib.hid hsV;clear HF0 HG0 HX2 HY2 HZ2 hB2 o2 b2 ht h5 ap K2 HX1 HY1 HZ1 hB1;refine Lib.hid ?_;go_upto_region 4 with (fail)
   generalize ((((w2.setCell ⟨w.heap.size,0,none⟩ (.slice X1 d.t.us.length k1)).setCell ⟨w.heap.size,1,none⟩ (.slice X2 d.t.bs.length k2)).setCell ⟨w.heap.size,2,none⟩ (.slice X3 d.t.ns.length k3)).setCell ⟨w.heap.size,3,none⟩ (.int .i64 d.now)).setCell ⟨w.heap.size,4,none⟩ (.slice X5 d.past.length k5)=V at *;clear x0 x1 x2 x3 x4 f0 f1 f2 f3 f4;obtain ⟨⟨x0,x1,x2,x3,x4⟩,-⟩:=blk5 XA.out;have yc0:V.cell? ⟨w.heap.size+1,0,none⟩=some (.int .i64 kd):=YA.out.cell 0;have yc1:V.cell? ⟨w.heap.size+1,1,none⟩=some (.int .i64 n):=YA.out.cell 1
   by_cases hk:kd=4∧n=0
   · have hg:=Lib.hid (hback.out (by simp) hk);obtain ⟨ek,en⟩:=hk;have K3:=Lib.hid (putBack_any w1.heap.size _ d V OA.out hff.out);rw [ek] at yc0;rw [en] at yc1;replace ek:=Lib.hid ek;replace en:=Lib.hid en;clear hback hput;go_wp2_with (go_at_call 107;refine K3.out.mono ?_;rintro e w3 ⟨v3,rfl,o3,b3⟩;obtain ⟨Y1,j1,Y2,j2,Y3,j3,Y5,j5,rfl,-⟩:=o3.dsk.ex;refine Hid.out ?_);have ZB:=ZA.out.below b3 ZA.out.lt;have BB:=BA.out.trans (b3.mono BA.out.size);obtain ⟨⟨z0,z1,z2,z3,z4⟩,⟨e0,e1,e2,e3,e4⟩⟩:=blk5 ZB;have HF:=fun u0 u1 u2 u3 u4=>(own_dk5t (u0:=u0) (u1:=u1) (u2:=u2) (u3:=u3) (u4:=u4) o3 ZB).mono (B':=w.heap.size) (by omega)
     have HG:=fun u0 u1 u2 u3 u4=>below_dk5 (u0:=u0) (u1:=u1) (u2:=u2) (u3:=u3) (u4:=u4) (g:=w.heap.size+2) BB (by omega)
     generalize backD d=bd at *;replace HF:=Lib.hid HF;replace HG:=Lib.hid HG;clear x0 x1 x2 x3 x4 yc0 yc1 o3 b3 ZB BB K3;refine Lib.hid ?_;go_wp2;refine bodyPost_ret (v:=.tuple #[.agg #[.slice Y1 bd.1.t.us.length j1,.slice Y2 bd.1.t.bs.length j2,.slice Y3 bd.1.t.ns.length j3,.int .i64 bd.1.now,.slice Y5 bd.1.past.length j5],.bool bd.2]) (by simp [results,Tryz.results53,go_sem,z0,z1,z2,z3,z4]) rfl ?_;rw [hg.out];exact ⟨_,rfl,HF.out _ _ _ _ _,HG.out _ _ _ _ _⟩
   · by_cases e4:kd=4
     · subst e4;have hn0:¬ n=0:=fun e=>hk ⟨rfl,e⟩
       have hn1:(n==0)=false:=by simpa using hn0
       have hg:=Lib.hid ((hput.out (by simp) hk).trans (put_made d _).symm);have HVd:=OA.out.own.dsk;have K3:=Lib.hid (fun W (hb:Below V.heap.size V W)=>numberBy_any _ d ⟨4,n⟩ W (HVd.below hb (Nat.le_refl _)) hff.out hnow);have K4:=Lib.hid (fun W (hb:Below V.heap.size V W)=>putInstead_any w1.heap.size _ d (madeP d ⟨4,n⟩) W (OA.out.below hb (Nat.le_refl _)) hff.out (Nat.le_trans hsV.out hb.size) d3 (by omega));generalize madeP d ⟨4,n⟩=mp at *;generalize putD d mp=bd at *;clear HVd hback hput;have hXc:=Lib.hid (fun W (b:Below V.heap.size V W)=>(blk5 (XA.out.below b XA.out.lt)).1);have hYc:=Lib.hid (fun W (b:Below V.heap.size V W)=>(⟨(YA.out.below b YA.out.lt).cell 0,(YA.out.below b YA.out.lt).cell 1⟩:W.cell? ⟨w.heap.size+1,0,none⟩=some (.int .i64 (4))∧W.cell? ⟨w.heap.size+1,1,none⟩=some (.int .i64 n)));have hsv:=hsV.out;have hBs:w.heap.size≤V.heap.size:=by omega
       go_upto_region 6 with (fail)
       clear x0 x1 x2 x3 x4 yc0 yc1 XA YA hk;refine wp_region_any (by kernel_rfl) ?_;refine wpAny_inv (Inv:=fun l a' w'=>∃ (s5 s19 s20 s21 s22 s23 s24 s25:Value),a'=⟨#[.agg #[.slice A1 d.t.us.length c1,.slice A2 d.t.bs.length c2,.slice A3 d.t.ns.length c3,.int .i64 d.now,.slice A5 d.past.length c5],.agg #[.int .i64 4,.int .i64 n],.pointer (some ⟨w.heap.size,0,none⟩),.pointer (some ⟨w.heap.size+1,0,none⟩),.pointer (some ⟨w.heap.size+2,0,none⟩),s5,.agg #[.slice A1 d.t.us.length c1,.slice A2 d.t.bs.length c2,.slice A3 d.t.ns.length c3,.int .i64 d.now,.slice A5 d.past.length c5],.bool true,.bool false,undef,.agg #[.slice A1 d.t.us.length c1,.slice A2 d.t.bs.length c2,.slice A3 d.t.ns.length c3,.int .i64 d.now,.slice A5 d.past.length c5],.agg #[.slice X1 d.t.us.length k1,.slice X2 d.t.bs.length k2,.slice X3 d.t.ns.length k3,.int .i64 d.now,.slice X5 d.past.length k5],.agg #[.int .i64 4,.int .i64 n],.agg #[.int .i64 4,.int .i64 0],.bool false,undef,undef,undef,undef,s19,s20,s21,s22,s23,s24,s25],[]⟩∧DDR V w.heap.size w1.heap.size (w.heap.size+2) (.agg #[.slice X1 d.t.us.length k1,.slice X2 d.t.bs.length k2,.slice X3 d.t.ns.length k3,.int .i64 d.now,.slice X5 d.past.length k5]) 4 n mp bd.1 bd.2 l w' s5 s19 s20 s21 s22 s23 s24 s25) (ord_spec (by kernel_rfl)) ?_ ?_ _ _ _ _ rfl (by decide) ?_
       · rintro l a' w' ⟨s5,s19,s20,s21,s22,s23,s24,s25,rfl,hF⟩ hsz hl;have hl':∀ j,j < 9→l.getD j false=true:=hl;obtain ⟨u0,u1,u2,u3,u4,HB,HO⟩:=hF.f7 (hl' 7 (by decide));have e8:=hF.f8 (hl' 8 (by decide));subst e8;obtain ⟨z0,z1,z2,z3,z4⟩:=(blk5 HB).1
         have HR:RetDkB w (dkDo d ⟨4,n⟩).1 (dkDo d ⟨4,n⟩).2 (.returned (.tuple #[.agg #[u0,u1,u2,u3,u4],.bool bd.2])) w':=by
          rw [hg.out];exact ⟨_,rfl,HO.mono (by omega),BA.out.trans hF.low⟩
         replace HR:=Lib.hid HR;clear hF hl hl' HB HO;go_wp2;refine bodyPost_ret (v:=.tuple #[.agg #[u0,u1,u2,u3,u4],.bool bd.2]) (by simp [results,Tryz.results53,go_sem,z0,z1,z2,z3,z4]) rfl ?_;exact HR.out
       · rintro l a' w' ⟨s5,s19,s20,s21,s22,s23,s24,s25,rfl,hF⟩ hsz i o hlt ho hun hall;have hlt':i < 9:=hlt;refine wpOp_step ho (fun K' hK=>?_);replace hK:=Lib.hid hK;obtain rfl | rfl | rfl | rfl | rfl | rfl | rfl | rfl | rfl:i=0∨i=1∨i=2∨i=3∨i=4∨i=5∨i=6∨i=7∨i=8:=by omega
         · simp only [List.getElem?_toArray,List.getElem?_cons_zero,Option.some.injEq] at ho;subst ho;have hbl:=hF.lo (hF.no4a hun);obtain ⟨p0,p1,p2,p3,p4⟩:=hXc.out _ hbl;replace hF:=Lib.hid hF;clear hall;go_simp;refine hK.out _ _ ?_;exact ⟨_,_,_,_,_,_,_,_,rfl,hF.out.up0 rfl⟩
         · simp only [List.getElem?_toArray,List.getElem?_cons_succ,List.getElem?_cons_zero,Option.some.injEq] at ho;subst ho;have hbl:=hF.lo (hF.no4b (hF.no3 (.inl hun)));obtain ⟨p0,p1,p2,p3,p4⟩:=hXc.out _ hbl;replace hF:=Lib.hid hF;clear hall;go_simp;refine hK.out _ _ ?_;exact ⟨_,_,_,_,_,_,_,_,rfl,hF.out.up1 rfl⟩
         · simp only [List.getElem?_toArray,List.getElem?_cons_succ,List.getElem?_cons_zero,Option.some.injEq] at ho;subst ho;have hbl:=hF.lo (hF.no4b (hF.no3 (.inr hun)));obtain ⟨q0,q1⟩:=hYc.out _ hbl;replace hF:=Lib.hid hF;clear hall;go_simp;refine hK.out _ _ ?_;exact ⟨_,_,_,_,_,_,_,_,rfl,hF.out.up2 rfl⟩
         · simp only [List.getElem?_toArray,List.getElem?_cons_succ,List.getElem?_cons_zero,Option.some.injEq] at ho;subst ho;have h1:=(hall ⟨1,Ground.data⟩ (by simp) rfl);have h2:=(hall ⟨2,Ground.data⟩ (by simp) rfl);have e1:=hF.f1 h1;subst e1;have e2:=hF.f2 h2;subst e2;have hbl:=hF.lo (hF.no4b hun);have hsz1:=hF.sz;have KK:=Lib.hid (K3.out _ hbl);replace hF:=Lib.hid hF;clear hall;go_simp;go_at_call 109;refine KK.out.mono ?_;rintro e V2 ⟨rfl,b3⟩;go_simp;refine hK.out _ _ ?_;exact ⟨_,_,_,_,_,_,_,_,rfl,hF.out.up3 (by omega) ⟨h1,h2⟩ rfl b3⟩
         · simp only [List.getElem?_toArray,List.getElem?_cons_succ,List.getElem?_cons_zero,Option.some.injEq] at ho;subst ho;have h0:=(hall ⟨0,Ground.data⟩ (by simp) rfl);have h3:=(hall ⟨3,Ground.data⟩ (by simp) rfl);have e1:=hF.f0 h0;subst e1;have e2:=hF.f3 h3;subst e2;have hbl:=hF.lo hun;have KK:=Lib.hid (K4.out _ hbl);replace hF:=Lib.hid hF;clear hall;go_simp;go_at_call 108;refine KK.out.mono ?_;rintro e V3 ⟨v3,rfl,o3,b4⟩;go_simp;refine hK.out _ _ ?_;exact ⟨_,_,_,_,_,_,_,_,rfl,hF.out.up4 hsz hun (by omega) (by omega) ⟨h0,h3⟩ ⟨_,rfl,o3⟩ b4⟩
         · simp only [List.getElem?_toArray,List.getElem?_cons_succ,List.getElem?_cons_zero,Option.some.injEq] at ho;subst ho;have h4:=(hall ⟨4,Ground.data⟩ (by simp) rfl);obtain ⟨x,e1,o3⟩:=hF.f4 h4;subst e1;replace o3:=Lib.hid o3;replace hF:=Lib.hid hF;clear hall;go_simp;refine hK.out _ _ ?_;exact ⟨_,_,_,_,_,_,_,_,rfl,hF.out.up5 h4 o3.out⟩
         · simp only [List.getElem?_toArray,List.getElem?_cons_succ,List.getElem?_cons_zero,Option.some.injEq] at ho;subst ho;have h4:=(hall ⟨4,Ground.data⟩ (by simp) rfl);obtain ⟨x,e1,-⟩:=hF.f4 h4;subst e1;replace hF:=Lib.hid hF;clear hall;go_simp;refine hK.out _ _ ?_;exact ⟨_,_,_,_,_,_,_,_,rfl,hF.out.up6 rfl⟩
         · simp only [List.getElem?_toArray,List.getElem?_cons_succ,List.getElem?_cons_zero,Option.some.injEq] at ho;subst ho;have h5:=(hall ⟨5,Ground.data⟩ (by simp) rfl);have h4:=hF.d5 h5;have o3:=hF.f5 h5;obtain ⟨Y1,j1,Y2,j2,Y3,j3,Y5,j5,e1,-⟩:=o3.dsk.ex;subst e1;obtain ⟨⟨z0,z1,z2,z3,z4⟩,⟨e0,e1,e2,e3,e4⟩⟩:=blk5 (hF.hz hun);replace o3:=Lib.hid o3;replace hF:=Lib.hid hF;clear hall;go_simp;refine hK.out _ _ ?_;exact ⟨_,_,_,_,_,_,_,_,rfl,hF.out.up7 hsz hun h4 (by omega) o3.out⟩
         · simp only [List.getElem?_toArray,List.getElem?_cons_succ,List.getElem?_cons_zero,Option.some.injEq] at ho;subst ho;have e1:=hF.f6 (hall ⟨6,Ground.data⟩ (by simp) rfl);subst e1;replace hF:=Lib.hid hF;clear hall;go_simp;refine hK.out _ _ ?_;exact ⟨_,_,_,_,_,_,_,_,rfl,hF.out.up8 rfl⟩
       · exact ⟨_,_,_,_,_,_,_,_,rfl,(fun h=>by simp at h),(fun h=>by simp at h),(fun h=>by simp at h),(fun h=>by simp at h),(fun h=>by simp at h),(fun h=>by simp at h),(fun h=>by simp at h),(fun h=>by simp at h),(fun h=>by simp at h),(fun h=>by simp at h),(fun h=>by simp at h),(fun h=>by simp at h),(fun h=>by simp at h),(Below.refl _ _).drew,(fun _=>(Below.refl _ _).drew),(fun _=>ZA.out.drew),hsV.out⟩
     · have q4:(kd==4)=false:=by simpa using e4
       have hg:=Lib.hid ((hput.out (by simp) hk).trans (put_made d _).symm);have HVd:=OA.out.own.dsk;have K3:=Lib.hid (fun W (hb:Below V.heap.size V W)=>numberBy_any _ d ⟨kd,n⟩ W (HVd.below hb (Nat.le_refl _)) hff.out hnow);have K4:=Lib.hid (fun W (hb:Below V.heap.size V W)=>putInstead_any w1.heap.size _ d (madeP d ⟨kd,n⟩) W (OA.out.below hb (Nat.le_refl _)) hff.out (Nat.le_trans hsV.out hb.size) d3 (by omega));generalize madeP d ⟨kd,n⟩=mp at *;generalize putD d mp=bd at *;clear HVd hback hput;have hXc:=Lib.hid (fun W (b:Below V.heap.size V W)=>(blk5 (XA.out.below b XA.out.lt)).1);have hYc:=Lib.hid (fun W (b:Below V.heap.size V W)=>(⟨(YA.out.below b YA.out.lt).cell 0,(YA.out.below b YA.out.lt).cell 1⟩:W.cell? ⟨w.heap.size+1,0,none⟩=some (.int .i64 (kd))∧W.cell? ⟨w.heap.size+1,1,none⟩=some (.int .i64 n)));have hsv:=hsV.out;have hBs:w.heap.size≤V.heap.size:=by omega
       go_upto_region 6 with (fail)
       clear x0 x1 x2 x3 x4 yc0 yc1 XA YA hk;refine wp_region_any (by kernel_rfl) ?_;refine wpAny_inv (Inv:=fun l a' w'=>∃ (s5 s19 s20 s21 s22 s23 s24 s25:Value),a'=⟨#[.agg #[.slice A1 d.t.us.length c1,.slice A2 d.t.bs.length c2,.slice A3 d.t.ns.length c3,.int .i64 d.now,.slice A5 d.past.length c5],.agg #[.int .i64 kd,.int .i64 n],.pointer (some ⟨w.heap.size,0,none⟩),.pointer (some ⟨w.heap.size+1,0,none⟩),.pointer (some ⟨w.heap.size+2,0,none⟩),s5,.agg #[.slice A1 d.t.us.length c1,.slice A2 d.t.bs.length c2,.slice A3 d.t.ns.length c3,.int .i64 d.now,.slice A5 d.past.length c5],.bool true,.bool false,undef,.agg #[.slice A1 d.t.us.length c1,.slice A2 d.t.bs.length c2,.slice A3 d.t.ns.length c3,.int .i64 d.now,.slice A5 d.past.length c5],.agg #[.slice X1 d.t.us.length k1,.slice X2 d.t.bs.length k2,.slice X3 d.t.ns.length k3,.int .i64 d.now,.slice X5 d.past.length k5],.agg #[.int .i64 kd,.int .i64 n],.agg #[.int .i64 4,.int .i64 0],.bool false,undef,undef,undef,undef,s19,s20,s21,s22,s23,s24,s25],[]⟩∧DDR V w.heap.size w1.heap.size (w.heap.size+2) (.agg #[.slice X1 d.t.us.length k1,.slice X2 d.t.bs.length k2,.slice X3 d.t.ns.length k3,.int .i64 d.now,.slice X5 d.past.length k5]) kd n mp bd.1 bd.2 l w' s5 s19 s20 s21 s22 s23 s24 s25) (ord_spec (by kernel_rfl)) ?_ ?_ _ _ _ _ rfl (by decide) ?_
       · rintro l a' w' ⟨s5,s19,s20,s21,s22,s23,s24,s25,rfl,hF⟩ hsz hl;have hl':∀ j,j < 9→l.getD j false=true:=hl;obtain ⟨u0,u1,u2,u3,u4,HB,HO⟩:=hF.f7 (hl' 7 (by decide));have e8:=hF.f8 (hl' 8 (by decide));subst e8;obtain ⟨z0,z1,z2,z3,z4⟩:=(blk5 HB).1
         have HR:RetDkB w (dkDo d ⟨kd,n⟩).1 (dkDo d ⟨kd,n⟩).2 (.returned (.tuple #[.agg #[u0,u1,u2,u3,u4],.bool bd.2])) w':=by
          rw [hg.out];exact ⟨_,rfl,HO.mono (by omega),BA.out.trans hF.low⟩
         replace HR:=Lib.hid HR;clear hF hl hl' HB HO;go_wp2;refine bodyPost_ret (v:=.tuple #[.agg #[u0,u1,u2,u3,u4],.bool bd.2]) (by simp [results,Tryz.results53,go_sem,z0,z1,z2,z3,z4]) rfl ?_;exact HR.out
       · rintro l a' w' ⟨s5,s19,s20,s21,s22,s23,s24,s25,rfl,hF⟩ hsz i o hlt ho hun hall;have hlt':i < 9:=hlt;refine wpOp_step ho (fun K' hK=>?_);replace hK:=Lib.hid hK;obtain rfl | rfl | rfl | rfl | rfl | rfl | rfl | rfl | rfl:i=0∨i=1∨i=2∨i=3∨i=4∨i=5∨i=6∨i=7∨i=8:=by omega
         · simp only [List.getElem?_toArray,List.getElem?_cons_zero,Option.some.injEq] at ho;subst ho;have hbl:=hF.lo (hF.no4a hun);obtain ⟨p0,p1,p2,p3,p4⟩:=hXc.out _ hbl;replace hF:=Lib.hid hF;clear hall;go_simp;refine hK.out _ _ ?_;exact ⟨_,_,_,_,_,_,_,_,rfl,hF.out.up0 rfl⟩
         · simp only [List.getElem?_toArray,List.getElem?_cons_succ,List.getElem?_cons_zero,Option.some.injEq] at ho;subst ho;have hbl:=hF.lo (hF.no4b (hF.no3 (.inl hun)));obtain ⟨p0,p1,p2,p3,p4⟩:=hXc.out _ hbl;replace hF:=Lib.hid hF;clear hall;go_simp;refine hK.out _ _ ?_;exact ⟨_,_,_,_,_,_,_,_,rfl,hF.out.up1 rfl⟩
         · simp only [List.getElem?_toArray,List.getElem?_cons_succ,List.getElem?_cons_zero,Option.some.injEq] at ho;subst ho;have hbl:=hF.lo (hF.no4b (hF.no3 (.inr hun)));obtain ⟨q0,q1⟩:=hYc.out _ hbl;replace hF:=Lib.hid hF;clear hall;go_simp;refine hK.out _ _ ?_;exact ⟨_,_,_,_,_,_,_,_,rfl,hF.out.up2 rfl⟩
         · simp only [List.getElem?_toArray,List.getElem?_cons_succ,List.getElem?_cons_zero,Option.some.injEq] at ho;subst ho;have h1:=(hall ⟨1,Ground.data⟩ (by simp) rfl);have h2:=(hall ⟨2,Ground.data⟩ (by simp) rfl);have e1:=hF.f1 h1;subst e1;have e2:=hF.f2 h2;subst e2;have hbl:=hF.lo (hF.no4b hun);have hsz1:=hF.sz;have KK:=Lib.hid (K3.out _ hbl);replace hF:=Lib.hid hF;clear hall;go_simp;go_at_call 109;refine KK.out.mono ?_;rintro e V2 ⟨rfl,b3⟩;go_simp;refine hK.out _ _ ?_;exact ⟨_,_,_,_,_,_,_,_,rfl,hF.out.up3 (by omega) ⟨h1,h2⟩ rfl b3⟩
         · simp only [List.getElem?_toArray,List.getElem?_cons_succ,List.getElem?_cons_zero,Option.some.injEq] at ho;subst ho;have h0:=(hall ⟨0,Ground.data⟩ (by simp) rfl);have h3:=(hall ⟨3,Ground.data⟩ (by simp) rfl);have e1:=hF.f0 h0;subst e1;have e2:=hF.f3 h3;subst e2;have hbl:=hF.lo hun;have KK:=Lib.hid (K4.out _ hbl);replace hF:=Lib.hid hF;clear hall;go_simp;go_at_call 108;refine KK.out.mono ?_;rintro e V3 ⟨v3,rfl,o3,b4⟩;go_simp;refine hK.out _ _ ?_;exact ⟨_,_,_,_,_,_,_,_,rfl,hF.out.up4 hsz hun (by omega) (by omega) ⟨h0,h3⟩ ⟨_,rfl,o3⟩ b4⟩
         · simp only [List.getElem?_toArray,List.getElem?_cons_succ,List.getElem?_cons_zero,Option.some.injEq] at ho;subst ho;have h4:=(hall ⟨4,Ground.data⟩ (by simp) rfl);obtain ⟨x,e1,o3⟩:=hF.f4 h4;subst e1;replace o3:=Lib.hid o3;replace hF:=Lib.hid hF;clear hall;go_simp;refine hK.out _ _ ?_;exact ⟨_,_,_,_,_,_,_,_,rfl,hF.out.up5 h4 o3.out⟩
         · simp only [List.getElem?_toArray,List.getElem?_cons_succ,List.getElem?_cons_zero,Option.some.injEq] at ho;subst ho;have h4:=(hall ⟨4,Ground.data⟩ (by simp) rfl);obtain ⟨x,e1,-⟩:=hF.f4 h4;subst e1;replace hF:=Lib.hid hF;clear hall;go_simp;refine hK.out _ _ ?_;exact ⟨_,_,_,_,_,_,_,_,rfl,hF.out.up6 rfl⟩
         · simp only [List.getElem?_toArray,List.getElem?_cons_succ,List.getElem?_cons_zero,Option.some.injEq] at ho;subst ho;have h5:=(hall ⟨5,Ground.data⟩ (by simp) rfl);have h4:=hF.d5 h5;have o3:=hF.f5 h5;obtain ⟨Y1,j1,Y2,j2,Y3,j3,Y5,j5,e1,-⟩:=o3.dsk.ex;subst e1;obtain ⟨⟨z0,z1,z2,z3,z4⟩,⟨e0,e1,e2,e3,e4⟩⟩:=blk5 (hF.hz hun);replace o3:=Lib.hid o3;replace hF:=Lib.hid hF;clear hall;go_simp;refine hK.out _ _ ?_;exact ⟨_,_,_,_,_,_,_,_,rfl,hF.out.up7 hsz hun h4 (by omega) o3.out⟩
         · simp only [List.getElem?_toArray,List.getElem?_cons_succ,List.getElem?_cons_zero,Option.some.injEq] at ho;subst ho;have e1:=hF.f6 (hall ⟨6,Ground.data⟩ (by simp) rfl);subst e1;replace hF:=Lib.hid hF;clear hall;go_simp;refine hK.out _ _ ?_;exact ⟨_,_,_,_,_,_,_,_,rfl,hF.out.up8 rfl⟩
       · exact ⟨_,_,_,_,_,_,_,_,rfl,(fun h=>by simp at h),(fun h=>by simp at h),(fun h=>by simp at h),(fun h=>by simp at h),(fun h=>by simp at h),(fun h=>by simp at h),(fun h=>by simp at h),(fun h=>by simp at h),(fun h=>by simp at h),(fun h=>by simp at h),(fun h=>by simp at h),(fun h=>by simp at h),(fun h=>by simp at h),(Below.refl _ _).drew,(fun _=>(Below.refl _ _).drew),(fun _=>ZA.out.drew),hsV.out⟩
end
section
open Go.RowKit
def RetDkT (w:World) (d:Dk) (s:ByteArray) (e:Ending) (w':World):Prop:=∃ v,e=.returned (.tuple #[v,.string s])∧OwnDk w' w.heap.size v d∧Below w.heap.size w w'
def doneT (b:Bool):ByteArray:=if b=true then ⟨#[111,107]⟩ else ⟨#[110,111,116]⟩
set_option maxRecDepth 100000 in
set_option maxHeartbeats 8000000 in
theorem implDeskLine_deed (v:Value) (d:Dk) (s:ByteArray) (w:World) (h:Dsk w v d) (hf:d.Fine) (hk:dkOk d=true) (hs:s.size≤4000000) (hr:rdB (tl s)=true) (hT:LibT w) (hE:LibE w) :
 Calls Tryz.prog 14 #[v,.string s] w (RetDkT w (dkDo d (rdV (tl s))).1 (doneT (dkDo d (rdV (tl s))).2)):=by
 obtain ⟨A1,c1,A2,c2,A3,c3,A5,c5,rfl,-⟩:=h.ex;have hB:=((Below.refl w.heap.size w).alloc (Nat.le_refl _) (.cells #[.slice A1 d.t.us.length c1,.slice A2 d.t.bs.length c2,.slice A3 d.t.ns.length c3,.int .i64 d.now,.slice A5 d.past.length c5] 33)).alloc (by simp) (.cells #[.slice none 0 0,.slice none 0 0,.slice none 0 0,.int .i64 0,.slice none 0 0] 33);have HX:=(Blk.new w 33 #[.slice A1 d.t.us.length c1,.slice A2 d.t.bs.length c2,.slice A3 d.t.ns.length c3,.int .i64 d.now,.slice A5 d.past.length c5]).alloc (.cells #[.slice none 0 0,.slice none 0 0,.slice none 0 0,.int .i64 0,.slice none 0 0] 33);have HZ:Blk ((w.alloc (.cells #[.slice A1 d.t.us.length c1,.slice A2 d.t.bs.length c2,.slice A3 d.t.ns.length c3,.int .i64 d.now,.slice A5 d.past.length c5] 33)).alloc (.cells #[.slice none 0 0,.slice none 0 0,.slice none 0 0,.int .i64 0,.slice none 0 0] 33)) (w.heap.size+1) 33 #[.slice none 0 0,.slice none 0 0,.slice none 0 0,.int .i64 0,.slice none 0 0]:=blk_new_at _ (by simp);have HD:=h.below hB (Nat.le_refl _);have K1:=Lib.hid (implDeskOk_any _ d _ HD hf);rw [hk] at K1;replace hB:=Lib.hid hB;replace HX:=Lib.hid HX;replace HZ:=Lib.hid HZ;replace HD:=Lib.hid HD;replace hf:=Lib.hid hf;replace hk:=Lib.hid hk;clear h;go_enter Tryz.func14,Tryz.ntmps14;go_upto_region 1 with (fail)
 generalize (w.alloc (.cells #[.slice A1 d.t.us.length c1,.slice A2 d.t.bs.length c2,.slice A3 d.t.ns.length c3,.int .i64 d.now,.slice A5 d.past.length c5] 33)).alloc (.cells #[.slice none 0 0,.slice none 0 0,.slice none 0 0,.int .i64 0,.slice none 0 0] 33)=W at *;obtain ⟨⟨x0,x1,x2,x3,x4⟩,-⟩:=blk5 HX.out;go_wp2_with (go_at_call 23;refine K1.out.mono ?_;rintro e w1 ⟨rfl,b1⟩;refine Hid.out ?_);replace hB:=Lib.hid (hB.out.trans (b1.mono hB.out.size));replace HX:=Lib.hid (HX.out.below b1 HX.out.lt);replace HZ:=Lib.hid (HZ.out.below b1 HZ.out.lt);replace HD:=Lib.hid (HD.out.below b1 (Nat.le_refl _));clear x0 x1 x2 x3 x4 K1 b1;have KR:=implReadDeed_any s w1 hs (hT.below hB.out (Nat.le_refl _)) (hE.below hB.out (Nat.le_refl _));unfold RetRd at KR;rw [hr] at KR;replace hr:=Lib.hid hr;generalize rdV (tl s)=a at *;obtain ⟨xk,xn⟩:=a
 dsimp only at KR
 replace KR:=Lib.hid KR;refine Lib.hid ?_;go_wp2_with (go_at_call 45;refine KR.out.mono ?_;rintro e w2 ⟨rfl,b2⟩;refine Hid.out ?_);have hba:=b2.alloc b2.size (.cells #[.int .i64 xk,.int .i64 xn] 41);replace hB:=Lib.hid (hB.out.trans (hba.mono hB.out.size));replace HX:=Lib.hid (HX.out.below hba HX.out.lt);replace HZ:=Lib.hid (HZ.out.below hba HZ.out.lt);replace HD:=Lib.hid (HD.out.below hba (Nat.le_refl _));have HY:=Lib.hid (Blk.new w2 41 #[.int .i64 xk,.int .i64 xn]);clear hba b2 KR;refine Lib.hid ?_;go_upto_region 6 with (fail)
 generalize w2.alloc (.cells #[.int .i64 xk,.int .i64 xn] 41)=W2 at *;generalize w2.heap.size=q2 at *;have K3:=Lib.hid (implDeskDo_any _ d ⟨xk,xn⟩ W2 HD.out hf.out);generalize dkDo d ⟨xk,xn⟩=r at *;obtain ⟨du,ru⟩:=r
 dsimp only at K3
 obtain ⟨⟨x0,x1,x2,x3,x4⟩,-⟩:=blk5 HX.out;have y0:W2.cell? ⟨q2,0,none⟩=some (.int .i64 xk):=HY.out.cell 0;have y1:W2.cell? ⟨q2,1,none⟩=some (.int .i64 xn):=HY.out.cell 1;go_wp2_with (go_at_call 53;refine K3.out.mono ?_;rintro e w3 ⟨v3,rfl,o3,b3⟩;obtain ⟨U1,j1,U2,j2,U3,j3,U5,j5,rfl,-⟩:=o3.dsk.ex;refine Hid.out ?_);have hbb:=b3.alloc b3.size (.cells #[.slice U1 du.t.us.length j1,.slice U2 du.t.bs.length j2,.slice U3 du.t.ns.length j3,.int .i64 du.now,.slice U5 du.past.length j5] 33);have o3':=Lib.hid ((o3.mono (B':=w.heap.size) hB.out.size).below ((Below.refl w3.heap.size w3).alloc (Nat.le_refl _) (.cells #[.slice U1 du.t.us.length j1,.slice U2 du.t.bs.length j2,.slice U3 du.t.ns.length j3,.int .i64 du.now,.slice U5 du.past.length j5] 33)) (Nat.le_refl _));have Q3:=Lib.hid (Blk.new w3 33 #[.slice U1 du.t.us.length j1,.slice U2 du.t.bs.length j2,.slice U3 du.t.ns.length j3,.int .i64 du.now,.slice U5 du.past.length j5]);replace hB:=Lib.hid (hB.out.trans (hbb.mono hB.out.size));replace HZ:=Lib.hid (HZ.out.below hbb HZ.out.lt);clear o3 b3 hbb y0 y1 x0 x1 x2 x3 x4 HX HD HY K3;refine Lib.hid ?_;go_upto_region 7 with (fail)
 generalize w3.alloc (.cells #[.slice U1 du.t.us.length j1,.slice U2 du.t.bs.length j2,.slice U3 du.t.ns.length j3,.int .i64 du.now,.slice U5 du.past.length j5] 33)=W3 at *;generalize w3.heap.size=q3 at *;obtain ⟨⟨x0,x1,x2,x3,x4⟩,-⟩:=blk5 Q3.out;obtain ⟨⟨z0,z1,z2,z3,z4⟩,⟨e0,e1,e2,e3,e4⟩⟩:=blk5 HZ.out
 have hfin:∀ b,RetDkT w du b (.returned (.tuple #[.agg #[.slice U1 du.t.us.length j1,.slice U2 du.t.bs.length j2,.slice U3 du.t.ns.length j3,.int .i64 du.now,.slice U5 du.past.length j5],.string b])) (((((W3.setCell ⟨w.heap.size+1,0,none⟩ (.slice U1 du.t.us.length j1)).setCell ⟨w.heap.size+1,1,none⟩ (.slice U2 du.t.bs.length j2)).setCell ⟨w.heap.size+1,2,none⟩ (.slice U3 du.t.ns.length j3)).setCell ⟨w.heap.size+1,3,none⟩ (.int .i64 du.now)).setCell ⟨w.heap.size+1,4,none⟩ (.slice U5 du.past.length j5)):=fun b =>
  ⟨_,rfl,o3'.out.set5 HZ.out,below_dk5 hB.out (by omega)⟩
 replace hfin:=Lib.hid hfin;clear o3' Q3 HZ hB;cases ru
 · go_wp2;refine bodyPost_ret (v:=.tuple #[.agg #[.slice U1 du.t.us.length j1,.slice U2 du.t.bs.length j2,.slice U3 du.t.ns.length j3,.int .i64 du.now,.slice U5 du.past.length j5],.string ⟨#[110,111,116]⟩]) (by simp [results,Tryz.results14,go_sem,z0,z1,z2,z3,z4]) rfl ?_;exact hfin.out _
 · go_wp2;refine bodyPost_ret (v:=.tuple #[.agg #[.slice U1 du.t.us.length j1,.slice U2 du.t.bs.length j2,.slice U3 du.t.ns.length j3,.int .i64 du.now,.slice U5 du.past.length j5],.string ⟨#[111,107]⟩]) (by simp [results,Tryz.results14,go_sem,z0,z1,z2,z3,z4]) rfl ?_;exact hfin.out _
end
end Go.Proofs.YtmhgpbfogdoaeaaGreatDoor
