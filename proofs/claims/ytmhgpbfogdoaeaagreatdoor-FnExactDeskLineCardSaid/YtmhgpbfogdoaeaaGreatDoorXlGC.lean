/-
  GC: DTng DSt DTngB DrawG.
-/
import Derived.Test.YtmhgpbfogdoaeaaGreatDoorXlGB
import Derived.Test.YtmhgpbfogdoaeaaGreatDoorXlRds
import Derived.Test.YtmhgpbfogdoaeaaGreatDoorXlGA
import Derived.Deep.RegionHeld3
import Derived.Deep.DeepCutAuto
namespace Go.Proofs.YtmhgpbfogdoaeaaGreatDoor
section
open Go.RowKit
theorem own_blk_ne {w:World} {B:Nat} {e t:TypeId} {n:Nat} {v:Value} {xs:List Value} {g:Nat} {cs:Array Value} (h:w.ownsRow B e 1 v n xs) (hg:Blk w g t cs) (hne:e≠t):v.ownBlock≠some g:=by
 rcases h.2 with ⟨rfl,_⟩ | ⟨g',cap,cur,rfl,_,hh,_⟩
 · simp [Value.ownBlock]
 · intro he;have:g'=g:=by simpa [Value.ownBlock] using he
   subst this;unfold Blk at hg;rw [hh] at hg;injection hg with hg
   injection hg with _ ht
   exact hne ht
theorem own_type_ne {w:World} {B B':Nat} {e e':TypeId} {n n':Nat} {v v':Value} {xs xs':List Value} (h:w.ownsRow B e 1 v n xs) (h':w.ownsRow B' e' 1 v' n' xs') (hne:e≠e'):∀ k,v.ownBlock=some k→v'.ownBlock≠some k:=by
 intro k hk;rcases h.2 with ⟨rfl,_⟩ | ⟨g1,cap,cur,rfl,_,hh,_⟩
 · simp [Value.ownBlock] at hk
 · have a1:g1=k:=by simpa [Value.ownBlock] using hk
   subst a1;exact own_blk_ne h' hh (Ne.symm hne)
theorem ne_string_tongue:9≠31:=by decide
theorem ne_int_tongue:3≠31:=by decide
theorem ne_string_int:9≠3:=by decide
structure DSt (w:World) (g:Nat) (wx:World) (b:Nat) (t:Tg) (v1 v2 v3:Value) (q:Nat):Prop where
 blk:Blk wx b 31 #[v1,v2,v3]
 ge:w.heap.size < b
 o1:OwnStrs wx w.heap.size v1 t.us
 o2:OwnI wx w.heap.size v2 t.bs
 o3:OwnStrs wx w.heap.size v3 t.ns
 ap:∀ k,v1.ownBlock=some k→v3.ownBlock≠some k
 rd:Rd wx g q
 gr:w.grownBy wx (some g)
 glt:g < w.heap.size
 res:Blk wx w.heap.size 31 #[.slice none 0 0,.slice none 0 0,.slice none 0 0]
section
variable {w wx w' : World} {g b q : Nat} {t : Tg} {v1 v2 v3 : Value}
end
end
section
open Go.RowKit
theorem OwnTng.shape {w:World} {B:Nat} {v:Value} {t:Tg} (h:OwnTng w B v t):∃ A1 c1 A2 c2 A3 c3,v=.agg #[.slice A1 t.us.length c1,.slice A2 t.bs.length c2,.slice A3 t.ns.length c3]:=by
 obtain ⟨A1,c1,A2,c2,A3,c3,e,_⟩:=h.tng.ex;exact ⟨A1,c1,A2,c2,A3,c3,e⟩
end
end Go.Proofs.YtmhgpbfogdoaeaaGreatDoor
