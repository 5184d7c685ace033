/-
  GA: Kit Strs Math MathT C1 Hold Draw Read Alive Marks C2 App Cat Map Own.
-/
import Derived.WalkKit
import Derived.Below
import Derived.Laws.OwnMore
import Derived.Deep.AppendLies
import Derived.Deep.Draws
import Derived.Lib.Hide
import Derived.OpenShut
import Derived.ProofKit
import Derived.ShutString
import Derived.ChangeOld
import Derived.Deep.QuietTactic
import Derived.BigQuiet
import Derived.IntWalk
import Derived.Laws.Strings
import Derived.Test.YtmhgpbfogdoaeaaGreatDoorProg
import Derived.Laws.BitsAllLaws
import Derived.Laws.BitsLemmas
import Derived.Maps.AppendAt
import Derived.Deep.RegionHeld3
import Derived.Deep.RegionLaw
import Derived.Deep.DrawnRows
import Derived.Deep.DeepCutAuto
import Derived.Deep.LoopGhost
import Derived.Deep.Onto
import Derived.RegionTactic
import Derived.Lib.AppendZeros
import Derived.Maps.OwnSet
import Derived.Maps.Views
import Derived.StringKeys
import Derived.Maps.Own
namespace Go.Proofs.YtmhgpbfogdoaeaaGreatDoor
section
open Go.RowKit
structure Ints (w:World) (k:IntKind) (A:Option Addr) (n c:Nat) (xs:List Int):Prop where
 len:xs.length=n
 le:n≤c
 at_:0 < n→∃ b o,A=some ⟨b,o,none⟩∧b < w.heap.size∧∀ j,j < n→w.cell? ⟨b,o+j,none⟩=some (.int k (xs.getD j 0))
section
variable {w w' : World} {k : IntKind} {n c : Nat} {A : Option Addr} {xs : List Int}
theorem Ints.none_:Ints w k none 0 0 []:=⟨rfl,Nat.le_refl _,fun h=>absurd h (by omega)⟩
theorem Ints.below {B:Nat} (h:Ints w k A n c xs) (hb:Below B w w') (hB:w.heap.size≤B):Ints w' k A n c xs :=
 ⟨h.len,h.le,fun hn=>by
  obtain ⟨b,o,e,hlt,hc⟩:=h.at_ hn;exact ⟨b,o,e,Nat.lt_of_lt_of_le hlt hb.size,fun j hj=>(hb.cell (p:=⟨b,o+j,none⟩) (Nat.lt_of_lt_of_le hlt hB)).trans (hc j hj)⟩⟩
theorem Ints.drewN (h:Ints w k A n c xs) (m:Nat):Ints (w.drewN m) k A n c xs:=⟨h.len,h.le,h.at_⟩
end
theorem lt_of_cell {w:World} {a:Addr} {v:Value} (h:w.cell? a=some v):a.block < w.heap.size:=by
 rcases Nat.lt_or_ge a.block w.heap.size with hlt | hge
 · exact hlt
 · simp [World.cell?,Array.getElem?_eq_none hge] at h
theorem add_plain' (b o j:Nat):(⟨b,o,none⟩:Addr).add j=⟨b,o+j,none⟩:=by
 unfold Addr.add;by_cases h:j=0 <;> simp [h]
theorem Ints.of_row {w:World} {k:IntKind} {x:Addr} {n c:Nat} {zs:List Int} (hl:n≤c) (hz:zs.length=c) (hc:∀ i,i < zs.length→w.cell? (x.add i)=some (.int k (zs.getD i 0))):Ints w k (some x) n c (zs.take n):=by
 refine ⟨by simp;omega,hl,fun hn=>?_⟩;obtain ⟨b,o,e,hc'⟩:=ints_at hc (by omega);refine ⟨b,o,by rw [e],?_,fun j hj=>?_⟩
 · have h0:=hc' 0 (by omega);exact lt_of_cell h0
 · rw [hc' j (by omega)]
   simp [List.getD_eq_getElem?_getD,hj]
def Blk (w:World) (g:Nat) (t:TypeId) (cs:Array Value):Prop:=w.heap[g]?=some (.cells cs t (0,0))
section
variable {w w' : World} {g : Nat} {t : TypeId} {cs : Array Value}
theorem Blk.lt (h:Blk w g t cs):g < w.heap.size:=by
 rcases Nat.lt_or_ge g w.heap.size with hlt | hge
 · exact hlt
 · unfold Blk at h;rw [Array.getElem?_eq_none hge] at h;cases h
theorem Blk.cell (h:Blk w g t cs) (i:Nat):w.cell? ⟨g,i,none⟩=cs[i]?:=cell_of_row w g i cs t (0,0) h
theorem Blk.frozen (h:Blk w g t cs) (i:Nat):w.frozen? ⟨g,i,none⟩=false:=by
 unfold Blk at h
 simp [World.frozen?,h]
theorem Blk.new (w:World) (t:TypeId) (cs:Array Value):Blk (w.alloc (.cells cs t)) w.heap.size t cs:=heap_alloc_new w _
theorem Blk.drew (h:Blk w g t cs):Blk w.drew g t cs:=h
theorem Blk.drewN (h:Blk w g t cs) (n:Nat):Blk (w.drewN n) g t cs:=h
theorem Blk.alloc (h:Blk w g t cs) (o:Obj):Blk (w.alloc o) g t cs:=(Below.heap_alloc w o g h.lt).trans h
theorem Blk.set_ (h:Blk w g t cs) (i:Nat) (u:Value):Blk (w.setCell ⟨g,i,none⟩ u) g t (cs.setIfInBounds i u):=by
 unfold Blk at h ⊢
 simp [World.setCell,Array.getElem?_modify,h]
theorem Blk.far (h:Blk w g t cs) {p:Addr} (hp:g≠p.block) (u:Value):Blk (w.setCell p u) g t cs:=(Below.heap_setCell w p u g hp).trans h
theorem Blk.below {B:Nat} (h:Blk w g t cs) (hb:Below B w w') (hg:g < B):Blk w' g t cs:=(hb.block g hg).trans h
end
structure OwnInts (w:World) (B:Nat) (t:TypeId) (k:IntKind) (g n:Nat) (xs:List Int):Prop where
 ge:B≤g
 len:xs.length=n
 blk:Blk w g t (xs.map (Value.int k)).toArray
theorem OwnInts.of_cells {w:World} {B:Nat} {t:TypeId} {k:IntKind} {g:Nat} {xs:List Int} {cs:Array Value} (hb:Blk w g t cs) (hcs:cs.size=xs.length) (hj:∀ j,j < xs.length→cs[j]?=some (.int k (xs.getD j 0))) (hg:B≤g):OwnInts w B t k g xs.length xs:=by
 refine ⟨hg,rfl,?_⟩
 have:cs=(xs.map (Value.int k)).toArray:=by
  apply Array.ext_getElem?;intro i
  by_cases hi:i < xs.length
  · rw [hj i hi];simp [hi]
  · rw [Array.getElem?_eq_none (by omega),Array.getElem?_eq_none (by simp;omega)]
 rw [← this];exact hb
theorem cells_set {k0:IntKind} (xs:List Int) (cs:Array Value) (k:Nat) (hk:k < cs.size) (hj:∀ j,j < k→cs[j]?=some (.int k0 (xs.getD j 0))) :
 ∀ j,j < k+1→(cs.setIfInBounds k (.int k0 (xs.getD k 0)))[j]?=some (.int k0 (xs.getD j 0)):=by
 intro j hjk;rw [Array.getElem?_setIfInBounds]
 by_cases he:k=j
 · subst he;simp [hk]
 · rw [if_neg he];exact hj j (by omega)
theorem take_go {k:Nat} (xs ys:List Int) (hk:k < xs.length) (hl:xs.length=ys.length) (h:xs.take k=ys.take k):xs.getD k 0=ys.getD k 0→xs.take (k+1)=ys.take (k+1):=by
 intro he;rw [List.take_succ_eq_append_getElem hk,List.take_succ_eq_append_getElem (by omega:k < ys.length),h];simp only [List.getD_eq_getElem?_getD,List.getElem?_eq_getElem hk,List.getElem?_eq_getElem (by omega:k < ys.length),Option.getD_some] at he;rw [he]
theorem take_no {k:Nat} (xs ys:List Int) (_hk:k < xs.length) (_hl:xs.length=ys.length):¬ xs.getD k 0=ys.getD k 0→¬ xs=ys:=by
 intro hn he;exact hn (by rw [he])
theorem take_end {k:Nat} (xs ys:List Int) (hk:xs.length≤k) (hl:xs.length=ys.length) (h:xs.take k=ys.take k):xs=ys:=by
 rwa [List.take_of_length_le hk,List.take_of_length_le (by omega)] at h
theorem run_make_rowN {P:Program} (t e:TypeId) (i:TypeInfo) (z:Value) (ht:P.underlying t=some (.slice e)) (hi:P.info? e=some i) (hz:i.zero=some z)
 (kl kc:IntKind) (n c:Nat) (hnc:n≤c) (hbytes:i.bytes * c≤281474976710656) (h63:c≤9223372036854775807) (w:World) :
 (Instr.makeSlice t (.int kl (n:Int)) (.int kc (c:Int))).run P w=.ok (.slice (some ⟨w.heap.size,0,none⟩) n c) (w.alloc (.cells (madeCells z.cells (c * i.size)) e)):=by
 have hb:(i.bytes:Int) * (c:Int)≤281474976710656:=by
  have h:((i.bytes * c:Nat):Int)≤281474976710656:=by omega
  rwa [Int.natCast_mul] at h
 have hr:=run_make (P:=P) w t e i z ht hi hz kl kc n c (by omega) (by omega) hb (by omega);simp only [Int.toNat_natCast] at hr;exact hr
theorem below_drewN {B:Nat} {a w:World} (h:Below B a w) (n:Nat):Below B a (w.drewN n):=⟨h.os,h.tape,h.output,h.size,h.block⟩
theorem ex1 {w:World} {a:Nat}:∃ m,w.drewN a=w.drewN m:=⟨a,rfl⟩
theorem ex2 {w:World} {a b:Nat}:∃ m,(w.drewN a).drewN b=w.drewN m:=⟨a+b,World.drewN_drewN _ _ _⟩
theorem ex3 {w:World} {a b c:Nat}:∃ m,((w.drewN a).drewN b).drewN c=w.drewN m:=⟨a+(b+c),by rw [World.drewN_drewN,World.drewN_drewN]⟩
theorem quiet_add_same {P:Program} {f:FuncId} {args:Array Value} {w:World} {a n:Nat} {v:Value}
 (h:Calls P f args (w.drewN (a+n)) fun e w'=>e=.returned v∧w.drewN (a+n)=w') :
 Calls P f args (w.drewN (a+n)) fun e w''=>e=.returned v∧∃ m,w''=w.drewN (a+m) :=
 h.mono fun _ _ ⟨he,hm⟩=>⟨he,n,hm.symm⟩
theorem quiet_same {P:Program} {f:FuncId} {args:Array Value} {w:World} {n:Nat} {v:Value}
 (h:Calls P f args (w.drewN n) fun e w'=>e=.returned v∧w.drewN n=w'):Calls P f args (w.drewN n) fun e w''=>e=.returned v∧∃ m,w''=w.drewN m :=
 h.mono fun _ _ ⟨he,hm⟩=>⟨he,n,hm.symm⟩
theorem ret_bool {a b:Bool} (h:a=b):Ending.returned (.bool a)=.returned (.bool b):=by rw [h]
theorem ret_int {k:IntKind} {a b:Int} (h:a=b):Ending.returned (.int k a)=.returned (.int k b):=by rw [h]
end
section
open Go.RowKit
structure Strs (w:World) (A:Option Addr) (n c:Nat) (xs:List ByteArray):Prop where
 len:xs.length=n
 le:n≤c
 at_:0 < n→∃ b o,A=some ⟨b,o,none⟩∧b < w.heap.size∧∀ j,j < n→w.cell? ⟨b,o+j,none⟩=some (.string (xs.getD j ByteArray.empty))
section
variable {w w' : World} {n c : Nat} {A : Option Addr} {xs : List ByteArray}
theorem Strs.none_:Strs w none 0 0 []:=⟨rfl,Nat.le_refl _,fun h=>absurd h (by omega)⟩
theorem Strs.below {B:Nat} (h:Strs w A n c xs) (hb:Below B w w') (hB:w.heap.size≤B):Strs w' A n c xs :=
 ⟨h.len,h.le,fun hn=>by
  obtain ⟨b,o,e,hlt,hc⟩:=h.at_ hn;exact ⟨b,o,e,Nat.lt_of_lt_of_le hlt hb.size,fun j hj=>(hb.cell (p:=⟨b,o+j,none⟩) (Nat.lt_of_lt_of_le hlt hB)).trans (hc j hj)⟩⟩
theorem Strs.drewN (h:Strs w A n c xs) (m:Nat):Strs (w.drewN m) A n c xs:=⟨h.len,h.le,h.at_⟩
theorem Strs.take (h:Strs w A n c xs) {m:Nat} (hm:m≤n):Strs w A m c (xs.take m) :=
 ⟨by have:=h.len;simp;omega,by have:=h.le;omega,fun h0=>by
  obtain ⟨b,o,e,hl,hc⟩:=h.at_ (by omega);exact ⟨b,o,e,hl,fun j hj=>by rw [hc j (by omega)];simp [List.getD_eq_getElem?_getD,hj]⟩⟩
theorem Strs.drop {b o:Nat} (h:Strs w (some ⟨b,o,none⟩) n c xs) {m:Nat} (hm:m≤n):Strs w (some ⟨b,o+m,none⟩) (n - m) (c - m) (xs.drop m) :=
 ⟨by have:=h.len;simp;omega,by have:=h.le;omega,fun h0=>by
  obtain ⟨b',o',e,hl,hc⟩:=h.at_ (by omega);simp only [Option.some.injEq,Addr.mk.injEq] at e;obtain ⟨rfl,rfl,-⟩:=e;exact ⟨b,o+m,rfl,hl,fun j hj=>by rw [Nat.add_assoc,hc (m+j) (by omega)];simp [List.getD_eq_getElem?_getD]⟩⟩
theorem strs_of_own {B:Nat} {t:TypeId} {v:Value} (h:w.ownsRow B t 1 v n (xs.map Value.string)):∃ A c,v=.slice A n c∧Strs w A n c xs:=by
 have hl:xs.length=n:=by have:=h.1;simpa using this
 rcases h.2 with ⟨rfl,rfl⟩ | ⟨g,cap,cur,rfl,hb,hg,hnc,hcm,hcs,htake⟩
 · exact ⟨none,0,rfl,hl,Nat.le_refl _,fun h=>absurd h (by omega)⟩
 · refine ⟨_,cap,rfl,hl,hnc,fun hn=>⟨g,0,rfl,?_,fun j hj=>?_⟩⟩
   · rcases Nat.lt_or_ge g w.heap.size with hlt | hge
     · exact hlt
     · rw [Array.getElem?_eq_none hge] at hg;cases hg
   · have:=h.cellAt (g:=g) (cap:=cap) j (by omega);rw [Nat.zero_add,this]
     simp [List.getElem?_eq_getElem (show j < xs.length by omega)]
theorem strs_of_blk {g:Nat} {t:TypeId} (xs:List ByteArray) (h:Blk w g t (xs.map Value.string).toArray):Strs w (some ⟨g,0,none⟩) xs.length xs.length xs :=
 ⟨rfl,Nat.le_refl _,fun _=>⟨g,0,rfl,h.lt,fun j hj=>by rw [Nat.zero_add,h.cell];simp [hj]⟩⟩
theorem strs_of_cells {x:Addr} {Sx:Nat→ByteArray} {m:Nat} (hl:n≤c) (hnm:n≤m) (hc:∀ i,i < m→w.cell? (x.add i)=some (.string (Sx i))):Strs w (some x) n c ((List.range n).map Sx):=by
 refine ⟨by simp,hl,fun hn=>?_⟩;obtain ⟨b,o,p⟩:=x;have hp:p=none:=by simpa [Addr.add] using World.cell?_spot (hc 0 (by omega))
 subst hp;refine ⟨b,o,rfl,?_,fun j hj=>?_⟩
 · have h0:=hc 0 (by omega);exact lt_of_cell (a:=⟨b,o,none⟩) (by simpa [add_plain'] using h0)
 · have:=hc j (by omega);rw [add_plain'] at this;rw [this];simp [List.getD_eq_getElem?_getD,hj]
end
end
section
open Go Go.RowKit
def Fits (xs:List Int):Prop:=∀ j,-9223372036854775808≤xs.getD j 0∧xs.getD j 0≤9223372036854775807
theorem Fits.of_wf {xs:List Int} (h:∀ x ∈ xs,(Lit.int .i64 x).wf=true):Fits xs:=by
 intro j
 by_cases hj:j < xs.length
 · have:=h xs[j] (List.getElem_mem hj);simp only [List.getD_eq_getElem?_getD,List.getElem?_eq_getElem hj,Option.getD_some]
   simpa [Lit.wf,IntKind.min,IntKind.max,IntKind.signed,IntKind.bits] using this
 · simp [List.getD_eq_getElem?_getD,List.getElem?_eq_none (by omega:xs.length≤j)]
def up (xs:List Int) (k:Nat):Bool:=(List.range k).all fun j=>decide (j=0∨(xs.getD (j-1) 0+1≤xs.getD j 0∧xs.getD j 0≤999999))
def basesOk (xs:List Int):Bool:=decide (1≤xs.length∧xs.length≤5∧xs.getD 0 0=1)&&up xs xs.length
theorem up_succ (xs:List Int) (k:Nat):up xs (k+1)=(up xs k&&decide (k=0∨(xs.getD (k-1) 0+1≤xs.getD k 0∧xs.getD k 0≤999999))):=by
 simp [up,List.range_succ]
theorem up_one (xs:List Int):up xs 1=true:=by simp [up]
theorem up_at (xs:List Int) {j k:Nat} (h:up xs k=true) (h0:0 < j) (hj:j < k):xs.getD (j-1) 0+1≤xs.getD j 0∧xs.getD j 0≤999999:=by
 simp only [up,List.all_eq_true,List.mem_range,decide_eq_true_eq] at h;rcases h j hj with e | e
 · omega
 · exact e
theorem up_pos (xs:List Int) {k:Nat} (h:up xs k=true) (h1:xs.getD 0 0=1):∀ j,j < k→1≤xs.getD j 0∧xs.getD j 0≤999999:=by
 intro j
 induction j with
 | zero=>intro _;rw [h1];decide
 | succ j ih=>intro hj;have:=ih (by omega);have:=up_at xs h (j:=j+1) (by omega) hj;simp only [Nat.add_sub_cancel] at this;omega
theorem basesOk_iff (xs:List Int):basesOk xs=true ↔ (1≤xs.length∧xs.length≤5∧xs.getD 0 0=1)∧up xs xs.length=true:=by
 simp [basesOk]
theorem wrap64_id {a:Int} (h:-9223372036854775808≤a∧a≤9223372036854775807):wrap64 a=a:=by
 simp only [wrap64];omega
theorem up_prev (xs:List Int) {k:Nat} (h0:0 < k) (h1:xs.getD 0 0=1) (hu:up xs k=true):wrap64 (xs.getD (k-1) 0+1)=xs.getD (k-1) 0+1:=by
 have h:=up_pos xs hu h1 (k-1) (by omega);exact wrap64_id (by omega)
theorem basesOk_not (xs:List Int) (k:Nat) (hk:k < xs.length) (h0:0 < k) (hu:xs.getD 0 0=1→up xs k=true) (hn:(!decide (wrap64 (xs.getD (k-1) 0+1)≤xs.getD k 0))=true∨(!decide (xs.getD k 0≤999999))=true):basesOk xs=false:=by
 rw [Bool.eq_false_iff];intro hb;obtain ⟨⟨_,_,h1⟩,h2⟩:=(basesOk_iff xs).1 hb;have h3:=up_at xs h2 h0 hk;rw [up_prev xs h0 h1 (hu h1)] at hn;simp only [Bool.not_eq_true',decide_eq_false_iff_not] at hn;omega
theorem basesOk_go (xs:List Int) (k:Nat) (h0:0 < k) (hu:xs.getD 0 0=1→up xs k=true) (hn:(!decide (wrap64 (xs.getD (k-1) 0+1)≤xs.getD k 0))=false∧(!decide (xs.getD k 0≤999999))=false):xs.getD 0 0=1→up xs (k+1)=true:=by
 intro h1;rw [up_prev xs h0 h1 (hu h1)] at hn;simp only [Bool.not_eq_false',decide_eq_true_eq] at hn;rw [up_succ,hu h1];simp only [Bool.true_and,decide_eq_true_eq];exact .inr hn
theorem basesOk_end (xs:List Int) (hu:xs.getD 0 0=1→up xs xs.length=true) (hl:1≤xs.length∧xs.length≤5):basesOk xs=(xs.getD 0 0==1):=by
 rw [Bool.eq_iff_iff,basesOk_iff,beq_iff_eq];exact ⟨fun h=>h.1.2.2,fun h=>⟨⟨hl.1,hl.2,h⟩,hu h⟩⟩
theorem basesOk_long (xs:List Int) (hl:¬(1≤xs.length∧xs.length≤5)):basesOk xs=false:=by
 rw [Bool.eq_false_iff,Ne,basesOk_iff];intro h;exact hl ⟨h.1.1,h.1.2.1⟩
theorem basesOk_one (xs:List Int) (h:¬ xs.getD 0 0=1):basesOk xs=false:=by
 rw [Bool.eq_false_iff,Ne,basesOk_iff];intro hb;exact h hb.1.2.2
theorem basesOk_step (xs:List Int) (h0:0 < xs.length) (h5:xs.length≤5) (h1:xs.getD 0 0=1):basesOk xs=up xs xs.length:=by
 rw [Bool.eq_iff_iff,basesOk_iff];exact ⟨fun h=>h.2,fun h=>⟨⟨h0,h5,h1⟩,h⟩⟩
theorem basesOk_single (xs:List Int) (h:xs.length=1) (h1:xs.getD 0 0=1):basesOk xs=true:=by
 rw [basesOk_step xs (by omega) (by omega) h1,h];exact up_one xs
theorem basesOk_top (xs:List Int) (h5:xs.length≤5) (h1:xs.getD 0 0=1) {k:Nat} (hk:k+1=xs.length) (hu:up xs (k+1)=true):basesOk xs=true:=by
 rw [basesOk_step xs (by omega) (by omega) h1,← hk];exact hu
theorem basesOk_down (xs:List Int) (k:Nat) (hk:k < xs.length) (hu:¬ up xs (k+1)=true):basesOk xs=false:=by
 rw [Bool.eq_false_iff,Ne,basesOk_iff];intro hb;apply hu;simp only [up,List.all_eq_true,List.mem_range] at hb ⊢;exact fun j hj=>hb.2 j (by omega)
theorem basesOk_no2 (xs:List Int) (k:Nat) (hk:k+1 < xs.length) (hn:xs.getD (k+1) 0≤xs.getD k 0∨999999 < xs.getD (k+1) 0):basesOk xs=false:=by
 refine basesOk_down xs (k+1) hk ?_;rw [up_succ];simp only [Nat.add_sub_cancel,Bool.and_eq_true,decide_eq_true_eq];omega
theorem basesOk_go2 (xs:List Int) (k:Nat) (hu:up xs (k+1)=true) (hn:xs.getD k 0 < xs.getD (k+1) 0∧xs.getD (k+1) 0≤999999):up xs (k+1+1)=true:=by
 rw [up_succ,hu];simp only [Nat.add_sub_cancel,Bool.true_and,decide_eq_true_eq];omega
theorem bases_pos {b:List Int} (h:basesOk b=true):∀ j,j < b.length→1≤b.getD j 0∧b.getD j 0≤999999:=fun j hj =>
 up_pos b ((basesOk_iff b).1 h).2 ((basesOk_iff b).1 h).1.2.2 j hj
theorem bases_len {b:List Int} (h:basesOk b=true):1≤b.length∧b.length≤5:=⟨((basesOk_iff b).1 h).1.1,((basesOk_iff b).1 h).1.2.1⟩
theorem bases_one {b:List Int} (h:basesOk b=true):b.getD 0 0=1:=((basesOk_iff b).1 h).1.2.2
theorem bases_lt {b:List Int} (h:basesOk b=true) {k:Nat} (hk:k+1 < b.length):b.getD k 0 < b.getD (k+1) 0:=by
 have:=up_at b ((basesOk_iff b).1 h).2 (j:=k+1) (by omega) hk;simp only [Nat.add_sub_cancel] at this;omega
def nestTo (b:List Int) (k:Nat):Bool:=(List.range k).all fun j=>decide (b.getD (j+1) 0 % b.getD j 0=0)
def nested (b:List Int):Bool:=basesOk b&&nestTo b (b.length - 1)
theorem nestTo_zero (b:List Int):nestTo b 0=true:=by simp [nestTo]
theorem nestTo_succ (b:List Int) (k:Nat):nestTo b (k+1)=(nestTo b k&&decide (b.getD (k+1) 0 % b.getD k 0=0)):=by simp [nestTo,List.range_succ]
theorem nestTo_at {b:List Int} {k j:Nat} (h:nestTo b k=true) (hj:j < k):b.getD (j+1) 0 % b.getD j 0=0:=by
 simp only [nestTo,List.all_eq_true,List.mem_range,decide_eq_true_eq] at h;exact h j hj
theorem nested_no {b:List Int} {k:Nat} (hk:k+1 < b.length) (h:(b.getD (k+1) 0 % b.getD k 0 != 0)=true):nested b=false:=by
 rw [Bool.eq_false_iff];intro hn;simp only [nested,Bool.and_eq_true] at hn;have:=nestTo_at hn.2 (j:=k) (by omega);rw [bne_iff_ne] at h;exact h this
theorem nestTo_go {b:List Int} {k:Nat} (hu:nestTo b k=true) (h:(b.getD (k+1) 0 % b.getD k 0 != 0)=false):nestTo b (k+1)=true:=by
 rw [nestTo_succ,hu];simpa using h
theorem nested_yes {b:List Int} {k:Nat} (hb:basesOk b=true) (hk:k+1=b.length) (hu:nestTo b k=true):nested b=true:=by
 have:b.length - 1=k:=by omega
 rw [nested,hb,this,hu];rfl
theorem nested_off {b:List Int} (hb:basesOk b=false):nested b=false:=by rw [nested,hb];rfl
end
def letterOk (b:UInt8):Bool:=decide (97≤b.toNat)&&decide (b.toNat≤122)
def wordOk (s:ByteArray):Bool:=decide (1≤s.size∧s.size≤8)&&s.data.toList.all letterOk
def tongueOk (us:List ByteArray) (bs:List Int) (ns:List ByteArray):Bool :=
 decide (1≤us.length∧us.length≤20)&&basesOk bs&&decide (ns.length+1=bs.length)&&decide (2≤bs.length→bs.getD 1 0=us.length+1)&&(us++ns).all wordOk&&decide (us++ns).Nodup
theorem tongueOk_iff (us:List ByteArray) (bs:List Int) (ns:List ByteArray):tongueOk us bs ns=true ↔
 (1≤us.length∧us.length≤20)∧basesOk bs=true∧ns.length+1=bs.length∧(2≤bs.length→bs.getD 1 0=us.length+1)∧(∀ s ∈ us++ns,wordOk s=true)∧(us++ns).Nodup:=by
 simp only [tongueOk,Bool.and_eq_true,decide_eq_true_eq,List.all_eq_true,and_assoc]
theorem wordOk_len {s:ByteArray} (h:wordOk s=true):1≤s.size∧s.size≤8:=by
 simp only [wordOk,Bool.and_eq_true,decide_eq_true_eq] at h;exact h.1
theorem str_eq (x y:ByteArray):(x.toList==y.toList)=decide (x=y):=by
 by_cases e:x=y
 · simp [e]
 · have:¬ x.toList=y.toList:=fun h=>e (by
    have h2:x.data.toList=y.data.toList:=by simpa [ByteArray.toList_eq] using h
    exact ByteArray.ext (Array.toList_inj.1 h2))
   simp [e,this]
section
open Go.RowKit
theorem in_any (a b c:Int) (w:World) :
 Calls Tryz.prog 101 #[.int .i64 a,.int .i64 b,.int .i64 c] w fun e w'=>e=.returned (.bool (decide (b≤a∧a≤c)))∧w=w':=by
 go_enter Tryz.func101,Tryz.ntmps101;go_wp2
 all_goals go_ret
 · exact ⟨by simp [*],rfl⟩
 · exact ⟨by simp;omega,rfl⟩
theorem specBasesOk_any (A:Option Addr) (n c:Nat) (xs:List Int) (w:World) (h:Ints w .i64 A n c xs) (hn:n≤1048576) (hwf:Fits xs) :
 Calls Tryz.prog 130 #[.slice A n c] w fun e w'=>e=.returned (.bool (basesOk xs))∧∃ m,w'=w.drewN m:=by
 obtain ⟨rfl,hcap,h⟩:=h;go_enter Tryz.func130,Tryz.ntmps130;go_wp2
 go_loopw [3] (fun i wr=>∃ k m:Nat,1≤k∧(k≤xs.length∨k=1)∧i=.int .i64 k∧(xs.getD 0 0=1→up xs k=true)∧wr=w.drewN m) (fun i _=>xs.length - (intOf i).toNat)
 case atStart=>exact ⟨1,0,by omega,by omega,rfl,fun _=>up_one xs,rfl⟩
 case round =>
  obtain ⟨k,m,hk1,hk2,rfl,hu,rfl⟩:=hrel
  by_cases hlt:k < xs.length
  · obtain ⟨b,o,rfl,_,h⟩:=h (by omega);have c1:=h k hlt;have c2:=h (k-1) (by omega);have b1:=hwf k;have b2:=hwf (k-1);have HN:=basesOk_not xs k (by omega) (by omega) hu;have HU:=basesOk_go xs k (by omega) hu;generalize xs.getD k 0=x1 at *;generalize xs.getD (k-1) 0=x2 at *;replace HN:=Lib.hid HN;replace HU:=Lib.hid HU;clear h hu hwf;go_wp2
    go_quiet ((go_at_call 101;exact quiet_add_same (in_any _ _ _ _)))
    go_wp2
    · go_ret;exact ⟨ret_bool (HN.out ‹_›).symm,m+nq,by simp⟩
    · go_roundw
      case rel=>exact ⟨k+1,m+nq,by omega,by omega,by go_num,HU.out ‹_›,rfl⟩
      case measure=>simp [intOf];omega
  · have HL:=Lib.hid (basesOk_long xs)
    by_cases hn0:0 < xs.length
    · obtain rfl:k=xs.length:=by omega
      obtain ⟨b,o,rfl,_,h⟩:=h (by omega);have c0:=h 0 hn0;rw [Nat.add_zero] at c0;have HE:=Lib.hid (basesOk_end xs hu);generalize xs.getD 0 0=x0 at *;clear h hlt hu;go_wp2_with ((go_at_call 101;refine (in_any _ _ _ _).mono ?_;rintro e w' ⟨rfl,rfl⟩))
      · go_ret;exact ⟨ret_bool (HE.out (by omega)).symm,m,rfl⟩
      · go_ret;exact ⟨ret_bool (HL.out (by omega)).symm,m,rfl⟩
    · go_wp2_with ((go_at_call 101;refine (in_any _ _ _ _).mono ?_;rintro e w' ⟨rfl,rfl⟩));go_ret;exact ⟨ret_bool (HL.out (by omega)).symm,m,rfl⟩
theorem implBasesOk_any (A : Option Addr) (n c : Nat) (xs : List Int) (w : World) (h : Ints w .i64 A n c xs) (hn : n ≤ 1048576) (_hwf : Fits xs) :
    Calls Tryz.prog 60 #[.slice A n c] w fun e w' => e = .returned (.bool (basesOk xs)) ∧ w = w' := by
  obtain ⟨rfl, hcap, h⟩ := h
  have HL := Lib.hid (basesOk_long xs)
  by_cases hn0 : 0 < xs.length
  · obtain ⟨b, o, rfl, _, h⟩ := h hn0
    have c0 := h 0 hn0
    rw [Nat.add_zero] at c0
    have H0 := Lib.hid (basesOk_one xs)
    generalize hx0 : xs.getD 0 0 = x0 at *
    have HX := Lib.hid hx0
    clear hx0
    by_cases hg : xs.length ≤ 5 ∧ x0 = 1
    · obtain ⟨hg5, rfl⟩ := hg
      have HE := Lib.hid (basesOk_step xs hn0 hg5 HX.out)
      by_cases h1 : c = 1
      · subst h1
        obtain hg1 : xs.length = 1 := by omega
        have hz := basesOk_single xs hg1 HX.out
        have HZ := Lib.hid hz
        clear hz
        go_enter Tryz.func60, Tryz.ntmps60
        go_wp2
        refine wp_loop_rounds 1 ?_
        rw [rounds_succ]
        go_wp2
        go_ret
        exact ⟨ret_bool HZ.out.symm, rfl⟩
      · go_enter Tryz.func60, Tryz.ntmps60
        go_wp2
        go_loop [22] (fun i => ∃ k : Nat, k + 1 ≤ xs.length ∧ i = .int .i64 k ∧ up xs (k+1) = true) (fun i => xs.length - (intOf i).toNat)
        case atStart => exact ⟨0, by omega, rfl, up_one xs⟩
        case round =>
          obtain ⟨k, hk, rfl, hu⟩ := hrel
          by_cases hlt : k + 1 < xs.length
          · have c1 : w.cell? ⟨b, o + 1 + k, none⟩ = some (.int .i64 (xs.getD (k+1) 0)) := by have := h (k+1) hlt; rwa [show o + (k+1) = o+1+k by omega] at this
            have c2 := h k (by omega)
            have HN := basesOk_no2 xs k hlt
            have HU := basesOk_go2 xs k hu
            generalize xs.getD (k+1) 0 = x1 at *
            generalize xs.getD k 0 = x2 at *
            clear h
            replace HU := Lib.hid HU
            replace HN := Lib.hid HN
            clear hu
            go_wp2
            all_goals first
              | (go_ret; exact ⟨ret_bool (HN.out (by omega)).symm, rfl⟩)
              | (go_round
                 case rel => exact ⟨k+1, by omega, by go_num, HU.out (by omega)⟩
                 case measure => simp [intOf]; omega)
          · have HT := Lib.hid ((basesOk_top xs hg5 HX.out (by omega) hu))
            go_wp2
            go_ret
            exact ⟨ret_bool HT.out.symm, rfl⟩
    · have HX2 := HX.out
      subst HX2
      have HG := Lib.hid (basesOk_one xs)
      generalize xs.getD 0 0 = x0 at *
      by_cases h5 : xs.length ≤ 5
      · have hb : (x0 != 1) = true := by rw [bne_iff_ne]; omega
        go_enter Tryz.func60, Tryz.ntmps60
        go_wp2
        go_ret
        exact ⟨ret_bool (HG.out (by omega)).symm, rfl⟩
      · go_enter Tryz.func60, Tryz.ntmps60
        go_wp2
        go_ret
        exact ⟨ret_bool (HL.out (by omega)).symm, rfl⟩
  · go_enter Tryz.func60, Tryz.ntmps60
    go_wp2
    go_ret
    exact ⟨ret_bool (HL.out (by omega)).symm, rfl⟩
end
section
open Go.RowKit
theorem int_info:(Tryz.prog.info? 3).map (fun i=>(i.zero,i.size,i.bytes))=some (some (.int .i64 0),1,8):=by kernel_rfl
theorem toIntS_any (A:Option Addr) (n c:Nat) (xs:List Int) (w:World) (h:Ints w .i64 A n c xs) (hn:n≤1048576) :
 Calls Tryz.prog 79 #[.slice A n c] w fun e w'=>∃ g,e=.returned (.slice (some ⟨g,0,none⟩) n n)∧OwnInts w' w.heap.size 3 .i64 g n xs∧Below w.heap.size w w':=by
 obtain ⟨i0,hi,hz0,hz1,hz2⟩:=info_parts int_info;obtain ⟨rfl,hcap,h⟩:=h;have hmk:=fun W=>run_make_rowN (P:=Tryz.prog) 29 3 i0 _ Tryz.underlying29 hi hz0 .i64 .i64 xs.length xs.length (Nat.le_refl _) (by rw [hz2];omega) (by omega) W
 rw [hz1] at hmk;go_enter Tryz.func79,Tryz.ntmps79;go_wp2
 go_loopw [4] (fun i wr=>∃ (k:Nat) (cs:Array Value),k≤xs.length∧i=.int .i64 k∧cs.size=xs.length∧(∀ j,j < k→cs[j]?=some (.int .i64 (xs.getD j 0)))∧Blk wr w.heap.size 3 cs∧Below w.heap.size w wr) (fun i _=>xs.length - (intOf i).toNat)
 case atStart=>exact ⟨0,_,Nat.zero_le _,rfl,size_madeCells _ _,fun j hj=>absurd hj (by omega),Blk.new _ _ _,(Below.refl _ _).alloc (Nat.le_refl _) _⟩
 case round =>
  obtain ⟨k,cs,hk,rfl,hcs,hj,hb,hB⟩:=hrel
  by_cases hlt:k < xs.length
  · obtain ⟨b,o,rfl,hbo,h⟩:=h (by omega);have c1:=(hB.cell (p:=⟨b,o+k,none⟩) hbo).trans (h k hlt);have c2:=hb.cell k;have f2:=hb.frozen k;rw [Array.getElem?_eq_getElem (by omega)] at c2;have HB:=hb.set_ k (.int .i64 (xs.getD k 0));have HJ:=cells_set xs cs k (by omega) hj;have HBel:=hB.setCell (p:=⟨w.heap.size,k,none⟩) (Nat.le_refl _) (.int .i64 (xs.getD k 0));generalize xs.getD k 0=x at *;replace HB:=Lib.hid HB;replace HJ:=Lib.hid HJ;replace HBel:=Lib.hid HBel;clear h hj hb hmk;go_wp2
    go_roundw
    case rel=>exact ⟨k+1,_,by omega,by go_num,by simpa using hcs,HJ.out,HB.out,HBel.out⟩
    case measure=>simp [intOf];omega
  · obtain rfl:k=xs.length:=by omega
    have HO:=Lib.hid (OwnInts.of_cells (B:=w.heap.size) hb hcs hj (Nat.le_refl _));replace hB:=Lib.hid hB;clear h hj hb hmk;go_wp2;go_ret;exact ⟨_,rfl,HO.out,hB.out⟩
theorem eqIntS_any (A A':Option Addr) (n c n' c':Nat) (xs ys:List Int) (w:World) (h:Ints w .i64 A n c xs) (h':Ints w .i64 A' n' c' ys) (hn:n≤1048576) (hn':n'≤1048576) :
 Calls Tryz.prog 81 #[.slice A n c,.slice A' n' c'] w fun e w'=>e=.returned (.bool (decide (xs=ys)))∧∃ m,w'=w.drewN m:=by
 obtain ⟨rfl,hcap,h⟩:=h;obtain ⟨rfl,hcap',h'⟩:=h'
 by_cases hl:xs.length=ys.length
 · rw [← hl] at h' hcap' ⊢;replace hl:=Lib.hid hl;have heq:((xs.length:Int) != xs.length)=false:=by simp
   go_enter Tryz.func81,Tryz.ntmps81;go_wp2
   go_loopw [5] (fun i wr=>∃ k m:Nat,k≤xs.length∧i=.int .i64 k∧xs.take k=ys.take k∧wr=w.drewN m) (fun i _=>xs.length - (intOf i).toNat)
   case atStart=>exact ⟨0,0,Nat.zero_le _,rfl,by simp,rfl⟩
   case round =>
    obtain ⟨k,m,hk,rfl,hu,rfl⟩:=hrel
    by_cases hlt:k < xs.length
    · obtain ⟨b,o,rfl,_,h⟩:=h (by omega);obtain ⟨b',o',rfl,_,h'⟩:=h' (by omega);have c1:=h k hlt;have c2:=h' k hlt;have HU:=take_go (k:=k) xs ys hlt hl.out hu;have HN:=take_no (k:=k) xs ys hlt hl.out;generalize xs.getD k 0=x1 at *;generalize ys.getD k 0=x2 at *;replace HU:=Lib.hid HU;replace HN:=Lib.hid HN;clear h h' hu
      by_cases hx:x1=x2
      · have hx1:(x1 != x2)=false:=by simpa using hx
        replace hx:=Lib.hid hx;go_wp2
        go_quiet (fail)
        go_wp2
        go_roundw
        case rel=>exact ⟨k+1,m+nq,by omega,by go_num,HU.out hx.out,by simp⟩
        case measure=>simp [intOf];omega
      · have hx1:(x1 != x2)=true:=by simpa using hx
        go_wp2
        go_quiet (fail)
        go_wp2;go_ret;exact ⟨ret_bool (by rw [decide_eq_false (HN.out hx)]),m+nq,by simp⟩
    · have HE:=Lib.hid (take_end xs ys (by omega) hl.out hu);clear h h' hu;go_wp2;go_ret;exact ⟨ret_bool (by rw [decide_eq_true HE.out]),m,rfl⟩
 · have hne:xs≠ys:=fun e=>hl (by rw [e])
   have HN:=Lib.hid hne;have hneq:((xs.length:Int) != ys.length)=true:=by rw [bne_iff_ne];omega
   clear hne;go_enter Tryz.func81,Tryz.ntmps81;go_wp2;go_ret;exact ⟨ret_bool (by rw [decide_eq_false HN.out]),0,rfl⟩
end
section
open Go.RowKit
structure Rd (w:World) (g p:Nat):Prop where
 ex:∃ (A:Option Addr) (n c:Nat) (xs:List Int),Blk w g 114 #[.slice A n c,.int .i64 p]∧Ints w .u8 A n c xs∧n≤2000∧(∀ j,0≤xs.getD j 0∧xs.getD j 0≤255)∧(0 < n→∀ b o,A=some ⟨b,o,none⟩→b < g)
theorem Blk.grown {w w':World} {g:Nat} {t:TypeId} {cs:Array Value} {row:Option Nat} (h:Blk w g t cs) (hb:w.grownBy w' row) (hg:some g≠row):Blk w' g t cs:=(hb.block g h.lt hg).trans h
theorem grown_setCell (w:World) (g i:Nat) (u:Value):w.grownBy (w.setCell ⟨g,i,none⟩ u) (some g) :=
 ⟨rfl,rfl,rfl,by simp [World.setCell],fun k _ hk=>Below.heap_setCell w _ u k (fun e=>hk (by rw [e]))⟩
theorem grown_drewN {a w:World} {row:Option Nat} (h:a.grownBy w row) (n:Nat):a.grownBy (w.drewN n) row:=⟨h.os,h.tape,h.output,h.size,h.block⟩
end
section
open Go.RowKit
theorem int_info0:(Tryz.prog.info? 3).map (fun i=>(i.zero,i.size,i.bytes))=some (some (.int .i64 0),1,8):=by kernel_rfl
theorem blk_new_at {w:World} {t:TypeId} {cs:Array Value} (n:Nat) (h:w.heap.size=n):Blk (w.alloc (.cells cs t)) n t cs:=h ▸ Blk.new w t cs
theorem grown_trans' {a b c:World} {row:Option Nat} (h:a.grownBy b row) (k:b.grownBy c row):a.grownBy c row:=h.trans k
theorem grown_of_below {a b:World} (row:Option Nat) (h:Below a.heap.size a b):a.grownBy b row:=⟨h.os,h.tape,h.output,h.size,fun k hk _=>h.block k hk⟩
theorem grown_append {w a b:World} {g:Nat} {e:TypeId} {v:Value} {n:Nat} {xs:List Value} (h:w.grownBy a (some g)) (ho:a.ownsRow w.heap.size e 1 v n xs) (hg:a.grownBy b v.ownBlock):w.grownBy b (some g) :=
 ⟨hg.os.trans h.os,hg.tape.trans h.tape,hg.output.trans h.output,Nat.le_trans h.size hg.size,fun k hk hne=>(hg.block k (Nat.lt_of_lt_of_le hk h.size) (fun e=>by have:=(ho.lt k e.symm).1;omega)).trans (h.block k hk hne)⟩
end
section
open Go.RowKit
theorem ints_of_own {w:World} {B:Nat} {t:TypeId} {v:Value} {n:Nat} {xs:List Int} (h:w.ownsRow B t 1 v n (xs.map (Value.int .i64))):∃ A c,v=.slice A n c∧Ints w .i64 A n c xs:=by
 have hl:xs.length=n:=by have:=h.1;simpa using this
 rcases h.2 with ⟨rfl,rfl⟩ | ⟨g,cap,cur,rfl,hb,hg,hnc,hcm,hcs,htake⟩
 · exact ⟨none,0,rfl,hl,Nat.le_refl _,fun h=>absurd h (by omega)⟩
 · refine ⟨_,cap,rfl,hl,hnc,fun hn=>⟨g,0,rfl,?_,fun j hj=>?_⟩⟩
   · rcases Nat.lt_or_ge g w.heap.size with hlt | hge
     · exact hlt
     · rw [Array.getElem?_eq_none hge] at hg;cases hg
   · have:=h.cellAt (g:=g) (cap:=cap) j (by omega);rw [Nat.zero_add,this]
     simp [List.getElem?_eq_getElem (show j < xs.length by omega)]
theorem Fits.of_small {xs:List Int} (h:∀ x ∈ xs,-10000000≤x∧x≤10000000):Fits xs:=by
 intro j
 by_cases hj:j < xs.length
 · have:=h xs[j] (List.getElem_mem hj);simp only [List.getD_eq_getElem?_getD,List.getElem?_eq_getElem hj,Option.getD_some];omega
 · simp [List.getD_eq_getElem?_getD,List.getElem?_eq_none (by omega:xs.length≤j)]
end
section
open Go.RowKit
def marks (k:Int) (n:Nat):List Int:=(List.range n).map (fun i:Nat=>k+(i:Int))
theorem marks_length (k:Int) (n:Nat):(marks k n).length=n:=by simp [marks]
theorem marks_at (k:Int) {n j:Nat} (hj:j < n):(marks k n).getD j 0=k+j:=by simp [marks,List.getD_eq_getElem?_getD,hj]
theorem ownsRow_nil_n {w:World} {B:Nat} {t:TypeId} {n:Nat} {xs:List Value} {v:Value} (h:w.ownsRow B t 1 v n xs):∃ A c,v=.slice A n c:=by
 rcases h.2 with ⟨rfl,rfl⟩ | ⟨g,cap,cur,rfl,_⟩
 · exact ⟨_,_,rfl⟩
 · exact ⟨_,_,rfl⟩
theorem markIntS_any (B:Nat) (v:Value) (n:Nat) (xs:List Int) (k:Int) (w:World) (h:w.ownsRow B 3 1 v n (xs.map (Value.int .i64))) (hn:n≤1048576) (hk:0≤k∧k≤5000000) :
 Calls Tryz.prog 83 #[v,.int .i64 k] w fun e w'=>e=.returned (.int .i64 (k+n))∧w'.ownsRow B 3 1 v n ((marks k n).map (Value.int .i64))∧w.grownBy w' v.ownBlock∧w'.heap.size=w.heap.size:=by
 have hl:xs.length=n:=by have:=h.1;simpa using this
 by_cases hn0:0 < n
 · obtain ⟨g,cap,rfl,hB,hlt⟩:=h.form hn0;replace hl:=Lib.hid hl;go_enter Tryz.func83,Tryz.ntmps83;go_wp2
   go_loopw [1,5] (fun kk i wr=>∃ (j:Nat) (zs:List Int),j≤n∧i=.int .i64 j∧kk=.int .i64 (k+j)∧wr.ownsRow B 3 1 (.slice (some ⟨g,0,none⟩) n cap) n (zs.map (Value.int .i64))∧(∀ i,i < j→zs.getD i 0=k+i)∧w.grownBy wr (some g)∧wr.heap.size=w.heap.size) (fun _ i _=>n - (intOf i).toNat)
   case atStart=>exact ⟨0,xs,Nat.zero_le _,rfl,by simp,h,fun i hi=>by omega,World.grownBy.refl w _,rfl⟩
   case round =>
    obtain ⟨j,zs,hj,rfl,rfl,ho,hz,hg,hs⟩:=hrel;have hzl:zs.length=n:=by have:=ho.1;simpa using this
    by_cases hlt2:j < n
    · have c1:wr.cell? ⟨g,j,none⟩=some (.int .i64 (zs.getD j 0)):=by
       rw [ho.cellAt j (by omega)]
       simp [List.getElem?_eq_getElem (show j < zs.length by omega)]
      have f1:=ho.frozenAt j;have hst:=ho.stored j (.int .i64 (k+j))
      have HZ:∀ i,i < j+1→(zs.set j (k+j)).getD i 0=k+i:=fun i hi=>by
       by_cases e:j=i
       · subst e;simp [List.getD_eq_getElem?_getD,show j < zs.length by omega]
       · have:=hz i (by omega)
         simpa [List.getD_eq_getElem?_getD,List.getElem?_set,e] using this
      have HG:=hg.trans hst.2;have HS:(wr.setCell ⟨g,j,none⟩ (.int .i64 (k+j))).heap.size=w.heap.size:=by simpa [World.setCell] using hs
      have HO:(wr.setCell ⟨g,j,none⟩ (.int .i64 (k+j))).ownsRow B 3 1 (.slice (some ⟨g,0,none⟩) n cap) n ((zs.set j (k+j)).map (Value.int .i64)):=by rw [List.map_set];exact hst.1
      generalize zs.getD j 0=z at *;replace HZ:=Lib.hid HZ;replace HG:=Lib.hid HG;replace HS:=Lib.hid HS;replace HO:=Lib.hid HO;clear hst ho hz hg hs hzl h;go_wp2
      go_roundw
      case rel=>exact ⟨j+1,_,by omega,by go_num,by simp;omega,HO.out,HZ.out,HG.out,HS.out⟩
      case measure=>simp [intOf];omega
    · obtain rfl:j=n:=by omega
      have hm:zs=marks k j:=by
       apply List.ext_getElem (by rw [marks_length];exact hzl);intro i h1 h2;have h3:=hz i (by omega);have h4:=marks_at k (n:=j) (j:=i) (by omega);simp only [List.getD_eq_getElem?_getD,List.getElem?_eq_getElem h1,Option.getD_some] at h3;simp only [List.getD_eq_getElem?_getD,List.getElem?_eq_getElem h2,Option.getD_some] at h4;rw [h3,h4]
      rw [hm] at ho;replace ho:=Lib.hid ho;replace hg:=Lib.hid hg;replace hs:=Lib.hid hs;clear hz hm hzl h;go_wp2;go_ret;exact ⟨rfl,ho.out,hg.out,hs.out⟩
 · obtain rfl:n=0:=by omega
   obtain ⟨A,c,rfl⟩:=ownsRow_nil_n h;have hx:xs=[]:=List.eq_nil_of_length_eq_zero hl;subst hx;replace h:=Lib.hid h;go_enter Tryz.func83,Tryz.ntmps83;go_wp2;refine wp_loop_rounds 1 ?_;rw [rounds_succ];go_wp2;go_ret;exact ⟨by simp,by simpa [marks] using h.out,World.grownBy.refl w _,rfl⟩
theorem heldIntS_any (A:Option Addr) (n c:Nat) (k:Int) (w:World) (h:Ints w .i64 A n c (marks k n)) (hn:n≤1048576) (hk:0≤k∧k≤5000000) :
 Calls Tryz.prog 85 #[.slice A n c,.int .i64 k] w fun e w'=>e=.returned (.int .i64 (k+n))∧w=w':=by
 obtain ⟨-,hcap,h⟩:=h;go_enter Tryz.func85,Tryz.ntmps85;go_wp2
 go_loop [1,5] (fun kk i=>∃ (j:Nat),j≤n∧i=.int .i64 j∧kk=.int .i64 (k+j)) (fun _ i=>n - (intOf i).toNat)
 case atStart=>exact ⟨0,Nat.zero_le _,rfl,by simp⟩
 case round =>
  obtain ⟨j,hj,rfl,rfl⟩:=hrel
  by_cases hlt2:j < n
  · obtain ⟨b,o,rfl,_,h⟩:=h (by omega);have c1:=h j hlt2;rw [marks_at k hlt2] at c1;have hb:((k+(j:Int)) != (k+(j:Int)))=false:=by simp
    clear h;go_wp2
    go_round
    case rel=>exact ⟨j+1,by omega,by go_num,by simp;omega⟩
    case measure=>simp [intOf];omega
  · obtain rfl:j=n:=by omega
    clear h;go_wp2;go_ret;exact ⟨rfl,rfl⟩
theorem OwnInts.row {w:World} {B:Nat} {g n:Nat} {xs:List Int} (h:OwnInts w B 3 .i64 g n xs) (hn:n≤1048576):w.ownsRow B 3 1 (.slice (some ⟨g,0,none⟩) n n) n (xs.map (Value.int .i64)):=by
 obtain ⟨hge,rfl,hb⟩:=h;exact ⟨by simp,.inr ⟨g,xs.length,_,rfl,hge,hb,Nat.le_refl _,by unfold maxLen;omega,by simp,by rw [List.take_of_length_le (by simp)]⟩⟩
end
section
open Go.RowKit
def lettersTo (s:ByteArray) (k:Nat):Bool:=(s.data.toList.take k).all letterOk
theorem lettersTo_zero (s:ByteArray):lettersTo s 0=true:=by simp [lettersTo]
theorem take_snoc (s:ByteArray) (k:Nat) (h:k < s.size):s.data.toList.take (k+1)=s.data.toList.take k++[s[k]]:=by
 rw [List.take_succ_eq_append_getElem (by simpa using h)];rfl
theorem letterOk_iff (b:UInt8):letterOk b=true ↔ 97≤(b.toNat:Int)∧(b.toNat:Int)≤122:=by
 simp [letterOk];omega
theorem lettersTo_go {s:ByteArray} {k:Nat} (h:k < s.size) (hu:lettersTo s k=true):97≤(s[k].toNat:Int)∧(s[k].toNat:Int)≤122→lettersTo s (k+1)=true:=by
 intro hb;unfold lettersTo at hu ⊢;rw [take_snoc s k h,List.all_append,hu]
 simp [(letterOk_iff _).2 hb]
theorem wordOk_no {s:ByteArray} {k:Nat} (h:k < s.size):¬ (97≤(s[k].toNat:Int)∧(s[k].toNat:Int)≤122)→wordOk s=false:=by
 intro hb
 have hm:s[k] ∈ s.data.toList:=by
  have h2:k < s.data.toList.length:=by simpa using h
  exact List.getElem_mem h2
 by_cases hw:wordOk s=true
 · simp only [wordOk,Bool.and_eq_true,List.all_eq_true] at hw;exact absurd ((letterOk_iff _).1 (hw.2 _ hm)) hb
 · simpa using hw
theorem wordOk_end {s:ByteArray} (hu:lettersTo s s.size=true):wordOk s=decide (1≤(s.size:Int)∧(s.size:Int)≤8):=by
 unfold lettersTo at hu;rw [List.take_of_length_le (by simp)] at hu;unfold wordOk;rw [hu,Bool.and_true]
 by_cases h:1≤s.size∧s.size≤8
 · rw [decide_eq_true h,decide_eq_true (by omega)]
 · rw [decide_eq_false h,decide_eq_false (by omega)]
theorem wordOk_out {s:ByteArray} (h:¬ (1≤s.size∧s.size≤8)):wordOk s=false:=by
 unfold wordOk;rw [decide_eq_false h];rfl
theorem implWordOk_any (s : ByteArray) (w : World) (hs : s.size ≤ maxLen) :
    Calls Tryz.prog 195 #[.string s] w fun e w' => e = .returned (.bool (wordOk s)) ∧ w = w' := by
  unfold maxLen at hs
  by_cases h : 1 ≤ s.size ∧ s.size ≤ 8
  · obtain ⟨h1, h2⟩ := h
    have HE := Lib.hid (wordOk_end (s := s))
    go_enter Tryz.func195, Tryz.ntmps195
    go_wp2
    go_loop [14] (fun i => ∃ k : Nat, k ≤ s.size ∧ i = .int .i64 k ∧ lettersTo s k = true) (fun i => s.size - (intOf i).toNat)
    case atStart => exact ⟨0, Nat.zero_le _, rfl, lettersTo_zero s⟩
    case round =>
      obtain ⟨k, hk, rfl, hu⟩ := hrel
      by_cases hlt : k < s.size
      · have HU := Lib.hid (lettersTo_go hlt hu)
        have HN := Lib.hid (wordOk_no hlt)
        clear hu
        go_wp2
        all_goals first
          | (go_ret; exact ⟨ret_bool (HN.out (by omega)).symm, rfl⟩)
          | (go_round
             case rel => exact ⟨k+1, by omega, by go_num, HU.out (by omega)⟩
             case measure => simp [intOf]; omega)
      · obtain rfl : k = s.size := by omega
        have HF := HE.out hu
        rw [decide_eq_true (by omega)] at HF
        replace HF := Lib.hid HF
        clear hu
        go_wp2
        go_ret
        exact ⟨ret_bool HF.out.symm, rfl⟩
  · have HO := Lib.hid (wordOk_out h)
    by_cases h1 : s.size < 1
    all_goals
      go_enter Tryz.func195, Tryz.ntmps195
      go_wp2
      go_ret
      exact ⟨ret_bool HO.out.symm, rfl⟩

theorem specWordOk_any (s:ByteArray) (w:World) (hs:s.size≤maxLen) :
 Calls Tryz.prog 120 #[.string s] w fun e w'=>e=.returned (.bool (wordOk s))∧w=w':=by
 unfold maxLen at hs;have HE:=Lib.hid (wordOk_end (s:=s));go_enter Tryz.func120,Tryz.ntmps120;go_wp2
 go_loop [3] (fun i=>∃ k:Nat,k≤s.size∧i=.int .i64 k∧lettersTo s k=true) (fun i=>s.size - (intOf i).toNat)
 case atStart=>exact ⟨0,Nat.zero_le _,rfl,lettersTo_zero s⟩
 case round =>
  obtain ⟨k,hk,rfl,hu⟩:=hrel
  by_cases hlt:k < s.size
  · have HU:=Lib.hid (lettersTo_go hlt hu);have HN:=Lib.hid (wordOk_no hlt);clear hu;have h0:0≤(s[k].toNat:Int):=by omega
    have h255:(s[k].toNat:Int)≤255:=by have:=s[k].toNat_lt;omega
    by_cases hb:97≤(s[k].toNat:Int)∧(s[k].toNat:Int)≤122
    · have hd:decide (97≤(s[k].toNat:Int)∧(s[k].toNat:Int)≤122)=true:=decide_eq_true hb;go_wp2_with ((go_at_call 101;refine (in_any _ _ _ _).mono ?_;rintro e _ ⟨rfl,rfl⟩))
      go_round
      case rel=>exact ⟨k+1,by omega,by go_num,HU.out hb⟩
      case measure=>simp [intOf];omega
    · have hd:decide (97≤(s[k].toNat:Int)∧(s[k].toNat:Int)≤122)=false:=decide_eq_false hb;go_wp2_with ((go_at_call 101;refine (in_any _ _ _ _).mono ?_;rintro e _ ⟨rfl,rfl⟩));go_ret;exact ⟨ret_bool (HN.out hb).symm,rfl⟩
  · obtain rfl:k=s.size:=by omega
    have HF:=Lib.hid (HE.out hu);clear hu;go_wp2_with ((go_at_call 101;refine (in_any _ _ _ _).mono ?_;rintro e _ ⟨rfl,rfl⟩));go_ret;exact ⟨ret_bool (by rw [HF.out,Bool.decide_and]),rfl⟩
end
section
open Go.RowKit
def Src (w:World) (A:Option Addr) (m:Nat) (news:List Value):Prop :=
 news.length=m∧(∀ u ∈ news,u.oneCell'=true)∧(0 < m→∃ b o,A=some ⟨b,o,none⟩∧b < w.heap.size∧∀ j u,news[j]?=some u→w.cell? ⟨b,o+j,none⟩=some u)
section
variable {w w' : World} {A : Option Addr} {n c : Nat}
theorem Strs.src {xs:List ByteArray} (h:Strs w A n c xs):Src w A n (xs.map Value.string):=by
 refine ⟨by simpa using h.len,fun u hu=>?_,fun h0=>?_⟩
 · obtain ⟨x,_,rfl⟩:=List.mem_map.1 hu;rfl
 · obtain ⟨b,o,e,hl,hc⟩:=h.at_ h0;refine ⟨b,o,e,hl,fun j u hu=>?_⟩
   have hj:j < xs.length:=by
    rcases Nat.lt_or_ge j xs.length with h1 | h1
    · exact h1
    · rw [List.getElem?_eq_none (by simpa using h1)] at hu;cases hu
   rw [hc j (by have:=h.len;omega)];rw [← hu];simp [hj]
theorem Ints.src {k:IntKind} {xs:List Int} (h:Ints w k A n c xs):Src w A n (xs.map (Value.int k)):=by
 refine ⟨by simpa using h.len,fun u hu=>?_,fun h0=>?_⟩
 · obtain ⟨x,_,rfl⟩:=List.mem_map.1 hu;rfl
 · obtain ⟨b,o,e,hl,hc⟩:=h.at_ h0;refine ⟨b,o,e,hl,fun j u hu=>?_⟩
   have hj:j < xs.length:=by
    rcases Nat.lt_or_ge j xs.length with h1 | h1
    · exact h1
    · rw [List.getElem?_eq_none (by simpa using h1)] at hu;cases hu
   rw [hc j (by have:=h.len;omega)];rw [← hu];simp [hj]
theorem Src.one {b:Nat} {t:TypeId} {u:Value} (h:Blk w b t #[u]) (hu:u.oneCell'=true):Src w (some ⟨b,0,none⟩) 1 [u] :=
 ⟨rfl,by simpa using hu,fun _=>⟨b,0,rfl,h.lt,fun j v hv=>by
  rw [Nat.zero_add,h.cell]
  match j,hv with
  | 0,hv=>simpa using hv⟩⟩
theorem Src.keep {news:List Value} (h:Src w A n news) (hs:w.heap.size≤w'.heap.size) (hk:∀ p:Addr,p.block < w.heap.size→w'.cell? p=w.cell? p):Src w' A n news :=
 ⟨h.1,h.2.1,fun h0=>by
  obtain ⟨b,o,e,hl,hc⟩:=h.2.2 h0;exact ⟨b,o,e,by omega,fun j u hu=>(hk _ hl).trans (hc j u hu)⟩⟩
theorem Src.below {news:List Value} {B:Nat} (h:Src w A n news) (hb:Below B w w') (hB:w.heap.size≤B):Src w' A n news:=h.keep hb.size fun _ hp=>hb.cell (by omega)
theorem Src.alloc' {news:List Value} (h:Src w A n news) (o:Obj):Src (w.alloc o) A n news:=h.keep (by simp) fun p hp=>World.cell?_alloc_lt w o p hp
end
section
variable {P : Program} (w : World)
theorem run_app_nil (base:Nat) (t ty e:TypeId) (i:TypeInfo) (size:Nat) (ht:P.underlying t=some (.slice e)) (hi:P.info? e=some i)
 (v:Value) (n:Nat) (xs:List Value) (hown:w.ownsRow base e size v n xs) (c:Nat):(Builtin.append_ #[t,t] ty #[v,.slice none 0 c]).run P w=.ok v w:=by
 rcases hown.2 with ⟨rfl,rfl⟩ | ⟨g,cap,cur,rfl,_,_,hnc,_⟩
 · simp [Builtin.append_,run_underlying ht,sizeOf,typeInfo,hi,Builtin.lenOf,Builtin.firstCells]
 · simp [Builtin.append_,run_underlying ht,sizeOf,typeInfo,hi,Builtin.lenOf,Builtin.firstCells,hnc,storeCells]
theorem run_app (base:Nat) (t ty e:TypeId) (i:TypeInfo) (z:Value) (bytes:Nat) (ht:P.underlying t=some (.slice e)) (hi:P.info? e=some i) (hz:i.zero=some z)
 (hsize:i.size=1) (hby:i.bytes=bytes) (hzs:z.cells.size=1)
 (v:Value) (n:Nat) (xs:List Value) (hown:w.ownsRow base e 1 v n xs)
 (A:Option Addr) (m c:Nat) (news:List Value) (hr:Src w A m news)
 (h63:n+m≤maxLen) (hbytes:(n+m) * bytes≤140737488355328) (hbase:base≤w.heap.size) :
 ∃ v' w',(Builtin.append_ #[t,t] ty #[v,.slice A m c]).run P w=.ok v' w'∧w'.ownsRow base e 1 v' (n+m) (xs++news)∧w.grownBy w' v.ownBlock ∧
  (v'.ownBlock=v.ownBlock∨v'.ownBlock=some w.heap.size):=by
 obtain ⟨hl,h1,hat⟩:=hr;rcases A with _ | ad
 · have hm:m=0:=by
    rcases Nat.eq_zero_or_pos m with h0 | h0
    · exact h0
    · obtain ⟨b,o,h,_⟩:=hat h0;cases h
   subst hm;have hn:news=[]:=List.eq_nil_of_length_eq_zero hl;subst hn;exact ⟨v,w,run_app_nil w base t ty e i 1 ht hi v n xs hown c,by simpa using hown,World.grownBy.refl w _,.inl rfl⟩
 · have hcells:∀ j u,news[j]?=some u→w.cell? (ad.add j)=some u:=by
    intro j u hu;rcases Nat.eq_zero_or_pos m with h0 | h0
    · subst h0;have hn:news=[]:=List.eq_nil_of_length_eq_zero hl;subst hn;simp at hu
    · obtain ⟨b,o,h,_,hc⟩:=hat h0;injection h with h
      subst h;rw [add_plain'];exact hc j u hu
   obtain ⟨v',w',hrun,h2,h3,_,h5⟩:=run_append_own_at (P:=P) w base t ty e i z 1 bytes ht hi hz hsize hby hzs (by decide) v n xs hown ad m c news (by simpa using hl) hcells h1 h63 hbytes hbase;exact ⟨v',w',hrun,h2,h3,h5⟩
theorem wp_app {o:Oper} {a:Act} {K:Act→World→Prop} {Q:Exit→Act→World→Prop} (s x:Operand) (t:TypeId)
 (ho:o.op=.call { callee:=.builtin .append,args:=#[s,x],argTypes:=#[t,t] })
 (base:Nat) (e:TypeId) (i:TypeInfo) (z:Value) (bytes:Nat) (ht:P.underlying t=some (.slice e)) (hi:P.info? e=some i) (hz:i.zero=some z)
 (hsize:i.size=1) (hby:i.bytes=bytes) (hzs:z.cells.size=1)
 (v:Value) (n:Nat) (xs:List Value) (hs:a.eval s=v) (hown:w.ownsRow base e 1 v n xs)
 (A:Option Addr) (m c:Nat) (news:List Value) (hx:a.eval x=.slice A m c) (hr:Src w A m news)
 (h63:n+m≤maxLen) (hbytes:(n+m) * bytes≤140737488355328) (hbase:base≤w.heap.size)
 (h:∀ v' w',w'.ownsRow base e 1 v' (n+m) (xs++news)→w.grownBy w' v.ownBlock→(v'.ownBlock=v.ownBlock∨v'.ownBlock=some w.heap.size)→K (a.put o.dst v') w'):o.wp P a w K Q:=by
 obtain ⟨v',w',hrun,h2,h3,h4⟩:=run_app (P:=P) w base t o.type e i z bytes ht hi hz hsize hby hzs v n xs hown A m c news hr h63 hbytes hbase;unfold Oper.wp execOp;simp only [ho,resolve,invoke,builtin,Sem.run_bind,Sem.run_pure,Result.andThen_ok,List.map_toArray,List.map_cons,List.map_nil,hs,hx,hrun];exact h v' w' h2 h3 h4
theorem wpList_app {ops:Array Oper} {rest:List Oper} {o:Oper} {a:Act} {Q:Exit→Act→World→Prop} (hgd:o.guard=none) (s x:Operand) (t:TypeId)
 (ho:o.op=.call { callee:=.builtin .append,args:=#[s,x],argTypes:=#[t,t] })
 (base:Nat) (e:TypeId) (i:TypeInfo) (z:Value) (bytes:Nat) (ht:P.underlying t=some (.slice e)) (hi:P.info? e=some i) (hz:i.zero=some z)
 (hsize:i.size=1) (hby:i.bytes=bytes) (hzs:z.cells.size=1)
 (v:Value) (n:Nat) (xs:List Value) (hs:a.eval s=v) (hown:w.ownsRow base e 1 v n xs)
 (A:Option Addr) (m c:Nat) (news:List Value) (hx:a.eval x=.slice A m c) (hr:Src w A m news)
 (h63:n+m≤maxLen) (hbytes:(n+m) * bytes≤140737488355328) (hbase:base≤w.heap.size)
 (h:∀ v' w',w'.ownsRow base e 1 v' (n+m) (xs++news)→w.grownBy w' v.ownBlock→(v'.ownBlock=v.ownBlock∨v'.ownBlock=some w.heap.size)→wpList P ops Q rest (a.put o.dst v') w'):wpList P ops Q (o :: rest) a w :=
 wpList_plain hgd fun _ hK=>wp_app w s x t ho base e i z bytes ht hi hz hsize hby hzs v n xs hs hown A m c news hx hr h63 hbytes hbase fun v' w' h2 h3 h4=>hK _ _ (h v' w' h2 h3 h4)
theorem step_app {ops:Array Oper} {o:Oper} {a:Act} {K:Act→World→Prop} {Q:Exit→Act→World→Prop} {E:Prop} (hgd:o.guard=none) (s x:Operand) (t:TypeId)
 (ho:o.op=.call { callee:=.builtin .append,args:=#[s,x],argTypes:=#[t,t] })
 (base:Nat) (e:TypeId) (i:TypeInfo) (z:Value) (bytes:Nat) (ht:P.underlying t=some (.slice e)) (hi:P.info? e=some i) (hz:i.zero=some z)
 (hsize:i.size=1) (hby:i.bytes=bytes) (hzs:z.cells.size=1)
 (v:Value) (n:Nat) (xs:List Value) (hs:a.eval s=v) (hown:w.ownsRow base e 1 v n xs)
 (A:Option Addr) (m c:Nat) (news:List Value) (hx:a.eval x=.slice A m c) (hr:Src w A m news)
 (h63:n+m≤maxLen) (hbytes:(n+m) * bytes≤140737488355328) (hbase:base≤w.heap.size)
 (h:∀ v' w',w'.ownsRow base e 1 v' (n+m) (xs++news)→w.grownBy w' v.ownBlock→(v'.ownBlock=v.ownBlock∨v'.ownBlock=some w.heap.size)→K (a.put o.dst v') w') :
 if Region.wanted o (yielded ops a.tmps)=true then Oper.wp P o a w K Q else E:=by
 have hw:Region.wanted o (yielded ops a.tmps)=true:=by simp [Region.wanted,hgd]
 rw [if_pos hw];exact wp_app w s x t ho base e i z bytes ht hi hz hsize hby hzs v n xs hs hown A m c news hx hr h63 hbytes hbase h
end
theorem str_info:(Tryz.prog.info? 9).map (fun i=>(i.zero,i.size,i.bytes))=some (some (.string ByteArray.empty),1,16):=by kernel_rfl
theorem owns_none (w:World) (B:Nat) (t:TypeId):w.ownsRow B t 1 (.slice none 0 0) 0 []:=⟨rfl,.inl ⟨rfl,rfl⟩⟩
theorem owns_empty {w:World} {B:Nat} {t:TypeId} {g:Nat} (h:Blk w g t #[]) (hg:B≤g):w.ownsRow B t 1 (.slice (some ⟨g,0,none⟩) 0 0) 0 [] :=
 ⟨rfl,.inr ⟨g,0,#[],rfl,hg,h,Nat.le_refl _,Nat.zero_le _,rfl,rfl⟩⟩
theorem owns_blk {w:World} {B:Nat} {t:TypeId} {g n:Nat} {xs:List Value} (h:Blk w g t xs.toArray) (hn:xs.length=n) (hg:B≤g) (hm:n≤maxLen):w.ownsRow B t 1 (.slice (some ⟨g,0,none⟩) n n) n xs :=
 ⟨by simpa using hn,.inr ⟨g,n,xs.toArray,rfl,hg,h,Nat.le_refl _,hm,by simpa using hn,by rw [Nat.mul_one];simp [← hn]⟩⟩
theorem below_own {w a b:World} {B S:Nat} {t:TypeId} {v:Value} {n:Nat} {xs:List Value} (h:Below S w a) (ho:a.ownsRow B t 1 v n xs) (hg:a.grownBy b v.ownBlock) (hS:S≤a.heap.size) (hB:S≤B):Below S w b :=
 h.grown hg hS (fun k e=>by have:=(ho.lt k e).1;omega)
end
section
open Go.RowKit
set_option maxRecDepth 100000 in
theorem grow_any (n:Nat) (w:World) (hn:n≤4000000) :
 Calls Tryz.prog 219 #[.slice none 0 0,.int .i64 n] w fun e w'=>∃ v,e=.returned v∧w'.ownsRow w.heap.size 9 1 v 0 []∧Below w.heap.size w w':=by
 obtain ⟨i0,hi,hz0,hz1,hz2⟩:=info_parts str_info
 by_cases h0:0 < n
 · have hrun:=Lib.run_append_nil_zeros (P:=Tryz.prog) w 28 3 28 9 i0 _ .i64 .i64 Tryz.underlying28 Tryz.underlying3 hi hz0 n h0 (by omega) (by omega) (by rw [hz2];omega);have hge:=grownCap_ge w n 0 9;have hle:=grownCap_le_maxLen w n 0 9 (by unfold maxLen;omega);have hsz:∀ k,(Builtin.zeroCells (Value.string ByteArray.empty).cells k).size=k:=fun k=>by simp [Builtin.zeroCells,Value.cells]
   generalize grownCap w n 0 9=c at *
   have HO:(w.drew.alloc (.cells (Builtin.zeroCells (Value.string ByteArray.empty).cells n++Builtin.zeroCells (Value.string ByteArray.empty).cells (c - n)) 9)).ownsRow w.heap.size 9 1 (.slice (some ⟨w.heap.size,0,none⟩) 0 c) 0 [] :=
    ⟨rfl,.inr ⟨w.heap.size,c,_,rfl,Nat.le_refl _,heap_alloc_new w.drew _,Nat.zero_le _,hle,by simp [hsz];omega,by simp⟩⟩
   have HR:=Lib.hid hrun;replace HO:=Lib.hid HO;unfold maxLen at hle;clear hrun hz0 hz1 hz2;have hc0:¬ c=0:=by omega
   go_enter Tryz.func219,Tryz.ntmps219;go_wp2_with (at_builtin;refine Lib.wpList_append_run _ rfl _ _ _ _ rfl _ _ rfl rfl _ _ HR.out ?_);go_ret;exact ⟨_,rfl,HO.out,(Below.refl _ _).drew.alloc (Nat.le_refl _) _⟩
 · obtain rfl:n=0:=by omega
   go_enter Tryz.func219,Tryz.ntmps219;go_wp2;go_ret;exact ⟨_,rfl,owns_none _ _ _,Below.refl _ _⟩
set_option maxRecDepth 100000 in
set_option maxHeartbeats 1000000 in
theorem concat_any (A A':Option Addr) (g n c n' c':Nat) (xs ys:List ByteArray) (w:World) (hg:g < w.heap.size) (h0:w.cell? ⟨g,0,none⟩=some (.slice A n c)) (h1:w.cell? ⟨g,1,none⟩=some (.slice A' n' c'))
 (h:Strs w A n c xs) (h':Strs w A' n' c' ys) (hn:n≤1048576) (hn':n'≤1048576) :
 Calls Tryz.prog 194 #[.slice (some ⟨g,0,none⟩) 2 2] w fun e w'=>∃ v,e=.returned v∧w'.ownsRow w.heap.size 9 1 v (n+n') ((xs++ys).map Value.string)∧Below w.heap.size w w':=by
 obtain ⟨i0,hi,hz0,hz1,hz2⟩:=info_parts str_info;have HS:=Lib.hid h.src;have HS':=Lib.hid h'.src;have hG0:=grow_any (n+n') w (by omega);rw [Int.natCast_add] at hG0;have hG:=Lib.hid hG0;clear hG0;clear h h';go_enter Tryz.func194,Tryz.ntmps194;go_wp2;refine wp_loop_rounds 3 ?_;rw [rounds_succ];go_wp2;rw [rounds_succ];go_wp2;rw [rounds_succ];go_wp2_with (fail);refine hG.out.mono ?_;rintro e w1 ⟨v1,rfl,ho1,hb1⟩;have c0:=(hb1.cell (p:=⟨g,0,none⟩) hg).trans h0;have c1:=(hb1.cell (p:=⟨g,1,none⟩) hg).trans h1;have S1:=Lib.hid (HS.out.below hb1 (Nat.le_refl _));replace ho1:=Lib.hid ho1;replace hb1:=Lib.hid hb1;clear h0 h1;go_wp2;refine wp_loop_rounds 3 ?_;rw [rounds_succ];go_wp2_with (at_builtin;refine wpList_app _ rfl (.tmp 31) (.tmp 32) _ rfl w.heap.size 9 i0 _ 16 Tryz.underlying28 hi hz0 hz1 hz2 rfl v1 0 [] rfl ho1.out A n c _ rfl S1.out (by unfold maxLen;omega) (by omega) hb1.out.size ?_;intro v2 w2 ho2 hg2 _);have hb2:=below_own hb1.out ho1.out hg2 hb1.out.size (Nat.le_refl _);have c2:=(hb2.cell (p:=⟨g,1,none⟩) hg).trans ((hb1.out.cell (p:=⟨g,1,none⟩) hg).symm.trans c1);have S2:=Lib.hid (HS'.out.below hb2 (Nat.le_refl _));replace ho2:=Lib.hid ho2;replace hb2:=Lib.hid hb2;clear c0 c1 hg2;rw [rounds_succ]
 go_wp2_with (at_builtin;refine wpList_app _ rfl (.tmp 31) (.tmp 32) _ rfl w.heap.size 9 i0 _ 16 Tryz.underlying28 hi hz0 hz1 hz2 rfl v2 _ _ rfl ho2.out A' n' c' _ rfl S2.out (by unfold maxLen;omega) (by omega) hb2.out.size ?_;intro v3 w3 ho3 hg3 _);have hb3:=below_own hb2.out ho2.out hg3 hb2.out.size (Nat.le_refl _);rw [rounds_succ];replace ho3:=Lib.hid ho3;replace hb3:=Lib.hid hb3;clear hg3 c2;go_wp2;go_ret;exact ⟨_,rfl,by have:=ho3.out;simpa using this,hb3.out⟩
end
section
open Go.RowKit Go.WideMaps Go.Maps
abbrev keyL (s:ByteArray):Lit:=.string s.data.toList
theorem keyL_is (s:ByteArray):WideAt.IsKeyLit (keyL s):=trivial
theorem keyL_inj {a b:ByteArray} (h:a≠b):keyL a≠keyL b:=fun e=>h (by
 injection e with e
 exact ByteArray.ext (Array.toList_inj.1 e))
def plD (ws:List ByteArray):Nat→DataW Unit
 | 0=>.map []
 | k+1=>(plD ws k).put (keyL (ws.getD k ByteArray.empty)) (.lit (.int .i64 (k:Int)))
theorem plD_tidy (ws:List ByteArray):∀ k,Tidy (plD ws k)
 | 0=>tidy_empty
 | k+1=>(plD_tidy ws k).put (keyL_is _) _
theorem plD_has (ws:List ByteArray) (x:ByteArray):∀ k,k≤ws.length→(Maps.has (plD ws k) (keyL x)=true ↔ x ∈ ws.take k)
 | 0,_=>by simp [plD,Maps.has]
 | k+1,h=>by
  have hk:k < ws.length:=by omega
  have hg:ws.getD k ByteArray.empty=ws[k]:=by simp [List.getD_eq_getElem?_getD,hk]
  have hr:=plD_has ws x k (by omega);rw [List.take_succ_eq_append_getElem hk]
  by_cases e:x=ws[k]
  · subst e
    show Maps.has ((plD ws k).put _ _) _=true ↔ _
    rw [hg,has_put_same (plD_tidy ws k).isMap (keyL_is _)];simp only [List.mem_append,List.mem_singleton,or_true]
  · show Maps.has ((plD ws k).put _ _) _=true ↔ _
    rw [hg,has_put_other (keyL_inj e),hr];simp only [List.mem_append,List.mem_singleton,e,or_false]
theorem plD_size (ws:List ByteArray):∀ k,k≤ws.length→Maps.size (plD ws k)≤k∧(Maps.size (plD ws k)=k ↔ (ws.take k).Nodup)
 | 0,_=>by simp [plD,Maps.size]
 | k+1,h=>by
  have hk:k < ws.length:=by omega
  have hg:ws.getD k ByteArray.empty=ws[k]:=by simp [List.getD_eq_getElem?_getD,hk]
  obtain ⟨h1,h2⟩:=plD_size ws k (by omega)
  have hs:Maps.size (plD ws (k+1))=if Maps.has (plD ws k) (keyL ws[k]) then Maps.size (plD ws k) else Maps.size (plD ws k)+1:=by
   show Maps.size ((plD ws k).put _ _)=_
   rw [hg,size_put (plD_tidy ws k)]
  have hh:=plD_has ws ws[k] k (by omega);rw [hs,List.take_succ_eq_append_getElem hk,List.nodup_append]
  by_cases hm:ws[k] ∈ ws.take k
  · rw [if_pos (hh.2 hm)];refine ⟨by omega,fun e=>by omega,fun ⟨_,_,hd⟩=>absurd rfl (hd _ hm _ (by simp))⟩
  · rw [if_neg (fun e=>hm (hh.1 e))];refine ⟨by omega,fun e=>⟨h2.1 (by omega),by simp,fun a ha b hb=>?_⟩,fun ⟨hd,_,_⟩=>by rw [h2.2 hd]⟩;simp at hb;subst hb;rintro rfl;exact hm ha
theorem keyLaw:Keyed Tryz.prog 9:=string_keyed Tryz.underlying9
theorem zeroInt (w:World):(zeroValue 3).run Tryz.prog w=.ok (.int .i64 0) w:=by kernel_rfl
theorem run_makeMap_n {P:Program} (t k e:TypeId) (kd:IntKind) (n:Int) (ht:P.underlying t=some (.map k e)) (w:World) :
 (Instr.makeMap t (some (.int kd n))).run P w=.ok (.map (some w.heap.size)) (w.alloc (.map #[] 0)):=by
 simp [Instr.makeMap,run_underlying ht];rfl
def Placed (w:World) (b:Nat) (ws:List ByteArray):Prop:=w.ownsMap Tryz.prog 9 (plainElem Tryz.prog 3) b ws.length (plD ws ws.length)
set_option maxRecDepth 100000 in
theorem places_any (A:Option Addr) (n c:Nat) (ws:List ByteArray) (w:World) (h:Strs w A n c ws) (hn:n≤2097152) (hs:∀ x ∈ ws,x.size≤maxLen) :
 Calls Tryz.prog 196 #[.slice A n c] w fun e w'=>e=.returned (.map (some w.heap.size))∧Placed w' w.heap.size ws∧Below w.heap.size w w':=by
 have hmm:=fun kd n W=>run_makeMap_n (P:=Tryz.prog) 199 9 3 kd n Tryz.underlying199 W
 obtain ⟨rfl,hcap,h⟩:=h;have hD0:(w.alloc (.map #[] 0)).ownsMap Tryz.prog 9 (plainElem Tryz.prog 3) w.heap.size 0 (plD ws 0):=World.ownsMap_made _ _ _ _;replace hD0:=Lib.hid hD0
 have hS:∀ k,∃ hz:(ws.getD k ByteArray.empty).size≤maxLen,True:=fun k=>by
  refine ⟨?_,trivial⟩
  by_cases hk:k < ws.length
  · rw [List.getD,List.getElem?_eq_getElem hk];exact hs _ (List.getElem_mem hk)
  · rw [List.getD,List.getElem?_eq_none (by omega)];exact Nat.zero_le _
 replace hS:=Lib.hid hS;clear hs;go_enter Tryz.func196,Tryz.ntmps196;go_wp2
 go_loopw [11] (fun i wr=>∃ k:Nat,k≤ws.length∧i=.int .i64 k∧wr.ownsMap Tryz.prog 9 (plainElem Tryz.prog 3) w.heap.size k (plD ws k)∧Below w.heap.size w wr) (fun i _=>ws.length - (intOf i).toNat)
 case atStart=>exact ⟨0,Nat.zero_le _,rfl,hD0.out,(Below.refl _ _).alloc (Nat.le_refl _) _⟩
 case round =>
  obtain ⟨k,hk,rfl,hown,hb⟩:=hrel
  by_cases hlt:k < ws.length
  · obtain ⟨b,o,rfl,hbo,h⟩:=h (by omega);have c1:=(hb.cell (p:=⟨b,o+k,none⟩) hbo).trans (h k hlt);have hkey:=keyOf_string_mk (P:=Tryz.prog) Tryz.underlying9 (hS.out k).1;have HD:Hid (plD ws (k+1)=(plD ws k).put (keyL (ws.getD k ByteArray.empty)) (.lit (.int .i64 (k:Int)))):=rfl;generalize ws.getD k ByteArray.empty=x at *;replace hown:=Lib.hid hown;replace hb:=Lib.hid hb;replace hkey:=Lib.hid hkey;clear h hmm;go_wp2_with (at_mapUpdate;refine wpList_mapUpdate_own _ rfl _ _ _ 199 rfl 9 3 keyLaw Tryz.underlying199 _ w.heap.size k _ rfl hown.out (by unfold maxLen;omega) _ _ _ rfl rfl hkey.out _ [] (plainElem_int Tryz.underlying3 (by simp [Lit.wf,IntKind.min,IntKind.max,IntKind.signed,IntKind.bits];omega)) ?_;intro w1 hown1 hgrow1);have HB:=Lib.hid (hb.out.grown hgrow1 hb.out.size (fun j hj=>by cases hj;exact Nat.le_refl _));rw [← HD.out] at hown1;replace hown1:=Lib.hid hown1;clear hgrow1;go_wp2
    go_roundw
    case rel=>exact ⟨k+1,by omega,by go_num,hown1.out,HB.out⟩
    case measure=>simp [intOf];omega
  · obtain rfl:k=ws.length:=by omega
    replace hown:=Lib.hid hown;replace hb:=Lib.hid hb;clear h hmm;go_wp2;go_ret;exact ⟨rfl,hown.out,hb.out⟩
end
section
open Go.RowKit
theorem own_below {w w':World} {B S:Nat} {t:TypeId} {v:Value} {n:Nat} {xs:List Value} (h:w.ownsRow B t 1 v n xs) (hb:Below S w w') (hS:w.heap.size≤S):w'.ownsRow B t 1 v n xs :=
 h.kept (row:=none) ⟨hb.os,hb.tape,hb.output,hb.size,fun k hk _=>hb.block k (by omega)⟩ (by
  cases hv:v.ownBlock
  · exact .inl rfl
  · exact .inr (by simp))
theorem own_mono {w:World} {B B':Nat} {t:TypeId} {v:Value} {n:Nat} {xs:List Value} (h:w.ownsRow B t 1 v n xs) (hB:B'≤B):w.ownsRow B' t 1 v n xs:=by
 rcases h.2 with ⟨h1,h2⟩ | ⟨g,cap,cur,h1,hb,h2⟩
 · exact ⟨h.1,.inl ⟨h1,h2⟩⟩
 · exact ⟨h.1,.inr ⟨g,cap,cur,h1,by omega,h2⟩⟩
def OwnStrs (w:World) (B:Nat) (v:Value) (xs:List ByteArray):Prop:=w.ownsRow B 9 1 v xs.length (xs.map Value.string)
def RetStrs (w:World) (xs:List ByteArray) (e:Ending) (w':World):Prop:=∃ v,e=.returned v∧OwnStrs w' w.heap.size v xs∧Below w.heap.size w w'
theorem OwnStrs.strs {w:World} {B:Nat} {v:Value} {xs:List ByteArray} (h:OwnStrs w B v xs):∃ A c,v=.slice A xs.length c∧Strs w A xs.length c xs:=strs_of_own h
theorem OwnStrs.below {w w':World} {B S:Nat} {v:Value} {xs:List ByteArray} (h:OwnStrs w B v xs) (hb:Below S w w') (hS:w.heap.size≤S):OwnStrs w' B v xs:=own_below h hb hS
theorem OwnStrs.mono {w:World} {B B':Nat} {v:Value} {xs:List ByteArray} (h:OwnStrs w B v xs) (hB:B'≤B):OwnStrs w B' v xs:=own_mono h hB
def OwnI (w:World) (B:Nat) (v:Value) (xs:List Int):Prop:=w.ownsRow B 3 1 v xs.length (xs.map (Value.int .i64))
theorem OwnI.ints {w:World} {B:Nat} {v:Value} {xs:List Int} (h:OwnI w B v xs):∃ A c,v=.slice A xs.length c∧Ints w .i64 A xs.length c xs:=ints_of_own h
theorem OwnI.below {w w':World} {B S:Nat} {v:Value} {xs:List Int} (h:OwnI w B v xs) (hb:Below S w w') (hS:w.heap.size≤S):OwnI w' B v xs:=own_below h hb hS
theorem OwnI.mono {w:World} {B B':Nat} {v:Value} {xs:List Int} (h:OwnI w B v xs) (hB:B'≤B):OwnI w B' v xs:=own_mono h hB
theorem own_snoc4 {w:World} {B n:Nat} {v:Value} {us:List ByteArray} {x:ByteArray} (h:w.ownsRow B 9 1 v n (us.map Value.string++[.string x])):OwnStrs w B v (us++[x]):=by
 have hl:=h.1;have hn:n=(us++[x]).length:=by simp at hl ⊢;omega
 subst hn;unfold OwnStrs
 simpa using h
end
end Go.Proofs.YtmhgpbfogdoaeaaGreatDoor
