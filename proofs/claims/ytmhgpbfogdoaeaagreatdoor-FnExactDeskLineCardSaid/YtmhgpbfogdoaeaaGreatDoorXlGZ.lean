/-
  GZ: Range MathP MathO S1 S2 S3 S4 S8 T1 T2 T3 T8 P4h.
-/
import Derived.RangeFuncNested
import Derived.RangeFuncBound
import Derived.RangeFuncCalls
import Derived.RangeFuncLeaves
import Derived.Shelf.Abstract
import Derived.Shelf.RegionOpen
import Derived.WalkKit
import Derived.OwnWalkIn
import Derived.TacticsInMore
import Derived.LoopNIn
import Derived.LoopIn
import Derived.Sort.BigQuietIn
import Derived.Sort.QuietThIn
import Derived.Test.YtmhgpbfogdoaeaaGreatDoorXlGX
import Derived.Test.YtmhgpbfogdoaeaaGreatDoorXlGN
import Derived.Lib.Join
import Derived.Test.YtmhgpbfogdoaeaaGreatDoorXlGA
import Derived.Lib.QuietBelow
import Derived.Laws.IdiomStrings
import Derived.Test.YtmhgpbfogdoaeaaGreatDoorXlGB
import Derived.Test.YtmhgpbfogdoaeaaGreatDoorXlGP
import Derived.Deep.RegionHeld3
import Derived.Lib.SplitLaws
import Derived.Lib.IndexLaws
import Derived.Lib.IndexBytes
import Derived.Shelf.Strings.Split
import Derived.Test.YtmhgpbfogdoaeaaGreatDoorXlCutR
import Derived.Test.YtmhgpbfogdoaeaaGreatDoorXlCutD
namespace Go.Proofs.YtmhgpbfogdoaeaaGreatDoor
section
open Go Go.RowKit
variable {P : Program}
def leaves {α:Type} (B:Nat) (Kp:World→World→Prop) (I:List α→World→Prop) (Ix:Code→List α→World→Prop) (xs:List α) (W:World):Exit→Act→World→Prop
 | .normal,_,W'=>KeepsFrom B W W'∧Kp W W'∧I xs W'
 | .ret,_,W'=>KeepsFrom B W W'∧Kp W W'∧Ix .ret xs W'
 | .exit id,_,W'=>KeepsFrom B W W'∧Kp W W'∧Ix (.exit id) xs W'
 | .goto t,_,W'=>KeepsFrom B W W'∧Kp W W'∧Ix (.goto t) xs W'
 | .panic _,_,_=>False
 | .outgrown,_,_=>False
end
abbrev RunB:=Nat × UInt8
def push (b:UInt8):List RunB→List RunB
 | []=>[(1,b)]
 | (t,c) :: q=>if b=c then (t+1,c) :: q else (1,b) :: (t,c) :: q
def runs:List UInt8→List RunB
 | []=>[]
 | b :: r=>push b (runs r)
def flat:List RunB→List UInt8
 | []=>[]
 | (t,c) :: q=>List.replicate t c++flat q
def Wf:List RunB→Prop
 | []=>True
 | (t,c) :: q=>1≤t∧(∀ x,q.head?=some x→x.2≠c)∧Wf q
theorem push_ne (b:UInt8) (q:List RunB):push b q≠[]:=by
 unfold push;split
 · simp
 · split <;> simp
theorem push_app (b:UInt8) {q:List RunB} (h:q≠[]) (r:List RunB):push b (q++r)=push b q++r:=by
 cases q with
 | nil=>exact absurd rfl h
 | cons x q =>
  obtain ⟨t,c⟩:=x;simp only [push,List.cons_append]
  split <;> rfl
theorem runs_ne {l:List UInt8} (h:l≠[]):runs l≠[]:=by
 cases l with
 | nil=>exact absurd rfl h
 | cons b r=>exact push_ne _ _
theorem flat_push (b:UInt8) (q:List RunB):flat (push b q)=b :: flat q:=by
 unfold push;split
 · rfl
 · rename_i t c q
   split
   · rename_i e
     subst e
     simp [flat,List.replicate_succ]
   · simp [flat]
theorem flat_runs (l:List UInt8):flat (runs l)=l:=by
 induction l with
 | nil=>rfl
 | cons b r ih=>rw [runs,flat_push,ih]
theorem flat_app (p q:List RunB):flat (p++q)=flat p++flat q:=by
 induction p with
 | nil=>rfl
 | cons x p ih=>obtain ⟨t,c⟩:=x;simp [flat,ih,List.append_assoc]
theorem push_wf (b:UInt8) {q:List RunB} (h:Wf q):Wf (push b q):=by
 unfold push;split
 · exact ⟨Nat.le_refl _,by simp,trivial⟩
 · rename_i t c q
   obtain ⟨h1,h2,h3⟩:=h
   split
   · exact ⟨by omega,h2,h3⟩
   · rename_i e
     exact ⟨Nat.le_refl _,by intro x hx;simp at hx;subst hx;exact fun k=>e k.symm,h1,h2,h3⟩
theorem runs_wf (l:List UInt8):Wf (runs l):=by
 induction l with
 | nil=>trivial
 | cons b r ih=>exact push_wf b ih
theorem runs_rep (n:Nat) (c:UInt8) {q:List RunB} (h:∀ x,q.head?=some x→x.2≠c) (r:List UInt8) (hr:runs r=q):runs (List.replicate (n+1) c++r)=(n+1,c) :: q:=by
 induction n with
 | zero =>
  simp only [List.replicate_succ,List.replicate_zero,List.cons_append,List.nil_append,runs,hr];cases q with
  | nil=>rfl
  | cons x q =>
   obtain ⟨t,d⟩:=x;have:=h (t,d) rfl;simp only [push];rw [if_neg (fun e=>this e.symm)]
 | succ n ih =>
  rw [List.replicate_succ,List.cons_append,runs,ih,push,if_pos rfl]
theorem runs_flat {q:List RunB} (h:Wf q):runs (flat q)=q:=by
 induction q with
 | nil=>rfl
 | cons x q ih =>
  obtain ⟨t,c⟩:=x;obtain ⟨h1,h2,h3⟩:=h;obtain ⟨n,rfl⟩:∃ n,t=n+1:=⟨t - 1,by omega⟩;exact runs_rep n c h2 _ (ih h3)
theorem push_head (b:UInt8) (q:List RunB):(push b q).head?.map (·.2)=some b:=by
 unfold push;split
 · rfl
 · split
   · rename_i e;simp [e]
   · rfl
theorem runs_head (l:List UInt8):(runs l).head?.map (·.2)=l.head?:=by
 cases l with
 | nil=>rfl
 | cons b r=>exact push_head _ _
theorem runs_app {x y:List UInt8} (h:∀ a,x.getLast?=some a→y.head?≠some a):runs (x++y)=runs x++runs y:=by
 induction x with
 | nil=>rfl
 | cons a x ih =>
  cases x with
  | nil =>
   have hy:=h a rfl;rw [← runs_head] at hy;simp only [List.cons_append,List.nil_append,runs];cases e:runs y with
   | nil=>rfl
   | cons z q =>
    obtain ⟨t,c⟩:=z;rw [e] at hy;simp only [push];rw [if_neg (fun k=>hy (by simp [k]))];rfl
  | cons b x =>
   have:=ih (fun a' h'=>h a' (by simpa using h'));rw [List.cons_append,runs,this,push_app _ (runs_ne (by simp))];rfl
theorem runs_snoc_new {l:List UInt8} {b:UInt8} (h:l.getLast?≠some b):runs (l++[b])=runs l++[(1,b)]:=by
 rw [runs_app (fun a ha e=>h (by rw [ha];simpa using e.symm))];rfl
theorem wf_more {p:List RunB} {t:Nat} {c:UInt8} (h:Wf (p++[(t,c)])):Wf (p++[(t+1,c)]):=by
 induction p with
 | nil=>exact ⟨by omega,h.2.1,trivial⟩
 | cons x p ih =>
  obtain ⟨t',c'⟩:=x;obtain ⟨h1,h2,h3⟩:=h;refine ⟨h1,?_,ih h3⟩;intro x hx;cases p with
  | nil=>simp at hx;subst hx;exact h2 (t,c) rfl
  | cons y p=>exact h2 x hx
theorem rep_last {t:Nat} {c:UInt8} (h:1≤t):(List.replicate t c).getLast?=some c:=by
 obtain ⟨n,rfl⟩:∃ n,t=n+1:=⟨t - 1,by omega⟩;rw [List.replicate_succ'];simp
theorem wf_mem {q:List RunB} (h:Wf q):∀ x ∈ q,1≤x.1:=by
 induction q with
 | nil=>intro x hx;cases hx
 | cons y q ih =>
  obtain ⟨t,c⟩:=y;obtain ⟨h1,_,h3⟩:=h;intro x hx;rcases List.mem_cons.1 hx with rfl | hx
  · exact h1
  · exact ih h3 x hx
theorem runs_last {l:List UInt8} {b:UInt8} (h:l.getLast?=some b):∃ q t,runs l=q++[(t,b)]∧1≤t:=by
 have hne:runs l≠[]:=runs_ne (by rintro rfl;cases h);obtain ⟨q,x,e⟩:∃ q x,runs l=q++[x]:=⟨_,_,(List.dropLast_concat_getLast hne).symm⟩;obtain ⟨t,c⟩:=x;have ht:1≤t:=wf_mem (runs_wf l) (t,c) (by rw [e];simp);have hl:=flat_runs l;rw [e,flat_app] at hl;have h2:(flat [(t,c)])=List.replicate t c:=by simp [flat]
 rw [h2] at hl;rw [← hl,List.getLast?_append,rep_last ht] at h;simp at h;subst h;exact ⟨q,t,e,ht⟩
theorem runs_snoc_same {l:List UInt8} {b:UInt8} {q:List RunB} {t:Nat} (e:runs l=q++[(t,b)]):runs (l++[b])=q++[(t+1,b)]:=by
 have hw:=runs_wf l;rw [e] at hw
 have hf:flat (q++[(t+1,b)])=l++[b]:=by
  have:=flat_runs l;rw [e] at this;rw [← this,flat_app,flat_app]
  simp [flat,List.replicate_succ',List.append_assoc]
 rw [← hf];exact runs_flat (wf_more hw)
def okRun (x:RunB):Bool:=decide (49≤x.2.toNat∧x.2.toNat≤57∧x.1≤9)
theorem okRun_iff (x:RunB):okRun x=true ↔ 49≤x.2.toNat∧x.2.toNat≤57∧x.1≤9:=by simp [okRun]
def fine (l:List UInt8):Bool:=(runs l).all okRun
def rowL (l:List UInt8):Bool:=decide (l.length≤60)&&fine l
theorem rowL_iff {l:List UInt8}:rowL l=true ↔ l.length≤60∧∀ x ∈ runs l,okRun x=true:=by simp [rowL,fine]
theorem fine_snoc {l:List UInt8} {b:UInt8} (h:fine (l++[b])=true):fine l=true:=by
 unfold fine at h ⊢
 by_cases hb:l.getLast?=some b
 · obtain ⟨q,t,e,ht⟩:=runs_last hb;rw [runs_snoc_same e] at h;rw [e];simp only [List.all_append,List.all_cons,List.all_nil,Bool.and_true,Bool.and_eq_true] at h ⊢;refine ⟨h.1,?_⟩;have:=(okRun_iff _).1 h.2;exact (okRun_iff _).2 ⟨this.1,this.2.1,by have:=this.2.2;simp only at this ⊢;omega⟩
 · rw [runs_snoc_new hb,List.all_append,Bool.and_eq_true] at h;exact h.1
theorem fine_front {l r:List UInt8} (h:fine (l++r)=true):fine l=true:=by
 suffices ∀ (n:Nat) (r:List UInt8),r.length=n→fine (l++r)=true→fine l=true from this _ r rfl h
 intro n
 induction n with
 | zero=>intro r hr h;rw [List.eq_nil_of_length_eq_zero hr,List.append_nil] at h;exact h
 | succ n ih =>
  intro r hr h;have hne:r≠[]:=by rintro rfl;cases hr
  rw [← List.dropLast_concat_getLast hne,← List.append_assoc] at h;exact ih _ (by rw [List.length_dropLast];omega) (fine_snoc h)
theorem fine_take {l:List UInt8} (k:Nat) (h:fine l=true):fine (l.take k)=true:=by
 rw [← List.take_append_drop k l] at h;exact fine_front h
theorem row_take {l:List UInt8} (k:Nat) (h:rowL l=true):rowL (l.take k)=true:=by
 unfold rowL at h ⊢;simp only [Bool.and_eq_true,decide_eq_true_eq] at h ⊢;exact ⟨by rw [List.length_take];omega,fine_take k h.2⟩
theorem row_long {l:List UInt8} (h:¬ l.length≤60):rowL l=false:=by simp [rowL,h]
theorem row_bad {l:List UInt8} (h:fine l=false):rowL l=false:=by simp [rowL,h]
theorem row_len {l:List UInt8} (h:rowL l=true):l.length≤60:=(rowL_iff.1 h).1
theorem row_runs {l:List UInt8} (h:rowL l=true):∀ x ∈ runs l,x.1≤9:=fun x hx=>((okRun_iff x).1 ((rowL_iff.1 h).2 x hx)).2.2
section
open Go.RowKit
def tx (t:Tg) (n:Int):List UInt8:=(textOf t n).data.toList
theorem text_sizeO (t:Tg) (n:Int):(textOf t n).size≤1000:=by
 have h1:=joinW_size (nameOf_at t n) (nameOf t n).length;have h2:=nameOf_short t n;unfold textOf;omega
section
variable {f : Int → List UInt8}
end
end
section
open Go.RowKit
theorem tl_get {s:ByteArray} {k:Nat} (h:k < s.size):(tl s)[k]'(by rw [tl_len];exact h)=s[k]:=rfl
theorem tl_take {s:ByteArray} {k:Nat} (h:k < s.size):(tl s).take (k+1)=(tl s).take k++[s[k]]:=take_snoc s k h
def lastT (l:List UInt8):Nat:=((runs l).getLast?.map (·.1)).getD 0
theorem lastT_same {l:List UInt8} {b:UInt8} (h:l.getLast?=some b):lastT (l++[b])=lastT l+1:=by
 obtain ⟨q,t,e,_⟩:=runs_last h
 simp [lastT,runs_snoc_same e,e]
theorem lastT_new {l:List UInt8} {b:UInt8} (h:l.getLast?≠some b):lastT (l++[b])=1:=by simp [lastT,runs_snoc_new h]
theorem fine_same {l:List UInt8} {b:UInt8} (h:l.getLast?=some b) (hf:fine l=true) (ht:lastT l+1≤9):fine (l++[b])=true:=by
 obtain ⟨q,t,e,_⟩:=runs_last h;have h9:t+1≤9:=by simpa [lastT,e] using ht
 unfold fine at hf ⊢;rw [e] at hf;rw [runs_snoc_same e];simp only [List.all_append,List.all_cons,List.all_nil,Bool.and_true,Bool.and_eq_true] at hf ⊢;have:=(okRun_iff _).1 hf.2;exact ⟨hf.1,(okRun_iff _).2 ⟨this.1,this.2.1,h9⟩⟩
theorem fine_new {l:List UInt8} {b:UInt8} (h:l.getLast?≠some b) (hf:fine l=true) (hb:49≤b.toNat∧b.toNat≤57):fine (l++[b])=true:=by
 unfold fine at hf ⊢;rw [runs_snoc_new h,List.all_append,hf]
 simp [okRun,hb]
theorem fine_times {l:List UInt8} (hl:l≠[]) (h:9 < lastT l):fine l=false:=by
 obtain ⟨b,hb⟩:∃ b,l.getLast?=some b:=⟨l.getLast hl,List.getLast?_eq_some_getLast hl⟩;obtain ⟨q,t,e,_⟩:=runs_last hb;have h9:9 < t:=by simpa [lastT,e] using h
 unfold fine;rw [e,List.all_append]
 have:okRun (t,b)=false:=by
  cases h:okRun (t,b)
  · rfl
  · have:=((okRun_iff _).1 h).2.2;simp only at this;omega
 simp [this]
theorem mem_flat {q:List RunB} {b:UInt8} (h:b ∈ flat q):∃ x ∈ q,x.2=b:=by
 induction q with
 | nil=>cases h
 | cons x q ih =>
  obtain ⟨t,c⟩:=x;simp only [flat,List.mem_append,List.mem_replicate] at h;rcases h with h | h
  · exact ⟨(t,c),by simp,h.2.symm⟩
  · obtain ⟨x,hx,e⟩:=ih h;exact ⟨x,by simp [hx],e⟩
theorem row_mem {l:List UInt8} {b:UInt8} (h:rowL l=true) (hb:b ∈ l):49≤b.toNat∧b.toNat≤57:=by
 rw [← flat_runs l] at hb;obtain ⟨x,hx,rfl⟩:=mem_flat hb;have:=(okRun_iff x).1 ((rowL_iff.1 h).2 x hx);exact ⟨this.1,this.2.1⟩
theorem row_no_digit {s:ByteArray} {k:Nat} (h:k < s.size) (hb:¬ (49≤(s[k].toNat:Int)∧(s[k].toNat:Int)≤57)):rowL (tl s)=false:=by
 cases e:rowL (tl s)
 · rfl
 · have hm:s[k] ∈ tl s:=by
    have h2:k < (tl s).length:=by rw [tl_len];exact h
    exact List.getElem_mem h2
   have:=row_mem e hm;omega
theorem row_no_times {s:ByteArray} {k:Nat} (h:k < s.size) (hb:9 < lastT ((tl s).take (k+1))):rowL (tl s)=false:=by
 refine row_bad ?_;cases e:fine (tl s)
 · rfl
 · have:=fine_take (k+1) e;rw [fine_times (by rw [tl_take h];simp) hb] at this;cases this
theorem last_before {s:ByteArray} {j:Nat} (h:j+1 < s.size):((tl s).take (j+1)).getLast?=some (s[j]'(by omega)):=by
 rw [tl_take (by omega)];simp
theorem row_end {s:ByteArray} (h:fine ((tl s).take s.size)=true):rowL (tl s)=decide ((s.size:Int)≤60):=by
 rw [List.take_of_length_le (by rw [tl_len];exact Nat.le_refl _)] at h;unfold rowL;rw [h,Bool.and_true,tl_len]
 by_cases h:s.size≤60
 · rw [decide_eq_true h,decide_eq_true (by omega)]
 · rw [decide_eq_false h,decide_eq_false (by omega)]
theorem step_same {s:ByteArray} {j:Nat} (h:j+1 < s.size) (e:(s[j+1]).toNat=(s[j]'(by omega)).toNat) :
 lastT ((tl s).take (j+1+1))=lastT ((tl s).take (j+1))+1∧(fine ((tl s).take (j+1))=true→lastT ((tl s).take (j+1))+1≤9→fine ((tl s).take (j+1+1))=true):=by
 have hb:s[j+1]=s[j]'(by omega):=UInt8.toNat_inj.1 e;have hl:=last_before h;rw [← hb] at hl;rw [tl_take h];exact ⟨lastT_same hl,fun a b=>fine_same hl a b⟩
theorem step_new {s:ByteArray} {j:Nat} (h:j+1 < s.size) (e:¬ (s[j+1]).toNat=(s[j]'(by omega)).toNat) :
 lastT ((tl s).take (j+1+1))=1∧(fine ((tl s).take (j+1))=true→49≤(s[j+1]).toNat∧(s[j+1]).toNat≤57→fine ((tl s).take (j+1+1))=true):=by
 have hl:((tl s).take (j+1)).getLast?≠some s[j+1]:=by
  rw [last_before h];intro k;simp at k;exact e (by rw [k])
 rw [tl_take h];exact ⟨lastT_new hl,fun a b=>fine_new hl a b⟩
theorem step_first {s:ByteArray} (h:0 < s.size):lastT ((tl s).take 1)=1∧(49≤(s[0]).toNat∧(s[0]).toNat≤57→fine ((tl s).take 1)=true):=by
 rw [tl_take h];exact ⟨rfl,fun b=>by simp [fine,runs,push,okRun,b]⟩
theorem lastT_len (l:List UInt8):lastT l≤l.length:=by
 by_cases h:l=[]
 · subst h;exact Nat.le_refl _
 · obtain ⟨q,t,e,ht⟩:=runs_last (List.getLast?_eq_some_getLast h);have hf:=congrArg List.length (flat_runs l);rw [e,flat_app] at hf
   simp [flat] at hf
   simp [lastT,e];omega
set_option maxRecDepth 100000 in
set_option maxHeartbeats 4000000 in
theorem specRowOk_any (s:ByteArray) (w:World) (hs:s.size≤2097152) :
 Calls Tryz.prog 144 #[.string s] w fun e w'=>e=.returned (.bool (rowL (tl s)))∧∃ m,w'=w.drewN m:=by
 go_enter Tryz.func144,Tryz.ntmps144;go_wp2
 go_loopw [3,4] (fun t i wr=>∃ k m:Nat,k≤s.size∧t=.int .i64 (lastT ((tl s).take k))∧i=.int .i64 k∧fine ((tl s).take k)=true∧wr=w.drewN m) (fun _ i _=>s.size - (intOf i).toNat)
 case atStart=>exact ⟨0,0,Nat.zero_le _,rfl,rfl,rfl,rfl⟩
 case round =>
  obtain ⟨k,m,hk,rfl,rfl,hf,rfl⟩:=hrel
  by_cases hlt:k < s.size
  · by_cases hd:49≤(s[k].toNat:Int)∧(s[k].toNat:Int)≤57
    · obtain ⟨hd1,hd2⟩:=hd;have hd1':¬ (s[k].toNat:Int) < 49:=by omega
      have hd2':¬ 57 < (s[k].toNat:Int):=by omega
      have hT:=row_no_times hlt;have hT9:=lastT_len ((tl s).take k);have hTk:=lastT_len ((tl s).take (k+1));rw [List.length_take] at hT9 hTk;rcases k with _ | j
      · have h1:=step_first hlt;have hF:=h1.2 ⟨by omega,by omega⟩;replace hF:=Lib.hid hF;have hL:=Lib.hid h1.1;clear hT hf h1;generalize lastT ((tl s).take 0)=t0 at *;go_wp2
        go_quiet (fail)
        go_wp2
        go_roundw
        case rel=>exact ⟨1,m+nq,by omega,by rw [hL.out];rfl,rfl,hF.out,by simp⟩
        case measure=>simp [intOf];omega
      · have hj:j < s.size:=by omega
        by_cases he:(s[j+1]).toNat=(s[j]'hj).toNat
        · have h1:=step_same hlt he;have hL:=h1.1;rw [hL] at hT hTk;have hF:=h1.2 hf;generalize lastT ((tl s).take (j+1))=t0 at *
          by_cases h9:t0+1≤9
          · replace hF:=Lib.hid (hF h9);replace hL:=Lib.hid hL;clear hT hf h1;go_wp2
            go_quiet (fail)
            go_wp2
            go_roundw
            case rel=>exact ⟨j+1+1,m+nq,by omega,by rw [hL.out];go_num,by go_num,hF.out,by simp⟩
            case measure=>simp [intOf];omega
          · replace hT:=Lib.hid (hT (by omega));clear hf h1 hF hL;go_wp2
            go_quiet (fail)
            go_wp2;go_ret;exact ⟨ret_bool hT.out.symm,m+nq,by simp⟩
        · skip
          have h1:=step_new hlt he;have hL:=Lib.hid h1.1;have hF:=Lib.hid (h1.2 hf ⟨by omega,by omega⟩);clear hT hf h1;generalize lastT ((tl s).take (j+1))=t0 at *;go_wp2
          go_quiet (fail)
          go_wp2
          go_roundw
          case rel=>exact ⟨j+1+1,m+nq,by omega,by rw [hL.out];rfl,by go_num,hF.out,by simp⟩
          case measure=>simp [intOf];omega
    · have hN:=Lib.hid (row_no_digit hlt hd);clear hf
      by_cases h49:(s[k].toNat:Int) < 49
      · go_wp2;go_ret;exact ⟨ret_bool hN.out.symm,m,rfl⟩
      · have h57:57 < (s[k].toNat:Int):=by omega
        go_wp2;go_ret;exact ⟨ret_bool hN.out.symm,m,rfl⟩
  · obtain rfl:k=s.size:=by omega
    have hE:=Lib.hid (row_end hf);clear hf;go_wp2;go_ret;exact ⟨ret_bool (by rw [hE.out]),m,rfl⟩
end
section
open Go.RowKit
def runCells:List RunB→List Value
 | []=>[]
 | (t,c) :: q=>.int .i64 (t:Int) :: .int .i64 ((c.toNat:Int) - 48) :: runCells q
theorem runCells_len (q:List RunB):(runCells q).length=q.length * 2:=by
 induction q with
 | nil=>rfl
 | cons x q ih=>obtain ⟨t,c⟩:=x;simp [runCells,ih];omega
theorem runCells_app (p q:List RunB):runCells (p++q)=runCells p++runCells q:=by
 induction p with
 | nil=>rfl
 | cons x p ih=>obtain ⟨t,c⟩:=x;simp [runCells,ih]
theorem runCells_at0 (q r:List RunB) (x:RunB):(runCells (q++x :: r))[q.length * 2]?=some (.int .i64 (x.1:Int)):=by
 obtain ⟨t,c⟩:=x;rw [runCells_app,List.getElem?_append_right (by rw [runCells_len];exact Nat.le_refl _),runCells_len];simp [runCells]
theorem runCells_at1 (q r:List RunB) (x:RunB):(runCells (q++x :: r))[q.length * 2+1]?=some (.int .i64 ((x.2.toNat:Int) - 48)):=by
 obtain ⟨t,c⟩:=x;rw [runCells_app,List.getElem?_append_right (by rw [runCells_len];omega),runCells_len,show q.length * 2+1 - q.length * 2=1 by omega];simp [runCells]
theorem runCells_set (q:List RunB) (t:Nat) (c:UInt8):(runCells (q++[(t,c)])).set (q.length * 2) (.int .i64 ((t:Int)+1))=runCells (q++[(t+1,c)]):=by
 rw [runCells_app,runCells_app,List.set_append_right _ _ (by rw [runCells_len];exact Nat.le_refl _),runCells_len]
 simp [runCells]
theorem run_info:(Tryz.prog.info? 148).map (fun i=>(i.zero,i.size,i.bytes))=some (some (.agg #[.int .i64 0,.int .i64 0]),2,16):=by kernel_rfl
theorem run_cells:Tryz.prog.cellsOf 148=2:=by kernel_rfl
theorem cell_two (w:World) (a b:Value) (t:TypeId):∀ j u,[a,b][j]?=some u→(w.alloc (.cells #[a,b] t)).cell? ((⟨w.heap.size,0,none⟩:Addr).add j)=some u:=by
 intro j u hj
 match j,hj with
 | 0,hj=>simp at hj;subst hj;simp [Addr.add]
 | 1,hj=>simp at hj;subst hj;simp [Addr.add]
 | j+2,hj=>simp at hj
theorem ownN_below {w w':World} {B S z:Nat} {t:TypeId} {v:Value} {n:Nat} {xs:List Value} (h:w.ownsRow B t z v n xs) (hb:Below S w w') (hS:w.heap.size≤S):w'.ownsRow B t z v n xs :=
 h.kept (row:=none) ⟨hb.os,hb.tape,hb.output,hb.size,fun k hk _=>hb.block k (by omega)⟩ (by
  cases hv:v.ownBlock
  · exact .inl rfl
  · exact .inr (by simp))
theorem ownN_mono {w:World} {B B' z:Nat} {t:TypeId} {v:Value} {n:Nat} {xs:List Value} (h:w.ownsRow B t z v n xs) (hB:B'≤B):w.ownsRow B' t z v n xs:=by
 rcases h.2 with ⟨h1,h2⟩ | ⟨g,cap,cur,h1,hb,h2⟩
 · exact ⟨h.1,.inl ⟨h1,h2⟩⟩
 · exact ⟨h.1,.inr ⟨g,cap,cur,h1,by omega,h2⟩⟩
theorem belowN_own {w a b:World} {B S z:Nat} {t:TypeId} {v:Value} {n:Nat} {xs:List Value} (h:Below S w a) (ho:a.ownsRow B t z v n xs) (hg:a.grownBy b v.ownBlock) (hS:S≤a.heap.size) (hB:S≤B):Below S w b :=
 h.grown hg hS (fun k e=>by have:=(ho.lt k e).1;omega)
structure RunsAre (w:World) (A:Option Addr) (n c:Nat) (q:List RunB):Prop where
 len:q.length=n
 le:n≤c
 at_:0 < n→∃ b o,A=some ⟨b,o,none⟩∧b < w.heap.size∧∀ j x,q[j]?=some x→w.cell? ⟨b,o+j * 2,none⟩=some (.int .i64 (x.1:Int))∧w.cell? ⟨b,o+j * 2+1,none⟩=some (.int .i64 ((x.2.toNat:Int) - 48))
theorem RunsAre.below {w w':World} {A:Option Addr} {n c B:Nat} {q:List RunB} (h:RunsAre w A n c q) (hb:Below B w w') (hB:w.heap.size≤B):RunsAre w' A n c q :=
 ⟨h.len,h.le,fun hn=>by
  obtain ⟨b,o,e,hlt,hc⟩:=h.at_ hn;exact ⟨b,o,e,Nat.lt_of_lt_of_le hlt hb.size,fun j x hj=>⟨(hb.cell (p:=⟨b,o+j * 2,none⟩) (Nat.lt_of_lt_of_le hlt hB)).trans (hc j x hj).1,(hb.cell (p:=⟨b,o+j * 2+1,none⟩) (Nat.lt_of_lt_of_le hlt hB)).trans (hc j x hj).2⟩⟩⟩
def OwnRuns (w:World) (B:Nat) (v:Value) (q:List RunB):Prop:=w.ownsRow B 148 2 v q.length (runCells q)
theorem OwnRuns.below {w w':World} {B S:Nat} {v:Value} {q:List RunB} (h:OwnRuns w B v q) (hb:Below S w w') (hS:w.heap.size≤S):OwnRuns w' B v q:=ownN_below h hb hS
theorem OwnRuns.runs {w:World} {B:Nat} {v:Value} {q:List RunB} (h:OwnRuns w B v q):∃ A c,v=.slice A q.length c∧RunsAre w A q.length c q:=by
 have h':=h;rcases h.2 with ⟨rfl,hn⟩ | ⟨g,cap,cur,rfl,hb,hg,hnc,hcm,hcs,htake⟩
 · rw [hn];exact ⟨none,0,rfl,hn,Nat.le_refl _,fun h=>absurd h (by omega)⟩
 · refine ⟨_,cap,rfl,rfl,hnc,fun hn=>⟨g,0,rfl,?_,fun j x hj=>?_⟩⟩
   · rcases Nat.lt_or_ge g w.heap.size with hlt | hge
     · exact hlt
     · rw [Array.getElem?_eq_none hge] at hg;cases hg
   · have hjl:j < q.length:=by
      rcases Nat.lt_or_ge j q.length with h1 | h1
      · exact h1
      · rw [List.getElem?_eq_none h1] at hj;cases hj
     obtain ⟨p,r,e,hp⟩:∃ p r,q=p++x :: r∧p.length=j:=by
      refine ⟨q.take j,q.drop (j+1),?_,by rw [List.length_take];omega⟩;have:q[j]=x:=by rw [List.getElem?_eq_getElem hjl] at hj;exact Option.some.inj hj
      rw [← this,List.getElem_cons_drop,List.take_append_drop]
     subst hp;unfold OwnRuns at h';rw [Nat.zero_add,h'.cellAt (p.length * 2) (by omega),h'.cellAt (p.length * 2+1) (by omega),e,runCells_at0,runCells_at1];exact ⟨rfl,rfl⟩
def runsL (l:List UInt8):List RunB:=if rowL l=true then runs l else []
theorem runsL_yes {l:List UInt8} (h:rowL l=true):runsL l=runs l:=if_pos h
theorem runsL_no {l:List UInt8} (h:rowL l=false):runsL l=[]:=by unfold runsL;rw [h];rfl
def RetRuns (w:World) (q:List RunB) (e:Ending) (w':World):Prop:=∃ v,e=.returned v∧OwnRuns w' w.heap.size v q∧Below w.heap.size w w'
theorem own_run_new {w:World} {B:Nat} {v:Value} {l:List UInt8} {b:UInt8} (h:l.getLast?≠some b) (hw:w.ownsRow B 148 2 v ((runs l).length+1) (runCells (runs l)++[.int .i64 1,.int .i64 ((b.toNat:Int) - 48)])):OwnRuns w B v (runs (l++[b])):=by
 rw [runs_snoc_new h];unfold OwnRuns;rw [runCells_app,List.length_append];exact hw
theorem runs_len (l:List UInt8):(runs l).length≤l.length:=by
 suffices ∀ q,Wf q→q.length≤(flat q).length by have:=this _ (runs_wf l);rwa [flat_runs] at this
 intro q
 induction q with
 | nil=>intro _;exact Nat.le_refl _
 | cons x q ih =>
  obtain ⟨t,c⟩:=x;rintro ⟨h1,h2,h3⟩;have:=ih h3
  simp [flat];omega
set_option maxRecDepth 100000 in
set_option maxHeartbeats 4000000 in
theorem specRunsOf_any (s : ByteArray) (w : World) (hs : s.size ≤ 2097152) :
    Calls Tryz.prog 123 #[.string s] w (RetRuns w (runsL (tl s))) := by
  obtain ⟨i0, hi, hz0, hz1, hz2⟩ := info_parts run_info
  go_enter Tryz.func123, Tryz.ntmps123
  have hrow0 : (w.alloc (.cells #[] 148)).ownsRow w.heap.size 148 2 (.slice (some ⟨w.heap.size, 0, none⟩) 0 0) 0 [] := World.ownsRow_made w #[] 0 (Nat.le_refl _) (by unfold maxLen; omega) rfl
  have hb0 : Below w.heap.size w (w.alloc (.cells #[] 148)) := (Below.refl _ _).alloc (Nat.le_refl _) _
  go_wp2
  go_loopw [3, 4] (fun v i wr => ∃ k : Nat, k ≤ s.size ∧ i = .int .i64 k ∧ OwnRuns wr w.heap.size v (runs ((tl s).take k)) ∧ Below w.heap.size w wr ∧ (k = 0 ∨ rowL (tl s) = true)) (fun _ i _ => s.size - (intOf i).toNat)
  case atStart => exact ⟨0, Nat.zero_le _, rfl, hrow0, hb0, .inl rfl⟩
  case round =>
    obtain ⟨k, hk, rfl, ho, hb, hz⟩ := hrel
    by_cases hlt : k < s.size
    · have hR := specRowOk_any s wr hs
      replace ho := Lib.hid ho
      replace hb := Lib.hid hb
      cases hrow : rowL (tl s)
      · rw [hrow] at hz
        obtain rfl : k = 0 := by rcases hz with h | h
                                 · exact h
                                 · cases h
        have hno := Lib.hid (runsL_no hrow)
        rw [hrow] at hR
        replace hrow := Lib.hid hrow
        go_wp2_with (fail)
        refine hR.mono ?_
        rintro e _ ⟨rfl, m, rfl⟩
        go_wp2
        go_ret
        exact ⟨_, rfl, by rw [hno.out]; exact ho.out, below_drewN hb.out m⟩
      · rw [hrow] at hR
        replace hrow := Lib.hid hrow
        clear hz
        go_wp2_with (fail)
        refine hR.mono ?_
        rintro e _ ⟨rfl, m, rfl⟩
        replace ho := Lib.hid (OwnRuns.below (w' := wr.drewN m) ho.out (below_drewN (Below.refl wr.heap.size wr) m) (Nat.le_refl _))
        replace hb := Lib.hid (below_drewN hb.out m)
        generalize wr.drewN m = W at *
        rcases k with _ | j
        · have hc48 := row_mem hrow.out (show s[0] ∈ tl s from List.getElem_mem (by rw [tl_len]; exact hlt))
          have hW : IntKind.u8.wrap ((s[0].toNat : Int) - 48) = (s[0].toNat : Int) - 48 := IntWalk.u8_in _ (by omega)
          have hW2 : IntKind.i64.wrap ((s[0].toNat : Int) - 48) = (s[0].toNat : Int) - 48 := IntWalk.i64_in _ (by omega)
          have hown := ho.out
          unfold OwnRuns at hown
          have hnew := fun w' v' => own_run_new (w := w') (v := v') (l := (tl s).take 0) (b := s[0]) (B := w.heap.size) (by simp)
          rw [← tl_take hlt] at hnew
          replace hnew := Lib.hid hnew
          have hln := runs_len ((tl s).take 0)
          rw [List.length_take] at hln
          obtain ⟨A3, c3, rfl, -⟩ := ho.out.runs
          generalize runs ((tl s).take 0) = q at *
          go_wp2
          go_quiet (fail)
          have hbq := Lib.hid (below_drewN hb.out nq)
          replace hown : (W.drewN nq).ownsRow w.heap.size 148 2 _ _ _ := hown
          clear hb ho
          have hb := hbq
          clear hbq
          generalize W.drewN nq = W at *
          go_wp2_with (at_builtin; refine wpList_append_own _ rfl _ _ 145 rfl w.heap.size 148 i0 (.agg #[.int .i64 0, .int .i64 0]) 2 16 Tryz.underlying145 hi hz0 hz1 hz2 rfl (by decide) _ _ _ rfl (hown.alloc _) ⟨W.heap.size, 0, none⟩ 1 1 [.int .i64 1, .int .i64 ((s[0].toNat : Int) - 48)] rfl rfl (cell_two _ _ _ _) (fun x hx => by simp at hx; rcases hx with rfl | rfl <;> rfl) (by unfold maxLen; omega) (by omega) (by have := hb.out.size; simp; omega) ?_; intro v' w3 hown' hg3 _)
          have hb3 := belowN_own (hb.out.alloc hb.out.size _) (hown.alloc _) hg3 (by have := hb.out.size; simp; omega) (Nat.le_refl _)
          replace hown' := Lib.hid (hnew.out _ _ hown')
          replace hb3 := Lib.hid hb3
          clear hg3
          go_wp2
          go_roundw
          case rel => exact ⟨1, by omega, rfl, hown'.out, hb3.out, .inr (by first | trivial | exact hrow.out)⟩
          case measure => simp [intOf]; omega
        · have hj : j < s.size := by omega
          have hc48 := row_mem hrow.out (show s[j + 1] ∈ tl s from List.getElem_mem (by rw [tl_len]; exact hlt))
          have hlb := last_before hlt
          have hown := ho.out
          unfold OwnRuns at hown
          have hln := runs_len ((tl s).take (j + 1))
          rw [List.length_take] at hln
          by_cases he : (s[j + 1]).toNat = (s[j]'hj).toNat
          · have hbb : s[j + 1] = s[j]'hj := UInt8.toNat_inj.1 he
            rw [← hbb] at hlb
            obtain ⟨q, t, eq, ht⟩ := runs_last hlb
            have hT : t ≤ 9 := by
              have := (rowL_iff.1 (row_take (j + 1) hrow.out)).2 (t, s[j + 1]) (by rw [eq]; simp)
              exact ((okRun_iff _).1 this).2.2
            have hN := runs_snoc_same eq
            rw [← tl_take hlt] at hN
            replace hN := Lib.hid hN
            rw [eq] at hown hln
            rw [List.length_append] at hown hln
            simp only [List.length_cons, List.length_nil, Nat.zero_add] at hown hln
            rcases hown.2 with ⟨_, hn0⟩ | ⟨g, cap, cur, rfl, hgB, hgg, hncap, hcapm, _, _⟩
            · omega
            have c2 := run_cells
            have hwr : IntKind.i64.wrap (((q.length + 1 : Nat) : Int) - 1) = (q.length : Int) := by rw [show ((q.length + 1 : Nat) : Int) - 1 = (q.length : Int) by omega]; exact IntWalk.i64_in _ (by omega)
            have hw1 : IntKind.i64.wrap ((t : Int) + 1) = (t : Int) + 1 := IntWalk.i64_in _ (by omega)
            have hix2 : (q.length : Int) < ((q.length + 1 : Nat) : Int) := by omega
            have hix3 : q.length < q.length + 1 := by omega
            have hix0 : (0 : Int) ≤ (q.length : Int) := by omega
            clear hgg hbb hlb eq
            replace hown := Lib.hid hown
            go_wp2
            go_quiet (fail)
            have hbq := Lib.hid (below_drewN hb.out nq)
            have hown2 : (W.drewN nq).ownsRow w.heap.size 148 2 _ _ _ := hown.out
            clear hb ho hown
            generalize W.drewN nq = W at *
            have ct0 := (hown2.cellAt (q.length * 2) (by omega)).trans (runCells_at0 q [] (t, s[j + 1]))
            have cf0 := hown2.frozenAt (q.length * 2)
            have hst := hown2.stored (q.length * 2) (.int .i64 ((t : Int) + 1))
            rw [runCells_set] at hst
            have hO2 : OwnRuns (W.setCell ⟨g, q.length * 2, none⟩ (.int .i64 ((t : Int) + 1))) w.heap.size (.slice (some ⟨g, 0, none⟩) (q.length + 1) cap) (runs ((tl s).take (j + 1 + 1))) := by
              rw [hN.out]; unfold OwnRuns; rw [List.length_append]; exact hst.1
            have hB2 : Below w.heap.size w (W.setCell ⟨g, q.length * 2, none⟩ (.int .i64 ((t : Int) + 1))) := hbq.out.setCell (p := ⟨g, q.length * 2, none⟩) hgB _
            replace hO2 := Lib.hid hO2
            replace hB2 := Lib.hid hB2
            clear hst hown2 hN
            go_wp2
            go_roundw
            case rel => exact ⟨j + 1 + 1, by omega, by go_num, hO2.out, hB2.out, .inr (by first | trivial | exact hrow.out)⟩
            case measure => simp [intOf]; omega
          · have hne : ((tl s).take (j + 1)).getLast? ≠ some s[j + 1] := by rw [hlb]; intro k; simp at k; exact he (by rw [k])
            have hW : IntKind.u8.wrap ((s[j + 1].toNat : Int) - 48) = (s[j + 1].toNat : Int) - 48 := IntWalk.u8_in _ (by omega)
            have hW2 : IntKind.i64.wrap ((s[j + 1].toNat : Int) - 48) = (s[j + 1].toNat : Int) - 48 := IntWalk.i64_in _ (by omega)
            have hnew := fun w' v' => own_run_new (w := w') (v := v') (B := w.heap.size) hne
            rw [← tl_take hlt] at hnew
            replace hnew := Lib.hid hnew
            obtain ⟨A3, c3, rfl, -⟩ := ho.out.runs
            clear hlb hne
            generalize runs ((tl s).take (j + 1)) = q at *
            replace hown := Lib.hid hown
            replace hW := Lib.hid hW
            replace hW2 := Lib.hid hW2
            replace hln := Lib.hid hln
            have hk1 : ((j : Int) + 1).toNat = j + 1 := by omega
            have hk2 : (j : Int) + 1 < (s.size : Int) := by omega
            have hk3 : (0 : Int) ≤ (j : Int) + 1 := by omega
            go_wp2
            go_quiet (fail)
            have hbq := Lib.hid (below_drewN hb.out nq)
            replace hown : (W.drewN nq).ownsRow w.heap.size 148 2 _ _ _ := hown.out
            replace hW := hW.out
            replace hW2 := hW2.out
            replace hln := hln.out
            clear hb ho
            have hb := hbq
            clear hbq
            generalize W.drewN nq = W at *
            go_wp2_with (at_builtin; refine wpList_append_own _ rfl _ _ 145 rfl w.heap.size 148 i0 (.agg #[.int .i64 0, .int .i64 0]) 2 16 Tryz.underlying145 hi hz0 hz1 hz2 rfl (by decide) _ _ _ rfl (hown.alloc _) ⟨W.heap.size, 0, none⟩ 1 1 [.int .i64 1, .int .i64 ((s[j + 1].toNat : Int) - 48)] rfl rfl (cell_two _ _ _ _) (fun x hx => by simp at hx; rcases hx with rfl | rfl <;> rfl) (by unfold maxLen; omega) (by omega) (by have := hb.out.size; simp; omega) ?_; intro v' w3 hown' hg3 _)
            have hb3 := belowN_own (hb.out.alloc hb.out.size _) (hown.alloc _) hg3 (by have := hb.out.size; simp; omega) (Nat.le_refl _)
            replace hown' := Lib.hid (hnew.out _ _ hown')
            replace hb3 := Lib.hid hb3
            clear hg3
            go_wp2
            go_roundw
            case rel => exact ⟨j + 1 + 1, by omega, by go_num, hown'.out, hb3.out, .inr (by first | trivial | exact hrow.out)⟩
            case measure => simp [intOf]; omega
    · obtain rfl : k = s.size := by omega
      have hE : runs ((tl s).take s.size) = runsL (tl s) := by
        rw [List.take_of_length_le (by rw [tl_len]; exact Nat.le_refl _)]
        rcases hz with h0 | h1
        · have : tl s = [] := List.eq_nil_of_length_eq_zero (by rw [tl_len]; exact h0)
          rw [this]; rfl
        · rw [runsL_yes h1]
      rw [hE] at ho
      replace ho := Lib.hid ho
      clear hE hz
      go_wp2
      go_ret
      exact ⟨_, rfl, ho.out, hb⟩
end
section
open Go.RowKit Go.Sort
def spk (t:Tg) (x:RunB):ByteArray:=textOf t (x.1:Int)++⟨#[32]⟩++textOf t ((x.2.toNat:Int) - 48)
def spkOk (t:Tg) (x:RunB):Bool:=decide (textOf t (x.1:Int)≠⟨#[]⟩)&&decide (textOf t ((x.2.toNat:Int) - 48)≠⟨#[]⟩)
def spokenR (t:Tg) (q:List RunB):List ByteArray:=if q.all (spkOk t)=true then q.map (spk t) else []
def spokenL (t:Tg) (l:List UInt8):List ByteArray:=spokenR t (runsL l)
theorem textOf_size (t:Tg) (n:Int):(textOf t n).size≤899991:=by
 have h1:=joinW_size (nameOf_at t n) (nameOf t n).length;have h2:=nameOf_len t n;unfold textOf;omega
theorem spoken_no {t:Tg} {q:List RunB} {x:RunB} {k:Nat} (hx:q[k]?=some x) (h:spkOk t x=false):spokenR t q=[]:=by
 unfold spokenR;rw [if_neg];intro hh;rw [List.all_eq_true] at hh;rw [hh x (List.mem_of_getElem? hx)] at h;cases h
theorem spoken_yes {t:Tg} {q:List RunB} (h:∀ (k:Nat) (x:RunB),q[k]?=some x→spkOk t x=true):spokenR t q=q.map (spk t):=by
 unfold spokenR;rw [if_pos];rw [List.all_eq_true];intro x hx;obtain ⟨k,hk,e⟩:=List.mem_iff_getElem.1 hx;exact h k x (by rw [List.getElem?_eq_getElem hk,e])
def spokenTo (t:Tg) (q:List RunB) (k:Nat):List ByteArray:=(q.take k).map (spk t)
theorem spokenTo_go {t:Tg} {q:List RunB} {x:RunB} {k:Nat} (hx:q[k]?=some x):spokenTo t q (k+1)=spokenTo t q k++[spk t x]:=by
 unfold spokenTo;rw [List.take_add_one,hx,List.map_append];rfl
theorem spokenTo_len (t:Tg) (q:List RunB) (k:Nat):(spokenTo t q k).length≤q.length:=by
 unfold spokenTo;rw [List.length_map,List.length_take];omega
theorem spokenL_len (t:Tg) (l:List UInt8):(spokenL t l).length≤60:=by
 have h:(runsL l).length≤60:=by
  cases e:rowL l
  · rw [runsL_no e];simp
  · rw [runsL_yes e];have:=runs_len l;have:=row_len e;omega
 unfold spokenL spokenR
 split
 · rw [List.length_map];exact h
 · simp
theorem spokenTo_end (t:Tg) (q:List RunB):spokenTo t q q.length=q.map (spk t):=by unfold spokenTo;rw [List.take_length]
def okTo (t:Tg) (q:List RunB) (k:Nat):Prop:=∀ (j:Nat) (x:RunB),j < k→q[j]?=some x→spkOk t x=true
theorem okTo_go {t:Tg} {q:List RunB} {x:RunB} {k:Nat} (h:okTo t q k) (hx:q[k]?=some x) (ho:spkOk t x=true):okTo t q (k+1):=fun j y hj hy=>by
 by_cases e:j=k
 · subst e;rw [hx] at hy;cases hy;exact ho
 · exact h j y (by omega) hy
theorem okTo_end {t:Tg} {q:List RunB} (h:okTo t q q.length):spokenR t q=spokenTo t q q.length:=by
 rw [spokenTo_end];refine spoken_yes fun k x hx=>h k x ?_ hx
 rcases Nat.lt_or_ge k q.length with h1 | h1
 · exact h1
 · rw [List.getElem?_eq_none h1] at hx;cases hx
theorem runsL_len' (l:List UInt8):(runsL l).length≤60:=by
 cases e:rowL l
 · rw [runsL_no e];simp
 · rw [runsL_yes e];have:=runs_len l;have:=row_len e;omega
theorem runsL_small {l:List UInt8} {x:RunB} (h:x ∈ runsL l):x.1≤9:=by
 cases e:rowL l
 · rw [runsL_no e] at h;cases h
 · rw [runsL_yes e] at h;exact row_runs e x h
theorem RunsAre.kept {W W':World} {A:Option Addr} {n c:Nat} {q:List RunB} {row:Option Nat} (h:RunsAre W A n c q) (hg:W.grownBy W' row) (hne:∀ b o,A=some ⟨b,o,none⟩→row≠some b):RunsAre W' A n c q :=
 ⟨h.len,h.le,fun hn=>by
  obtain ⟨b,o,e,hlt,hc⟩:=h.at_ hn;have hb:=hne b o e;exact ⟨b,o,e,Nat.lt_of_lt_of_le hlt hg.size,fun j x hj=>⟨hg.cell (hc j x hj).1 (fun k=>hb k.symm),hg.cell (hc j x hj).2 (fun k=>hb k.symm)⟩⟩⟩
def Sep (v:Value) (A:Option Addr):Prop:=∀ b o,A=some ⟨b,o,none⟩→v.ownBlock≠some b
theorem Sep.next {v v':Value} {A:Option Addr} {W:World} {N:Nat} (h:Sep v A) (hA:∀ b o,A=some ⟨b,o,none⟩→b < N) (hN:N≤W.heap.size) (hv:v'.ownBlock=v.ownBlock∨v'.ownBlock=some W.heap.size):Sep v' A:=fun b o e=>by
 rcases hv with k | k
 · rw [k];exact h b o e
 · rw [k];intro k';have:=hA b o e;cases k';omega
set_option maxRecDepth 100000 in
set_option maxHeartbeats 4000000 in
theorem specSpokenOf_any (v:Value) (t:Tg) (s:ByteArray) (w:World) (h:Tng w v t) (hf:t.Fine) (hs:s.size≤2097152) :
 Calls Tryz.prog 74 #[v,.string s] w (RetStrs w (spokenL t (tl s))):=by
 obtain ⟨i0,hi,hz0,hz1,hz2⟩:=info_parts str_info;obtain ⟨A1,c1,A2,c2,A3,c3,rfl,-⟩:=h.ex;have hB:=(Below.refl w.heap.size w).alloc (Nat.le_refl _) (.cells #[.slice A1 t.us.length c1,.slice A2 t.bs.length c2,.slice A3 t.ns.length c3] 31);have HX:=Blk.new w 31 #[.slice A1 t.us.length c1,.slice A2 t.bs.length c2,.slice A3 t.ns.length c3];have HT:=h.below hB (Nat.le_refl _);have hL60:=runsL_len' (tl s);have hsm:=Lib.hid (fun x (h:x ∈ runsL (tl s))=>runsL_small h);replace hB:=Lib.hid hB;replace HX:=Lib.hid HX;replace HT:=Lib.hid HT;clear h;unfold spokenL;go_enter Tryz.func74,Tryz.ntmps74;go_upto_region 1 with (fail)
 generalize w.alloc (.cells #[.slice A1 t.us.length c1,.slice A2 t.bs.length c2,.slice A3 t.ns.length c3] 31)=W at *;have hXc:=Lib.hid (fun W' (h:Below W.heap.size W W')=>blk3 (HX.out.below h HX.out.lt));have KT:=Lib.hid (fun n W' (h:Below W.heap.size W W') hn=>specTextOf_any _ t n W' (HT.out.below h (Nat.le_refl _)) hf hn);have KR:=specRunsOf_any s (W.alloc (.cells #[] 9)) hs;generalize runsL (tl s)=q at *;go_wp2_with (fail);refine KR.mono ?_;rintro e W2 ⟨v2,rfl,ho2,b2⟩;obtain ⟨A,c,rfl,hq⟩:=ho2.runs;have hs2:=b2.size;simp only [World.size_alloc] at hs2;have hB2:=Lib.hid (((Below.refl W.heap.size W).alloc (Nat.le_refl _) (.cells #[] 9)).trans (b2.mono (by simp)))
 have hO0:Hid (OwnStrs W2 W.heap.size (.slice (some ⟨W.heap.size,0,none⟩) 0 0) []):=by
  have h0:OwnStrs (W.alloc (.cells #[] 9)) W.heap.size (.slice (some ⟨W.heap.size,0,none⟩) 0 0) []:=owns_empty (Blk.new _ _ _) (Nat.le_refl _);exact h0.below b2 (Nat.le_refl _)
 have hAW:=Lib.hid (fun b o (e:A=some ⟨b,o,none⟩)=>(ho2.lt b (by rw [e];rfl)));have hB3:=Lib.hid (fun wr (h:Below W2.heap.size W2 wr)=>hB2.out.trans (h.mono (by omega)));have hA1:Hid (∀ b o,A=some ⟨b,o,none⟩→b < W2.heap.size):=fun b o e=>(hAW.out b o e).2
 have hS0:Hid (Sep (.slice (some ⟨W.heap.size,0,none⟩) 0 0) A):=fun b o e k=>by
  have:=(hAW.out b o e).1
  simp [Value.ownBlock] at k this
  omega
 replace hq:=Lib.hid hq;clear b2 ho2 KR;go_wp2
 go_loopw [5,7] (fun s5 s7 wr=>∃ k:Nat,k≤q.length∧s7=.int .i64 k∧okTo t q k∧OwnStrs wr W.heap.size s5 (spokenTo t q k)∧Below W.heap.size W wr∧RunsAre wr A q.length c q∧Sep s5 A∧W2.heap.size≤wr.heap.size) (fun _ s7 _=>q.length - (intOf s7).toNat)
 case atStart=>exact ⟨0,Nat.zero_le _,rfl,fun j x hj=>absurd hj (by omega),hO0.out,hB2.out,hq.out,hS0.out,Nat.le_refl _⟩
 case round =>
  obtain ⟨k,hk,rfl,hok,ho,hBW,hqr,hsep,hszr⟩:=hrel;obtain ⟨x0,x1,x2,-,-,-⟩:=hXc.out _ hBW
  by_cases hlt:k < q.length
  · have hx:q[k]?=some q[k]:=List.getElem?_eq_getElem hlt;have hT9:=hsm.out _ (List.getElem_mem hlt);generalize q[k]=x at *;obtain ⟨T,ch⟩:=x;simp only at hT9;have hch:=UInt8.toNat_lt ch;have hqr':=hqr;obtain ⟨b,o,rfl,hbl,hc⟩:=hqr.at_ (by omega);obtain ⟨r1,r2⟩:=hc k _ hx;simp only at r1 r2;have hgo:=Lib.hid (spokenTo_go (t:=t) hx);have hno:=Lib.hid (spoken_no (t:=t) hx);have hyes:=Lib.hid (okTo_go hok hx);have hln:=spokenTo_len t q k;have hspk:spk t (T,ch)=textOf t (T:Int)++⟨#[32]⟩++textOf t ((ch.toNat:Int) - 48):=rfl;have hspo:spkOk t (T,ch)=(decide (textOf t (T:Int)≠⟨#[]⟩)&&decide (textOf t ((ch.toNat:Int) - 48)≠⟨#[]⟩)):=rfl;have z1:=textOf_size t (T:Int);have z2:=textOf_size t ((ch.toNat:Int) - 48);have KT1:=Lib.hid (fun W' h=>KT.out (T:Int) W' h (by omega));have KT2:=Lib.hid (fun W' h=>KT.out ((ch.toNat:Int) - 48) W' h (by omega));rw [hspk] at hgo;rw [hspo] at hno hyes;generalize spokenTo t q k=out at *;generalize textOf t (T:Int)=tx at *;generalize textOf t ((ch.toNat:Int) - 48)=ty at *;have cs:=run_cells;obtain ⟨A5,c5,rfl,-⟩:=ho.strs;replace ho:=Lib.hid ho;replace hqr:=Lib.hid hqr';replace hsep:=Lib.hid hsep;replace hBW:=Lib.hid hBW;replace hspk:=Lib.hid hspk;replace hspo:=Lib.hid hspo;clear hok hc hx hqr';have y0:=fun d os=>cell_regrown x0 d os
    have y1:=fun d os=>cell_regrown x1 d os
    have y2:=fun d os=>cell_regrown x2 d os
    have y3:=fun d os=>cell_regrown r1 d os
    replace KT1:=Lib.hid (fun d os=>KT1.out (grow (redrawn wr d) os) (hBW.out.trans ((below_regrown wr d os).mono hBW.out.size)));clear x0 x1 x2 r1;go_wp2;refine wp_region_quiet_below (by kernel_rfl) (by kernel_rfl) ?_
    repeat (go_big_quiet_step (first | (go_at_call 65;exact Calls.regrown_of (KT1.out _ _))))
    refine wpQuiet_nil ?_;intro _ hw';obtain ⟨pq,hw''⟩:=hw';have bq:=below_regrown wr pq.d pq.os;rw [← hw''] at bq;clear hw'' y0 y1 y2 y3 KT1
    rename_i wq
    have ho2:=Lib.hid (ho.out.below bq (Nat.le_refl _));have hqr2:=Lib.hid (hqr.out.below bq (Nat.le_refl _));have hsz2:=bq.size;have hBW2:=Lib.hid (hBW.out.trans (bq.mono hBW.out.size));have r2':=(bq.cell (p:=⟨b,o+k * 2+1,none⟩) hbl).trans r2;obtain ⟨x0,x1,x2,-,-,-⟩:=hXc.out _ hBW2.out;have y0:=fun d os=>cell_regrown x0 d os
    have y1:=fun d os=>cell_regrown x1 d os
    have y2:=fun d os=>cell_regrown x2 d os
    have y3:=fun d os=>cell_regrown r2' d os
    replace KT2:=Lib.hid (fun d os=>KT2.out (grow (redrawn wq d) os) (hBW2.out.trans ((below_regrown wq d os).mono hBW2.out.size)));clear ho hqr hBW bq x0 x1 x2 r2 r2';go_wp2;refine wp_region_quiet_below (by kernel_rfl) (by kernel_rfl) ?_
    repeat (go_big_quiet_step (first | (go_at_call 65;exact Calls.regrown_of (KT2.out _ _))))
    refine wpQuiet_nil ?_;intro _ hw';obtain ⟨pq2,hw''⟩:=hw';have bq:=below_regrown wq pq2.d pq2.os;rw [← hw''] at bq;clear hw'' y0 y1 y2 y3 KT2
    rename_i wq2
    have ho3:=Lib.hid (ho2.out.below bq (Nat.le_refl _));have hqr3:=Lib.hid (hqr2.out.below bq (Nat.le_refl _));have hsz3:=bq.size;have hBW3:=Lib.hid (hBW2.out.trans (bq.mono hBW2.out.size));have hs3:=hBW3.out.size;clear ho2 hqr2 hBW2 bq
    by_cases he1:tx=⟨#[]⟩
    · have hx1:tx.toList.isEmpty=true:=by rw [empty_list];exact decide_eq_true he1
      have hE:=Lib.hid (hno.out (by simp [he1]));replace he1:=Lib.hid he1;go_wp2;go_ret;exact ⟨_,rfl,by rw [hE.out];exact owns_empty (Blk.new _ _ _) (by have:=hB.out.size;omega),(hB.out.trans (hBW3.out.mono hB.out.size)).alloc (by have:=hB.out.size;omega) _⟩
    · have hx1:tx.toList.isEmpty=false:=by rw [empty_list];exact decide_eq_false he1
      by_cases he2:ty=⟨#[]⟩
      · have hx2:ty.toList.isEmpty=true:=by rw [empty_list];exact decide_eq_true he2
        have hE:=Lib.hid (hno.out (by simp [he2]));replace he1:=Lib.hid he1;replace he2:=Lib.hid he2;go_wp2;go_ret;exact ⟨_,rfl,by rw [hE.out];exact owns_empty (Blk.new _ _ _) (by have:=hB.out.size;omega),(hB.out.trans (hBW3.out.mono hB.out.size)).alloc (by have:=hB.out.size;omega) _⟩
      · have hx2:ty.toList.isEmpty=false:=by rw [empty_list];exact decide_eq_false he2
        have hE:=Lib.hid (hyes.out (by simp [he1,he2]));replace he1:=Lib.hid he1;replace he2:=Lib.hid he2;have u1:(⟨#[32]⟩:ByteArray).size=1:=rfl;have u2:(tx++⟨#[32]⟩).size=tx.size+1:=by rw [ByteArray.size_append,u1]
        have u3:¬ (9223372036854775807 < tx.size+1):=by omega
        have u4:¬ (9223372036854775807 < tx.size+1+ty.size):=by omega
        have m1:=Lib.hid (show out.length+1≤maxLen by unfold maxLen;omega);have m2:=Lib.hid (show (out.length+1) * 16≤140737488355328 by omega);go_wp2_with (at_builtin;refine wpList_app _ rfl (.tmp 40) (.tmp 45) _ rfl W.heap.size 9 i0 _ 16 Tryz.underlying28 hi hz0 hz1 hz2 rfl (.slice A5 out.length c5) _ _ rfl (World.ownsRow.alloc ho3.out _) (some ⟨wq2.heap.size,0,none⟩) 1 1 [.string (tx++⟨#[32]⟩++ty)] rfl (Src.one (Blk.new _ _ _) rfl) m1.out m2.out (by have:=hBW3.out.size;simp;omega) ?_;intro v6 w6 ho6 hg6 hv6);have hB7:=Lib.hid (below_own (hBW3.out.alloc hBW3.out.size _) (World.ownsRow.alloc ho3.out _) hg6 (by have:=hBW3.out.size;simp;omega) (Nat.le_refl _));have hq7:=Lib.hid ((hqr3.out.kept (row:=none) (World.grownBy_alloc wq2 _ none) (by simp)).kept hg6 hsep.out);have hs7:=Lib.hid (Sep.next hsep.out hA1.out (by simp;omega) hv6);have hz7:=hg6.size;simp only [World.size_alloc] at hz7;have ho7:=Lib.hid (own_snoc4 ho6);clear ho6 hg6 hv6;go_wp2
        go_roundw
        case rel=>exact ⟨k+1,by omega,by go_num,hE.out,by rw [hgo.out];exact ho7.out,hB7.out,hq7.out,hs7.out,by omega⟩
        case measure=>simp [intOf];omega
  · obtain rfl:k=q.length:=by omega
    have hE:=Lib.hid (okTo_end hok);obtain ⟨A5,c5,rfl,-⟩:=ho.strs;replace ho:=Lib.hid ho;replace hBW:=Lib.hid hBW;go_wp2;go_ret;exact ⟨_,rfl,by rw [hE.out];exact ho.out.mono hB.out.size,hB.out.trans (hBW.out.mono hB.out.size)⟩
end
section
open Go Go.RowKit Go.Shelf
attribute [local go_sem] Oper.semAt_some
theorem runsIn_any (s:ByteArray) (w:World) :
 Calls Tryz.prog 216 #[.string s] w fun e w'=>e=.returned (.func (.func 229) #[] #[.pointer (some ⟨w.heap.size,0,none⟩)])∧w'=w.alloc (.cells #[.string s] 9):=by
 go_enter Tryz.func216,Tryz.ntmps216;go_wp2;go_ret;exact ⟨rfl,rfl⟩
def encRun {Q:RunB→Prop} (x:{ x:RunB // Q x }):Array Value:=#[.agg #[.int .i64 (x.1.1:Int),.int .i64 ((x.1.2.toNat:Int) - 48)]]
def KeptAt (B:Nat) (W W':World):Prop:=W'.heap[B]?=W.heap[B]?
theorem KeptAt.cell {B:Nat} {W W':World} (h:KeptAt B W W') {i:Nat} {v:Value} (hc:W.cell? ⟨B,i,none⟩=some v):W'.cell? ⟨B,i,none⟩=some v:=by
 unfold World.cell? at hc ⊢;simp only at hc ⊢;rw [show W'.heap[B]?=W.heap[B]? from h];exact hc
theorem drop_rep {l:List UInt8} {f k:Nat} {c:UInt8} (hk:k < l.length) (hfk:f≤k) (h:∀ i (hi:i < l.length),f≤i→i≤k→l[i]=c):l.drop f=List.replicate (k+1 - f) c++l.drop (k+1):=by
 obtain ⟨d,rfl⟩:∃ d,k=f+d:=⟨k - f,by omega⟩
 induction d generalizing f with
 | zero =>
  rw [show f+0+1 - f=1 by omega,List.drop_eq_getElem_cons (by omega),h f (by omega) (Nat.le_refl _) (by omega)];rfl
 | succ d ih =>
  have:=ih (f:=f+1) (by omega) (by omega) (fun i hi h1 h2=>h i hi (by omega) (by omega));rw [List.drop_eq_getElem_cons (by omega),h f (by omega) (Nat.le_refl _) (by omega),this,show f+1+d+1=f+(d+1)+1 by omega,show f+(d+1)+1 - f=(f+(d+1)+1 - (f+1))+1 by omega,List.replicate_succ];rfl
theorem runs_drop {l:List UInt8} {f k:Nat} {c:UInt8} (hk:k < l.length) (hfk:f≤k) (h:∀ i (hi:i < l.length),f≤i→i≤k→l[i]=c) (hn:∀ (h1:k+1 < l.length),l[k+1]≠c) :
 runs (l.drop f)=(k+1 - f,c) :: runs (l.drop (k+1)):=by
 rw [drop_rep hk hfk h,show k+1 - f=k - f+1 by omega];refine runs_rep _ c ?_ _ rfl;intro x hx;have:=runs_head (l.drop (k+1));rw [hx] at this;intro e;rw [Option.map_some,e] at this
 by_cases h1:k+1 < l.length
 · rw [List.drop_eq_getElem_cons h1] at this;rw [List.head?_cons] at this;exact hn h1 (Option.some.inj this).symm
 · rw [List.drop_of_length_le (by omega)] at this;cases this
structure At (s:ByteArray) (pre:List RunB) (f k:Nat):Prop where
 fk:f≤k
 kn:k≤s.size
 rest:pre++runs ((tl s).drop f)=runs (tl s)
 same:∀ (h:k < s.size) i (hi:i < s.size),f≤i→i≤k→s[i]=s[f]
 done:k=s.size→f=s.size
theorem At.start (s:ByteArray):At s [] 0 0:=⟨Nat.le_refl _,Nat.zero_le _,rfl,fun h i hi h1 h2=>by
 obtain rfl:i=0:=by omega
 rfl,fun h=>h⟩
theorem At.on {s:ByteArray} {pre:List RunB} {f k:Nat} (h:At s pre f k) (hk:k+1 < s.size) (hf:f < s.size) (e:(s[k+1]).toNat=(s[f]).toNat):At s pre f (k+1) :=
 ⟨by have:=h.fk;omega,by omega,h.rest,fun h' i hi h1 h2=>by
  by_cases ei:i=k+1
  · subst ei;exact UInt8.toNat_inj.1 e
  · exact h.same (by omega) i hi h1 (by omega),fun h'=>by omega⟩
theorem At.run {s:ByteArray} {pre:List RunB} {f k:Nat} (h:At s pre f k) (hk:k < s.size) (hf:f < s.size) (hn:∀ (h1:k+1 < s.size),¬ (s[k+1]).toNat=(s[f]).toNat) :
 runs ((tl s).drop f)=(k+1 - f,s[f]) :: runs ((tl s).drop (k+1)) :=
 runs_drop (by rw [tl_len];exact hk) h.fk (fun i hi h1 h2=>h.same hk i (by rwa [tl_len] at hi) h1 h2) (fun h1 e=>hn (by rwa [tl_len] at h1) (by rw [← tl_get];exact congrArg UInt8.toNat e))
theorem At.next {s:ByteArray} {pre:List RunB} {f k:Nat} (h:At s pre f k) (hk:k < s.size) (hf:f < s.size) (hn:∀ (h1:k+1 < s.size),¬ (s[k+1]).toNat=(s[f]).toNat):At s (pre++[(k+1 - f,s[f])]) (k+1) (k+1) :=
 ⟨Nat.le_refl _,hk,by rw [List.append_assoc,← h.rest,h.run hk hf hn];rfl,fun h' i hi h1 h2=>by
  obtain rfl:i=k+1:=by omega
  rfl,fun h'=>h'⟩
set_option maxRecDepth 100000 in
set_option maxHeartbeats 4000000 in
theorem runsIn1_stops (Q:RunB→Prop) (n:Nat) (s:ByteArray) (Bn:Nat) (w:World) (hs:s.size≤2097152) (hBn:w.cell? ⟨Bn,0,none⟩=some (.string s)) (hQ:∀ x ∈ runs (tl s),Q x) :
 SeqStopsK Fence.wide n Tryz.prog 229 #[.pointer (some ⟨Bn,0,none⟩)] (encRun (Q:=Q)) (KeptAt Bn) (fun xs=>xs.map (·.1)=runs (tl s)) (fun pre=>∃ r,pre.map (·.1)++r=runs (tl s)) (runs (tl s)).length w:=by
 intro l J Jx W hW hJo hJxo hY h0;have hb0:Bn < w.heap.size:=lt_of_cell hBn;refine callsIn_of_wp Tryz.func229 rfl trivial ?_ rfl;simp only [Tryz.ntmps229,List.size_toArray,List.length_cons,List.length_nil,Nat.reduceAdd,Nat.reduceSub,Array.replicate_succ,Array.replicate_zero,List.push_toArray,List.append_toArray,List.nil_append,List.cons_append];have hB1:W.cell? ⟨Bn,0,none⟩=some (.string s):=(hW.cell (p:=⟨Bn,0,none⟩) hb0).trans hBn;clear hBn;replace hQ:=Lib.hid hQ;replace hJo:=Lib.hid hJo;replace hJxo:=Lib.hid hJxo;replace hW:=Lib.hid hW
 gi_wp2
 gi_loopw [3,7] (fun f i wr=>∃ (pre:List { x:RunB // Q x }) (fr k:Nat),f=.int .i64 fr∧i=.int .i64 k∧At s (pre.map (·.1)) fr k∧J pre wr∧wr.cell? ⟨Bn,0,none⟩=some (.string s))
  (fun _ i _=>s.size - (intOf i).toNat)
 case atStart=>exact ⟨[],0,0,rfl,rfl,At.start s,h0,hB1⟩
 case round =>
  obtain ⟨pre,fr,k,rfl,rfl,hat,hJ,hbx⟩:=hrel;have hfk:=hat.fk;have hkn:=hat.kn
  by_cases hlt:k < s.size
  · have hf:fr < s.size:=by omega
    replace hJ:=Lib.hid hJ;have hf':(fr:Int) < (s.size:Int):=by omega
    have hk1:((k:Int)+1).toNat=k+1:=by omega
    by_cases hgo:∃ (h1:k+1 < s.size),(s[k+1]).toNat=(s[fr]).toNat
    · obtain ⟨h1,he⟩:=hgo;have hat2:=Lib.hid (hat.on h1 hf he);have hk2:(k:Int)+1 < (s.size:Int):=by omega
      have hk3:(0:Int)≤(k:Int)+1:=by omega
      clear hat hY
      gi_wp2
      gi_big_quiet_th (fail)
      replace hJ:=Lib.hid (hJo.out _ wr (wr.drewN nq) none hJ.out ⟨rfl,rfl,rfl,Nat.le_refl _,fun _ _ _=>rfl⟩ (fun r e=>by cases e));have hx:(wr.drewN nq).cell? ⟨Bn,0,none⟩=some (.string s):=hbx
      gi_wp2
      go_roundw
      case rel=>exact ⟨pre,fr,k+1,rfl,by go_num,hat2.out,hJ.out,hx⟩
      case measure=>simp [intOf];omega
    · have hn:∀ (h1:k+1 < s.size),¬ (s[k+1]).toNat=(s[fr]).toNat:=fun h1 e=>hgo ⟨h1,e⟩
      have hrun:=hat.run hlt hf hn;have hnx:=hat.next hlt hf hn;have hrest:=hat.rest;rw [hrun] at hrest;obtain ⟨T,hT⟩:∃ T,T=k+1 - fr:=⟨_,rfl⟩;have hT2:(k:Int)+1 - (fr:Int)=(T:Int):=by omega
      have hTw:IntKind.i64.wrap (T:Int)=(T:Int):=IntWalk.i64_in _ (by omega);have hbt:=UInt8.toNat_lt s[fr];have hDw:IntKind.i64.wrap (((s[fr]).toNat:Int) - 48)=((s[fr]).toNat:Int) - 48:=IntWalk.i64_in _ (by omega);have hDc:IntKind.i64.wrap ((s[fr]).toNat:Int)=((s[fr]).toNat:Int):=IntWalk.i64_in _ (by omega);rw [← hT] at hrest hnx;have hq:Q (T,s[fr]):=hQ.out _ (by rw [← hrest];simp);have hlen:pre.length < (runs (tl s)).length:=by rw [← hrest];simp
      have hsp:∃ r,(pre++[(⟨(T,s[fr]),hq⟩:{ x:RunB // Q x })]).map (·.1)++r=runs (tl s):=⟨runs ((tl s).drop (k+1)),by rw [← hrest];simp⟩;have hnx':At s ((pre++[(⟨(T,s[fr]),hq⟩:{ x:RunB // Q x })]).map (·.1)) (k+1) (k+1):=by rw [List.map_append];exact hnx
      replace hsp:=Lib.hid hsp;replace hnx:=Lib.hid hnx';replace hlen:=Lib.hid hlen;replace hq:=Lib.hid hq;replace hT:=Lib.hid hT;clear hnx' hrest hrun hat
      by_cases h1:k+1 < s.size
      · have he:=hn h1;have hk2:(k:Int)+1 < (s.size:Int):=by omega
        have hk3:(0:Int)≤(k:Int)+1:=by omega
        clear hn hgo
        gi_wp2
        gi_big_quiet_th (fail)
        replace hJ:=Lib.hid (hJo.out _ wr (wr.drewN nq) none hJ.out ⟨rfl,rfl,rfl,Nat.le_refl _,fun _ _ _=>rfl⟩ (fun r e=>by cases e));have hx:(wr.drewN nq).cell? ⟨Bn,0,none⟩=some (.string s):=hbx;generalize wr.drewN nq=W1 at *;obtain ⟨fn,tmps,assign,body,hy,hR⟩:=hY pre ⟨(T,s[fr]),hq.out⟩ W1 hJ.out hlen.out;simp only [encRun] at hy;have hR':=Lib.hid hR;clear hR hbx
        gi_wp2
        refine ⟨fun h=>absurd h (by decide),hR'.out.mono ?_⟩;rintro e W3 (⟨rfl,hJ3,hk3⟩ | ⟨rfl,hJx3⟩)
        · have hbx3:=hk3.cell hx;replace hJ3:=Lib.hid hJ3;clear hk3
          gi_wp2
          go_roundw
          case rel=>exact ⟨pre++[⟨(T,s[fr]),hq.out⟩],k+1,k+1,by go_num,by go_num,hnx.out,hJ3.out,hbx3⟩
          case measure=>simp [intOf];omega
        · replace hJx3:=Lib.hid hJx3
          gi_wp2
          refine bodyPost_ret (results_none rfl _ _ _) rfl ?_;exact ⟨⟨_,rfl⟩,.inr ⟨_,hsp.out,hJx3.out⟩⟩
      · have hk2:¬ (k:Int)+1 < (s.size:Int):=by omega
        have hk4:decide ((k:Int)+1 < (s.size:Int))=false:=decide_eq_false hk2;clear hn hgo
        gi_wp2
        gi_big_quiet_th (fail)
        replace hJ:=Lib.hid (hJo.out _ wr (wr.drewN nq) none hJ.out ⟨rfl,rfl,rfl,Nat.le_refl _,fun _ _ _=>rfl⟩ (fun r e=>by cases e));have hx:(wr.drewN nq).cell? ⟨Bn,0,none⟩=some (.string s):=hbx;generalize wr.drewN nq=W1 at *;obtain ⟨fn,tmps,assign,body,hy,hR⟩:=hY pre ⟨(T,s[fr]),hq.out⟩ W1 hJ.out hlen.out;simp only [encRun] at hy;have hR':=Lib.hid hR;clear hR hbx
        gi_wp2
        refine ⟨fun h=>absurd h (by decide),hR'.out.mono ?_⟩;rintro e W3 (⟨rfl,hJ3,hk3⟩ | ⟨rfl,hJx3⟩)
        · have hbx3:=hk3.cell hx;replace hJ3:=Lib.hid hJ3;clear hk3
          gi_wp2
          go_roundw
          case rel=>exact ⟨pre++[⟨(T,s[fr]),hq.out⟩],k+1,k+1,by go_num,by go_num,hnx.out,hJ3.out,hbx3⟩
          case measure=>simp [intOf];omega
        · replace hJx3:=Lib.hid hJx3
          gi_wp2
          refine bodyPost_ret (results_none rfl _ _ _) rfl ?_;exact ⟨⟨_,rfl⟩,.inr ⟨_,hsp.out,hJx3.out⟩⟩
  · obtain rfl:k=s.size:=by omega
    obtain rfl:fr=s.size:=hat.done rfl
    have hE:pre.map (·.1)=runs (tl s):=by
     have:=hat.rest;rw [List.drop_of_length_le (by rw [tl_len];exact Nat.le_refl _)] at this;rw [← this];simp [runs]
    replace hE:=Lib.hid hE;replace hJ:=Lib.hid hJ;clear hat hY h0
    gi_wp2
    go_end0
    exact ⟨⟨_,rfl⟩,.inl ⟨_,hE.out,hJ.out⟩⟩
end
section
open Go Go.RowKit Go.Shelf
attribute [local go_sem] Oper.semAt_some
theorem own_blk {β:Type} (B b:Nat) (hb:b < B) (t:TypeId) (f:β→Array Value):OwnFrom B (fun s W=>Blk W b t (f s)):=fun s W W' row h hg hr =>
 (hg.block b h.lt (fun e=>by have:=(hr b e.symm).1;omega)).trans h
theorem own_bel {β:Type} (B:Nat) (w:World) (hB:w.heap.size≤B):OwnFrom B (fun (_:β) W=>Below w.heap.size w W):=fun s W W' row h hg hr =>
 h.grown hg h.size (fun k e=>by have:=(hr k e).1;omega)
theorem own_size {β:Type} (B N:Nat):OwnFrom B (fun (_:β) W=>N≤W.heap.size):=fun _ _ _ _ h hg _=>Nat.le_trans h hg.size
theorem KeptAt.put {B:Nat} (W:World) (l:Nat) (o:Obj) (h:B < l):KeptAt B W (W.putObj l o):=World.putObj_heap_other (by omega)
theorem KeptAt.trans {B:Nat} {X Y Z:World} (h:KeptAt B X Y) (k:KeptAt B Y Z):KeptAt B X Z:=Eq.trans k h
theorem KeptAt.below {B S:Nat} {X Y:World} (h:Below S X Y) (hB:B < S):KeptAt B X Y:=h.block B hB
def allOkR {Q:RunB→Prop} (pre:List { x:RunB // Q x }):Prop:=∀ x ∈ pre,okRun x.1=true
def someBad {Q:RunB→Prop} (pre:List { x:RunB // Q x }):Prop:=∃ x ∈ pre,okRun x.1=false
theorem allOkR_row {Q:RunB→Prop} {pre:List { x:RunB // Q x }} {l:List UInt8} (h:allOkR pre) (e:pre.map (·.1)=runs l) (hl:l.length≤60):rowL l=true :=
 rowL_iff.2 ⟨hl,fun x hx=>by
  rw [← e] at hx;obtain ⟨y,hy,rfl⟩:=List.mem_map.1 hx;exact h y hy⟩
theorem someBad_row {Q:RunB→Prop} {pre:List { x:RunB // Q x }} {l:List UInt8} {r:List RunB} (h:someBad pre) (e:pre.map (·.1)++r=runs l):rowL l=false:=by
 obtain ⟨x,hx,hb⟩:=h;cases hr:rowL l
 · rfl
 · have:=(rowL_iff.1 hr).2 x.1 (by rw [← e];exact List.mem_append_left _ (List.mem_map.2 ⟨x,hx,rfl⟩));rw [hb] at this;cases this
set_option maxRecDepth 100000 in
set_option maxHeartbeats 4000000 in
theorem implRowOk_any (s:ByteArray) (w:World) (hs:s.size≤2097152) :
 Calls Tryz.prog 215 #[.string s] w fun e w'=>e=.returned (.bool (rowL (tl s)))∧Below w.heap.size w w':=by
 refine (callsIn_wide (n:=3)).1 ?_;refine callsIn_of_wp_marks Tryz.func215 rfl trivial ?_ rfl;simp only [Tryz.ntmps215,List.size_toArray,List.length_cons,List.length_nil,Nat.reduceAdd,Nat.reduceSub,Array.replicate_succ,Array.replicate_zero,List.push_toArray,List.append_toArray,List.nil_append,List.cons_append];have hB1:=(Below.refl w.heap.size w).alloc (Nat.le_refl _) (.cells #[.bool false] 4);have hX1:=Blk.new w 4 #[.bool false]
 by_cases h60:s.size≤60
 · have h60':¬ 60 < (s.size:Int):=by omega
   gi_wp2
   refine ⟨trivial,(callsIn_wide.2 (runsIn_any _ _)).mono ?_⟩;rintro e _ ⟨rfl,rfl⟩
   gi_wp2
   have hX0:=hX1.alloc (.cells #[.string s] 9);have hB0:=hB1.alloc (by simp) (.cells #[.string s] 9);have hbx:((w.alloc (.cells #[.bool false] 4)).alloc (.cells #[.string s] 9)).cell? ⟨w.heap.size+1,0,none⟩=some (.string s):=by simp [go_sem]
   have hs0:((w.alloc (.cells #[.bool false] 4)).alloc (.cells #[.string s] 9)).heap.size=w.heap.size+2:=by simp
   generalize ((w.alloc (.cells #[.bool false] 4)).alloc (.cells #[.string s] 9))=W0 at *;have hs1:w.heap.size+2≤W0.heap.size:=by omega
   clear hB1 hX1 hs0
   refine wpIn_rangeFunc_ownH rfl (by decide) (gf:=229) (lb:=#[.pointer (some ⟨w.heap.size+1,0,none⟩)]) rfl trivial (enters_of Tryz.func229 (by kernel_rfl) rfl)
    (runsIn1_stops (fun _=>True) 2 s (w.heap.size+1) W0 hs hbx (fun _ _=>trivial)) (fun h k=>h.trans k) (fun W1 l o o' h1 h2 h3 h4=>KeptAt.put W1 l o' (by omega)) (Below.refl _ _) (fun _=>rfl)
    (fun pre W=>allOkR pre∧Blk W w.heap.size 4 #[.bool false]∧Below w.heap.size w W∧W0.heap.size≤W.heap.size)
    (fun c pre W=>(c=.ret∧someBad pre)∧Blk W w.heap.size 4 #[.bool false]∧Below w.heap.size w W)
    ?hI ?hIx ⟨(fun x hx=>by cases hx),hX0,hB0,Nat.le_refl _⟩
    (fun x a' W=>∃ Bx,W0.heap.size≤Bx∧Blk W Bx 148 #[.int .i64 (x.1.1:Int),.int .i64 ((x.1.2.toNat:Int) - 48)]∧a'={ tmps:=#[.string s,undef,.pointer (some ⟨w.heap.size,0,none⟩),.pointer (some ⟨Bx,0,none⟩),.string s,.int .i64 s.size,.bool false,.string s,
     .func (.func 229) #[] #[.pointer (some ⟨w.heap.size+1,0,none⟩)],.agg #[.int .i64 (x.1.1:Int),.int .i64 ((x.1.2.toNat:Int) - 48)],undef,undef,undef,undef,undef,undef,undef,undef,undef,undef,undef,undef,undef],defers:=[] })
    ?hAx ?assign ?body ?done ?stop
   case hI=>exact (ownFrom_pure _ _).and ((own_blk _ _ (by omega) _ _).and ((own_bel _ _ (by omega)).and (own_size _ _)))
   case hIx=>exact fun c=>(ownFrom_pure _ _).and ((own_blk _ _ (by omega) _ _).and (own_bel _ _ (by omega)))
   case hAx =>
    rintro x a' _ W W' row ⟨Bx,h1,h2,h3⟩ hg hr;exact ⟨Bx,h1,(hg.block Bx h2.lt (fun e=>by obtain ⟨_,o,ho,hc⟩:=hr Bx e.symm;rw [h2] at ho;cases ho;cases hc)).trans h2,h3⟩
   case assign =>
    rintro l pre x W K ⟨hp,hX,hB,hsz⟩ hK;simp only [encRun]
    gi_wp2
    exact hK _ _ ((KeepsOthers.alloc _ _).from _) (KeptAt.below ((Below.refl W.heap.size W).alloc (Nat.le_refl _) _) (by omega)) ⟨hp,hX.alloc _,hB.alloc hB.size _,by simp;omega⟩ ⟨W.heap.size,hsz,Blk.new _ _ _,rfl⟩
   case body =>
    rintro l pre x a' W hl - ⟨hp,hX,hB,hsz⟩ ⟨Bx,hBx,hR,rfl⟩ hlen;obtain ⟨⟨t,c⟩,hq⟩:=x;simp only at hR ⊢;have r0:=hR.cell 0;have r1:=hR.cell 1;simp only [List.getElem?_toArray,List.getElem?_cons_zero,List.getElem?_cons_succ] at r0 r1;have x0:=hX.cell 0;have xf:=hX.frozen 0;simp only [List.getElem?_toArray,List.getElem?_cons_zero] at x0;have hXs:=hX.set_ 0 (.bool false);have hBs:=hB.setCell (p:=⟨w.heap.size,0,none⟩) (Nat.le_refl _) (.bool false);replace hX:=Lib.hid hX;replace hB:=Lib.hid hB;replace hp:=Lib.hid hp;replace hXs:=Lib.hid hXs;replace hBs:=Lib.hid hBs
    by_cases hok:okRun (t,c)=true
    · obtain ⟨k1,k2,k3⟩:=(okRun_iff _).1 hok;simp only at k1 k2 k3;have d1:¬ (c.toNat:Int) - 48 < 1:=by omega
      have d2:¬ 9 < (c.toNat:Int) - 48:=by omega
      have d3:¬ 9 < (t:Int):=by omega
      have hp2:allOkR (pre++[(⟨(t,c),hq⟩:{ x:RunB // True })]):=by
       intro x hx;rcases List.mem_append.1 hx with h | h
       · exact hp.out x h
       · simp at h;subst h;exact hok
      replace hp2:=Lib.hid hp2;replace hok:=Lib.hid hok
      gi_wp2
      exact ⟨KeepsFrom.refl _ _,rfl,hp2.out,hX.out,hB.out,hsz⟩
    · have hbad:okRun (t,c)=false:=by simpa using hok
      have hp2:someBad (pre++[(⟨(t,c),hq⟩:{ x:RunB // True })]):=⟨⟨(t,c),hq⟩,by simp,hbad⟩;replace hp2:=Lib.hid hp2
      by_cases k1:49≤c.toNat
      · by_cases k2:c.toNat≤57
        · have k3:¬ t≤9:=fun h=>hok ((okRun_iff _).2 ⟨k1,k2,h⟩)
          have d1:¬ (c.toNat:Int) - 48 < 1:=by omega
          have d2:¬ 9 < (c.toNat:Int) - 48:=by omega
          have d3:9 < (t:Int):=by omega
          replace hok:=Lib.hid hok;replace hbad:=Lib.hid hbad
          gi_wp2
          exact ⟨(KeepsOthers.setCell _ _ _).from _,⟨rfl,hp2.out⟩,hXs.out,hBs.out⟩
        · have d1:¬ (c.toNat:Int) - 48 < 1:=by omega
          have d2:9 < (c.toNat:Int) - 48:=by omega
          replace hok:=Lib.hid hok;replace hbad:=Lib.hid hbad
          gi_wp2
          exact ⟨(KeepsOthers.setCell _ _ _).from _,⟨rfl,hp2.out⟩,hXs.out,hBs.out⟩
      · have d1:(c.toNat:Int) - 48 < 1:=by omega
        replace hok:=Lib.hid hok;replace hbad:=Lib.hid hbad
        gi_wp2
        exact ⟨(KeepsOthers.setCell _ _ _).from _,⟨rfl,hp2.out⟩,hXs.out,hBs.out⟩
   case done =>
    rintro D ys W hD hS ⟨hp,hX,hB,hsz⟩ hK;have hrow:=allOkR_row hp hS (by rw [tl_len];exact h60);have x0:=hX.cell 0;have xf:=hX.frozen 0;simp only [List.getElem?_toArray,List.getElem?_cons_zero] at x0;have hXs:Blk ((W.setCell ⟨w.heap.size,0,none⟩ (.bool true)).putObj D (.deferred none)) w.heap.size 4 #[.bool true]:=(World.putObj_heap_other (by omega)).trans (hX.set_ 0 (.bool true));have hBs:=hB.setCell (p:=⟨w.heap.size,0,none⟩) (Nat.le_refl _) (.bool true);have hBd:Below w.heap.size w ((W.setCell ⟨w.heap.size,0,none⟩ (.bool true)).putObj D (.deferred none)):=⟨hBs.os,hBs.tape,hBs.output,by simpa using hBs.size,fun k hk=>(World.putObj_heap_other (by omega)).trans (hBs.block k hk)⟩;have hKs:(W.setCell ⟨w.heap.size,0,none⟩ (.bool true)).heap[D]?=some (.deferred (some [])):=(Below.heap_setCell _ _ _ _ (by show D≠w.heap.size;omega)).trans hK;have hc:=hXs.cell 0;simp only [List.getElem?_toArray,List.getElem?_cons_zero] at hc;replace hrow:=Lib.hid hrow;replace hBd:=Lib.hid hBd;replace hX:=Lib.hid hX;replace hB:=Lib.hid hB;clear hBs hXs hp hS
    gi_wp2
    refine ⟨by simp,.inl ⟨_,_,rfl,run_takeDeferred hKs,?_⟩⟩;refine ⟨.bool true,?_,by rw [hrow.out],hBd.out⟩
    simp [results,Tryz.f215,go_sem,hc]
   case stop =>
    rintro D c pre W hD ⟨r,hS⟩ ⟨⟨rfl,hp⟩,hX,hB⟩ hK;have hrow:=someBad_row hp hS;have hXs:Blk (W.putObj D (.deferred none)) w.heap.size 4 #[.bool false]:=(World.putObj_heap_other (by omega)).trans hX;have hBd:Below w.heap.size w (W.putObj D (.deferred none)):=⟨hB.os,hB.tape,hB.output,by simpa using hB.size,fun k hk=>(World.putObj_heap_other (by omega)).trans (hB.block k hk)⟩;have hc:=hXs.cell 0;simp only [List.getElem?_toArray,List.getElem?_cons_zero] at hc;replace hrow:=Lib.hid hrow;replace hBd:=Lib.hid hBd;clear hXs hp hS hB
    gi_wp2
    refine ⟨by simp,.inl ⟨_,_,rfl,run_takeDeferred hK,?_⟩⟩;refine ⟨.bool false,?_,by rw [hrow.out],hBd.out⟩
    simp [results,Tryz.f215,go_sem,hc]
 · have h60':60 < (s.size:Int):=by omega
   have hno:=Lib.hid (row_long (l:=tl s) (by rw [tl_len];exact h60));have x0:=hX1.cell 0;have xf:=hX1.frozen 0;simp only [List.getElem?_toArray,List.getElem?_cons_zero] at x0
   gi_wp2
   refine ⟨.bool false,?_,by rw [hno.out],hB1⟩
   simp [results,Tryz.f215,go_sem]
end
section
open Go Go.RowKit Go.Shelf
attribute [local go_sem] Oper.semAt_some
theorem row_nocells {W W':World} {B z n:Nat} {t:TypeId} {v:Value} {xs:List Value} {row:Option Nat} (h:W.ownsRow B t z v n xs) (hg:W.grownBy W' row) (hr:∀ r,row=some r→∃ o:Obj,W.heap[r]?=some o∧o.isCells=false):W'.ownsRow B t z v n xs:=by
 refine h.kept hg ?_;rcases h.2 with ⟨rfl,_⟩ | ⟨g,cap,cur,rfl,_,hgg,_⟩
 · exact .inl rfl
 · refine .inr fun e=>?_
   obtain ⟨o,ho,hc⟩:=hr g (by rw [← e];rfl);rw [hgg] at ho;cases ho;cases hc
theorem row_block {W:World} {B z n:Nat} {t:TypeId} {v:Value} {xs:List Value} (h:W.ownsRow B t z v n xs):∀ (j:Nat) (o:Obj),v.ownBlock=some j→W.heap[j]?=some o→o.isCells=true:=by
 intro j o e ho;rcases h.2 with ⟨rfl,_⟩ | ⟨g,cap,cur,rfl,_,hgg,_⟩
 · cases e
 · cases e;rw [hgg] at ho;cases ho;rfl
structure RowIn (w W0:World) (b:Nat) (q:List RunB) (W:World):Prop where
 row:∃ v,Blk W b 145 #[v]∧W.ownsRow W0.heap.size 148 2 v q.length (runCells q)
 low:Below w.heap.size w W
 size:W0.heap.size≤W.heap.size
theorem RowIn.own {β:Type} {w W0:World} {b:Nat} (hb:b < W0.heap.size) (hw:w.heap.size≤W0.heap.size) (f:β→List RunB):OwnFrom W0.heap.size (fun s W=>RowIn w W0 b (f s) W):=fun s W W' row h hg hr=>by
 obtain ⟨v,h1,h2⟩:=h.row;exact ⟨⟨v,own_blk _ _ hb _ (fun _:Unit=>#[v]) () W W' row h1 hg hr,row_nocells h2 hg (fun r e=>(hr r e).2)⟩,own_bel (β:=Unit) _ w hw () W W' row h.low hg hr,Nat.le_trans h.size hg.size⟩
theorem RowIn.alloc {w W0 W:World} {b:Nat} {q:List RunB} (h:RowIn w W0 b q W) (o:Obj):RowIn w W0 b q (W.alloc o):=by
 obtain ⟨v,h1,h2⟩:=h.row;exact ⟨⟨v,h1.alloc _,h2.alloc _⟩,h.low.alloc h.low.size _,by have:=h.size;simp;omega⟩
set_option maxRecDepth 100000 in
set_option maxHeartbeats 4000000 in
theorem implRunsOf_any (s:ByteArray) (w:World) (hs:s.size≤2097152) :
 Calls Tryz.prog 188 #[.string s] w (RetRuns w (runsL (tl s))):=by
 obtain ⟨i0,hi,hz0,hz1,hz2⟩:=info_parts run_info;have hR:=implRowOk_any s w hs;refine (callsIn_wide (n:=3)).1 ?_;refine callsIn_of_wp_marks Tryz.func188 rfl trivial ?_ rfl;simp only [Tryz.ntmps188,List.size_toArray,List.length_cons,List.length_nil,Nat.reduceAdd,Nat.reduceSub,Array.replicate_succ,Array.replicate_zero,List.push_toArray,List.append_toArray,List.nil_append,List.cons_append];cases hrow:rowL (tl s)
 · rw [hrow] at hR;rw [runsL_no hrow];replace hrow:=Lib.hid hrow
   gi_wp2
   refine ⟨trivial,(callsIn_wide.2 hR).mono ?_⟩;rintro e W ⟨rfl,hB⟩
   gi_wp2
   exact ⟨_,results_tmp rfl _ _ _,.slice none 0 0,rfl,World.ownsRow_nil _ _ _ _,hB⟩
 · have h60:=row_len hrow;rw [tl_len] at h60;have hRl:=runs_len (tl s);rw [tl_len] at hRl;rw [hrow] at hR;rw [runsL_yes hrow];replace hrow:=Lib.hid hrow
   gi_wp2
   refine ⟨trivial,(callsIn_wide.2 hR).mono ?_⟩;rintro e W1 ⟨rfl,hB1⟩
   gi_wp2
   refine ⟨trivial,(callsIn_wide.2 (runsIn_any _ _)).mono ?_⟩;rintro e _ ⟨rfl,rfl⟩;have hX0:=(Blk.new W1 145 #[.slice none 0 0]).alloc (.cells #[.string s] 9);have hB0:=(hB1.alloc hB1.size (.cells #[.slice none 0 0] 145)).alloc (by have:=hB1.size;simp;omega) (.cells #[.string s] 9);have hbx:((W1.alloc (.cells #[.slice none 0 0] 145)).alloc (.cells #[.string s] 9)).cell? ⟨W1.heap.size+1,0,none⟩=some (.string s):=by simp [go_sem]
   have hs0:((W1.alloc (.cells #[.slice none 0 0] 145)).alloc (.cells #[.string s] 9)).heap.size=W1.heap.size+2:=by simp
   gi_wp2
   generalize ((W1.alloc (.cells #[.slice none 0 0] 145)).alloc (.cells #[.string s] 9))=W0 at *;have hs1:W1.heap.size+2≤W0.heap.size:=by omega
   have hw1:w.heap.size≤W1.heap.size:=hB1.size;clear hs0 hR
   refine wpIn_rangeFunc_ownH rfl (by decide) (gf:=229) (lb:=#[.pointer (some ⟨W1.heap.size+1,0,none⟩)]) rfl trivial (enters_of Tryz.func229 (by kernel_rfl) rfl)
    (runsIn1_stops (fun _=>True) 2 s (W1.heap.size+1) W0 hs hbx (fun _ _=>trivial)) (fun h k=>h.trans k) (fun W l o o' h1 h2 h3 h4=>KeptAt.put W l o' (by omega)) (Below.refl _ _) (fun _=>rfl)
    (fun pre W=>RowIn w W0 W1.heap.size (pre.map (·.1)) W)
    (fun c pre W=>False)
    ?hI (fun _ _ _ _ _ hs _ _=>hs) ⟨⟨_,hX0,World.ownsRow_nil _ _ _ _⟩,hB0,Nat.le_refl _⟩
    (fun x a' W=>∃ Bx,W0.heap.size≤Bx∧Blk W Bx 148 #[.int .i64 (x.1.1:Int),.int .i64 ((x.1.2.toNat:Int) - 48)]∧a'={ tmps:=#[.string s,undef,.slice none 0 0,.pointer (some ⟨W1.heap.size,0,none⟩),.pointer (some ⟨Bx,0,none⟩),.string s,.bool true,.bool false,.string s,
     .func (.func 229) #[] #[.pointer (some ⟨W1.heap.size+1,0,none⟩)],.agg #[.int .i64 (x.1.1:Int),.int .i64 ((x.1.2.toNat:Int) - 48)],undef,undef,undef,undef,undef],defers:=[] })
    ?hAx ?assign ?body ?done ?stop
   case hI=>exact RowIn.own (by omega) (by omega) _
   case hAx =>
    rintro x a' _ W W' row ⟨Bx,h1,h2,h3⟩ hg hr;exact ⟨Bx,h1,(hg.block Bx h2.lt (fun e=>by obtain ⟨_,o,ho,hc⟩:=hr Bx e.symm;rw [h2] at ho;cases ho;cases hc)).trans h2,h3⟩
   case assign =>
    rintro l pre x W K hI hK;have hsz:=hI.size;simp only [encRun]
    gi_wp2
    exact hK _ _ ((KeepsOthers.alloc _ _).from _) (KeptAt.below ((Below.refl W.heap.size W).alloc (Nat.le_refl _) _) (by omega)) (hI.alloc _) ⟨W.heap.size,hsz,Blk.new _ _ _,rfl⟩
   case body =>
    rintro l pre x a' W hl - hI ⟨Bx,hBx,hR,rfl⟩ hlen;obtain ⟨⟨t,c⟩,hq⟩:=x;simp only at hR ⊢;have hlen':pre.length≤60:=by omega
    obtain ⟨v,hv,hrow2⟩:=hI.row;have hlow:=hI.low;have hsz:=hI.size;have r0:=hR.cell 0;have r1:=hR.cell 1;have x0:=hv.cell 0;simp only [List.getElem?_toArray,List.getElem?_cons_zero,List.getElem?_cons_succ] at r0 r1 x0;have hml:(pre.map (·.1)).length=pre.length:=by simp
    replace hI:=Lib.hid hI;replace hv:=Lib.hid hv
    gi_wp2_with (gi_at_builtin;refine wpListIn_append_own _ rfl _ _ 145 rfl W0.heap.size 148 i0 (.agg #[.int .i64 0,.int .i64 0]) 2 16 Tryz.underlying145 hi hz0 hz1 hz2 rfl (by decide) _ _ _ rfl (hrow2.alloc _) ⟨W.heap.size,0,none⟩ 1 1 [.int .i64 (t:Int),.int .i64 ((c.toNat:Int) - 48)] rfl rfl (cell_two _ _ _ _) (fun x hx=>by simp at hx;rcases hx with rfl | rfl <;> rfl) (by rw [hml];unfold maxLen;omega) (by rw [hml];omega) (by simp;omega) ?_;intro v' W3 hown' hg3 _;obtain ⟨g',cap',rfl⟩:=ownsRow_succ hown';have hlt3:=fun k e=>(hrow2.lt k e).1;have hb3:∀ k,k < W0.heap.size→W3.heap[k]?=W.heap[k]?:=(fun k hk=>(hg3.block k (by simp;omega) (fun e=>by have:=hlt3 k e.symm;omega)).trans (Below.heap_alloc _ _ _ (by omega)));have hv3:Blk W3 W1.heap.size 145 #[v]:=(hb3 _ (by omega)).trans hv.out;have hv3c:=hv3.cell 0;have hv3f:=hv3.frozen 0;simp only [List.getElem?_toArray,List.getElem?_cons_zero] at hv3c)
    have hk1:KeepsOthers W (W3.setCell ⟨W1.heap.size,0,none⟩ (.slice (some ⟨g',0,none⟩) ((pre.map (·.1)).length+1) cap')) :=
     ((KeepsOthers.alloc _ _).trans (KeepsOthers.of_grownBy hg3 (row_block (hrow2.alloc _)))).trans (KeepsOthers.setCell _ _ _)
    have hv4:=hv3.set_ 0 (.slice (some ⟨g',0,none⟩) ((pre.map (·.1)).length+1) cap');have hgB:W0.heap.size≤g':=(hown'.lt g' rfl).1;have hown4:=hown'.kept (row:=some W1.heap.size) (grownBy_setCell' W3 W1.heap.size (.slice (some ⟨g',0,none⟩) ((pre.map (·.1)).length+1) cap')) (.inr (fun e=>by simp [Value.ownBlock] at e;omega));have hbel:=(belowN_own (hlow.alloc hlow.size _) (hrow2.alloc _) hg3 (by have:=hlow.size;simp;omega) (by omega)).setCell (p:=⟨W1.heap.size,0,none⟩) hw1 (.slice (some ⟨g',0,none⟩) ((pre.map (·.1)).length+1) cap')
    have hsz4:W0.heap.size≤(W3.setCell ⟨W1.heap.size,0,none⟩ (.slice (some ⟨g',0,none⟩) ((pre.map (·.1)).length+1) cap')).heap.size:=by
     have:=hg3.size;simp at this;simp [World.setCell];omega
    have hkp:KeptAt (W1.heap.size+1) W (W3.setCell ⟨W1.heap.size,0,none⟩ (.slice (some ⟨g',0,none⟩) ((pre.map (·.1)).length+1) cap')) :=
     (Below.heap_setCell _ _ _ _ (by show W1.heap.size+1≠W1.heap.size;omega)).trans (hb3 _ (by omega))
    have hI2:RowIn w W0 W1.heap.size ((pre++[(⟨(t,c),hq⟩:{ x:RunB // True })]).map (·.1)) (W3.setCell ⟨W1.heap.size,0,none⟩ (.slice (some ⟨g',0,none⟩) ((pre.map (·.1)).length+1) cap')):=by
     refine ⟨⟨_,hv4,?_⟩,hbel,hsz4⟩;rw [List.map_append,runCells_app,List.length_append];exact hown4
    rw [hml] at hI2 hk1 hkp;replace hI2:=Lib.hid hI2;replace hk1:=Lib.hid hk1;replace hkp:=Lib.hid hkp;clear hv4 hown4 hbel hsz4 hown' hg3 hv3
    gi_wp2
    exact ⟨hk1.out.from _,hkp.out,hI2.out⟩
   case done =>
    rintro D ys W hD hS hI hK;rw [hS] at hI;obtain ⟨v,hv,hrow2⟩:=hI.row;have x0:=hv.cell 0;simp only [List.getElem?_toArray,List.getElem?_cons_zero] at x0
    have hown:OwnRuns (W.putObj D (.deferred none)) w.heap.size v (runs (tl s)) :=
     ownN_mono (row_nocells hrow2 (grownBy_putObj' W D (.deferred none)) (fun r e=>by cases e;exact ⟨_,hK,rfl⟩)) (by omega)
    have hB:=hI.low;have hBd:Below w.heap.size w (W.putObj D (.deferred none)):=⟨hB.os,hB.tape,hB.output,by simpa using hB.size,fun k hk=>(World.putObj_heap_other (by omega)).trans (hB.block k hk)⟩;obtain ⟨A,cap,rfl,-⟩:=hown.runs;replace hown:=Lib.hid hown;replace hBd:=Lib.hid hBd;clear hI hB hrow2 hv hS
    gi_wp2
    refine ⟨by simp,.inl ⟨_,_,rfl,run_takeDeferred hK,?_⟩⟩;exact ⟨_,results_tmp rfl _ _ _,.slice A (runs (tl s)).length cap,rfl,hown.out,hBd.out⟩
   case stop=>exact fun _ _ _ _ _ _ h _=>h.elim
end
section
open Go.RowKit Go.Sort
set_option maxRecDepth 100000 in
set_option maxHeartbeats 4000000 in
theorem implSpokenOf_any (v:Value) (t:Tg) (s:ByteArray) (w:World) (h:Tng w v t) (hf:t.Fine) (hs:s.size≤2097152) :
 Calls Tryz.prog 164 #[v,.string s] w (RetStrs w (spokenL t (tl s))):=by
 obtain ⟨i0,hi,hz0,hz1,hz2⟩:=info_parts str_info;obtain ⟨A1,c1,A2,c2,A3,c3,rfl,-⟩:=h.ex;have hB:=(Below.refl w.heap.size w).alloc (Nat.le_refl _) (.cells #[.slice A1 t.us.length c1,.slice A2 t.bs.length c2,.slice A3 t.ns.length c3] 31);have HX:=Blk.new w 31 #[.slice A1 t.us.length c1,.slice A2 t.bs.length c2,.slice A3 t.ns.length c3];have HT:=h.below hB (Nat.le_refl _);have hL60:=runsL_len' (tl s);have hsm:=Lib.hid (fun x (h:x ∈ runsL (tl s))=>runsL_small h);replace hB:=Lib.hid hB;replace HX:=Lib.hid HX;replace HT:=Lib.hid HT;clear h;unfold spokenL;go_enter Tryz.func164,Tryz.ntmps164;go_upto_region 1 with (fail)
 generalize w.alloc (.cells #[.slice A1 t.us.length c1,.slice A2 t.bs.length c2,.slice A3 t.ns.length c3] 31)=W at *;have hXc:=Lib.hid (fun W' (h:Below W.heap.size W W')=>blk3 (HX.out.below h HX.out.lt));have KT:=Lib.hid (fun n W' (h:Below W.heap.size W W') hn=>implTextOf_any _ t n W' (HT.out.below h (Nat.le_refl _)) hf hn);have KR:=implRunsOf_any s W hs;generalize runsL (tl s)=q at *;go_wp2_with (fail);refine KR.mono ?_;rintro e W2 ⟨v2,rfl,ho2,b2⟩;obtain ⟨A,c,rfl,hq⟩:=ho2.runs;have hs2:=b2.size;have hB2:=Lib.hid b2;replace hq:=Lib.hid hq;clear b2 ho2 KR;go_wp2
 go_loopw [5,13] (fun s5 s13 wr=>∃ k:Nat,k≤q.length∧s13=.int .i64 k∧okTo t q k∧OwnStrs wr W2.heap.size s5 (spokenTo t q k)∧Below W2.heap.size W2 wr) (fun _ s13 _=>q.length - (intOf s13).toNat)
 case atStart=>exact ⟨0,Nat.zero_le _,rfl,fun j x hj=>absurd hj (by omega),owns_none _ _ _,Below.refl _ _⟩
 case round =>
  obtain ⟨k,hk,rfl,hok,ho,hBr⟩:=hrel
  by_cases hlt:k < q.length
  · have hx:q[k]?=some q[k]:=List.getElem?_eq_getElem hlt;have hT9:=hsm.out _ (List.getElem_mem hlt);generalize q[k]=x at *;obtain ⟨T,ch⟩:=x;simp only at hT9;have hch:=UInt8.toNat_lt ch;obtain ⟨b,o,rfl,hbl,hc⟩:=(hq.out.below hBr (Nat.le_refl _)).at_ (by omega);obtain ⟨r1,r2⟩:=hc k _ hx;simp only at r1 r2;have hgo:=Lib.hid (spokenTo_go (t:=t) hx);have hno:=Lib.hid (spoken_no (t:=t) hx);have hyes:=Lib.hid (okTo_go hok hx);have hln:=spokenTo_len t q k;have hspk:spk t (T,ch)=textOf t (T:Int)++⟨#[32]⟩++textOf t ((ch.toNat:Int) - 48):=rfl;have hspo:spkOk t (T,ch)=(decide (textOf t (T:Int)≠⟨#[]⟩)&&decide (textOf t ((ch.toNat:Int) - 48)≠⟨#[]⟩)):=rfl;have z1:=textOf_size t (T:Int);have z2:=textOf_size t ((ch.toNat:Int) - 48);rw [hspk] at hgo;rw [hspo] at hno hyes;generalize spokenTo t q k=out at *;have cs:=run_cells;obtain ⟨A5,c5,rfl,-⟩:=ho.strs;have hBW:=hB2.out.trans (hBr.mono (by omega));have hBx:=Lib.hid ((Below.refl wr.heap.size wr).alloc (Nat.le_refl _) (.cells #[.int .i64 (T:Int),.int .i64 ((ch.toNat:Int) - 48)] 148));have hXn:=Blk.new wr 148 #[.int .i64 (T:Int),.int .i64 ((ch.toNat:Int) - 48)];replace ho:=Lib.hid (ho.below hBx.out (Nat.le_refl _));have hBr2:=Lib.hid (hBr.trans (hBx.out.mono hBr.size));have hBW2:=Lib.hid (hBW.trans (hBx.out.mono hBW.size));replace hspk:=Lib.hid hspk;replace hspo:=Lib.hid hspo;replace hXn:=Lib.hid hXn;clear hok hc hx hBr hBW hBx
    go_upto_region 5 with (fail)
    generalize wr.alloc (.cells #[.int .i64 (T:Int),.int .i64 ((ch.toNat:Int) - 48)] 148)=wq at *;have n0:=hXn.out.cell 0;have n1:=hXn.out.cell 1;simp only [List.getElem?_toArray,List.getElem?_cons_zero,List.getElem?_cons_succ] at n0 n1;obtain ⟨x0,x1,x2,-,-,-⟩:=hXc.out _ hBW2.out;have y0:=fun d os=>cell_regrown x0 d os
    have y1:=fun d os=>cell_regrown x1 d os
    have y2:=fun d os=>cell_regrown x2 d os
    have y3:=fun d os=>cell_regrown n0 d os
    have y4:=fun d os=>cell_regrown n1 d os
    have KT1:=Lib.hid (fun n d os hn=>KT.out n (grow (redrawn wq d) os) (hBW2.out.trans ((below_regrown wq d os).mono hBW2.out.size)) hn);clear x0 x1 x2 n0 n1 r1 r2;refine wp_region_quiet_below (by kernel_rfl) (by kernel_rfl) ?_
    repeat (go_big_quiet_step (first | (go_at_call 157;exact Calls.regrown_of (KT1.out _ _ _ (by omega)))))
    refine wpQuiet_nil ?_;intro _ hw';obtain ⟨pq,hw''⟩:=hw';have bq:=below_regrown wq pq.d pq.os;rw [← hw''] at bq;clear hw'' y0 y1 y2 y3 y4 KT1
    rename_i wq2
    have ho3:=Lib.hid (ho.out.below bq (Nat.le_refl _));have hBr3:=Lib.hid (hBr2.out.trans (bq.mono hBr2.out.size));have hBW3:=Lib.hid (hBW2.out.trans (bq.mono hBW2.out.size));have hs3:=hBW3.out.size;have hs4:=hBr3.out.size;clear ho hBr2 hBW2 bq hXn;generalize textOf t (T:Int)=tx at *;generalize textOf t ((ch.toNat:Int) - 48)=ty at *
    by_cases he1:tx=⟨#[]⟩
    · have hx1:tx.toList.isEmpty=true:=by rw [empty_list];exact decide_eq_true he1
      have hE:=Lib.hid (hno.out (by simp [he1]));replace he1:=Lib.hid he1;go_wp2;go_ret;exact ⟨_,rfl,by rw [hE.out];exact owns_none _ _ _,hB.out.trans (hBW3.out.mono hB.out.size)⟩
    · have hx1:tx.toList.isEmpty=false:=by rw [empty_list];exact decide_eq_false he1
      by_cases he2:ty=⟨#[]⟩
      · have hx2:ty.toList.isEmpty=true:=by rw [empty_list];exact decide_eq_true he2
        have hE:=Lib.hid (hno.out (by simp [he2]));replace he1:=Lib.hid he1;replace he2:=Lib.hid he2;go_wp2;go_ret;exact ⟨_,rfl,by rw [hE.out];exact owns_none _ _ _,hB.out.trans (hBW3.out.mono hB.out.size)⟩
      · have hx2:ty.toList.isEmpty=false:=by rw [empty_list];exact decide_eq_false he2
        have hE:=Lib.hid (hyes.out (by simp [he1,he2]));replace he1:=Lib.hid he1;replace he2:=Lib.hid he2;have u1:(⟨#[32]⟩:ByteArray).size=1:=rfl;have u2:(tx++⟨#[32]⟩).size=tx.size+1:=by rw [ByteArray.size_append,u1]
        have u3:¬ (9223372036854775807 < tx.size+1):=by omega
        have u4:¬ (9223372036854775807 < tx.size+1+ty.size):=by omega
        have m1:=Lib.hid (show out.length+1≤maxLen by unfold maxLen;omega);have m2:=Lib.hid (show (out.length+1) * 16≤140737488355328 by omega);go_wp2_with (at_builtin;refine wpList_app _ rfl (.tmp 31) (.tmp 36) _ rfl W2.heap.size 9 i0 _ 16 Tryz.underlying28 hi hz0 hz1 hz2 rfl (.slice A5 out.length c5) _ _ rfl (World.ownsRow.alloc ho3.out _) (some ⟨wq2.heap.size,0,none⟩) 1 1 [.string (tx++⟨#[32]⟩++ty)] rfl (Src.one (Blk.new _ _ _) rfl) m1.out m2.out (by simp;omega) ?_;intro v6 w6 ho6 hg6 _);have hB7:=Lib.hid (below_own (hBr3.out.alloc hBr3.out.size _) (World.ownsRow.alloc ho3.out _) hg6 (by simp;omega) (Nat.le_refl _));have ho7:=Lib.hid (own_snoc4 ho6);clear ho6 hg6;go_wp2
        go_roundw
        case rel=>exact ⟨k+1,by omega,by go_num,hE.out,by rw [hgo.out];exact ho7.out,hB7.out⟩
        case measure=>simp [intOf];omega
  · obtain rfl:k=q.length:=by omega
    have hE:=Lib.hid (okTo_end hok);obtain ⟨A5,c5,rfl,-⟩:=ho.strs;have hBW:=Lib.hid (hB2.out.trans (hBr.mono (by omega)));replace ho:=Lib.hid ho;replace hBr:=Lib.hid hBr;go_wp2;go_ret;exact ⟨_,rfl,by rw [hE.out];exact ho.out.mono (by have:=hB.out.size;omega),hB.out.trans (hBW.out.mono hB.out.size)⟩
end
section
open Go.RowKit
theorem joinTail_cons (sep y:List UInt8) (r:List (List UInt8)):Lib.joinTail sep (y :: r)=sep++y++Lib.joinTail sep r:=by
 simp [Lib.joinTail]
theorem cutR_join (l:List UInt8):Lib.join (cutR l) [32]=l:=by
 induction l with
 | nil=>rfl
 | cons c r ih =>
  obtain ⟨q,qs,e⟩:=cutR_ne r;rw [e,Lib.join_cons] at ih;rw [cutR]
  by_cases hc:c=32
  · rw [if_pos hc,e,Lib.join_cons,joinTail_cons,hc,← ih]
    simp
  · rw [if_neg hc,e];simp only [List.headD_cons,List.tail_cons];rw [Lib.join_cons,← ih];rfl
theorem join_cut (s:ByteArray):joinW (cutL s) (cutL s).length=s:=by
 rw [← join_text,cutL_data,cutR_join]
theorem splitK_cut:∀ (k:Nat) (l:List UInt8),((cutR l).length≤k+1∧Lib.splitK [32] 0 k l=cutR l)∨(k+1 < (cutR l).length∧(Lib.splitK [32] 0 k l).length=k+1):=by
 intro k
 induction k with
 | zero =>
  intro l
  by_cases h:Lib.indexByte l 32=-1
  · have e:=cutR_miss (Lib.indexByte_none h);exact .inl ⟨by rw [e];exact Nat.le_refl _,by rw [e];rfl⟩
  · obtain ⟨i,hi⟩:∃ i:Nat,Lib.indexByte l 32=i:=⟨(Lib.indexByte l 32).toNat,by have:=Lib.indexByte_ge l 32;omega⟩;obtain ⟨h1,h2⟩:=Lib.indexByte_some hi;have e:=cutR_hit h1 h2;obtain ⟨q,qs,e2⟩:=cutR_ne (l.drop (i+1));exact .inr ⟨by rw [e,e2];simp,rfl⟩
 | succ k ih =>
  intro l;rw [Lib.splitK,Lib.index_one]
  by_cases h:Lib.indexByte l 32=-1
  · have e:=cutR_miss (Lib.indexByte_none h);rw [if_pos (beq_iff_eq.2 h),e];exact .inl ⟨by simp,rfl⟩
  · obtain ⟨i,hi⟩:∃ i:Nat,Lib.indexByte l 32=i:=⟨(Lib.indexByte l 32).toNat,by have:=Lib.indexByte_ge l 32;omega⟩;obtain ⟨h1,h2⟩:=Lib.indexByte_some hi;have e:=cutR_hit h1 h2;rw [if_neg (fun hh=>h (beq_iff_eq.1 hh)),hi,e];have e3:((i:Int).toNat+([32]:List UInt8).length)=i+1:=by simp
    have e4:((i:Int).toNat+0)=i:=by simp
    rw [e3,e4];rcases ih (l.drop (i+1)) with ⟨a,b⟩ | ⟨a,b⟩
    · exact .inl ⟨by simp only [List.length_cons];omega,by rw [b]⟩
    · exact .inr ⟨by simp only [List.length_cons];omega,by simp only [List.length_cons];omega⟩
def splitL (s:ByteArray):List ByteArray:=Lib.splitB ⟨#[32]⟩ 0 (min 41 (s.size+1) - 1) s
theorem data_inj {a b:List ByteArray} (h:a.map (·.data.toList)=b.map (·.data.toList)):a=b:=by
 induction a generalizing b with
 | nil=>cases b with
  | nil=>rfl
  | cons y ys=>cases h
 | cons x xs ih=>cases b with
  | nil=>cases h
  | cons y ys =>
   simp only [List.map_cons,List.cons.injEq] at h;rw [ih h.2,ByteArray.ext (Array.toList_inj.1 h.1)]
theorem split_cut (s:ByteArray):splitL s=cutL s∨(40 < (splitL s).length∧40 < (cutL s).length):=by
 have hd:=Lib.splitB_data ⟨#[32]⟩ 0 (min 41 (s.size+1) - 1) s;have hcl:(cutL s).length=(cutR s.data.toList).length:=by rw [← cutL_data,List.length_map]
 have hsl:(splitL s).length=(Lib.splitK [32] 0 (min 41 (s.size+1) - 1) s.data.toList).length:=by
  rw [← List.length_map (f:=fun x:ByteArray=>x.data.toList)];exact congrArg List.length hd
 have hl:=cutR_len s.data.toList;have hz:s.data.toList.length=s.size:=by simp
 rcases splitK_cut (min 41 (s.size+1) - 1) s.data.toList with ⟨_,b⟩ | ⟨a,b⟩
 · exact .inl (data_inj (hd.trans (b.trans (cutL_data s).symm)))
 · exact .inr ⟨by omega,by omega⟩
theorem splitB_size (sep:ByteArray):∀ (k:Nat) (s:ByteArray),∀ x ∈ Lib.splitB sep 0 k s,x.size≤s.size:=by
 intro k
 induction k with
 | zero=>intro s x hx;rw [Lib.splitB_zero] at hx;rw [List.mem_singleton.1 hx];exact Nat.le_refl _
 | succ k ih =>
  intro s x hx;rw [Lib.splitB] at hx
  split at hx
  · rw [List.mem_singleton.1 hx];exact Nat.le_refl _
  · rcases List.mem_cons.1 hx with h | h
    · rw [h,ByteArray.size_extract];omega
    · have:=ih _ x h;rw [ByteArray.size_extract] at this;omega
theorem splitL_size (s:ByteArray):∀ x ∈ splitL s,x.size≤s.size:=splitB_size _ _ s
theorem splitL_len (s:ByteArray):(splitL s).length≤41∧(splitL s).length≤min 41 (s.size+1):=by
 have:=Lib.splitB_length_le ⟨#[32]⟩ 0 (min 41 (s.size+1) - 1) s;unfold splitL;omega
theorem read_text (t:Tg) (s:ByteArray):readTB t s=readB t (cutL s)∧readTV t s=readV t (cutL s):=by
 have e:readTB t s=readB t (cutL s):=by
  unfold readTB;cases h:readB t (cutL s)
  · rfl
  · have hn:=(read_yes h).2.2.1;rw [Bool.true_and];unfold textOf;rw [hn,join_cut,decide_eq_true rfl]
 refine ⟨e,?_⟩;unfold readTV;rw [e];cases h:readB t (cutL s)
 · rw [if_neg (by simp)];exact (read_no h).symm
 · rw [if_pos rfl]
theorem read_long {t:Tg} {l:List ByteArray} (h:40 < l.length):readB t l=false∧readV t l=-1:=by
 have e:readB t l=false:=by
  unfold readB okL;rw [decide_eq_false (show ¬ (1≤l.length∧l.length≤40) by omega),Bool.and_false];rfl
 exact ⟨e,read_no e⟩
theorem read_split (t:Tg) (s:ByteArray):readTB t s=readB t (splitL s)∧readTV t s=readV t (splitL s):=by
 obtain ⟨e1,e2⟩:=read_text t s;rw [e1,e2];rcases split_cut s with h | ⟨h1,h2⟩
 · rw [h];exact ⟨rfl,rfl⟩
 · obtain ⟨a1,a2⟩:=read_long (t:=t) h1;obtain ⟨b1,b2⟩:=read_long (t:=t) h2;rw [a1,a2,b1,b2];exact ⟨rfl,rfl⟩
end
section
open Go.Shelf Go.RowKit
def splitRen:Go.Shelf.Ren:=⟨fun | 138=>227 | 143=>228 | 195=>233 | 197=>234 | 217=>125 | 218=>235 | 219=>151 | 221=>214 | 224=>172 | 225=>171 | 260=>236 | 266=>150 | 267=>173 | 268=>226 | 314=>197 | n=>n,fun | 0=>0 | 3=>3 | 4=>4 | 5=>5 | 9=>9 | 21=>21 | 31=>28 | 46=>173 | 51=>195 | 105=>238 | 119=>240 | 138=>242 | 139=>243 | 146=>201 | n=>n,fun | 1=>0 | 3=>6 | 4=>7 | n=>n⟩
theorem splitLays:Go.Proofs.Lays.n221 Tryz.prog splitRen:={
 mixed:=by kernel_rfl
 f138:=Tryz.func227.trans (congrArg some (by kernel_rfl))
 f143:=Tryz.func228.trans (congrArg some (by kernel_rfl))
 f195:=Tryz.func233.trans (congrArg some (by kernel_rfl))
 f197:=Tryz.func234.trans (congrArg some (by kernel_rfl))
 f217:=Tryz.func125.trans (congrArg some (by kernel_rfl))
 f218:=Tryz.func235.trans (congrArg some (by kernel_rfl))
 f219:=Tryz.func151.trans (congrArg some (by kernel_rfl))
 f221:=Tryz.func214.trans (congrArg some (by kernel_rfl))
 f224:=Tryz.func172.trans (congrArg some (by kernel_rfl))
 f225:=Tryz.func171.trans (congrArg some (by kernel_rfl))
 f260:=Tryz.func236.trans (congrArg some (by kernel_rfl))
 f266:=Tryz.func150.trans (congrArg some (by kernel_rfl))
 f267:=Tryz.func173.trans (congrArg some (by kernel_rfl))
 f268:=Tryz.func226.trans (congrArg some (by kernel_rfl))
 f314:=Tryz.func197.trans (congrArg some (by kernel_rfl))
 t0:=Tryz.underlying0
 a0:=Tryz.isAgg0
 z0:=Tryz.sizeOf0
 v0:=Tryz.zeroValue0
 t3:=Tryz.underlying3
 a3:=Tryz.isAgg3
 z3:=Tryz.sizeOf3
 v3:=Tryz.zeroValue3
 t4:=Tryz.underlying4
 a4:=Tryz.isAgg4
 z4:=Tryz.sizeOf4
 v4:=Tryz.zeroValue4
 t5:=Tryz.underlying5
 a5:=Tryz.isAgg5
 z5:=Tryz.sizeOf5
 v5:=Tryz.zeroValue5
 t9:=Tryz.underlying9
 a9:=Tryz.isAgg9
 z9:=Tryz.sizeOf9
 v9:=Tryz.zeroValue9
 t21:=Tryz.underlying21
 a21:=Tryz.isAgg21
 z21:=Tryz.sizeOf21
 v21:=Tryz.zeroValue21
 t31:=Tryz.underlying28
 a31:=Tryz.isAgg28
 z31:=Tryz.sizeOf28
 v31:=Tryz.zeroValue28
 t46:=Tryz.underlying173
 a46:=Tryz.isAgg173
 z46:=Tryz.sizeOf173
 v46:=Tryz.zeroValue173
 t51:=Tryz.underlying195
 a51:=Tryz.isAgg195
 z51:=Tryz.sizeOf195
 v51:=Tryz.zeroValue195
 t105:=Tryz.underlying238
 a105:=Tryz.isAgg238
 z105:=Tryz.sizeOf238
 v105:=Tryz.zeroValue238
 t119:=Tryz.underlying240
 a119:=Tryz.isAgg240
 z119:=Tryz.sizeOf240
 t138:=Tryz.underlying242
 a138:=Tryz.isAgg242
 z138:=Tryz.sizeOf242
 v138:=Tryz.zeroValue242
 t139:=Tryz.underlying243
 a139:=Tryz.isAgg243
 z139:=Tryz.sizeOf243
 v139:=Tryz.zeroValue243
 t146:=Tryz.underlying201
 a146:=Tryz.isAgg201
 z146:=Tryz.sizeOf201
 v146:=Tryz.zeroValue201
 g1:=by kernel_rfl
 g3:=by kernel_rfl
 g4:=by kernel_rfl }
theorem str_info9:(Tryz.prog.info? (splitRen.t 9)).map (fun i=>(i.zero,i.size,i.bytes))=some (some (.string ByteArray.empty),1,16):=by kernel_rfl
theorem genSplit_any (s:ByteArray) (w:World) (hs:s.size≤2000000) :
 Calls Tryz.prog 214 #[.string s,.string ⟨#[32]⟩,.int .i64 0,.int .i64 41] w fun e w' =>
  e=.returned (.slice (some ⟨w.heap.size,0,none⟩) (splitL s).length (min 41 (s.size+1)))∧w'=w.alloc (.cells (Lib.cellsOf (splitL s) (min 41 (s.size+1))) 9) :=
 Any.strings_genSplit_core splitLays str_info9 s ⟨#[32]⟩ 0 41 (min 41 (s.size+1)) w (by omega) (Nat.le_refl _) (Nat.zero_le _)
  (fun x c _=>(Any.strings_Index_one { splitLays with } x 32 _).mono fun e w' ⟨he,hw⟩=>⟨he.trans (by
   show Ending.returned (.int .i64 (Lib.indexByte x.data.toList 32))=.returned (.int .i64 (Lib.index x.data.toList [32]))
   rw [Lib.index_one]),hw⟩)
  ((Any.strings_Count_one { splitLays with } s 32 w).mono fun e w' ⟨he,hw⟩=>⟨he.trans (by
   show Ending.returned (.int .i64 (Lib.countByte s.data.toList 32))=.returned (.int .i64 ((Lib.count s.data.toList [32]:Nat):Int))
   rw [Lib.count_one];rfl),hw⟩)
  (by decide) (by decide) (by rw [if_neg (by decide)];omega)
theorem split_strs (w:World) (s:ByteArray):Strs (w.alloc (.cells (Lib.cellsOf (splitL s) (min 41 (s.size+1))) 9)) (some ⟨w.heap.size,0,none⟩) (splitL s).length (min 41 (s.size+1)) (splitL s):=by
 have hB:=Blk.new w 9 (Lib.cellsOf (splitL s) (min 41 (s.size+1)));refine ⟨rfl,(splitL_len s).2,fun _=>⟨w.heap.size,0,rfl,hB.lt,fun j hj=>?_⟩⟩;rw [Nat.zero_add,hB.cell];unfold Lib.cellsOf;rw [List.getElem?_toArray,List.getElem?_append_left (by simpa using hj),List.getElem?_map,List.getElem?_eq_getElem hj]
 simp [List.getD_eq_getElem?_getD,hj]
theorem splitN_any (s:ByteArray) (w:World) (hs:s.size≤2000000) :
 Calls Tryz.prog 187 #[.string s,.string ⟨#[32]⟩,.int .i64 41] w fun e w'=>∃ c,e=.returned (.slice (some ⟨w.heap.size,0,none⟩) (splitL s).length c)∧Strs w' (some ⟨w.heap.size,0,none⟩) (splitL s).length c (splitL s)∧Below w.heap.size w w':=by
 have K:=Lib.hid (genSplit_any s w hs);have HS:=split_strs w s;have HB:=(Below.refl w.heap.size w).alloc (Nat.le_refl _) (.cells (Lib.cellsOf (splitL s) (min 41 (s.size+1))) 9);replace HS:=Lib.hid HS;replace HB:=Lib.hid HB;generalize splitL s=l at *;generalize min 41 (s.size+1)=N at *;go_enter Tryz.func187,Tryz.ntmps187;go_wp2_with (fail);refine K.out.mono ?_;rintro e w' ⟨rfl,rfl⟩;go_wp2;go_ret;exact ⟨N,rfl,HS.out,HB.out⟩
end
section
open Go.RowKit
set_option maxRecDepth 100000 in
set_option maxHeartbeats 4000000 in
theorem implReadText_any (v:Value) (t:Tg) (s:ByteArray) (w:World) (h:Tng w v t) (hf:t.Fine) (hs:s.size≤1048576) :
 Calls Tryz.prog 163 #[v,.string s] w fun e w'=>e=.returned (.tuple #[.int .i64 (readTV t s),.bool (readTB t s)])∧Below w.heap.size w w':=by
 obtain ⟨A1,c1,A2,c2,A3,c3,rfl,-⟩:=h.ex;have hB:=(Below.refl w.heap.size w).alloc (Nat.le_refl _) (.cells #[.slice A1 t.us.length c1,.slice A2 t.bs.length c2,.slice A3 t.ns.length c3] 31);have HX:=Blk.new w 31 #[.slice A1 t.us.length c1,.slice A2 t.bs.length c2,.slice A3 t.ns.length c3];have HT:=h.below hB (Nat.le_refl _);have hcs:=Lib.hid (show ∀ x ∈ splitL s,x.size≤1048576 from fun x hx=>by have:=splitL_size s x hx;omega);have hcl:=(splitL_len s).1;obtain ⟨e1,e2⟩:=read_split t s;rw [e1,e2];clear e1 e2;replace hB:=Lib.hid hB;replace HX:=Lib.hid HX;replace HT:=Lib.hid HT;clear h;go_enter Tryz.func163,Tryz.ntmps163;go_upto_region 1 with (fail)
 generalize w.alloc (.cells #[.slice A1 t.us.length c1,.slice A2 t.bs.length c2,.slice A3 t.ns.length c3] 31)=W at *;have hXc:=Lib.hid (fun W' (h:Below W.heap.size W W')=>blk3 (HX.out.below h HX.out.lt));have KC:=Lib.hid (fun W'=>splitN_any s W' (by omega));have KR:=Lib.hid (fun A c W' (h:Below W.heap.size W W') hs=>implReadName_any _ t A (splitL s).length c (splitL s) W' (HT.out.below h (Nat.le_refl _)) hf hs (by omega) hcs.out);obtain ⟨x0,x1,x2,-,-,-⟩:=blk3 HX.out
 go_region_held3 (fun w'=>w'.cell? ⟨w.heap.size,0,none⟩=some (.slice A1 t.us.length c1)∧w'.cell? ⟨w.heap.size,1,none⟩=some (.slice A2 t.bs.length c2)∧w'.cell? ⟨w.heap.size,2,none⟩=some (.slice A3 t.ns.length c3))
  (first | go_keep | exact hS2 | exact hS3)
  (first
   | (go_at_call 187;refine (KC.out _).mono ?_;rintro e w2 ⟨c5,rfl,s5,b2'⟩;have b2:Below W.heap.size W w2:=⟨b2'.os,b2'.tape,b2'.output,b2'.size,b2'.block⟩;obtain ⟨x0',x1',x2',-,-,-⟩:=hXc.out _ b2;have hS2:=And.intro x0' (And.intro x1' x2');replace s5:=Lib.hid s5;replace b2:=Lib.hid b2;clear b2')
   | (go_at_call 186;refine (KR.out _ _ _ b2.out s5.out).mono ?_;rintro e w3 ⟨rfl,b3'⟩;have b3:=b2.out.trans (b3'.mono b2.out.size);obtain ⟨x0'',x1'',x2'',-,-,-⟩:=hXc.out _ b3;have hS3:=And.intro x0'' (And.intro x1'' x2'');replace b3:=Lib.hid b3;clear b3'))
 all_goals
  clear hS2 hS3 x0 x1 x2 x0' x1' x2' KC KR s5;have hB3:=Lib.hid (hB.out.trans (b3.out.mono hB.out.size));go_wp2
  go_ret2
  exact ⟨two_ret rfl rfl,hB3.out⟩
end
end Go.Proofs.YtmhgpbfogdoaeaaGreatDoor
