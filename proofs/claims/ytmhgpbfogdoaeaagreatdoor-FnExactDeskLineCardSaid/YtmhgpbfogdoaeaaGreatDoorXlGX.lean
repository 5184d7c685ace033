/-
  GX: MathC MathD MathK MathL MathDd MathW MathX MathY.
-/
import Derived.WalkKit
import Derived.Test.YtmhgpbfogdoaeaaGreatDoorXlGA
import Derived.Lib.Hide
import Derived.Test.YtmhgpbfogdoaeaaGreatDoorXlGN
import Derived.Lib.SlicesCompact
import Derived.Test.YtmhgpbfogdoaeaaGreatDoorXlGB
import Derived.Test.YtmhgpbfogdoaeaaGreatDoorXlCutR
import Derived.Lib.ItoaNum
import Derived.Lib.AtoiAll
namespace Go.Proofs.YtmhgpbfogdoaeaaGreatDoor
section
section
variable {α : Type}
end
section
variable {α : Type} [DecidableEq α]
def waysF (C:List (List α)):Nat→List α→Nat
 | 0,s=>if s=[] then 1 else 0
 | n+1,s=>if s=[] then 1 else ((C.filter (fun u=>u.isPrefixOf s)).map (fun u=>waysF C n (s.drop u.length))).sum
def waysC (C:List (List α)) (s:List α):Nat:=waysF C s.length s
end
end
section
abbrev tl (s:ByteArray):List UInt8:=s.data.toList
theorem tl_inj {a b:ByteArray} (h:tl a=tl b):a=b:=ByteArray.ext (Array.toList_inj.1 h)
theorem tl_len (s:ByteArray):(tl s).length=s.size:=by simp
theorem tl_app (a b:ByteArray):tl (a++b)=tl a++tl b:=by simp [tl]
theorem tl_ext (s:ByteArray) (a b:Nat):tl (s.extract a b)=((tl s).drop a).take (b - a):=by simp [tl,List.extract_eq_take_drop]
theorem tl_from (s:ByteArray) (a:Nat):tl (s.extract a s.size)=(tl s).drop a:=by
 rw [tl_ext,List.take_of_length_le];rw [List.length_drop,tl_len];omega
def rest (s h:ByteArray):ByteArray:=s.extract h.size s.size
abbrev wl (l:List ByteArray):List (List UInt8):=l.map tl
section
variable {l : List ByteArray} {u v d : ByteArray}
end
def wf (l:List ByteArray) (s:ByteArray) (p:Nat):Nat:=waysC (wl l) ((tl s).drop p)
end
section
def itF (f:Int→Int):Nat→Int→Int
 | 0,x=>x
 | k+1,x=>f (itF f k x)
theorem itF_add (f:Int→Int) (a b:Nat) (x:Int):itF f (a+b) x=itF f a (itF f b x):=by
 induction a with
 | zero=>simp [itF]
 | succ a ih=>rw [Nat.succ_add,itF,itF,ih]
structure RingIs (f:Int→Int) (n:Int) (mu lam:Nat):Prop where
 pos:1≤lam
 back:itF f (mu+lam) n=itF f mu n
 apart:∀ i j,i < j→j < mu+lam→itF f i n≠itF f j n
section
variable {f : Int → Int} {n : Int} {mu lam : Nat}
theorem RingIs.per (h:RingIs f n mu lam) {i:Nat} (hi:mu≤i):itF f (i+lam) n=itF f i n:=by
 obtain ⟨d,rfl⟩:∃ d,i=d+mu:=⟨i - mu,by omega⟩;rw [Nat.add_assoc,itF_add,h.back,← itF_add]
theorem RingIs.per_mul (h:RingIs f n mu lam) (c:Nat) {i:Nat} (hi:mu≤i):itF f (i+c * lam) n=itF f i n:=by
 induction c with
 | zero=>simp
 | succ c ih=>rw [Nat.succ_mul,← Nat.add_assoc,h.per (by omega),ih]
theorem RingIs.red (h:RingIs f n mu lam) {i:Nat} (hi:mu≤i):itF f i n=itF f (mu+(i - mu) % lam) n:=by
 have e:=Nat.div_add_mod (i - mu) lam;have:i=mu+(i - mu) % lam+((i - mu) / lam) * lam:=by rw [Nat.mul_comm];omega
 conv=>lhs;rw [this]
 exact h.per_mul _ (by omega)
theorem RingIs.mod_lt (h:RingIs f n mu lam) (i:Nat):i % lam < lam:=Nat.mod_lt _ h.pos
theorem RingIs.eq_iff (h:RingIs f n mu lam) {i j:Nat} (hij:i < j):itF f i n=itF f j n ↔ mu≤i∧(j - i) % lam=0:=by
 constructor
 · intro e
   by_cases hi:mu≤i
   · refine ⟨hi,?_⟩;rw [h.red hi,h.red (i:=j) (by omega)] at e;have l1:=h.mod_lt (i - mu);have l2:=h.mod_lt (j - mu)
     have hm:(i - mu) % lam=(j - mu) % lam:=by
      rcases Nat.lt_trichotomy ((i - mu) % lam) ((j - mu) % lam) with x | x | x
      · exact absurd e (h.apart _ _ (by omega) (by omega))
      · exact x
      · exact absurd e.symm (h.apart _ _ (by omega) (by omega))
     have e1:=Nat.div_add_mod (i - mu) lam;have e2:=Nat.div_add_mod (j - mu) lam;have:j - i=lam * ((j - mu) / lam - (i - mu) / lam):=by rw [Nat.mul_sub];omega
     rw [this];exact Nat.mul_mod_right _ _
   · exfalso
     by_cases hj:j < mu+lam
     · exact h.apart i j hij hj e
     · rw [h.red (i:=j) (by omega)] at e;have l2:=h.mod_lt (j - mu);exact h.apart _ _ (by omega) (by omega) e
 · rintro ⟨hi,hm⟩;have e2:=Nat.div_add_mod (j - i) lam;have:j=i+((j - i) / lam) * lam:=by rw [Nat.mul_comm];omega
   rw [this];exact (h.per_mul _ hi).symm
theorem RingIs.unique {mu' lam':Nat} (h:RingIs f n mu lam) (h':RingIs f n mu' lam'):mu=mu'∧lam=lam':=by
 have p:=h.pos;have p':=h'.pos
 have hs:mu+lam=mu'+lam':=by
  rcases Nat.lt_trichotomy (mu+lam) (mu'+lam') with x | x | x
  · exact absurd h.back.symm (h'.apart _ _ (by omega) x)
  · exact x
  · exact absurd h'.back.symm (h.apart _ _ (by omega) x)
 have hm:mu=mu':=by
  have e:itF f mu n=itF f mu' n:=by rw [← h.back,hs,h'.back]
  rcases Nat.lt_trichotomy mu mu' with x | x | x
  · exact absurd e (h.apart _ _ x (by omega))
  · exact x
  · exact absurd e.symm (h.apart _ _ x (by omega))
 omega
theorem neg_on (hneg:∀ x,x < 0→f x=-1) {k:Nat} (h:itF f k n < 0):∀ d,itF f (d+1+k) n=-1:=by
 intro d
 induction d with
 | zero=>rw [Nat.add_comm 0 1,Nat.add_comm 1 k];exact hneg _ h
 | succ d ih=>rw [show d+1+1+k=(d+1+k)+1 by omega,itF,ih];exact hneg _ (by omega)
theorem RingIs.neg (h:RingIs f n mu lam) (hneg:∀ x,x < 0→f x=-1) {k:Nat} (hk:itF f k n < 0):itF f mu n < 0:=by
 have p:=h.pos;have e:=h.per_mul (k+1) (Nat.le_refl mu);have hl:k+1≤(k+1) * lam:=Nat.le_mul_of_pos_right _ p;obtain ⟨d,hd⟩:∃ d,mu+(k+1) * lam=d+1+k:=⟨mu+(k+1) * lam - (k+1),by omega⟩;rw [hd,neg_on hneg hk d] at e;omega
theorem ring_found {j k:Nat} (hj:j≤k) (ha:∀ a b,a < b→b≤k→itF f a n≠itF f b n) (he:itF f j n=itF f (k+1) n):RingIs f n j (k+1 - j) :=
 ⟨by omega,by rw [show j+(k+1 - j)=k+1 by omega];exact he.symm,fun a b hab hb=>ha a b hab (by omega)⟩
theorem RingIs.meet (h:RingIs f n mu lam) {k:Nat} (h1:1≤k):itF f k n=itF f (2 * k) n ↔ mu≤k∧k % lam=0:=by
 have:=h.eq_iff (i:=k) (j:=2 * k) (by omega)
 rwa [show 2 * k - k=k by omega] at this
theorem RingIs.meets (h:RingIs f n mu lam):∃ K,1≤K∧K≤mu+lam∧itF f K n=itF f (2 * K) n:=by
 have p:=h.pos;have e:=Nat.div_add_mod mu lam;have l:=h.mod_lt mu;have e2:(mu / lam+1) * lam=lam * (mu / lam)+lam:=by rw [Nat.succ_mul,Nat.mul_comm]
 refine ⟨(mu / lam+1) * lam,by omega,by omega,(h.meet (by omega)).2 ⟨by omega,Nat.mul_mod_left _ _⟩⟩
theorem RingIs.enter (h:RingIs f n mu lam) {k s:Nat} (h1:1≤k) (hk:k % lam=0) (hs:s≤mu):itF f s n=itF f (k+s) n ↔ s=mu:=by
 have:=h.eq_iff (i:=s) (j:=k+s) (by omega);rw [show k+s - s=k by omega] at this;rw [this];constructor
 · rintro ⟨a,-⟩;omega
 · rintro rfl;exact ⟨Nat.le_refl _,hk⟩
theorem RingIs.round (h:RingIs f n mu lam) {i:Nat} (h1:1≤i) (hi:i≤lam):itF f (mu+i) n=itF f mu n ↔ i=lam:=by
 constructor
 · intro e
   by_cases hl:i=lam
   · exact hl
   · exact absurd e.symm (h.apart _ _ (by omega) (by omega))
 · rintro rfl;exact h.back
end
theorem two_at_one:∀ (N:Nat) (g:Nat→Nat),(∀ i,i < N+1→g i < N)→∃ i j,i < j∧j < N+1∧g i=g j:=by
 intro N
 induction N with
 | zero=>intro g h;exact absurd (h 0 (by omega)) (by omega)
 | succ N ih =>
  intro g h
  by_cases hc:∃ i,i < N+1∧g i=g (N+1)
  · obtain ⟨i,hi,e⟩:=hc;exact ⟨i,N+1,hi,by omega,e⟩
  · have hne:∀ i,i < N+1→g i≠g (N+1):=fun i hi e=>hc ⟨i,hi,e⟩
    have hlast:=h (N+1) (by omega)
    obtain ⟨i,j,hij,hj,e⟩:=ih (fun i=>if g i=N then g (N+1) else g i) (fun i hi=>by
     have h1:=h i (by omega);have h2:=hne i hi
     by_cases e:g i=N
     · simp only [e,if_true];omega
     · simp only [e,if_false];omega)
    refine ⟨i,j,hij,by omega,?_⟩;have h1:=hne i (by omega);have h2:=hne j hj
    by_cases e1:g i=N <;> by_cases e2:g j=N <;> simp only [e1,e2,if_true,if_false] at e <;> omega
theorem least_of {p:Nat→Prop}:∀ m,p m→∃ k,k≤m∧p k∧∀ j,j < k→¬ p j:=by
 intro m
 induction m using Nat.strongRecOn with
 | _ m ih =>
  intro h
  by_cases hc:∃ j,j < m∧p j
  · obtain ⟨j,hj,hp⟩:=hc;obtain ⟨k,hk,h1,h2⟩:=ih j hj hp;exact ⟨k,by omega,h1,h2⟩
  · exact ⟨m,Nat.le_refl _,h,fun j hj hp=>hc ⟨j,hj,hp⟩⟩
theorem ring_ex (f:Int→Int) (hf:∀ x,-1≤f x∧f x≤320) (n:Int):∃ mu lam,RingIs f n mu lam∧mu+lam≤323:=by
 obtain ⟨a,b,hab,hb,e⟩:=two_at_one 322 (fun i=>(itF f (i+1) n+1).toNat) (fun i _=>by
  have:=hf (itF f i n)
  show (f (itF f i n)+1).toNat < 322
  omega)
 have he:itF f (a+1) n=itF f (b+1) n:=by
  have h1:=hf (itF f a n);have h2:=hf (itF f b n);have e':(f (itF f a n)+1).toNat=(f (itF f b n)+1).toNat:=e
  show f (itF f a n)=f (itF f b n)
  omega
 obtain ⟨k,hk,⟨i,hi,hik⟩,hmin⟩:=least_of (p:=fun j=>∃ i,i < j∧itF f i n=itF f j n) (b+1) ⟨a+1,by omega,he⟩;refine ⟨i,k - i,⟨by omega,by rw [show i+(k - i)=k by omega];exact hik.symm,fun x y hxy hy e=>hmin y (by omega) ⟨x,hxy,e⟩⟩,by omega⟩
noncomputable def rhoF (f:Int→Int) (n:Int):Nat × Nat:=Classical.epsilon fun p=>RingIs f n p.1 p.2
noncomputable def muF (f:Int→Int) (n:Int):Nat:=(rhoF f n).1
noncomputable def lamF (f:Int→Int) (n:Int):Nat:=(rhoF f n).2
theorem RingIs.the {f:Int→Int} {n:Int} {mu lam:Nat} (h:RingIs f n mu lam):muF f n=mu∧lamF f n=lam:=by
 have:RingIs f n (rhoF f n).1 (rhoF f n).2:=Classical.epsilon_spec (p:=fun p:Nat × Nat=>RingIs f n p.1 p.2) ⟨(mu,lam),h⟩;exact this.unique h
theorem ring_is (f:Int→Int) (hf:∀ x,-1≤f x∧f x≤320) (n:Int):RingIs f n (muF f n) (lamF f n)∧muF f n+lamF f n≤323:=by
 obtain ⟨mu,lam,h,hl⟩:=ring_ex f hf n;obtain ⟨e1,e2⟩:=h.the;rw [e1,e2];exact ⟨h,hl⟩
noncomputable def okF (f:Int→Int) (n:Int):Bool:=decide (0≤itF f (muF f n) n∧muF f n+lamF f n≤200)
noncomputable def ringF (f:Int→Int) (n:Int):List Int:=if okF f n then (List.range (lamF f n)).map fun i=>itF f (muF f n+i) n else []
noncomputable def stepsF (f:Int→Int) (n:Int):Int:=if okF f n then (muF f n:Int) else -1
section
variable {f : Int → Int} {n : Int} {mu lam : Nat}
theorem RingIs.ok (h:RingIs f n mu lam):okF f n=decide (0≤itF f mu n∧mu+lam≤200):=by
 unfold okF;rw [h.the.1,h.the.2]
theorem RingIs.ring (h:RingIs f n mu lam) (ho:okF f n=true):ringF f n=(List.range lam).map (fun i=>itF f (mu+i) n):=by
 unfold ringF;rw [if_pos ho,h.the.1,h.the.2]
theorem RingIs.steps (h:RingIs f n mu lam) (ho:okF f n=true):stepsF f n=mu:=by
 unfold stepsF;rw [if_pos ho,h.the.1]
theorem ring_no (ho:okF f n=false):ringF f n=[]∧stepsF f n=-1:=by
 unfold ringF stepsF;rw [ho];exact ⟨rfl,rfl⟩
theorem RingIs.ok_le (h:RingIs f n mu lam) (ho:okF f n=true):0≤itF f mu n∧mu+lam≤200:=by
 rw [h.ok] at ho;exact of_decide_eq_true ho
theorem ok_neg (hf:∀ x,-1≤f x∧f x≤320) (hneg:∀ x,x < 0→f x=-1) {k:Nat} (hk:itF f k n < 0):okF f n=false:=by
 obtain ⟨h,-⟩:=ring_is f hf n;have:=h.neg hneg hk;rw [h.ok];exact decide_eq_false (by omega)
theorem ok_late (hf:∀ x,-1≤f x∧f x≤320) (ha:∀ a b,a < b→b≤200→itF f a n≠itF f b n):okF f n=false:=by
 obtain ⟨h,-⟩:=ring_is f hf n;have hp:=h.pos;rw [h.ok];refine decide_eq_false fun hc=>?_
 exact ha _ _ (by omega) hc.2 h.back.symm
theorem ok_pos (hf:∀ x,-1≤f x∧f x≤320) (hneg:∀ x,x < 0→f x=-1) (ho:okF f n=true) (k:Nat):0≤itF f k n:=by
 rcases Int.lt_or_le (itF f k n) 0 with h | h
 · rw [ok_neg hf hneg h] at ho;cases ho
 · exact h
theorem ringF_len:(ringF f n).length=if okF f n then lamF f n else 0:=by
 unfold ringF;split <;> simp
theorem ringF_pos (hf:∀ x,-1≤f x∧f x≤320):decide (0 < (ringF f n).length)=okF f n:=by
 obtain ⟨h,-⟩:=ring_is f hf n;have hp:=h.pos;rw [ringF_len];cases okF f n
 · rfl
 · exact decide_eq_true hp
theorem ringF_le (hf:∀ x,-1≤f x∧f x≤320):(ringF f n).length≤200:=by
 obtain ⟨h,-⟩:=ring_is f hf n;rw [ringF_len];cases ho:okF f n
 · simp
 · have:=h.ok_le ho;simp;omega
end
end
section
open Go.RowKit
def lettersOf (t:Tg) (n:Int):Int:=if namedB t n then lettersTo' (nameOf t n) (nameOf t n).length else -1
theorem letters_no {t:Tg} {n:Int} (h:namedB t n=false):lettersOf t n=-1:=by unfold lettersOf;rw [h];rfl
theorem letters_yes {t:Tg} {n:Int} (h:namedB t n=true):lettersOf t n=lettersTo' (nameOf t n) (nameOf t n).length:=by unfold lettersOf;rw [if_pos h]
theorem letters_bd (t:Tg) (n:Int):-1≤lettersOf t n∧lettersOf t n≤320:=by
 have h1:=lettersTo_le (nameOf_at t n) (nameOf t n).length;have h2:=nameOf_short t n;unfold lettersOf
 split <;> omega
theorem letters_neg (t:Tg) (x:Int) (h:x < 0):lettersOf t x=-1:=by
 refine letters_no ?_;cases hb:namedB t x
 · rfl
 · have:=named_ok hb;omega
theorem lettersTo_ge {l:List ByteArray} (h:∀ k,k < l.length→1≤(l.getD k ByteArray.empty).size):∀ k,k≤l.length→k≤lettersTo' l k:=by
 intro k
 induction k with
 | zero=>intro _;exact Nat.zero_le _
 | succ k ih=>intro hk;rw [lettersTo'];have:=h k hk;have:=ih (by omega);omega
theorem letters_words {t:Tg} {n:Int} (h:namedB t n=true):longOf t n≤lettersOf t n∧lettersOf t n≤8 * longOf t n∧1≤longOf t n∧longOf t n≤40:=by
 rw [letters_yes h,longOf_yes h];have h1:=lettersTo_le (nameOf_at t n) (nameOf t n).length;have h2:=nameOf_short t n
 have h3:=lettersTo_ge (l:=nameOf t n) (fun k hk=>by
  rw [List.getD_eq_getElem?_getD,List.getElem?_eq_getElem hk];exact (nameOf_size t n _ (List.getElem_mem hk)).1) _ (Nat.le_refl _)
 have h4:0 < (nameOf t n).length:=by unfold namedB at h;exact of_decide_eq_true h
 omega
section
open Go.Lib
end
section
variable {f : Int → Int} {k : Nat} {l : List Int}
end
end
structure Dd where
 kind:Int
 n:Int
section
open Go.RowKit
structure Dk where
 t:Tg
 now:Int
 past:List Int
def noDk:Dk:=⟨noTg,0,[]⟩
def dkOk (d:Dk):Bool:=namedB d.t d.now&&(d.past.all (namedB d.t)&&decide (d.past.length≤8))
structure Dk.Fine (d:Dk):Prop where
 t:d.t.Fine
 now:-9223372036854775808≤d.now∧d.now≤9223372036854775807
 past:d.past.length≤1048576
 fits:Fits d.past
theorem dkOk_iff (d:Dk):dkOk d=true ↔ namedB d.t d.now=true∧(∀ x ∈ d.past,namedB d.t x=true)∧d.past.length≤8:=by
 unfold dkOk;simp
theorem named_bd {t:Tg} {n:Int} (h:namedB t n=true):1≤n∧n≤99999:=by obtain ⟨-,h1,h2⟩:=named_ok h;exact ⟨h1,h2⟩
theorem named_off {t:Tg} {n:Int} (h:¬ (1≤n∧n≤99999)):namedB t n=false:=by
 cases hb:namedB t n
 · rfl
 · exact absurd (named_bd hb) h
def madeOf (d:Dk) (a:Dd):Int :=
 if a.kind=3∧a.n=0 then lettersOf d.t d.now
 else if 1≤a.n∧a.n≤99999 then (if a.kind=0 then a.n else if a.kind=1 then d.now+a.n else if a.kind=2 then d.now - a.n else 0)
 else 0
def putD (d:Dk) (m:Int):Dk × Bool:=if namedB d.t m=true∧m≠d.now then (⟨d.t,m,(d.past++[d.now]).drop (d.past.length+1 - 8)⟩,true) else (d,false)
def backD (d:Dk):Dk × Bool:=if 0 < d.past.length then (⟨d.t,d.past.getD (d.past.length - 1) 0,d.past.take (d.past.length - 1)⟩,true) else (d,false)
def dkDo (d:Dk) (a:Dd):Dk × Bool:=if dkOk d=true then (if a.kind=4∧a.n=0 then backD d else putD d (madeOf d a)) else (noDk,false)
theorem put_no {d:Dk} {m:Int} (h:¬ (namedB d.t m=true∧m≠d.now)):putD d m=(d,false):=by unfold putD;rw [if_neg h]
theorem put_yes {d:Dk} {m:Int} (h:namedB d.t m=true∧m≠d.now):putD d m=(⟨d.t,m,(d.past++[d.now]).drop (d.past.length+1 - 8)⟩,true):=by unfold putD;rw [if_pos h]
theorem put_zero (d:Dk):putD d 0=(d,false):=put_no fun h=>absurd (named_bd h.1) (by omega)
theorem put_now (d:Dk):putD d d.now=(d,false):=put_no fun h=>h.2 rfl
theorem back_put (d:Dk) (h:¬ 0 < d.past.length):backD d=putD d 0:=by rw [put_zero];unfold backD;rw [if_neg h]
theorem do_no {d:Dk} {a:Dd} (h:dkOk d=false):dkDo d a=(noDk,false):=by unfold dkDo;rw [h];rfl
theorem do_back {d:Dk} {a:Dd} (h:dkOk d=true) (ha:a.kind=4∧a.n=0):dkDo d a=backD d:=by unfold dkDo;rw [if_pos h,if_pos ha]
theorem do_put {d:Dk} {a:Dd} (h:dkOk d=true) (ha:¬ (a.kind=4∧a.n=0)):dkDo d a=putD d (madeOf d a):=by unfold dkDo;rw [if_pos h,if_neg ha]
theorem getD_memW {l:List Int} {i:Nat} (h:i < l.length):l.getD i 0 ∈ l:=by
 rw [List.getD_eq_getElem?_getD,List.getElem?_eq_getElem h];exact List.getElem_mem h
theorem do_ok {d:Dk} {a:Dd} (h:dkOk d=true):dkOk (dkDo d a).1=true∧(dkDo d a).1.t=d.t:=by
 obtain ⟨h1,h2,h3⟩:=(dkOk_iff d).1 h
 by_cases ha:a.kind=4∧a.n=0
 · rw [do_back h ha];unfold backD
   split
   · rename_i h0
     refine ⟨(dkOk_iff _).2 ⟨h2 _ (getD_memW (by omega)),fun x hx=>h2 x (List.mem_of_mem_take hx),?_⟩,rfl⟩
     show (d.past.take _).length≤8
     rw [List.length_take];omega
   · exact ⟨h,rfl⟩
 · rw [do_put h ha]
   by_cases hp:namedB d.t (madeOf d a)=true∧madeOf d a≠d.now
   · rw [put_yes hp];refine ⟨(dkOk_iff _).2 ⟨hp.1,fun x hx=>?_,?_⟩,rfl⟩
     · rcases List.mem_append.1 (List.mem_of_mem_drop hx) with hm | hm
       · exact h2 x hm
       · rw [List.mem_singleton] at hm;rw [hm];exact h1
     · show (List.drop _ (d.past++[d.now])).length≤8
       rw [List.length_drop,List.length_append,List.length_singleton];omega
   · rw [put_no hp];exact ⟨h,rfl⟩
theorem made_bd (d:Dk) (a:Dd) (h:dkOk d=true):-200000≤madeOf d a∧madeOf d a≤200000:=by
 have h1:=named_bd ((dkOk_iff d).1 h).1;have h2:=letters_bd d.t d.now;unfold madeOf
 split
 · omega
 · split
   · split
     · omega
     · split
       · omega
       · split <;> omega
   · omega
end
section
open Go.RowKit
theorem digit_nat {d:Nat} (h:d < 10):(UInt8.ofNat (48+d)).toNat=48+d:=by
 show (48+d) % 256=_;omega
theorem dig_all (u:Nat):∀ c ∈ Lib.decDigits u,48≤c.toNat∧c.toNat≤57:=by
 induction u using Nat.strongRecOn with
 | _ u ih =>
  rw [Lib.decDigits]
  split
  · intro c hc;rw [List.mem_singleton] at hc;subst hc;rw [digit_nat (by omega)];omega
  · intro c hc;rcases List.mem_append.1 hc with h | h
    · exact ih _ (by omega) c h
    · rw [List.mem_singleton] at h;subst h;rw [digit_nat (by omega)];omega
theorem dig_form (u:Nat):∃ c r,Lib.decDigits u=c :: r∧(1≤u→c.toNat≠48):=by
 induction u using Nat.strongRecOn with
 | _ u ih =>
  rw [Lib.decDigits]
  split
  · exact ⟨_,[],rfl,fun h=>by rw [digit_nat (by omega)];omega⟩
  · obtain ⟨c,r,e,h⟩:=ih (u / 10) (by omega);rw [e];exact ⟨c,r++[UInt8.ofNat (48+u % 10)],rfl,fun _=>h (by omega)⟩
theorem dig_len:∀ (k u:Nat),u < 10 ^ k→1≤k→(Lib.decDigits u).length≤k:=by
 intro k
 induction k with
 | zero=>intro u _ h;omega
 | succ k ih =>
  intro u h _;rw [Lib.decDigits]
  split
  · simp
  · rw [List.length_append,List.length_singleton];have h1:u / 10 < 10 ^ k:=by rw [Nat.pow_succ] at h;omega
    have hk:1≤k:=by
     rcases Nat.eq_zero_or_pos k with e | e
     · subst e;simp at h;omega
     · exact e
    have:=ih (u / 10) h1 hk;omega
def foldD (l:List UInt8) (acc:Nat):Nat:=l.foldl (fun n c=>n * 10+(c.toNat - 48)) acc
theorem fold_dig (u:Nat):foldD (Lib.decDigits u) 0=u:=by
 induction u using Nat.strongRecOn with
 | _ u ih =>
  rw [Lib.decDigits]
  split
  · show 0 * 10+((UInt8.ofNat (48+u)).toNat - 48)=u
    rw [digit_nat (by omega)];omega
  · have h:=ih (u / 10) (by omega);unfold foldD at h ⊢;rw [List.foldl_append,h]
    show u / 10 * 10+((UInt8.ofNat (48+u % 10)).toNat - 48)=u
    rw [digit_nat (by omega)];omega
theorem fold_ge:∀ (l:List UInt8) (acc:Nat),acc≤foldD l acc:=by
 intro l
 induction l with
 | nil=>intro acc;exact Nat.le_refl _
 | cons c r ih =>
  intro acc;have:=ih (acc * 10+(c.toNat - 48))
  show acc≤foldD r (acc * 10+(c.toNat - 48))
  omega
theorem parse_fold:∀ (l:List UInt8) (acc:Nat),(∀ c ∈ l,48≤c.toNat∧c.toNat≤57)→foldD l acc < 1000000000000000000→Lib.parseUint10 acc l=.ok (foldD l acc):=by
 intro l
 induction l with
 | nil=>intro acc _ _;rfl
 | cons c r ih =>
  intro acc hc hl;have hg:=fold_ge r (acc * 10+(c.toNat - 48));have hl':foldD r (acc * 10+(c.toNat - 48)) < 1000000000000000000:=hl;have h1:=hc c (List.mem_cons_self ..);rw [Lib.parseUint10,if_pos h1,if_neg (by omega),if_neg (by omega)];exact ih _ (fun x hx=>hc x (List.mem_cons_of_mem _ hx)) hl'
theorem atoi_dig {u:Nat} (h:u < 1000000000000000000):Lib.atoiAll (Lib.decDigits u)=.ok (u:Int):=by
 have hp:=parse_fold (Lib.decDigits u) 0 (dig_all u) (by rw [fold_dig];exact h);rw [fold_dig] at hp;obtain ⟨c,r,e,-⟩:=dig_form u;have hd:=dig_all u c (by rw [e];exact List.mem_cons_self ..);rw [e] at hp ⊢;unfold Lib.atoiAll
 dsimp only
 rw [if_neg (show ¬ (c.toNat=43∨c.toNat=45) by omega)];have hm:Lib.parseMag (c :: r)=.ok u:=by unfold Lib.parseMag;rw [if_neg (by simp)];exact hp
 rw [hm]
 dsimp only
 rw [if_neg (by omega),if_neg (by omega),if_neg (by omega)]
def atoiV (l:List UInt8):Int:=match Lib.atoiAll l with | .ok v=>v | .range=>Lib.atoiSat l | _=>0
theorem atoiV_dig {u:Nat} (h:u < 1000000000000000000):atoiV (Lib.decDigits u)=u:=by unfold atoiV;rw [atoi_dig h]
theorem atoiV_nil:atoiV []=0:=rfl
def digV (l:List UInt8):Int:=if (1≤l.length∧l.length≤6)∧¬ (1 < l.length∧(l.getD 0 0).toNat=48)∧(∀ c ∈ l,48≤c.toNat∧c.toNat≤57) then (foldD l 0:Nat) else -1
theorem digV_dig {u:Nat} (h:u≤999999):digV (Lib.decDigits u)=u:=by
 obtain ⟨c,r,e,h1⟩:=dig_form u;have hl:=dig_len 6 u (by omega) (by omega)
 have hc:¬ (1 < (Lib.decDigits u).length∧((Lib.decDigits u).getD 0 0).toNat=48):=by
  rintro ⟨g1,g2⟩;rcases Nat.eq_zero_or_pos u with e0 | e0
  · subst e0;rw [Lib.decDigits,dif_pos (by omega)] at g1;simp at g1
  · rw [e] at g2;exact h1 e0 g2
 unfold digV;rw [if_pos ⟨⟨by rw [e];simp,hl⟩,hc,dig_all u⟩,fold_dig]
def wordL (k:Int):List UInt8:=if k=0 then [116,111] else if k=1 then [109,111,114,101] else if k=2 then [108,101,115,115] else if k=3 then [108,101,116,116,101,114,115] else if k=4 then [98,97,99,107] else []
def deedL (a:Dd):List UInt8 :=
 if (0≤a.kind∧a.kind≤2)∧(0≤a.n∧a.n≤999999) then wordL a.kind++32 :: Lib.decDigits a.n.toNat
 else if (a.kind=3∨a.kind=4)∧a.n=0 then wordL a.kind else []
def deedT (a:Dd):ByteArray:=⟨(deedL a).toArray⟩
def kindL (l:List UInt8):Int:=if l=wordL 0 then 0 else if l=wordL 1 then 1 else if l=wordL 2 then 2 else if l=wordL 3 then 3 else if l=wordL 4 then 4 else -1
theorem kind_cases {k:Int} (h:0≤k∧k≤4):k=0∨k=1∨k=2∨k=3∨k=4:=by omega
theorem kind_word {k:Int} (h:0≤k∧k≤4):kindL (wordL k)=k:=by
 rcases kind_cases h with rfl | rfl | rfl | rfl | rfl <;> decide
theorem word_bytes (k:Int):∀ c ∈ wordL k,97≤c.toNat:=by
 unfold wordL
 repeat' split
 all_goals decide
theorem word_no_space (k:Int):∀ j:Nat,(wordL k)[j]?≠some 32:=fun j h=>by
 have:=word_bytes k 32 (List.mem_of_getElem? h)
 revert this;decide
theorem dig_no_space (u:Nat):∀ j:Nat,(Lib.decDigits u)[j]?≠some 32:=fun j h=>by
 have:=(dig_all u 32 (List.mem_of_getElem? h)).1
 revert this;decide
def cut1 (l:List UInt8):List UInt8 × List UInt8:=if 0≤Lib.indexByte l 32 then (l.take (Lib.indexByte l 32).toNat,l.drop ((Lib.indexByte l 32).toNat+1)) else (l,[])
theorem cut1_of {p q:List UInt8} (hp:∀ j:Nat,p[j]?≠some 32):cut1 (p++32 :: q)=(p,q):=by
 have h1:(p++32 :: q)[p.length]?=some 32:=by simp
 rcases space_cases (p++32 :: q) with ⟨-,h,-⟩ | ⟨i,h,h2,h3,-⟩
 · exact absurd h1 (h _)
 · have hi:i=p.length:=by
    rcases Nat.lt_trichotomy i p.length with hl | hl | hl
    · rw [List.getElem?_append_left hl] at h2;exact absurd h2 (hp i)
    · exact hl
    · exact absurd h1 (h3 _ hl)
   subst hi;unfold cut1;rw [h,if_pos (by omega)]
   simp
theorem cut1_none {p:List UInt8} (hp:∀ j:Nat,p[j]?≠some 32):cut1 p=(p,[]):=by
 rcases space_cases p with ⟨h,-,-⟩ | ⟨i,-,h2,-⟩
 · unfold cut1;rw [h];rfl
 · exact absurd h2 (hp i)
theorem cutR_of {p q:List UInt8} (hp:∀ j:Nat,p[j]?≠some 32) (hq:∀ j:Nat,q[j]?≠some 32):cutR (p++32 :: q)=[p,q]:=by
 rw [cutR_hit (i:=p.length) (by simp) (fun k hk=>by rw [List.getElem?_append_left hk];exact hp k)];have e1:(p++32 :: q).take p.length=p:=by simp
 have e2:(p++32 :: q).drop (p.length+1)=q:=by simp
 rw [e1,e2,cutR_miss hq]
def candP (l:List UInt8):Dd:=⟨kindL (cut1 l).1,atoiV (cut1 l).2⟩
theorem deed_cases (a:Dd):((0≤a.kind∧a.kind≤2)∧(0≤a.n∧a.n≤999999)∧deedL a=wordL a.kind++32 :: Lib.decDigits a.n.toNat)∨((a.kind=3∨a.kind=4)∧a.n=0∧deedL a=wordL a.kind)∨deedL a=[]:=by
 by_cases h:(0≤a.kind∧a.kind≤2)∧(0≤a.n∧a.n≤999999)
 · exact .inl ⟨h.1,h.2,by unfold deedL;rw [if_pos h]⟩
 · by_cases h2:(a.kind=3∨a.kind=4)∧a.n=0
   · exact .inr (.inl ⟨h2.1,h2.2,by unfold deedL;rw [if_neg h,if_pos h2]⟩)
   · exact .inr (.inr (by unfold deedL;rw [if_neg h,if_neg h2]))
theorem cand_deed {a:Dd} (h:deedL a≠[]):candP (deedL a)=a:=by
 rcases deed_cases a with ⟨hk,hn,e⟩ | ⟨hk,hn,e⟩ | e
 · obtain ⟨k,n⟩:=a;rw [e];unfold candP;rw [cut1_of (word_no_space k)]
   dsimp only at hk hn ⊢
   rw [kind_word ⟨hk.1,by omega⟩,atoiV_dig (by omega)];rw [show ((n.toNat:Nat):Int)=n by omega]
 · obtain ⟨k,n⟩:=a
   dsimp only at hk hn
   subst hn;rw [e];unfold candP;rw [cut1_none (word_no_space k)]
   dsimp only
   rw [kind_word (by omega),atoiV_nil]
 · exact absurd e h
def rdB (l:List UInt8):Bool:=decide (l≠[]∧deedL (candP l)=l)
def rdV (l:List UInt8):Dd:=if rdB l=true then candP l else ⟨0,0⟩
theorem rd_deed {a:Dd} {l:List UInt8} (h:deedL a=l) (hl:l≠[]):rdB l=true∧rdV l=a:=by
 subst h;have e:=cand_deed hl;have hb:rdB (deedL a)=true:=by unfold rdB;rw [e];exact decide_eq_true ⟨hl,rfl⟩
 exact ⟨hb,by unfold rdV;rw [if_pos hb,e]⟩
theorem rd_text {l:List UInt8} (h:rdB l=true):deedL (rdV l)=l∧l≠[]:=by
 have h0:=h;unfold rdB at h;obtain ⟨h1,h2⟩:=of_decide_eq_true h;unfold rdV;rw [if_pos h0];exact ⟨h2,h1⟩
theorem rd_no {l:List UInt8} (h:rdB l=false):rdV l=⟨0,0⟩:=by unfold rdV;rw [h];rfl
def tryL (l:List UInt8):List Dd:=[⟨3,0⟩,⟨4,0⟩]++(if (cutR l).length=2 then [⟨0,digV ((cutR l).getD 1 [])⟩,⟨1,digV ((cutR l).getD 1 [])⟩,⟨2,digV ((cutR l).getD 1 [])⟩] else [])
theorem rd_tried {l:List UInt8} (h:rdB l=true):rdV l ∈ tryL l:=by
 obtain ⟨h1,h2⟩:=rd_text h;generalize rdV l=a at *;obtain ⟨k,n⟩:=a;rcases deed_cases ⟨k,n⟩ with ⟨hk,hn,e⟩ | ⟨hk,hn,e⟩ | e
 · have hc:cutR l=[wordL k,Lib.decDigits n.toNat]:=by rw [← h1,e];exact cutR_of (word_no_space _) (dig_no_space _)
   have hd:digV (Lib.decDigits n.toNat)=n:=by
    dsimp only at hn
    rw [digV_dig (by omega)];omega
   unfold tryL;rw [hc]
   show _ ∈ [_,_]++(if 2=2 then [(⟨0,digV (Lib.decDigits n.toNat)⟩:Dd),⟨1,digV (Lib.decDigits n.toNat)⟩,⟨2,digV (Lib.decDigits n.toNat)⟩] else [])
   rw [if_pos rfl,hd]
   dsimp only at hk
   obtain rfl | rfl | rfl:k=0∨k=1∨k=2:=by omega
   all_goals simp
 · dsimp only at hk hn
   subst hn;unfold tryL;rcases hk with rfl | rfl <;> simp
 · rw [e] at h1;exact absurd h1.symm h2
end
end Go.Proofs.YtmhgpbfogdoaeaaGreatDoor
