/-
  GM: Ans LineP AnsR ImA ImB ImC ImD ImE.
-/
import Derived.Test.YtmhgpbfogdoaeaaGreatDoorXlGV
import Derived.Test.YtmhgpbfogdoaeaaGreatDoorXlGZ
import Derived.Test.YtmhgpbfogdoaeaaGreatDoorXlGN
import Derived.Test.YtmhgpbfogdoaeaaGreatDoorXlGY
import Derived.Test.YtmhgpbfogdoaeaaGreatDoorXlGX
import Derived.Test.YtmhgpbfogdoaeaaGreatDoorXlGK
import Derived.Lib.QuietBelow
import Derived.Test.YtmhgpbfogdoaeaaGreatDoorXlGP
import Derived.Test.YtmhgpbfogdoaeaaGreatDoorXlGH
import Derived.Test.YtmhgpbfogdoaeaaGreatDoorXlGI
import Derived.Laws.EntriesVeiled
namespace Go.Proofs.YtmhgpbfogdoaeaaGreatDoor
section
open Go.RowKit
def joinG (sep:ByteArray) (l:List ByteArray):Nat→ByteArray
 | 0=>⟨#[]⟩
 | k+1=>(if 0 < k then joinG sep l k++sep else joinG sep l k)++l.getD k ByteArray.empty
theorem joinG_size {sep:ByteArray} {l:List ByteArray} {B:Nat} (h:∀ k,(l.getD k ByteArray.empty).size≤B):∀ k,(joinG sep l k).size≤(B+sep.size) * k:=by
 intro k
 induction k with
 | zero=>exact Nat.le_refl _
 | succ k ih =>
  rw [joinG,ByteArray.size_append,Nat.mul_succ];have h8:=h k
  split
  · rw [ByteArray.size_append];omega
  · omega
theorem joinG_pos {sep:ByteArray} {l:List ByteArray} {k:Nat} (h:∀ y ∈ l,1≤y.size) (h0:0 < k) (hk:k≤l.length):1≤(joinG sep l k).size:=by
 obtain ⟨m,rfl⟩:∃ m,k=m+1:=⟨k - 1,by omega⟩;have hm:l.getD m ByteArray.empty ∈ l:=getD_in (by omega);have:=h _ hm;rw [joinG,ByteArray.size_append];omega
def noneT:ByteArray:=⟨#[110,111,110,101]⟩
def whatT:ByteArray:=⟨#[119,104,97,116]⟩
def orNone (sep:ByteArray) (l:List ByteArray):ByteArray:=if 0 < l.length then joinG sep l l.length else noneT
theorem at_le {l:List ByteArray} {B:Nat} (h:∀ y ∈ l,y.size≤B) (k:Nat):(l.getD k ByteArray.empty).size≤B:=by
 by_cases hk:k < l.length
 · exact h _ (getD_in hk)
 · rw [List.getD_eq_getElem?_getD,List.getElem?_eq_none (by omega)];exact Nat.zero_le _
def numberW:ByteArray:=⟨#[110,117,109,98,101,114]⟩
def nameW:ByteArray:=⟨#[110,97,109,101]⟩
def wordsW:ByteArray:=⟨#[119,111,114,100,115]⟩
def countW:ByteArray:=⟨#[99,111,117,110,116]⟩
def ringW:ByteArray:=⟨#[114,105,110,103]⟩
def turnedW:ByteArray:=⟨#[116,117,114,110,101,100]⟩
def awayW:ByteArray:=⟨#[97,119,97,121]⟩
def readW:ByteArray:=⟨#[114,101,97,100]⟩
def spokenW:ByteArray:=⟨#[115,112,111,107,101,110]⟩
def andW:ByteArray:=⟨#[97,110,100]⟩
def fromW:ByteArray:=⟨#[102,114,111,109]⟩
def askWs:List ByteArray:=[numberW,nameW,wordsW,countW,ringW,turnedW,awayW]
theorem askWs_nodup:askWs.Nodup:=by decide
noncomputable def ringTs (d:Dk):List ByteArray:=(ringF (lettersOf d.t) d.now).map numT
noncomputable def tellN (d:Dk):Nat→ByteArray
 | 0=>numT d.now
 | 1=>textOf d.t d.now
 | 2=>numT (longOf d.t d.now)
 | 3=>numT (lettersOf d.t d.now)
 | 4=>orNone ⟨#[44]⟩ (ringTs d)
 | 5=>orNone ⟨#[32]⟩ (turnedOf d.t d.now andW)
 | _=>orNone ⟨#[32]⟩ (shortOf d.t d.now fromW 3)
def tellR (d:Dk) (s:ByteArray):ByteArray:=if readTB d.t s=true then numT (readTV d.t s) else noneT
def tellS (d:Dk) (s:ByteArray):ByteArray:=orNone ⟨#[44]⟩ (spokenL d.t (tl s))
def tailB (w s:ByteArray):Bool:=decide (w.size+1 < s.size∧s.extract 0 (w.size+1)=w++⟨#[32]⟩)
def tailT (w s:ByteArray):ByteArray:=s.extract (w.size+1) s.size
noncomputable def ansL (d:Dk) (s:ByteArray):ByteArray :=
 if place askWs s < 7 then tellN d (place askWs s)
 else if tailB readW s=true then tellR d (tailT readW s)
 else if tailB spokenW s=true then tellS d (tailT spokenW s)
 else whatT
noncomputable def lineD (d:Dk) (s:ByteArray):Dk:=if rdB (tl s)=true then (dkDo d (rdV (tl s))).1 else d
noncomputable def lineT (d:Dk) (s:ByteArray):ByteArray:=if rdB (tl s)=true then doneT (dkDo d (rdV (tl s))).2 else ansL d s
theorem tail_app {w x:ByteArray} (hx:1≤x.size):tailB w (w++⟨#[32]⟩++x)=true∧tailT w (w++⟨#[32]⟩++x)=x:=by
 have e1:(w++⟨#[32]⟩:ByteArray).size=w.size+1:=by rw [ByteArray.size_append];rfl
 have e2:(w++⟨#[32]⟩++x:ByteArray).size=w.size+1+x.size:=by rw [ByteArray.size_append,e1]
 have e3:(tl (w++⟨#[32]⟩)).length=w.size+1:=by rw [tl_len,e1]
 refine ⟨?_,?_⟩
 · unfold tailB;refine decide_eq_true ⟨by rw [e2];omega,tl_inj ?_⟩;rw [tl_ext,tl_app _ x,List.drop_zero,Nat.sub_zero,← e3,List.take_left]
 · unfold tailT;refine tl_inj ?_;rw [tl_from,tl_app _ x,← e3,List.drop_left]
theorem tail_form {w s:ByteArray} (h:tailB w s=true):s=w++⟨#[32]⟩++tailT w s∧1≤(tailT w s).size:=by
 unfold tailB at h;obtain ⟨h1,h2⟩:=of_decide_eq_true h;refine ⟨tl_inj ?_,?_⟩
 · rw [tl_app,← h2,tl_ext];unfold tailT;rw [tl_from,List.drop_zero,Nat.sub_zero,List.take_append_drop]
 · rw [← tl_len];unfold tailT;rw [tl_from,List.length_drop,tl_len];omega
theorem tail_cut {w:ByteArray} (hw:∀ j:Nat,(tl w)[j]?≠some 32) (s:ByteArray):(tailB w s=true→cutT1 s=w∧cutT2 s=tailT w s∧cutT2 s≠⟨#[]⟩)∧(cutT1 s=w→cutT2 s≠⟨#[]⟩→tailB w s=true):=by
 constructor
 · intro h;obtain ⟨e,hp⟩:=tail_form h;generalize tailT w s=x at *;have e2:tl s=tl w++32 :: tl x:=by rw [e,tl_app,tl_app,List.append_assoc];rfl
   have e3:cut1 (tl s)=(tl w,tl x):=by rw [e2];exact cut1_of hw
   have e4:cutT2 s=x:=tl_inj (by show (cut1 (tl s)).2=_;rw [e3]);refine ⟨tl_inj (by show (cut1 (tl s)).1=_;rw [e3]),e4,?_⟩;rw [e4];rintro rfl;exact absurd hp (by decide)
 · intro h1 h2;rcases space_cases (tl s) with ⟨hx,-,-⟩ | ⟨i,hx,h3,-,-⟩
   · exact absurd (cut_no hx).2 h2
   · have hi:i < s.size:=by
      rw [← tl_len];rcases Nat.lt_or_ge i (tl s).length with h | h
      · exact h
      · rw [List.getElem?_eq_none h] at h3;cases h3
     obtain ⟨g1,g2⟩:=cut_yes hx hi;have hi2:i < (tl s).length:=by rw [tl_len];exact hi
     have e:tl s=(tl s).take i++32 :: (tl s).drop (i+1):=by
      have h5:(tl s)[i]=32:=by rw [List.getElem?_eq_getElem hi2] at h3;exact Option.some.inj h3
      rw [← h5,← List.drop_eq_getElem_cons hi2,List.take_append_drop]
     have ew:tl w=(tl s).take i:=by rw [← h1,g1,tl_ext,List.drop_zero,Nat.sub_zero]
     have e2:s=w++⟨#[32]⟩++cutT2 s:=by
      refine tl_inj ?_;rw [tl_app,tl_app,ew,g2,tl_from,List.append_assoc];exact e
     have hp:1≤(cutT2 s).size:=by
      rcases Nat.eq_zero_or_pos (cutT2 s).size with h0 | h0
      · refine absurd (tl_inj (a:=cutT2 s) (b:=⟨#[]⟩) ?_) h2;have h6:=tl_len (cutT2 s);rw [h0] at h6;rw [List.length_eq_zero_iff.1 h6]
      · exact h0
     rw [e2];exact (tail_app hp).1
theorem readW_plain:∀ j:Nat,(tl readW)[j]?≠some 32:=fun j=>by
 match j with
 | 0=>decide
 | 1=>decide
 | 2=>decide
 | 3=>decide
 | j+4=>simp [readW]
theorem spokenW_plain:∀ j:Nat,(tl spokenW)[j]?≠some 32:=fun j=>by
 match j with
 | 0=>decide
 | 1=>decide
 | 2=>decide
 | 3=>decide
 | 4=>decide
 | 5=>decide
 | j+6=>simp [spokenW]
theorem numT_pos (n:Int):1≤(numT n).size:=by
 obtain ⟨c,r,e,-⟩:=dig_form n.toNat;rw [← tl_len]
 show 1≤(Lib.decDigits n.toNat).length
 rw [e];simp
theorem spk_pos (t:Tg) (x:RunB):1≤(spk t x).size:=by
 unfold spk;rw [ByteArray.size_append,ByteArray.size_append]
 show 1≤_+1+_
 omega
theorem spoken_pos (t:Tg) (l:List UInt8):∀ y ∈ spokenL t l,1≤y.size∧y.size≤2001:=by
 intro y hy;unfold spokenL spokenR at hy
 split at hy
 · obtain ⟨x,-,rfl⟩:=List.mem_map.1 hy;refine ⟨spk_pos t x,?_⟩;have h1:=text_sizeO t (x.1:Int);have h2:=text_sizeO t ((x.2.toNat:Int) - 48);unfold spk;rw [ByteArray.size_append,ByteArray.size_append]
   show _+1+_≤2001
   omega
 · cases hy
theorem letters_f (t:Tg):∀ x,-1≤lettersOf t x∧lettersOf t x≤320:=letters_bd t
theorem ring_len (d:Dk):(ringTs d).length=(ringF (lettersOf d.t) d.now).length∧(ringTs d).length≤323:=by
 have e:(ringTs d).length=(ringF (lettersOf d.t) d.now).length:=by unfold ringTs;rw [List.length_map]
 refine ⟨e,?_⟩;rw [e,ringF_len];have:=(ring_is (lettersOf d.t) (letters_f d.t) d.now).2
 split <;> omega
theorem ring_bd {d:Dk}:∀ x ∈ ringF (lettersOf d.t) d.now,0≤x∧x≤999999:=by
 intro x hx;have h:=(ring_is (lettersOf d.t) (letters_f d.t) d.now).1;cases ho:okF (lettersOf d.t) d.now
 · rw [(ring_no ho).1] at hx;cases hx
 · have hp:=fun k=>ok_pos (letters_f d.t) (letters_neg d.t) ho k
   rw [h.ring ho] at hx;obtain ⟨i,hi,rfl⟩:=List.mem_map.1 hx;have hi':=List.mem_range.1 hi;refine ⟨hp _,?_⟩
   have hb:∀ k,itF (lettersOf d.t) (k+1) d.now≤320:=fun k=>by
    show lettersOf d.t _≤320
    exact (letters_bd d.t _).2
   rcases Nat.eq_zero_or_pos (muF (lettersOf d.t) d.now+i) with h0 | h0
   · have hmu:muF (lettersOf d.t) d.now=0:=by omega
     have hi0:i=0:=by omega
     have hbk:=h.back;rw [hmu,Nat.zero_add] at hbk;rw [hmu,hi0,Nat.zero_add,← hbk];obtain ⟨k,hk⟩:∃ k,lamF (lettersOf d.t) d.now=k+1:=⟨lamF (lettersOf d.t) d.now - 1,by have:=h.pos;omega⟩;rw [hk];have:=hb k;omega
   · obtain ⟨k,hk⟩:∃ k,muF (lettersOf d.t) d.now+i=k+1:=⟨muF (lettersOf d.t) d.now+i - 1,by omega⟩;rw [hk];have:=hb k;omega
theorem ringTs_pos (d:Dk):∀ y ∈ ringTs d,1≤y.size∧y.size≤6:=by
 intro y hy;unfold ringTs at hy;obtain ⟨x,hx,rfl⟩:=List.mem_map.1 hy;have:=ring_bd x hx;exact ⟨numT_pos x,num_size this.1 this.2⟩
theorem read_bdA {t:Tg} {s:ByteArray} (h:readTB t s=true):1≤readTV t s∧readTV t s≤99999:=by
 have e:readTV t s=readV t (cutL s):=by unfold readTV;rw [if_pos h]
 unfold readTB at h;rw [Bool.and_eq_true] at h;rw [e];exact named_bd (read_yes h.1).2.1
theorem line_ok {d:Dk} (h:dkOk d=true) (s:ByteArray):dkOk (lineD d s)=true∧(lineD d s).t=d.t:=by
 unfold lineD
 split
 · exact do_ok h
 · exact ⟨h,rfl⟩
end
section
open Go.RowKit
noncomputable def lineP (d:Dk) (s:ByteArray):Dk × ByteArray:=if dkOk d=true then (lineD d s,lineT d s) else (noDk,⟨#[]⟩)
theorem lineP_no {d:Dk} {s:ByteArray} (h:dkOk d=false):lineP d s=(noDk,⟨#[]⟩):=by unfold lineP;rw [h];rfl
theorem lineP_yes {d:Dk} {s:ByteArray} (h:dkOk d=true):lineP d s=(lineD d s,lineT d s):=by unfold lineP;rw [if_pos h]
theorem lineP_deed {d:Dk} {s:ByteArray} (h:dkOk d=true) (hr:rdB (tl s)=true):lineP d s=((dkDo d (rdV (tl s))).1,doneT (dkDo d (rdV (tl s))).2):=by
 unfold lineP lineD lineT;rw [if_pos h,if_pos hr,if_pos hr]
theorem lineP_ask {d:Dk} {s:ByteArray} (h:dkOk d=true) (hr:rdB (tl s)=false):lineP d s=(d,ansL d s):=by
 unfold lineP lineD lineT;rw [if_pos h,hr];rfl
theorem noDk_fineL:noDk.Fine:=⟨⟨by simp [noDk,noTg],by simp [noDk,noTg],by simp [noDk,noTg],fun k=>by simp [noDk,noTg],by simp [noDk,noTg]⟩,by simp [noDk],by simp [noDk],fun k=>by simp [noDk]⟩
theorem fine_line {d:Dk} (hf:d.Fine) (s:ByteArray):(lineP d s).1.Fine:=by
 cases hk:dkOk d
 · rw [lineP_no hk];exact noDk_fineL
 · rw [lineP_yes hk];obtain ⟨h1,h2⟩:=line_ok hk s;exact fine_of_ok h1 (by show (lineD d s).t.Fine;rw [h2];exact hf.t)
end
section
open Go.RowKit Go.Sort
theorem joinG_join (sep:ByteArray) (xs:List ByteArray):∀ k,k≤xs.length→(joinG sep xs k).data.toList=Lib.join ((xs.take k).map (·.data.toList)) sep.data.toList:=by
 intro k
 induction k with
 | zero=>intro _;rfl
 | succ k ih =>
  intro hk;have ih:=ih (by omega);have hlt:k < xs.length:=by omega
  rw [List.take_succ_eq_append_getElem hlt,List.map_append,joinG];have hg:xs.getD k ByteArray.empty=xs[k]:=by simp [List.getD_eq_getElem?_getD,hlt]
  rw [hg]
  by_cases h0:0 < k
  · obtain ⟨x,r,e⟩:∃ x r,(xs.take k).map (·.data.toList)=x :: r:=by
     cases h:(xs.take k).map (·.data.toList) with
     | nil=>have:=congrArg List.length h;rw [List.length_map,List.length_take,List.length_nil] at this;omega
     | cons x r=>exact ⟨x,r,rfl⟩
    rw [e] at ih ⊢;rw [if_pos h0,List.map_cons,List.map_nil,join_snoc,← ih]
    simp [ByteArray.data_append]
  · obtain rfl:k=0:=by omega
    rw [if_neg h0]
    simp [ByteArray.data_append,joinG,Lib.join_one]
theorem join_textG (sep:ByteArray) (xs:List ByteArray):(⟨(Lib.join (xs.map (·.data.toList)) sep.data.toList).toArray⟩:ByteArray)=joinG sep xs xs.length:=by
 have h:=joinG_join sep xs xs.length (Nat.le_refl _);rw [List.take_length] at h;rw [← h]
set_option maxRecDepth 100000 in
set_option maxHeartbeats 1000000 in
theorem implJoined_any (A:Option Addr) (c:Nat) (xs:List ByteArray) (sep:ByteArray) (w:World) (h:Strs w A xs.length c xs) (hn:xs.length≤1000) (hs:∀ y ∈ xs,y.size≤3000) (hz:sep.size≤8) :
 Calls Tryz.prog 160 #[.slice A xs.length c,.string sep] w fun e w'=>e=.returned (.string (orNone sep xs))∧Below w.heap.size w w':=by
 have hsz:=joinG_size (sep:=sep) (at_le hs) xs.length;have hm:(3000+sep.size) * xs.length≤3008 * 1000:=Nat.mul_le_mul (by omega) hn
 have KJ:=join_any h sep (by omega) (by
  have e:=join_textG sep xs;have e2:=congrArg ByteArray.size e
  have e3:(⟨(Lib.join (xs.map (·.data.toList)) sep.data.toList).toArray⟩:ByteArray).size=(Lib.join (xs.map (·.data.toList)) sep.data.toList).length:=by
   rw [ByteArray.size];simp
  rw [e3] at e2;omega)
 have hG:0 < xs.length→orNone sep xs=joinG sep xs xs.length:=fun h0=>by unfold orNone;rw [if_pos h0]
 have hN:¬ 0 < xs.length→orNone sep xs=noneT:=fun h0=>by unfold orNone;rw [if_neg h0]
 have KJ':Calls Tryz.prog 177 #[.slice A xs.length c,.string sep] w fun e w'=>e=.returned (.string (joinG sep xs xs.length))∧Below w.heap.size w w' :=
  KJ.mono fun e w' ⟨he,hb⟩=>⟨by rw [he];exact congrArg (fun x=>Ending.returned (.string x)) (join_textG sep xs),hb⟩
 replace KJ':=Lib.hid KJ';replace hG:=Lib.hid hG;replace hN:=Lib.hid hN;clear KJ hsz hm h hs;generalize joinG sep xs xs.length=g at *;generalize orNone sep xs=o at *;generalize xs.length=L at *
 by_cases h0:0 < L
 · have hne:¬ ((L:Int)=0):=by omega
   have hge:=Lib.hid (hG.out h0);clear hG hN;go_enter Tryz.func160,Tryz.ntmps160;go_wp2_with (go_at_call 177;refine KJ'.out.mono ?_;rintro e w2 ⟨rfl,b2⟩;refine Hid.out ?_);replace b2:=Lib.hid b2;refine Lib.hid ?_;go_wp2;go_ret;exact ⟨ret_str hge.out.symm,b2.out⟩
 · obtain rfl:L=0:=by omega
   have hne:=Lib.hid (hN.out h0);clear hG hN KJ';go_enter Tryz.func160,Tryz.ntmps160;go_wp2;go_ret;exact ⟨ret_str hne.out.symm,Below.refl _ _⟩
theorem tng_dsk {w:World} {d:Dk} {A1 A2 A3 A5:Option Addr} {c1 c2 c3 c5:Nat} (h:Dsk w (.agg #[.slice A1 d.t.us.length c1,.slice A2 d.t.bs.length c2,.slice A3 d.t.ns.length c3,.int .i64 d.now,.slice A5 d.past.length c5]) d):Tng w (.agg #[.slice A1 d.t.us.length c1,.slice A2 d.t.bs.length c2,.slice A3 d.t.ns.length c3]) d.t:=by
 obtain ⟨B1,e1,B2,e2,B3,e3,B5,e5,e,h1,h2,h3,-⟩:=h.ex;cases e;exact ⟨_,_,_,_,_,_,rfl,h1,h2,h3⟩
set_option maxRecDepth 100000 in
set_option maxHeartbeats 2000000 in
theorem implNumber_any (v:Value) (d:Dk) (w:World) (h:Dsk w v d) (hf:d.Fine) (hk:dkOk d=true) (hT:LibT w) :
 Calls Tryz.prog 132 #[v] w fun e w'=>e=.returned (.string (tellN d 0))∧Below w.heap.size w w':=by
 obtain ⟨A1,c1,A2,c2,A3,c3,A5,c5,rfl,-⟩:=h.ex;have hnm:=((dkOk_iff d).1 hk).1;have hnow:=named_bd hnm;have hB:=Lib.hid ((Below.refl w.heap.size w).alloc (Nat.le_refl _) (.cells #[.slice A1 d.t.us.length c1,.slice A2 d.t.bs.length c2,.slice A3 d.t.ns.length c3,.int .i64 d.now,.slice A5 d.past.length c5] 33));have HX:=Lib.hid (Blk.new w 33 #[.slice A1 d.t.us.length c1,.slice A2 d.t.bs.length c2,.slice A3 d.t.ns.length c3,.int .i64 d.now,.slice A5 d.past.length c5]);have HT:=Lib.hid (tng_dsk (h.below hB.out (Nat.le_refl _)));have hTW:=Lib.hid (hT.below hB.out (Nat.le_refl _));clear h;go_enter Tryz.func132,Tryz.ntmps132;go_upto_region 1 with (fail)
 generalize w.alloc (.cells #[.slice A1 d.t.us.length c1,.slice A2 d.t.bs.length c2,.slice A3 d.t.ns.length c3,.int .i64 d.now,.slice A5 d.past.length c5] 33)=W at *;obtain ⟨x0,x1,x2,x3,x4⟩:=(blk5 HX.out).1;have KI:=Lib.hid (itoa_any d.now (by omega) (by omega) W hTW.out);replace hnm:=Lib.hid hnm;replace hk:=Lib.hid hk;replace hf:=Lib.hid hf;go_wp2_with (fail);refine KI.out.mono ?_;rintro e w1 ⟨rfl,b1⟩;have hE:=Lib.hid (hB.out.trans (b1.mono hB.out.size));clear b1 x0 x1 x2 x3 x4 KI;go_wp2;go_ret;exact ⟨rfl,hE.out⟩
set_option maxRecDepth 100000 in
set_option maxHeartbeats 2000000 in
theorem implName_any (v:Value) (d:Dk) (w:World) (h:Dsk w v d) (hf:d.Fine) (hk:dkOk d=true) (hT:LibT w) :
 Calls Tryz.prog 133 #[v] w fun e w'=>e=.returned (.string (tellN d 1))∧Below w.heap.size w w':=by
 obtain ⟨A1,c1,A2,c2,A3,c3,A5,c5,rfl,-⟩:=h.ex;have hnm:=((dkOk_iff d).1 hk).1;have hnow:=named_bd hnm;have hB:=Lib.hid ((Below.refl w.heap.size w).alloc (Nat.le_refl _) (.cells #[.slice A1 d.t.us.length c1,.slice A2 d.t.bs.length c2,.slice A3 d.t.ns.length c3,.int .i64 d.now,.slice A5 d.past.length c5] 33));have HX:=Lib.hid (Blk.new w 33 #[.slice A1 d.t.us.length c1,.slice A2 d.t.bs.length c2,.slice A3 d.t.ns.length c3,.int .i64 d.now,.slice A5 d.past.length c5]);have HT:=Lib.hid (tng_dsk (h.below hB.out (Nat.le_refl _)));have hTW:=Lib.hid (hT.below hB.out (Nat.le_refl _));clear h;go_enter Tryz.func133,Tryz.ntmps133;go_upto_region 1 with (fail)
 generalize w.alloc (.cells #[.slice A1 d.t.us.length c1,.slice A2 d.t.bs.length c2,.slice A3 d.t.ns.length c3,.int .i64 d.now,.slice A5 d.past.length c5] 33)=W at *;obtain ⟨x0,x1,x2,x3,x4⟩:=(blk5 HX.out).1;have KI:=Lib.hid (implTextOf_any _ d.t d.now W HT.out hf.t (by omega));replace hnm:=Lib.hid hnm;replace hk:=Lib.hid hk;replace hf:=Lib.hid hf;go_wp2_with (fail);refine KI.out.mono ?_;rintro e w1 ⟨rfl,b1⟩;have hE:=Lib.hid (hB.out.trans (b1.mono hB.out.size));clear b1 x0 x1 x2 x3 x4 KI;go_wp2;go_ret;exact ⟨rfl,hE.out⟩
set_option maxRecDepth 100000 in
set_option maxHeartbeats 2000000 in
theorem implWords_any (v:Value) (d:Dk) (w:World) (h:Dsk w v d) (hf:d.Fine) (hk:dkOk d=true) (hT:LibT w) :
 Calls Tryz.prog 134 #[v] w fun e w'=>e=.returned (.string (tellN d 2))∧Below w.heap.size w w':=by
 obtain ⟨A1,c1,A2,c2,A3,c3,A5,c5,rfl,-⟩:=h.ex;have hnm:=((dkOk_iff d).1 hk).1;have hnow:=named_bd hnm;have hB:=Lib.hid ((Below.refl w.heap.size w).alloc (Nat.le_refl _) (.cells #[.slice A1 d.t.us.length c1,.slice A2 d.t.bs.length c2,.slice A3 d.t.ns.length c3,.int .i64 d.now,.slice A5 d.past.length c5] 33));have HX:=Lib.hid (Blk.new w 33 #[.slice A1 d.t.us.length c1,.slice A2 d.t.bs.length c2,.slice A3 d.t.ns.length c3,.int .i64 d.now,.slice A5 d.past.length c5]);have HT:=Lib.hid (tng_dsk (h.below hB.out (Nat.le_refl _)));have hTW:=Lib.hid (hT.below hB.out (Nat.le_refl _));clear h;go_enter Tryz.func134,Tryz.ntmps134;go_upto_region 1 with (fail)
 generalize w.alloc (.cells #[.slice A1 d.t.us.length c1,.slice A2 d.t.bs.length c2,.slice A3 d.t.ns.length c3,.int .i64 d.now,.slice A5 d.past.length c5] 33)=W at *;obtain ⟨x0,x1,x2,x3,x4⟩:=(blk5 HX.out).1;have hlw:=letters_words hnm;have KL:=Lib.hid (implLongOf_any _ d.t d.now W HT.out hf.t (by omega));have hres:tellN d 2=numT (longOf d.t d.now):=rfl;have KI:=Lib.hid (fun W2 (hb:Below W.heap.size W W2)=>itoa_any (longOf d.t d.now) (by omega) (by omega) W2 (hTW.out.below hb (Nat.le_refl _)));generalize (longOf d.t d.now)=lg at *;generalize numT lg=res at *;replace hres:=Lib.hid hres;replace hnm:=Lib.hid hnm;replace hk:=Lib.hid hk;replace hf:=Lib.hid hf;go_wp2_with (fail);refine KL.out.mono ?_;rintro e w1 ⟨rfl,b1⟩;have KI1:=Lib.hid (KI.out _ b1);have hE:=Lib.hid (hB.out.trans (b1.mono hB.out.size));clear b1 x0 x1 x2 x3 x4 KI KL;go_wp2_with (fail);refine KI1.out.mono ?_;rintro e w2 ⟨rfl,b2⟩;have hE2:=Lib.hid (hE.out.trans (b2.mono hE.out.size));clear b2;go_wp2;go_ret;exact ⟨ret_str hres.out.symm,hE2.out⟩
set_option maxRecDepth 100000 in
set_option maxHeartbeats 2000000 in
theorem implCount_any2 (v:Value) (d:Dk) (w:World) (h:Dsk w v d) (hf:d.Fine) (hk:dkOk d=true) (hT:LibT w) :
 Calls Tryz.prog 135 #[v] w fun e w'=>e=.returned (.string (tellN d 3))∧Below w.heap.size w w':=by
 obtain ⟨A1,c1,A2,c2,A3,c3,A5,c5,rfl,-⟩:=h.ex;have hnm:=((dkOk_iff d).1 hk).1;have hnow:=named_bd hnm;have hB:=Lib.hid ((Below.refl w.heap.size w).alloc (Nat.le_refl _) (.cells #[.slice A1 d.t.us.length c1,.slice A2 d.t.bs.length c2,.slice A3 d.t.ns.length c3,.int .i64 d.now,.slice A5 d.past.length c5] 33));have HX:=Lib.hid (Blk.new w 33 #[.slice A1 d.t.us.length c1,.slice A2 d.t.bs.length c2,.slice A3 d.t.ns.length c3,.int .i64 d.now,.slice A5 d.past.length c5]);have HT:=Lib.hid (tng_dsk (h.below hB.out (Nat.le_refl _)));have hTW:=Lib.hid (hT.below hB.out (Nat.le_refl _));clear h;go_enter Tryz.func135,Tryz.ntmps135;go_upto_region 1 with (fail)
 generalize w.alloc (.cells #[.slice A1 d.t.us.length c1,.slice A2 d.t.bs.length c2,.slice A3 d.t.ns.length c3,.int .i64 d.now,.slice A5 d.past.length c5] 33)=W at *;obtain ⟨x0,x1,x2,x3,x4⟩:=(blk5 HX.out).1;have hlw:=letters_words hnm;have KL:=Lib.hid (implLettersOf_any _ d.t d.now W HT.out hf.t (by omega));have hres:tellN d 3=numT (lettersOf d.t d.now):=rfl;have KI:=Lib.hid (fun W2 (hb:Below W.heap.size W W2)=>itoa_any (lettersOf d.t d.now) (by omega) (by omega) W2 (hTW.out.below hb (Nat.le_refl _)));generalize (lettersOf d.t d.now)=lg at *;generalize numT lg=res at *;replace hres:=Lib.hid hres;replace hnm:=Lib.hid hnm;replace hk:=Lib.hid hk;replace hf:=Lib.hid hf;go_wp2_with (fail);refine KL.out.mono ?_;rintro e w1 ⟨rfl,b1⟩;have KI1:=Lib.hid (KI.out _ b1);have hE:=Lib.hid (hB.out.trans (b1.mono hB.out.size));clear b1 x0 x1 x2 x3 x4 KI KL;go_wp2_with (fail);refine KI1.out.mono ?_;rintro e w2 ⟨rfl,b2⟩;have hE2:=Lib.hid (hE.out.trans (b2.mono hE.out.size));clear b2;go_wp2;go_ret;exact ⟨ret_str hres.out.symm,hE2.out⟩
set_option maxRecDepth 100000 in
set_option maxHeartbeats 2000000 in
theorem implTurned_any (v:Value) (d:Dk) (w:World) (h:Dsk w v d) (hf:d.Fine) (hk:dkOk d=true) (hT:LibT w) :
 Calls Tryz.prog 137 #[v] w fun e w'=>e=.returned (.string (tellN d 5))∧Below w.heap.size w w':=by
 obtain ⟨A1,c1,A2,c2,A3,c3,A5,c5,rfl,-⟩:=h.ex;have hnm:=((dkOk_iff d).1 hk).1;have hnow:=named_bd hnm;have hB:=Lib.hid ((Below.refl w.heap.size w).alloc (Nat.le_refl _) (.cells #[.slice A1 d.t.us.length c1,.slice A2 d.t.bs.length c2,.slice A3 d.t.ns.length c3,.int .i64 d.now,.slice A5 d.past.length c5] 33));have HX:=Lib.hid (Blk.new w 33 #[.slice A1 d.t.us.length c1,.slice A2 d.t.bs.length c2,.slice A3 d.t.ns.length c3,.int .i64 d.now,.slice A5 d.past.length c5]);have HT:=Lib.hid (tng_dsk (h.below hB.out (Nat.le_refl _)));have hTW:=Lib.hid (hT.below hB.out (Nat.le_refl _));clear h;go_enter Tryz.func137,Tryz.ntmps137;go_upto_region 1 with (fail)
 generalize w.alloc (.cells #[.slice A1 d.t.us.length c1,.slice A2 d.t.bs.length c2,.slice A3 d.t.ns.length c3,.int .i64 d.now,.slice A5 d.past.length c5] 33)=W at *;obtain ⟨x0,x1,x2,x3,x4⟩:=(blk5 HX.out).1;have KN:=Lib.hid (implTurnedName_any _ d.t d.now andW W HT.out hf.t (by omega) (by decide));have hlen:=Lib.hid (show (turnedOf d.t d.now andW).length≤1000 from by have:=turned_len d.t d.now andW;omega);have hsz:=Lib.hid (show ∀ y ∈ turnedOf d.t d.now andW,y.size≤3000 from fun y hy=>by have:=turned_size _ y hy;omega);generalize hxs:turnedOf d.t d.now andW=xs at *;replace hxs:=Lib.hid hxs;replace hnm:=Lib.hid hnm;replace hk:=Lib.hid hk;replace hf:=Lib.hid hf;generalize turnedB d.t d.now andW=bb at *;go_wp2_with (fail);refine KN.out.mono ?_;rintro e w1 ⟨v1,rfl,o1,b1⟩;obtain ⟨A,c,rfl,hs⟩:=o1.strs;have hE:=Lib.hid (hB.out.trans (b1.mono hB.out.size));have KJ:=Lib.hid (implJoined_any A c xs ⟨#[32]⟩ w1 hs hlen.out hsz.out (by decide));clear b1 x0 x1 x2 x3 x4 KN o1 hs;generalize xs.length=L at *;have hres:tellN d 5=orNone ⟨#[32]⟩ xs:=by rw [← hxs.out];rfl
 clear hxs;generalize orNone ⟨#[32]⟩ xs=res at *;replace hres:=Lib.hid hres;go_wp2_with (fail);refine KJ.out.mono ?_;rintro e w2 ⟨rfl,b2⟩;have hE2:=Lib.hid (hE.out.trans (b2.mono hE.out.size));clear b2;go_wp2;go_ret;exact ⟨ret_str hres.out.symm,hE2.out⟩
set_option maxRecDepth 100000 in
set_option maxHeartbeats 2000000 in
theorem implAway_any (v:Value) (d:Dk) (w:World) (h:Dsk w v d) (hf:d.Fine) (hk:dkOk d=true) (hT:LibT w) :
 Calls Tryz.prog 138 #[v] w fun e w'=>e=.returned (.string (tellN d 6))∧Below w.heap.size w w':=by
 obtain ⟨A1,c1,A2,c2,A3,c3,A5,c5,rfl,-⟩:=h.ex;have hnm:=((dkOk_iff d).1 hk).1;have hnow:=named_bd hnm;have hB:=Lib.hid ((Below.refl w.heap.size w).alloc (Nat.le_refl _) (.cells #[.slice A1 d.t.us.length c1,.slice A2 d.t.bs.length c2,.slice A3 d.t.ns.length c3,.int .i64 d.now,.slice A5 d.past.length c5] 33));have HX:=Lib.hid (Blk.new w 33 #[.slice A1 d.t.us.length c1,.slice A2 d.t.bs.length c2,.slice A3 d.t.ns.length c3,.int .i64 d.now,.slice A5 d.past.length c5]);have HT:=Lib.hid (tng_dsk (h.below hB.out (Nat.le_refl _)));have hTW:=Lib.hid (hT.below hB.out (Nat.le_refl _));clear h;go_enter Tryz.func138,Tryz.ntmps138;go_upto_region 1 with (fail)
 generalize w.alloc (.cells #[.slice A1 d.t.us.length c1,.slice A2 d.t.bs.length c2,.slice A3 d.t.ns.length c3,.int .i64 d.now,.slice A5 d.past.length c5] 33)=W at *;obtain ⟨x0,x1,x2,x3,x4⟩:=(blk5 HX.out).1;have KN:=Lib.hid (implShorterName_any _ d.t d.now fromW 3 W HT.out hf.t (by omega) (by decide));have hlen:=Lib.hid (show (shortOf d.t d.now fromW 3).length≤1000 from by have:=short_len d.t d.now fromW 3;omega);have hsz:=Lib.hid (show ∀ y ∈ shortOf d.t d.now fromW 3,y.size≤3000 from fun y hy=>by have:=short_size _ _ _ _ y hy;omega);generalize hxs:shortOf d.t d.now fromW 3=xs at *;replace hxs:=Lib.hid hxs;replace hnm:=Lib.hid hnm;replace hk:=Lib.hid hk;replace hf:=Lib.hid hf;generalize shortB d.t d.now fromW 3=bb at *;go_wp2_with (fail);refine KN.out.mono ?_;rintro e w1 ⟨v1,rfl,o1,b1⟩;obtain ⟨A,c,rfl,hs⟩:=o1.strs;have hE:=Lib.hid (hB.out.trans (b1.mono hB.out.size));have KJ:=Lib.hid (implJoined_any A c xs ⟨#[32]⟩ w1 hs hlen.out hsz.out (by decide));clear b1 x0 x1 x2 x3 x4 KN o1 hs;generalize xs.length=L at *;have hres:tellN d 6=orNone ⟨#[32]⟩ xs:=by rw [← hxs.out];rfl
 clear hxs;generalize orNone ⟨#[32]⟩ xs=res at *;replace hres:=Lib.hid hres;go_wp2_with (fail);refine KJ.out.mono ?_;rintro e w2 ⟨rfl,b2⟩;have hE2:=Lib.hid (hE.out.trans (b2.mono hE.out.size));clear b2;go_wp2;go_ret;exact ⟨ret_str hres.out.symm,hE2.out⟩
set_option maxRecDepth 100000 in
set_option maxHeartbeats 2000000 in
theorem implRead_any (v:Value) (d:Dk) (s:ByteArray) (hs:s.size≤1048576) (w:World) (h:Dsk w v d) (hf:d.Fine) (hk:dkOk d=true) (hT:LibT w) :
 Calls Tryz.prog 139 #[v,.string s] w fun e w'=>e=.returned (.string (tellR d s))∧Below w.heap.size w w':=by
 obtain ⟨A1,c1,A2,c2,A3,c3,A5,c5,rfl,-⟩:=h.ex;have hnm:=((dkOk_iff d).1 hk).1;have hnow:=named_bd hnm;have hB:=Lib.hid ((Below.refl w.heap.size w).alloc (Nat.le_refl _) (.cells #[.slice A1 d.t.us.length c1,.slice A2 d.t.bs.length c2,.slice A3 d.t.ns.length c3,.int .i64 d.now,.slice A5 d.past.length c5] 33));have HX:=Lib.hid (Blk.new w 33 #[.slice A1 d.t.us.length c1,.slice A2 d.t.bs.length c2,.slice A3 d.t.ns.length c3,.int .i64 d.now,.slice A5 d.past.length c5]);have HT:=Lib.hid (tng_dsk (h.below hB.out (Nat.le_refl _)));have hTW:=Lib.hid (hT.below hB.out (Nat.le_refl _));clear h;go_enter Tryz.func139,Tryz.ntmps139;go_upto_region 1 with (fail)
 generalize w.alloc (.cells #[.slice A1 d.t.us.length c1,.slice A2 d.t.bs.length c2,.slice A3 d.t.ns.length c3,.int .i64 d.now,.slice A5 d.past.length c5] 33)=W at *;obtain ⟨x0,x1,x2,x3,x4⟩:=(blk5 HX.out).1;have KN:=Lib.hid (implReadText_any _ d.t s W HT.out hf.t hs);have hres:tellR d s=if readTB d.t s=true then numT (readTV d.t s) else noneT:=rfl
 have hbd:=fun (hb:readTB d.t s=true)=>read_bdA hb
 generalize readTB d.t s=bb at *;generalize readTV d.t s=bv at *;replace hres:=Lib.hid hres;replace hbd:=Lib.hid hbd;replace hnm:=Lib.hid hnm;replace hk:=Lib.hid hk;replace hf:=Lib.hid hf;go_wp2_with (fail);refine KN.out.mono ?_;rintro e w1 ⟨rfl,b1⟩;have hE:=Lib.hid (hB.out.trans (b1.mono hB.out.size));have hT1:=Lib.hid (hTW.out.below b1 (Nat.le_refl _));clear b1 x0 x1 x2 x3 x4 KN;cases bb
 · go_wp2;go_ret;exact ⟨ret_str (by rw [hres.out];rfl),hE.out⟩
 · have hb:=hbd.out rfl;clear hbd;have KI:=Lib.hid (itoa_any bv (by omega) (by omega) w1 hT1.out);go_wp2_with (fail);refine KI.out.mono ?_;rintro e w2 ⟨rfl,b2⟩;have hE2:=Lib.hid (hE.out.trans (b2.mono hE.out.size));clear b2;go_wp2;go_ret;exact ⟨ret_str (by rw [hres.out];rfl),hE2.out⟩
set_option maxRecDepth 100000 in
set_option maxHeartbeats 2000000 in
theorem implSpoken_any (v:Value) (d:Dk) (s:ByteArray) (hs:s.size≤1048576) (w:World) (h:Dsk w v d) (hf:d.Fine) (hk:dkOk d=true) (hT:LibT w) :
 Calls Tryz.prog 140 #[v,.string s] w fun e w'=>e=.returned (.string (tellS d s))∧Below w.heap.size w w':=by
 obtain ⟨A1,c1,A2,c2,A3,c3,A5,c5,rfl,-⟩:=h.ex;have hnm:=((dkOk_iff d).1 hk).1;have hnow:=named_bd hnm;have hB:=Lib.hid ((Below.refl w.heap.size w).alloc (Nat.le_refl _) (.cells #[.slice A1 d.t.us.length c1,.slice A2 d.t.bs.length c2,.slice A3 d.t.ns.length c3,.int .i64 d.now,.slice A5 d.past.length c5] 33));have HX:=Lib.hid (Blk.new w 33 #[.slice A1 d.t.us.length c1,.slice A2 d.t.bs.length c2,.slice A3 d.t.ns.length c3,.int .i64 d.now,.slice A5 d.past.length c5]);have HT:=Lib.hid (tng_dsk (h.below hB.out (Nat.le_refl _)));have hTW:=Lib.hid (hT.below hB.out (Nat.le_refl _));clear h;go_enter Tryz.func140,Tryz.ntmps140;go_upto_region 1 with (fail)
 generalize w.alloc (.cells #[.slice A1 d.t.us.length c1,.slice A2 d.t.bs.length c2,.slice A3 d.t.ns.length c3,.int .i64 d.now,.slice A5 d.past.length c5] 33)=W at *;obtain ⟨x0,x1,x2,x3,x4⟩:=(blk5 HX.out).1;have KN:=Lib.hid (implSpokenOf_any _ d.t s W HT.out hf.t (by omega));have hres:tellS d s=orNone ⟨#[44]⟩ (spokenL d.t (tl s)):=rfl;have hlen:=Lib.hid (show (spokenL d.t (tl s)).length≤1000 from by have:=spokenL_len d.t (tl s);omega);have hsz:=Lib.hid (show ∀ y ∈ spokenL d.t (tl s),y.size≤3000 from fun y hy=>by have:=spoken_pos _ _ y hy;omega);generalize spokenL d.t (tl s)=xs at *;replace hnm:=Lib.hid hnm;replace hk:=Lib.hid hk;replace hf:=Lib.hid hf;go_wp2_with (fail);refine KN.out.mono ?_;rintro e w1 ⟨v1,rfl,o1,b1⟩;obtain ⟨A,c,rfl,hs⟩:=o1.strs;have hE:=Lib.hid (hB.out.trans (b1.mono hB.out.size));have KJ:=Lib.hid (implJoined_any A c xs ⟨#[44]⟩ w1 hs hlen.out hsz.out (by decide));clear b1 x0 x1 x2 x3 x4 KN o1 hs;generalize xs.length=L at *;generalize orNone ⟨#[44]⟩ xs=res at *;replace hres:=Lib.hid hres;go_wp2_with (fail);refine KJ.out.mono ?_;rintro e w2 ⟨rfl,b2⟩;have hE2:=Lib.hid (hE.out.trans (b2.mono hE.out.size));clear b2;go_wp2;go_ret;exact ⟨ret_str hres.out.symm,hE2.out⟩
theorem numsTo_go {q:List Int} {k:Nat} (hk:k < q.length):(q.take (k+1)).map numT=(q.take k).map numT++[numT (q.getD k 0)]:=by
 rw [List.take_succ_eq_append_getElem hk,List.map_append]
 simp [List.getD_eq_getElem?_getD,hk]
set_option maxRecDepth 100000 in
set_option maxHeartbeats 2000000 in
theorem implRing_any (v:Value) (d:Dk) (w:World) (h:Dsk w v d) (hf:d.Fine) (hk:dkOk d=true) (hT:LibT w) :
 Calls Tryz.prog 136 #[v] w fun e w'=>e=.returned (.string (tellN d 4))∧Below w.heap.size w w':=by
 obtain ⟨A1,c1,A2,c2,A3,c3,A5,c5,rfl,-⟩:=h.ex;have hnm:=((dkOk_iff d).1 hk).1;have hnow:=named_bd hnm;have hB:=Lib.hid ((Below.refl w.heap.size w).alloc (Nat.le_refl _) (.cells #[.slice A1 d.t.us.length c1,.slice A2 d.t.bs.length c2,.slice A3 d.t.ns.length c3,.int .i64 d.now,.slice A5 d.past.length c5] 33));have HX:=Lib.hid (Blk.new w 33 #[.slice A1 d.t.us.length c1,.slice A2 d.t.bs.length c2,.slice A3 d.t.ns.length c3,.int .i64 d.now,.slice A5 d.past.length c5]);have HT:=Lib.hid (tng_dsk (h.below hB.out (Nat.le_refl _)));have hTW:=Lib.hid (hT.below hB.out (Nat.le_refl _));clear h;go_enter Tryz.func136,Tryz.ntmps136;go_upto_region 1 with (fail)
 generalize w.alloc (.cells #[.slice A1 d.t.us.length c1,.slice A2 d.t.bs.length c2,.slice A3 d.t.ns.length c3,.int .i64 d.now,.slice A5 d.past.length c5] 33)=W at *;obtain ⟨x0,x1,x2,x3,x4⟩:=(blk5 HX.out).1;obtain ⟨i0,hi,hz0,hz1,hz2⟩:=info_parts str_info;have KN:=Lib.hid (implRingFrom_any _ d.t d.now W HT.out hf.t (by omega));have hbd:=Lib.hid (@ring_bd d);have hlen:=(ring_len d).2;have hpos:=Lib.hid (ringTs_pos d);have hres:tellN d 4=orNone ⟨#[44]⟩ (ringTs d):=rfl;have hrt:ringTs d=(ringF (lettersOf d.t) d.now).map numT:=rfl;have hlq:=(ring_len d).1;rw [hrt] at hres hlen hlq hpos;generalize hq:ringF (lettersOf d.t) d.now=q at *;generalize okF (lettersOf d.t) d.now=bb at *;rw [hlq] at hlen;replace hres:=Lib.hid hres;replace hq:=Lib.hid hq;replace hrt:=Lib.hid hrt;replace hlq:=Lib.hid hlq;replace hnm:=Lib.hid hnm;replace hk:=Lib.hid hk;replace hf:=Lib.hid hf;go_wp2_with (fail);refine KN.out.mono ?_;rintro e w1 ⟨v1,rfl,o1,b1⟩;obtain ⟨A,c,rfl,hs⟩:=o1.ints;have hE:=Lib.hid (hB.out.trans (b1.mono hB.out.size));have hT1:=Lib.hid (hTW.out.below b1 (Nat.le_refl _));replace hs:=Lib.hid hs;clear b1 x0 x1 x2 x3 x4 KN o1;obtain ⟨L,hL⟩:∃ L,q.length=L:=⟨_,rfl⟩;rw [hL] at hs;rw [hL] at hlen;have hLL:=hL;replace hL:=Lib.hid hL;rw [hLL];clear hLL;go_wp2
 go_loopw [5,18] (fun s5 s18 wr=>∃ k:Nat,k≤L∧s18=.int .i64 k∧OwnStrs wr w1.heap.size s5 ((q.take k).map numT)∧Below w1.heap.size w1 wr) (fun _ s18 _=>L - (intOf s18).toNat)
 case atStart=>exact ⟨0,Nat.zero_le _,rfl,owns_none _ _ _,Below.refl _ _⟩
 case round =>
  obtain ⟨k,hk,rfl,ho,hBr⟩:=hrel;have hT2:=Lib.hid (hT1.out.below hBr (Nat.le_refl _));have hE1:=Lib.hid (hE.out.trans (hBr.mono hE.out.size))
  by_cases hlt:k < L
  · have hkq:k < q.length:=by rw [hL.out];exact hlt
    have hbx:=hbd.out _ (getD_memW hkq);have hgo:=Lib.hid (numsTo_go hkq);obtain ⟨b,o,rfl,hbl,hc⟩:=(hs.out.below hBr (Nat.le_refl _)).at_ (by omega);have ck:=hc k hlt;generalize q.getD k 0=x at *;have KI:=Lib.hid (itoa_any x (by omega) (by omega) _ hT2.out);generalize numT x=tx at *;have hln:((q.take k).map numT).length≤323:=by rw [List.length_map,List.length_take];omega
    generalize (q.take k).map numT=out at *;obtain ⟨A5,c5,rfl,-⟩:=ho.strs;replace ho:=Lib.hid ho;replace hBr:=Lib.hid hBr;have m1:=Lib.hid (show out.length+1≤maxLen by unfold maxLen;omega);have m2:=Lib.hid (show (out.length+1) * 16≤140737488355328 by omega);clear hc hkq;go_wp2_with (fail);refine KI.out.mono ?_;rintro e w2 ⟨rfl,b2⟩;have ho2:=Lib.hid (ho.out.below b2 (Nat.le_refl _));have hB2:=Lib.hid (hBr.out.trans (b2.mono hBr.out.size));clear b2 KI;go_wp2_with (at_builtin;refine wpList_app _ rfl (.tmp 22) (.tmp 25) _ rfl w1.heap.size 9 i0 _ 16 Tryz.underlying28 hi hz0 hz1 hz2 rfl (.slice A5 out.length c5) _ _ rfl (World.ownsRow.alloc ho2.out _) (some ⟨w2.heap.size,0,none⟩) 1 1 [.string tx] rfl (Src.one (Blk.new _ _ _) rfl) m1.out m2.out (by have:=hB2.out.size;simp;omega) ?_;intro v6 w6 ho6 hg6 _);have hB6:=Lib.hid (below_own (hB2.out.alloc hB2.out.size _) (World.ownsRow.alloc ho2.out _) hg6 (by have:=hB2.out.size;simp;omega) (Nat.le_refl _));have ho7:=Lib.hid (own_snoc4 ho6);clear ho6 hg6;go_wp2
    go_roundw
    case rel=>exact ⟨k+1,by omega,by go_num,by rw [hgo.out];exact ho7.out,hB6.out⟩
    case measure=>simp [intOf];omega
  · obtain rfl:k=L:=by omega
    have htk:(q.take k).map numT=q.map numT:=by rw [← hL.out,List.take_length]
    rw [htk] at ho;obtain ⟨A5,c5,rfl,hst⟩:=ho.strs;have hl3:(q.map numT).length≤1000:=by rw [hlq.out,hL.out];omega
    have KJ:=Lib.hid (implJoined_any A5 c5 (q.map numT) ⟨#[44]⟩ _ hst hl3 (fun y hy=>by have:=hpos.out y hy;omega) (by decide));replace hl3:=Lib.hid hl3;replace ho:=Lib.hid ho;replace hBr:=Lib.hid hBr;replace htk:=Lib.hid htk;clear hst hpos hs;generalize orNone ⟨#[44]⟩ (q.map numT)=res at *;generalize q.map numT=xs at *;generalize xs.length=L2 at *;go_wp2_with (fail);refine KJ.out.mono ?_;rintro e w2 ⟨rfl,b2⟩;have hE2:=Lib.hid (hE1.out.trans (b2.mono hE1.out.size));clear b2;go_wp2;go_ret;exact ⟨ret_str hres.out.symm,hE2.out⟩
end
section
open Go.RowKit Go.WideMaps Go.Maps
def fnElem:Value→Option (DataW Unit × List MemPlace)
 | .func (.func f) a b=>if a.size=0∧b.size=0 then some (.lit (.int .i64 f),[]) else none
 | .nilFunc=>some (.lit (.int .i64 (-1)),[])
 | _=>none
abbrev fnV (f:Nat):Value:=.func (.func f) #[] #[]
def fnD (f:Nat):DataW Unit:=.lit (.int .i64 f)
theorem fnElem_inv {v:Value} {f:Nat} {ps:List MemPlace} (h:fnElem v=some (fnD f,ps)):v=fnV f:=by
 unfold fnElem at h
 split at h
 · rename_i f' a b
   split at h
   · rename_i hc
     obtain ⟨ha,hb⟩:=hc;simp only [fnD,Option.some.injEq,Prod.mk.injEq,DataW.lit.injEq,Lit.int.injEq] at h;obtain ⟨⟨-,hf⟩,-⟩:=h;obtain rfl:f'=f:=Int.ofNat_inj.1 hf;have e1:a=#[]:=Array.size_eq_zero_iff.1 ha;have e2:b=#[]:=Array.size_eq_zero_iff.1 hb;subst e1 e2;rfl
   · cases h
 · simp only [fnD,Option.some.injEq,Prod.mk.injEq,DataW.lit.injEq,Lit.int.injEq] at h;obtain ⟨⟨-,hf⟩,-⟩:=h;omega
 · cases h
theorem fnElem_zero {v:Value} {ps:List MemPlace} (h:fnElem v=some (.lit (.int .i64 (-1)),ps)):v=.nilFunc:=by
 unfold fnElem at h
 split at h
 · split at h
   · simp only [Option.some.injEq,Prod.mk.injEq,DataW.lit.injEq,Lit.int.injEq] at h;obtain ⟨⟨-,hf⟩,-⟩:=h;omega
   · cases h
 · rfl
 · cases h
theorem fnZero_reads:fnElem .nilFunc=some (.lit (.int .i64 (-1)),[]):=rfl
theorem fnZero1 (w:World):(zeroValue 129).run Tryz.prog w=.ok .nilFunc w:=by kernel_rfl
theorem fnZero2 (w:World):(zeroValue 81).run Tryz.prog w=.ok .nilFunc w:=by kernel_rfl
theorem wpList_fn_yes {P:Program} (w:World) {ops:Array Oper} {rest:List Oper} {o:Oper} {a:Act} {Q:Exit→Act→World→Prop} (hg:o.guard=none) (m x:Operand) (t:TypeId) (hop:o.op=Op.lookup t m x true)
 (k e:TypeId) (K:Keyed P k) (ht:P.underlying t=some (.map k e)) (hz:(zeroValue e).run P w=.ok .nilFunc w) (b n:Nat) (D:DataW Unit)
 (hm:a.eval m=.map (some b)) (hown:w.ownsMap P k fnElem b n D) (key:Value) (kl:Lit) (hx:a.eval x=key) (hkey:keyOf P k key=some kl) (f:Nat) (hh:Maps.has D kl=true) (hat:∀ z,D.atKey kl z=fnD f)
 (hK:wpList P ops Q rest (a.put o.dst (.tuple #[fnV f,.bool true])) w):wpList P ops Q (o :: rest) a w :=
 wpList_lookup_own_ok w hg m x t hop k e K ht fnElem hz _ [] fnZero_reads b n D hm hown key kl hx hkey (fun v ps hv=>by
  rw [hat] at hv;rw [fnElem_inv hv,hh];exact hK)
theorem wpList_fn_no {P:Program} (w:World) {ops:Array Oper} {rest:List Oper} {o:Oper} {a:Act} {Q:Exit→Act→World→Prop} (hg:o.guard=none) (m x:Operand) (t:TypeId) (hop:o.op=Op.lookup t m x true)
 (k e:TypeId) (K:Keyed P k) (ht:P.underlying t=some (.map k e)) (hz:(zeroValue e).run P w=.ok .nilFunc w) (b n:Nat) (D:DataW Unit)
 (hm:a.eval m=.map (some b)) (hown:w.ownsMap P k fnElem b n D) (key:Value) (kl:Lit) (hx:a.eval x=key) (hkey:keyOf P k key=some kl) (hh:Maps.has D kl=false)
 (hK:wpList P ops Q rest (a.put o.dst (.tuple #[.nilFunc,.bool false])) w):wpList P ops Q (o :: rest) a w :=
 wpList_lookup_own_ok w hg m x t hop k e K ht fnElem hz _ [] fnZero_reads b n D hm hown key kl hx hkey (fun v ps hv=>by
  rw [atKey_of_not_has hh] at hv;rw [fnElem_zero hv,hh];exact hK)
def askF:Nat→Nat
 | 0=>132
 | 1=>133
 | 2=>134
 | 3=>135
 | 4=>136
 | 5=>137
 | _=>138
def askD (k:Nat):DataW Unit:=plF askWs (fun j=>fnD (askF j)) k
def textWs:List ByteArray:=[readW,spokenW]
def textF:Nat→Nat
 | 0=>139
 | _=>140
def textD (k:Nat):DataW Unit:=plF textWs (fun j=>fnD (textF j)) k
theorem textWs_nodup:textWs.Nodup:=by decide
theorem pl_has {ws:List ByteArray} {f:Nat→DataW Unit} (x:ByteArray):Maps.has (plF ws f ws.length) (keyL x)=decide (place ws x < ws.length):=by
 have h:=plF_has ws f x ws.length (Nat.le_refl _);rw [List.take_length,← place_mem] at h;rw [Bool.eq_iff_iff,h,decide_eq_true_eq]
theorem pl_at {ws:List ByteArray} {f:Nat→DataW Unit} (hd:ws.Nodup) {x:ByteArray} (hx:place ws x < ws.length) (z:DataW Unit):(plF ws f ws.length).atKey (keyL x) z=f (place ws x):=by
 have:=plF_at ws f hd z ws.length (Nat.le_refl _) (place ws x) hx
 rwa [place_at hx] at this
theorem asks_any (j:Nat) (v:Value) (d:Dk) (w:World) (h:Dsk w v d) (hf:d.Fine) (hk:dkOk d=true) (hT:LibT w) :
 Calls Tryz.prog (askF j) #[v] w fun e w'=>e=.returned (.string (tellN d j))∧Below w.heap.size w w':=by
 match j with
 | 0=>exact implNumber_any v d w h hf hk hT
 | 1=>exact implName_any v d w h hf hk hT
 | 2=>exact implWords_any v d w h hf hk hT
 | 3=>exact implCount_any2 v d w h hf hk hT
 | 4=>exact implRing_any v d w h hf hk hT
 | 5=>exact implTurned_any v d w h hf hk hT
 | j+6=>exact implAway_any v d w h hf hk hT
theorem ans_cases (d:Dk) {s:ByteArray} (hp:¬ place askWs s < 7) :
 (cutT1 s=readW∧cutT2 s≠⟨#[]⟩∧ansL d s=tellR d (cutT2 s))∨(cutT1 s=spokenW∧cutT2 s≠⟨#[]⟩∧ansL d s=tellS d (cutT2 s))∨((cutT1 s=readW∨cutT1 s=spokenW)∧cutT2 s=⟨#[]⟩∧ansL d s=whatT)∨((cutT1 s≠readW∧cutT1 s≠spokenW)∧ansL d s=whatT):=by
 have hr:=tail_cut readW_plain s;have hs:=tail_cut spokenW_plain s
 have e0:ansL d s=if tailB readW s=true then tellR d (tailT readW s) else if tailB spokenW s=true then tellS d (tailT spokenW s) else whatT:=by
  unfold ansL;rw [if_neg hp]
 rw [e0];have hne:readW≠spokenW:=by decide
 by_cases h2:cutT2 s=⟨#[]⟩
 · have n1:¬ tailB readW s=true:=fun h=>(hr.1 h).2.2 h2
   have n2:¬ tailB spokenW s=true:=fun h=>(hs.1 h).2.2 h2
   rw [if_neg n1,if_neg n2]
   by_cases h3:cutT1 s=readW
   · exact .inr (.inr (.inl ⟨.inl h3,h2,rfl⟩))
   · by_cases h4:cutT1 s=spokenW
     · exact .inr (.inr (.inl ⟨.inr h4,h2,rfl⟩))
     · exact .inr (.inr (.inr ⟨⟨h3,h4⟩,rfl⟩))
 · by_cases h3:cutT1 s=readW
   · have y:=hr.2 h3 h2;rw [if_pos y,← (hr.1 y).2.1];exact .inl ⟨h3,h2,rfl⟩
   · have n1:¬ tailB readW s=true:=fun h=>h3 (hr.1 h).1
     rw [if_neg n1]
     by_cases h4:cutT1 s=spokenW
     · have y:=hs.2 h4 h2;rw [if_pos y,← (hs.1 y).2.1];exact .inr (.inl ⟨h4,h2,rfl⟩)
     · have n2:¬ tailB spokenW s=true:=fun h=>h4 (hs.1 h).1
       rw [if_neg n2];exact .inr (.inr (.inr ⟨⟨h3,h4⟩,rfl⟩))
theorem cut_size (s:ByteArray):(cutT1 s).size≤s.size∧(cutT2 s).size≤s.size:=by
 have h0:=tl_len s;have e1:(cutT1 s).size=(cut1 (tl s)).1.length:=(tl_len (cutT1 s)).symm;have e2:(cutT2 s).size=(cut1 (tl s)).2.length:=(tl_len (cutT2 s)).symm;rw [e1,e2,← h0];unfold cut1
 split
 · rw [List.length_take,List.length_drop];omega
 · simp
theorem wpList_insert_own {P:Program} (w:World) {ops:Array Oper} {rest:List Oper} {o:Oper} {a:Act} {Q:Exit→Act→World→Prop}
 (hg:o.guard=none) (m x v:Operand) (t:TypeId) (hop:o.op=Op.insert t m x v) (k e:TypeId) (K:Keyed P k) (ht:P.underlying t=some (.map k e)) (b n:Nat) (D:DataW Unit)
 (hm:a.eval m=.map (some b)) (hown:w.ownsMap P k fnElem b n D) (hn:n < maxLen) (key val:Value) (kl:Lit) (hx:a.eval x=key) (hv:a.eval v=val) (hkey:keyOf P k key=some kl)
 (f:Nat) (hval:val=fnV f) (hK:∀ w',w'.ownsMap P k fnElem b (n+1) (D.put kl (fnD f))→w.grownBy w' (some b)→wpList P ops Q rest (a.put o.dst undef) w') :
 wpList P ops Q (o :: rest) a w:=by
 refine wpList_plain hg fun K' hK'=>?_
 obtain ⟨w',hrun,r1,r2⟩:=hown.update K ht hn hkey (show fnElem val=some (fnD f,[]) by rw [hval];rfl);unfold Oper.wp
 simp [execOp,hop,hm,hx,hv,hrun,Result.andThen]
 exact hK' _ _ (hK w' r1 r2)
theorem run_makeMap_none {P:Program} (t k e:TypeId) (_ht:P.underlying t=some (.map k e)) (w:World) :
 (Instr.makeMap t none).run P w=.ok (.map (some w.heap.size)) (w.alloc (.map #[] 0)):=by
 simp [Instr.makeMap]
def Asked (ws:List ByteArray) (F:Nat→Nat) (w:World) (b:Nat):Prop:=∃ n D,w.ownsMap Tryz.prog 9 fnElem b n D∧(∀ x,Maps.has D (keyL x)=decide (place ws x < ws.length))∧∀ x,place ws x < ws.length→∀ z,D.atKey (keyL x) z=fnD (F (place ws x))
theorem asked_all {ws:List ByteArray} {F:Nat→Nat} {w:World} {b:Nat} (hd:ws.Nodup) (h:w.ownsMap Tryz.prog 9 fnElem b ws.length (plF ws (fun j=>fnD (F j)) ws.length)):Asked ws F w b :=
 ⟨_,_,h,fun x=>pl_has x,fun _ hx z=>pl_at hd hx z⟩
set_option maxRecDepth 100000 in
set_option maxHeartbeats 4000000 in
theorem questions_any (w:World) :
 Calls Tryz.prog 105 #[] w fun e w'=>e=.returned (.map (some w.heap.size))∧Asked askWs askF w' w.heap.size∧Below w.heap.size w w':=by
 have hmm:=fun W=>run_makeMap_none (P:=Tryz.prog) 131 9 129 Tryz.underlying131 W
 have o0:Hid ((w.alloc (.map #[] 0)).ownsMap Tryz.prog 9 fnElem w.heap.size 0 (askD 0)):=World.ownsMap_made _ _ _ _;have b0:=Lib.hid ((Below.refl w.heap.size w).alloc (Nat.le_refl _) (.map #[] 0));go_enter Tryz.func105,Tryz.ntmps105
 go_wp2_with (refine wpList_insert_own _ rfl _ _ _ 131 rfl 9 129 keyLaw Tryz.underlying131 w.heap.size 0 _ rfl o0.out (by unfold maxLen;omega) _ _ _ rfl rfl (keyOf_string_mk (P:=Tryz.prog) Tryz.underlying9 (s:=askWs.getD 0 ByteArray.empty) (by decide)) (askF 0) rfl ?_;intro w1 own1 hgr1;have b1:=Lib.hid (b0.out.grown hgr1 b0.out.size (fun j hj=>by cases hj;exact Nat.le_refl _));have o1:Hid (w1.ownsMap Tryz.prog 9 fnElem w.heap.size 1 (askD 1)):=own1;clear own1 hgr1;refine wpList_insert_own _ rfl _ _ _ 131 rfl 9 129 keyLaw Tryz.underlying131 w.heap.size 1 _ rfl o1.out (by unfold maxLen;omega) _ _ _ rfl rfl (keyOf_string_mk (P:=Tryz.prog) Tryz.underlying9 (s:=askWs.getD 1 ByteArray.empty) (by decide)) (askF 1) rfl ?_;intro w2 own2 hgr2;have b2:=Lib.hid (b1.out.grown hgr2 b1.out.size (fun j hj=>by cases hj;exact Nat.le_refl _));have o2:Hid (w2.ownsMap Tryz.prog 9 fnElem w.heap.size 2 (askD 2)):=own2;clear own2 hgr2;refine wpList_insert_own _ rfl _ _ _ 131 rfl 9 129 keyLaw Tryz.underlying131 w.heap.size 2 _ rfl o2.out (by unfold maxLen;omega) _ _ _ rfl rfl (keyOf_string_mk (P:=Tryz.prog) Tryz.underlying9 (s:=askWs.getD 2 ByteArray.empty) (by decide)) (askF 2) rfl ?_;intro w3 own3 hgr3;have b3:=Lib.hid (b2.out.grown hgr3 b2.out.size (fun j hj=>by cases hj;exact Nat.le_refl _));have o3:Hid (w3.ownsMap Tryz.prog 9 fnElem w.heap.size 3 (askD 3)):=own3;clear own3 hgr3;refine wpList_insert_own _ rfl _ _ _ 131 rfl 9 129 keyLaw Tryz.underlying131 w.heap.size 3 _ rfl o3.out (by unfold maxLen;omega) _ _ _ rfl rfl (keyOf_string_mk (P:=Tryz.prog) Tryz.underlying9 (s:=askWs.getD 3 ByteArray.empty) (by decide)) (askF 3) rfl ?_;intro w4 own4 hgr4;have b4:=Lib.hid (b3.out.grown hgr4 b3.out.size (fun j hj=>by cases hj;exact Nat.le_refl _));have o4:Hid (w4.ownsMap Tryz.prog 9 fnElem w.heap.size 4 (askD 4)):=own4;clear own4 hgr4;refine wpList_insert_own _ rfl _ _ _ 131 rfl 9 129 keyLaw Tryz.underlying131 w.heap.size 4 _ rfl o4.out (by unfold maxLen;omega) _ _ _ rfl rfl (keyOf_string_mk (P:=Tryz.prog) Tryz.underlying9 (s:=askWs.getD 4 ByteArray.empty) (by decide)) (askF 4) rfl ?_;intro w5 own5 hgr5;have b5:=Lib.hid (b4.out.grown hgr5 b4.out.size (fun j hj=>by cases hj;exact Nat.le_refl _));have o5:Hid (w5.ownsMap Tryz.prog 9 fnElem w.heap.size 5 (askD 5)):=own5;clear own5 hgr5;refine wpList_insert_own _ rfl _ _ _ 131 rfl 9 129 keyLaw Tryz.underlying131 w.heap.size 5 _ rfl o5.out (by unfold maxLen;omega) _ _ _ rfl rfl (keyOf_string_mk (P:=Tryz.prog) Tryz.underlying9 (s:=askWs.getD 5 ByteArray.empty) (by decide)) (askF 5) rfl ?_;intro w6 own6 hgr6;have b6:=Lib.hid (b5.out.grown hgr6 b5.out.size (fun j hj=>by cases hj;exact Nat.le_refl _));have o6:Hid (w6.ownsMap Tryz.prog 9 fnElem w.heap.size 6 (askD 6)):=own6;clear own6 hgr6;refine wpList_insert_own _ rfl _ _ _ 131 rfl 9 129 keyLaw Tryz.underlying131 w.heap.size 6 _ rfl o6.out (by unfold maxLen;omega) _ _ _ rfl rfl (keyOf_string_mk (P:=Tryz.prog) Tryz.underlying9 (s:=askWs.getD 6 ByteArray.empty) (by decide)) (askF 6) rfl ?_;intro w7 own7 hgr7;have b7:=Lib.hid (b6.out.grown hgr7 b6.out.size (fun j hj=>by cases hj;exact Nat.le_refl _));have o7:Hid (w7.ownsMap Tryz.prog 9 fnElem w.heap.size 7 (askD 7)):=own7;clear own7 hgr7)
 go_ret;exact ⟨rfl,asked_all askWs_nodup o7.out,b7.out⟩
set_option maxRecDepth 100000 in
set_option maxHeartbeats 4000000 in
theorem questionsOfText_any (w:World) :
 Calls Tryz.prog 106 #[] w fun e w'=>e=.returned (.map (some w.heap.size))∧Asked textWs textF w' w.heap.size∧Below w.heap.size w w':=by
 have hmm:=fun W=>run_makeMap_none (P:=Tryz.prog) 134 9 81 Tryz.underlying134 W
 have o0:Hid ((w.alloc (.map #[] 0)).ownsMap Tryz.prog 9 fnElem w.heap.size 0 (textD 0)):=World.ownsMap_made _ _ _ _;have b0:=Lib.hid ((Below.refl w.heap.size w).alloc (Nat.le_refl _) (.map #[] 0));go_enter Tryz.func106,Tryz.ntmps106;go_wp2_with (refine wpList_insert_own _ rfl _ _ _ 134 rfl 9 81 keyLaw Tryz.underlying134 w.heap.size 0 _ rfl o0.out (by unfold maxLen;omega) _ _ _ rfl rfl (keyOf_string_mk (P:=Tryz.prog) Tryz.underlying9 (s:=textWs.getD 0 ByteArray.empty) (by decide)) (textF 0) rfl ?_;intro w1 own1 hgr1;have b1:=Lib.hid (b0.out.grown hgr1 b0.out.size (fun j hj=>by cases hj;exact Nat.le_refl _));have o1:Hid (w1.ownsMap Tryz.prog 9 fnElem w.heap.size 1 (textD 1)):=own1;clear own1 hgr1;refine wpList_insert_own _ rfl _ _ _ 134 rfl 9 81 keyLaw Tryz.underlying134 w.heap.size 1 _ rfl o1.out (by unfold maxLen;omega) _ _ _ rfl rfl (keyOf_string_mk (P:=Tryz.prog) Tryz.underlying9 (s:=textWs.getD 1 ByteArray.empty) (by decide)) (textF 1) rfl ?_;intro w2 own2 hgr2;have b2:=Lib.hid (b1.out.grown hgr2 b1.out.size (fun j hj=>by cases hj;exact Nat.le_refl _));have o2:Hid (w2.ownsMap Tryz.prog 9 fnElem w.heap.size 2 (textD 2)):=own2;clear own2 hgr2);go_ret;exact ⟨rfl,asked_all textWs_nodup o2.out,b2.out⟩
end
section
open Go.RowKit Go.WideMaps Go.Maps
theorem cutT1_size {s:ByteArray} (hs:s.size≤1048576):(cutT1 s).size≤maxLen:=by have:=(cut_size s).1;unfold maxLen;omega
set_option maxRecDepth 100000 in
set_option maxHeartbeats 4000000 in
theorem implAnswer_any (v:Value) (d:Dk) (s:ByteArray) (w:World) (h:Dsk w v d) (hf:d.Fine) (hk:dkOk d=true) (hT:LibT w) (hs:s.size≤1048576) :
 Calls Tryz.prog 52 #[v,.string s] w fun e w'=>e=.returned (.string (ansL d s))∧Below w.heap.size w w':=by
 obtain ⟨A1,c1,A2,c2,A3,c3,A5,c5,rfl,-⟩:=h.ex;have hB:=Lib.hid ((Below.refl w.heap.size w).alloc (Nat.le_refl _) (.cells #[.slice A1 d.t.us.length c1,.slice A2 d.t.bs.length c2,.slice A3 d.t.ns.length c3,.int .i64 d.now,.slice A5 d.past.length c5] 33));have HX:=Lib.hid (Blk.new w 33 #[.slice A1 d.t.us.length c1,.slice A2 d.t.bs.length c2,.slice A3 d.t.ns.length c3,.int .i64 d.now,.slice A5 d.past.length c5]);have HD:=Lib.hid (h.below hB.out (Nat.le_refl _));have hTW:=Lib.hid (hT.below hB.out (Nat.le_refl _));have hcs:=Lib.hid (cut_size s);clear h;go_enter Tryz.func52,Tryz.ntmps52;go_upto_region 1 with (fail)
 generalize w.alloc (.cells #[.slice A1 d.t.us.length c1,.slice A2 d.t.bs.length c2,.slice A3 d.t.ns.length c3,.int .i64 d.now,.slice A5 d.past.length c5] 33)=W at *;go_wp2_with (go_at_call 105;refine (questions_any W).mono ?_;rintro e w1 ⟨rfl,hq,b1⟩;refine Hid.out ?_);obtain ⟨n1,D1,g1,g2,g3⟩:=hq;have hh:Maps.has D1 (keyL s)=decide (place askWs s < 7):=g2 s;have hkey:=Lib.hid (keyOf_string_mk (P:=Tryz.prog) Tryz.underlying9 (s:=s) (by unfold maxLen;omega));have HX1:=Lib.hid (HX.out.below b1 HX.out.lt);have HD1:=Lib.hid (HD.out.below b1 (Nat.le_refl _));have hT1:=Lib.hid (hTW.out.below b1 (Nat.le_refl _));have hB1:=Lib.hid (hB.out.trans (b1.mono hB.out.size));replace g1:=Lib.hid g1;clear b1 g2 hTW HD HX hB hT;refine Lib.hid ?_
 by_cases hp:place askWs s < 7
 · have hat:=Lib.hid (g3 s hp);have hres:ansL d s=tellN d (place askWs s):=by unfold ansL;rw [if_pos hp]
   rw [decide_eq_true hp] at hh;have KA:=Lib.hid (asks_any (place askWs s) _ d w1 HD1.out hf hk hT1.out);obtain ⟨j,hj⟩:∃ j,place askWs s=j:=⟨_,rfl⟩;rw [hj] at hat hres KA hp;replace hj:=Lib.hid hj;replace hres:=Lib.hid hres;replace hh:=Lib.hid hh;replace hk:=Lib.hid hk;replace hf:=Lib.hid hf;clear g3;generalize hM:W.heap.size=M at *;replace hM:=Lib.hid hM;obtain ⟨x0,x1,x2,x3,x4⟩:=(blk5 HX1.out).1;have hj7:j=0∨j=1∨j=2∨j=3∨j=4∨j=5∨j=6:=by omega
   clear hp;rcases hj7 with rfl | rfl | rfl | rfl | rfl | rfl | rfl
   · have KA2:Hid (Calls Tryz.prog 132 #[.agg #[.slice A1 d.t.us.length c1,.slice A2 d.t.bs.length c2,.slice A3 d.t.ns.length c3,.int .i64 d.now,.slice A5 d.past.length c5]] w1 fun e w'=>e=.returned (.string (tellN d 0))∧Below w1.heap.size w1 w'):=KA;have hat2:Hid (∀ z,D1.atKey (keyL s) z=fnD 132):=hat;clear KA hat;generalize tellN d 0=tx at *;go_upto_region 2 with (at_lookup;refine wpList_fn_yes _ rfl _ _ _ rfl 9 129 keyLaw Tryz.underlying131 (fnZero1 _) M _ _ rfl g1.out _ _ rfl hkey.out _ hh.out hat2.out ?_)
     go_wp2_with (go_at_call 132;refine KA2.out.mono ?_;rintro e w2 ⟨rfl,b2⟩;refine Hid.out ?_);have hE:=Lib.hid (hB1.out.trans (b2.mono hB1.out.size));clear b2 KA2 x0 x1 x2 x3 x4;refine Lib.hid ?_;go_wp2;go_ret;exact ⟨ret_str hres.out.symm,hE.out⟩
   · have KA2:Hid (Calls Tryz.prog 133 #[.agg #[.slice A1 d.t.us.length c1,.slice A2 d.t.bs.length c2,.slice A3 d.t.ns.length c3,.int .i64 d.now,.slice A5 d.past.length c5]] w1 fun e w'=>e=.returned (.string (tellN d 1))∧Below w1.heap.size w1 w'):=KA;have hat2:Hid (∀ z,D1.atKey (keyL s) z=fnD 133):=hat;clear KA hat;generalize tellN d 1=tx at *;go_upto_region 2 with (at_lookup;refine wpList_fn_yes _ rfl _ _ _ rfl 9 129 keyLaw Tryz.underlying131 (fnZero1 _) M _ _ rfl g1.out _ _ rfl hkey.out _ hh.out hat2.out ?_)
     go_wp2_with (go_at_call 133;refine KA2.out.mono ?_;rintro e w2 ⟨rfl,b2⟩;refine Hid.out ?_);have hE:=Lib.hid (hB1.out.trans (b2.mono hB1.out.size));clear b2 KA2 x0 x1 x2 x3 x4;refine Lib.hid ?_;go_wp2;go_ret;exact ⟨ret_str hres.out.symm,hE.out⟩
   · have KA2:Hid (Calls Tryz.prog 134 #[.agg #[.slice A1 d.t.us.length c1,.slice A2 d.t.bs.length c2,.slice A3 d.t.ns.length c3,.int .i64 d.now,.slice A5 d.past.length c5]] w1 fun e w'=>e=.returned (.string (tellN d 2))∧Below w1.heap.size w1 w'):=KA;have hat2:Hid (∀ z,D1.atKey (keyL s) z=fnD 134):=hat;clear KA hat;generalize tellN d 2=tx at *;go_upto_region 2 with (at_lookup;refine wpList_fn_yes _ rfl _ _ _ rfl 9 129 keyLaw Tryz.underlying131 (fnZero1 _) M _ _ rfl g1.out _ _ rfl hkey.out _ hh.out hat2.out ?_)
     go_wp2_with (go_at_call 134;refine KA2.out.mono ?_;rintro e w2 ⟨rfl,b2⟩;refine Hid.out ?_);have hE:=Lib.hid (hB1.out.trans (b2.mono hB1.out.size));clear b2 KA2 x0 x1 x2 x3 x4;refine Lib.hid ?_;go_wp2;go_ret;exact ⟨ret_str hres.out.symm,hE.out⟩
   · have KA2:Hid (Calls Tryz.prog 135 #[.agg #[.slice A1 d.t.us.length c1,.slice A2 d.t.bs.length c2,.slice A3 d.t.ns.length c3,.int .i64 d.now,.slice A5 d.past.length c5]] w1 fun e w'=>e=.returned (.string (tellN d 3))∧Below w1.heap.size w1 w'):=KA;have hat2:Hid (∀ z,D1.atKey (keyL s) z=fnD 135):=hat;clear KA hat;generalize tellN d 3=tx at *;go_upto_region 2 with (at_lookup;refine wpList_fn_yes _ rfl _ _ _ rfl 9 129 keyLaw Tryz.underlying131 (fnZero1 _) M _ _ rfl g1.out _ _ rfl hkey.out _ hh.out hat2.out ?_)
     go_wp2_with (go_at_call 135;refine KA2.out.mono ?_;rintro e w2 ⟨rfl,b2⟩;refine Hid.out ?_);have hE:=Lib.hid (hB1.out.trans (b2.mono hB1.out.size));clear b2 KA2 x0 x1 x2 x3 x4;refine Lib.hid ?_;go_wp2;go_ret;exact ⟨ret_str hres.out.symm,hE.out⟩
   · have KA2:Hid (Calls Tryz.prog 136 #[.agg #[.slice A1 d.t.us.length c1,.slice A2 d.t.bs.length c2,.slice A3 d.t.ns.length c3,.int .i64 d.now,.slice A5 d.past.length c5]] w1 fun e w'=>e=.returned (.string (tellN d 4))∧Below w1.heap.size w1 w'):=KA;have hat2:Hid (∀ z,D1.atKey (keyL s) z=fnD 136):=hat;clear KA hat;generalize tellN d 4=tx at *;go_upto_region 2 with (at_lookup;refine wpList_fn_yes _ rfl _ _ _ rfl 9 129 keyLaw Tryz.underlying131 (fnZero1 _) M _ _ rfl g1.out _ _ rfl hkey.out _ hh.out hat2.out ?_)
     go_wp2_with (go_at_call 136;refine KA2.out.mono ?_;rintro e w2 ⟨rfl,b2⟩;refine Hid.out ?_);have hE:=Lib.hid (hB1.out.trans (b2.mono hB1.out.size));clear b2 KA2 x0 x1 x2 x3 x4;refine Lib.hid ?_;go_wp2;go_ret;exact ⟨ret_str hres.out.symm,hE.out⟩
   · have KA2:Hid (Calls Tryz.prog 137 #[.agg #[.slice A1 d.t.us.length c1,.slice A2 d.t.bs.length c2,.slice A3 d.t.ns.length c3,.int .i64 d.now,.slice A5 d.past.length c5]] w1 fun e w'=>e=.returned (.string (tellN d 5))∧Below w1.heap.size w1 w'):=KA;have hat2:Hid (∀ z,D1.atKey (keyL s) z=fnD 137):=hat;clear KA hat;generalize tellN d 5=tx at *;go_upto_region 2 with (at_lookup;refine wpList_fn_yes _ rfl _ _ _ rfl 9 129 keyLaw Tryz.underlying131 (fnZero1 _) M _ _ rfl g1.out _ _ rfl hkey.out _ hh.out hat2.out ?_)
     go_wp2_with (go_at_call 137;refine KA2.out.mono ?_;rintro e w2 ⟨rfl,b2⟩;refine Hid.out ?_);have hE:=Lib.hid (hB1.out.trans (b2.mono hB1.out.size));clear b2 KA2 x0 x1 x2 x3 x4;refine Lib.hid ?_;go_wp2;go_ret;exact ⟨ret_str hres.out.symm,hE.out⟩
   · have KA2:Hid (Calls Tryz.prog 138 #[.agg #[.slice A1 d.t.us.length c1,.slice A2 d.t.bs.length c2,.slice A3 d.t.ns.length c3,.int .i64 d.now,.slice A5 d.past.length c5]] w1 fun e w'=>e=.returned (.string (tellN d 6))∧Below w1.heap.size w1 w'):=KA;have hat2:Hid (∀ z,D1.atKey (keyL s) z=fnD 138):=hat;clear KA hat;generalize tellN d 6=tx at *;go_upto_region 2 with (at_lookup;refine wpList_fn_yes _ rfl _ _ _ rfl 9 129 keyLaw Tryz.underlying131 (fnZero1 _) M _ _ rfl g1.out _ _ rfl hkey.out _ hh.out hat2.out ?_)
     go_wp2_with (go_at_call 138;refine KA2.out.mono ?_;rintro e w2 ⟨rfl,b2⟩;refine Hid.out ?_);have hE:=Lib.hid (hB1.out.trans (b2.mono hB1.out.size));clear b2 KA2 x0 x1 x2 x3 x4;refine Lib.hid ?_;go_wp2;go_ret;exact ⟨ret_str hres.out.symm,hE.out⟩
 · rw [decide_eq_false hp] at hh;have hcase:=Lib.hid (ans_cases d hp);replace hh:=Lib.hid hh;replace hp:=Lib.hid hp;clear g3;generalize hM:W.heap.size=M at *;replace hM:=Lib.hid hM;have KC:=Lib.hid (cut_any s w1 (by omega));go_upto_region 2 with (at_lookup;refine wpList_fn_no _ rfl _ _ _ rfl 9 129 keyLaw Tryz.underlying131 (fnZero1 _) M _ _ rfl g1.out _ _ rfl hkey.out hh.out ?_)
   go_wp2_with (go_at_call 91;refine KC.out.mono ?_;rintro e w2x ⟨bc,rfl,m2,hw2⟩;refine Hid.out ?_);subst hw2;have b2:=below_drewN (Below.refl w1.heap.size w1) m2;have HX2:=Lib.hid (HX1.out.below b2 HX1.out.lt);have HD2:=Lib.hid (HD1.out.below b2 (Nat.le_refl _));have hT2:=Lib.hid (hT1.out.below b2 (Nat.le_refl _));have hB2:=Lib.hid (hB1.out.trans (b2.mono hB1.out.size));have hk1:=cutT1_size hs;have hk2:(cutT2 s).size≤1048576:=by have:=hcs.out.2;omega
   clear b2 HX1 HD1 hT1 hB1 KC g1 hkey hh;generalize w1.drewN m2=W2 at *;generalize cutT1 s=p1 at *;generalize cutT2 s=p2 at *;refine Lib.hid ?_;go_upto_region 5 with (fail)
   go_wp2_with (go_at_call 106;refine (questionsOfText_any W2).mono ?_;rintro e w3 ⟨rfl,hq,b3⟩;refine Hid.out ?_);obtain ⟨n1,D1,g1,g2,g3⟩:=hq;have hh:=g2 p1;have hat:=fun hx=>g3 p1 hx
   have hkey:=Lib.hid (keyOf_string_mk (P:=Tryz.prog) Tryz.underlying9 (s:=p1) hk1);have HX3:=Lib.hid (HX2.out.below b3 HX2.out.lt);have HD3:=Lib.hid (HD2.out.below b3 (Nat.le_refl _));have hT3:=Lib.hid (hT2.out.below b3 (Nat.le_refl _));have hB3:=Lib.hid (hB2.out.trans (b3.mono hB2.out.size));replace g1:=Lib.hid g1;clear b3 g2 g3 HX2 HD2 hT2 hB2;refine Lib.hid ?_;generalize hM2:W2.heap.size=M2 at *;replace hM2:=Lib.hid hM2;obtain ⟨x0,x1,x2,x3,x4⟩:=(blk5 HX3.out).1;rcases hcase.out with ⟨e1,e2,hres⟩ | ⟨e1,e2,hres⟩ | ⟨e1,e2,hres⟩ | ⟨e1,hres⟩
   · subst e1;have hne:p2.toList.isEmpty=false:=by rw [emp_iff];exact decide_eq_false e2
     have hh1:Maps.has D1 (keyL readW)=true:=by rw [hh];decide
     have ha1:∀ z,D1.atKey (keyL readW) z=fnD 139:=hat (by decide);have KA:=Lib.hid (implRead_any _ d p2 hk2 w3 HD3.out hf hk hT3.out);replace hres:=Lib.hid hres;replace hh1:=Lib.hid hh1;replace ha1:=Lib.hid ha1;replace hk:=Lib.hid hk;replace hf:=Lib.hid hf;replace e2:=Lib.hid e2;clear hh hat hcase;go_upto_region 6 with (at_lookup;refine wpList_fn_yes _ rfl _ _ _ rfl 9 81 keyLaw Tryz.underlying134 (fnZero2 _) M2 _ _ rfl g1.out _ _ rfl hkey.out _ hh1.out ha1.out ?_)
     go_wp2_with (fail);refine KA.out.mono ?_;rintro e w4 ⟨rfl,b4⟩;have hE:=Lib.hid (hB3.out.trans (b4.mono hB3.out.size));clear b4 KA x0 x1 x2 x3 x4;go_wp2;go_ret;exact ⟨ret_str hres.out.symm,hE.out⟩
   · subst e1;have hne:p2.toList.isEmpty=false:=by rw [emp_iff];exact decide_eq_false e2
     have hh1:Maps.has D1 (keyL spokenW)=true:=by rw [hh];decide
     have ha1:∀ z,D1.atKey (keyL spokenW) z=fnD 140:=hat (by decide);have KA:=Lib.hid (implSpoken_any _ d p2 hk2 w3 HD3.out hf hk hT3.out);replace hres:=Lib.hid hres;replace hh1:=Lib.hid hh1;replace ha1:=Lib.hid ha1;replace hk:=Lib.hid hk;replace hf:=Lib.hid hf;replace e2:=Lib.hid e2;clear hh hat hcase;go_upto_region 6 with (at_lookup;refine wpList_fn_yes _ rfl _ _ _ rfl 9 81 keyLaw Tryz.underlying134 (fnZero2 _) M2 _ _ rfl g1.out _ _ rfl hkey.out _ hh1.out ha1.out ?_)
     go_wp2_with (fail);refine KA.out.mono ?_;rintro e w4 ⟨rfl,b4⟩;have hE:=Lib.hid (hB3.out.trans (b4.mono hB3.out.size));clear b4 KA x0 x1 x2 x3 x4;go_wp2;go_ret;exact ⟨ret_str hres.out.symm,hE.out⟩
   · have hne:p2.toList.isEmpty=true:=by rw [emp_iff];exact decide_eq_true e2
     rcases e1 with e1 | e1
     · subst e1;have hh1:Maps.has D1 (keyL readW)=true:=by rw [hh];decide
       have ha1:∀ z,D1.atKey (keyL readW) z=fnD 139:=hat (by decide);replace hres:=Lib.hid hres;replace hh1:=Lib.hid hh1;replace ha1:=Lib.hid ha1;replace hk:=Lib.hid hk;replace hf:=Lib.hid hf;replace e2:=Lib.hid e2;clear hh hat hcase;go_upto_region 6 with (at_lookup;refine wpList_fn_yes _ rfl _ _ _ rfl 9 81 keyLaw Tryz.underlying134 (fnZero2 _) M2 _ _ rfl g1.out _ _ rfl hkey.out _ hh1.out ha1.out ?_)
       go_wp2;go_ret;exact ⟨ret_str hres.out.symm,hB3.out⟩
     · subst e1;have hh1:Maps.has D1 (keyL spokenW)=true:=by rw [hh];decide
       have ha1:∀ z,D1.atKey (keyL spokenW) z=fnD 140:=hat (by decide);replace hres:=Lib.hid hres;replace hh1:=Lib.hid hh1;replace ha1:=Lib.hid ha1;replace hk:=Lib.hid hk;replace hf:=Lib.hid hf;replace e2:=Lib.hid e2;clear hh hat hcase;go_upto_region 6 with (at_lookup;refine wpList_fn_yes _ rfl _ _ _ rfl 9 81 keyLaw Tryz.underlying134 (fnZero2 _) M2 _ _ rfl g1.out _ _ rfl hkey.out _ hh1.out ha1.out ?_)
       go_wp2;go_ret;exact ⟨ret_str hres.out.symm,hB3.out⟩
   · have hh1:Maps.has D1 (keyL p1)=false:=by
      rw [hh];refine decide_eq_false fun hx=>?_
      rcases List.mem_cons.1 (place_mem.1 hx) with e | e
      · exact e1.1 e
      · exact e1.2 (List.mem_singleton.1 e)
     replace hres:=Lib.hid hres;replace hh1:=Lib.hid hh1;replace hk:=Lib.hid hk;replace hf:=Lib.hid hf;replace e1:=Lib.hid e1;clear hh hat hcase;go_wp2_with (at_lookup;refine wpList_fn_no _ rfl _ _ _ rfl 9 81 keyLaw Tryz.underlying134 (fnZero2 _) M2 _ _ rfl g1.out _ _ rfl hkey.out hh1.out ?_);go_ret;exact ⟨ret_str hres.out.symm,hB3.out⟩
end
section
open Go.RowKit Go.Sort
structure IL (w:World) (d:Dk) (CS:Array Value) (W:World):Prop where
 box:Blk W w.heap.size 33 CS
 dsk:Dsk W (.agg CS) d
 res:Blk W (w.heap.size+1) 33 #[.slice none 0 0,.slice none 0 0,.slice none 0 0,.int .i64 0,.slice none 0 0]
 low:Below w.heap.size w W
 lib:LibT W
theorem IL.below {w W W':World} {d:Dk} {CS:Array Value} (h:IL w d CS W) (hb:Below W.heap.size W W'):IL w d CS W' :=
 ⟨h.box.below hb h.box.lt,h.dsk.below hb (Nat.le_refl _),h.res.below hb h.res.lt,h.low.trans (hb.mono h.low.size),h.lib.below hb (Nat.le_refl _)⟩
theorem IL.drew {w W:World} {d:Dk} {CS:Array Value} (h:IL w d CS W):IL w d CS W.drew:=h.below (Below.refl _ _).drew
theorem own_drewD {w:World} {B:Nat} {v:Value} {d:Dk} (h:OwnDk w B v d):OwnDk w.drew B v d:=h.below (Below.refl _ _).drew (Nat.le_refl _)
theorem retDkT_drew {w w':World} {d:Dk} {s:ByteArray} {e:Ending} (h:RetDkT w d s e w'):RetDkT w d s e w'.drew:=by
 obtain ⟨v,e,h1,h2⟩:=h;exact ⟨v,e,h1.below (Below.refl _ _).drew (Nat.le_refl _),h2.drew⟩
theorem IL.fin {w W:World} {d:Dk} {CS:Array Value} {v:Value} (h:IL w d CS W) (ho:OwnDk W w.heap.size v d) (s:ByteArray) (u0 u1 u2 u3 u4:Value) :
 RetDkT w d s (.returned (.tuple #[v,.string s])) (((((W.setCell ⟨w.heap.size+1,0,none⟩ u0).setCell ⟨w.heap.size+1,1,none⟩ u1).setCell ⟨w.heap.size+1,2,none⟩ u2).setCell ⟨w.heap.size+1,3,none⟩ u3).setCell ⟨w.heap.size+1,4,none⟩ u4) :=
 ⟨v,rfl,ho.set5 h.res,below_dk5 h.low (by omega)⟩
set_option maxRecDepth 100000 in
set_option maxHeartbeats 8000000 in
theorem implDeskLine_ask (v:Value) (d:Dk) (s:ByteArray) (w:World) (h:Dsk w v d) (hf:d.Fine) (hk:dkOk d=true) (hs:s.size≤1048576) (hr:rdB (tl s)=false) (hT:LibT w) (hE:LibE w) :
 Calls Tryz.prog 14 #[v,.string s] w (RetDkT w d (ansL d s)):=by
 obtain ⟨A1,c1,A2,c2,A3,c3,A5,c5,rfl,-⟩:=h.ex;have hB:=((Below.refl w.heap.size w).alloc (Nat.le_refl _) (.cells #[.slice A1 d.t.us.length c1,.slice A2 d.t.bs.length c2,.slice A3 d.t.ns.length c3,.int .i64 d.now,.slice A5 d.past.length c5] 33)).alloc (by simp) (.cells #[.slice none 0 0,.slice none 0 0,.slice none 0 0,.int .i64 0,.slice none 0 0] 33)
 have S:IL w d #[.slice A1 d.t.us.length c1,.slice A2 d.t.bs.length c2,.slice A3 d.t.ns.length c3,.int .i64 d.now,.slice A5 d.past.length c5] ((w.alloc (.cells #[.slice A1 d.t.us.length c1,.slice A2 d.t.bs.length c2,.slice A3 d.t.ns.length c3,.int .i64 d.now,.slice A5 d.past.length c5] 33)).alloc (.cells #[.slice none 0 0,.slice none 0 0,.slice none 0 0,.int .i64 0,.slice none 0 0] 33)) :=
  ⟨(Blk.new w 33 #[.slice A1 d.t.us.length c1,.slice A2 d.t.bs.length c2,.slice A3 d.t.ns.length c3,.int .i64 d.now,.slice A5 d.past.length c5]).alloc _,h.below hB (Nat.le_refl _),blk_new_at _ (by simp),hB,hT.below hB (Nat.le_refl _)⟩
 have hE0:=hE.below hB (Nat.le_refl _);have K1:=Lib.hid (implDeskOk_any _ d _ S.dsk hf);rw [hk] at K1;have KR:=implReadDeed_any s _ (by omega) S.lib hE0;replace S:=Lib.hid S
 have KC:∀ W2,IL w d #[.slice A1 d.t.us.length c1,.slice A2 d.t.bs.length c2,.slice A3 d.t.ns.length c3,.int .i64 d.now,.slice A5 d.past.length c5] W2→Calls Tryz.prog 51 #[.agg #[.slice A1 d.t.us.length c1,.slice A2 d.t.bs.length c2,.slice A3 d.t.ns.length c3,.int .i64 d.now,.slice A5 d.past.length c5]] W2 (fun e V=>∃ Y1 j1 Y2 j2 Y3 j3 Y5 j5,e=.returned (.agg #[.slice Y1 d.t.us.length j1,.slice Y2 d.t.bs.length j2,.slice Y3 d.t.ns.length j3,.int .i64 d.now,.slice Y5 d.past.length j5])∧OwnDk V w.heap.size (.agg #[.slice Y1 d.t.us.length j1,.slice Y2 d.t.bs.length j2,.slice Y3 d.t.ns.length j3,.int .i64 d.now,.slice Y5 d.past.length j5]) d∧IL w d #[.slice A1 d.t.us.length c1,.slice A2 d.t.bs.length c2,.slice A3 d.t.ns.length c3,.int .i64 d.now,.slice A5 d.past.length c5] V):=fun W2 S2=>by
  refine (copiedDesk_any _ d W2 S2.dsk hf).mono ?_;rintro e V ⟨v1,rfl,o1,hb⟩;obtain ⟨Y1,j1,Y2,j2,Y3,j3,Y5,j5,rfl,-⟩:=o1.own.dsk.ex;exact ⟨Y1,j1,Y2,j2,Y3,j3,Y5,j5,rfl,o1.own.mono S2.low.size,S2.below hb⟩
 have KA:∀ W2,IL w d #[.slice A1 d.t.us.length c1,.slice A2 d.t.bs.length c2,.slice A3 d.t.ns.length c3,.int .i64 d.now,.slice A5 d.past.length c5] W2→Calls Tryz.prog 52 #[.agg #[.slice A1 d.t.us.length c1,.slice A2 d.t.bs.length c2,.slice A3 d.t.ns.length c3,.int .i64 d.now,.slice A5 d.past.length c5],.string s] W2 (fun e V=>e=.returned (.string (ansL d s))∧Below W2.heap.size W2 V∧IL w d #[.slice A1 d.t.us.length c1,.slice A2 d.t.bs.length c2,.slice A3 d.t.ns.length c3,.int .i64 d.now,.slice A5 d.past.length c5] V):=fun W2 S2=>by
  refine (implAnswer_any _ d s W2 S2.dsk hf hk S2.lib hs).mono ?_;rintro e V ⟨rfl,hb⟩;exact ⟨rfl,hb,S2.below hb⟩
 obtain ⟨tR,htR⟩:∃ x,ansL d s=x:=⟨_,rfl⟩;rw [htR] at KA;rw [htR];replace htR:=Lib.hid htR;replace KC:=Lib.hid KC;replace KA:=Lib.hid KA;have KRD:=fun W (hT:LibT W) (hE:LibE W)=>implReadDeed_any s W (by omega) hT hE
 unfold RetRd at KRD;rw [hr] at KRD;replace hE0:=Lib.hid hE0;replace hf:=Lib.hid hf;replace hk:=Lib.hid hk;replace hr:=Lib.hid hr;generalize rdV (tl s)=a at *;obtain ⟨xk,xn⟩:=a
 dsimp only at KRD
 replace KRD:=Lib.hid KRD;clear h hB KR hT hE;go_enter Tryz.func14,Tryz.ntmps14;go_upto_region 1 with (fail)
 generalize (w.alloc (.cells #[.slice A1 d.t.us.length c1,.slice A2 d.t.bs.length c2,.slice A3 d.t.ns.length c3,.int .i64 d.now,.slice A5 d.past.length c5] 33)).alloc (.cells #[.slice none 0 0,.slice none 0 0,.slice none 0 0,.int .i64 0,.slice none 0 0] 33)=W at *;obtain ⟨⟨x0,x1,x2,x3,x4⟩,-⟩:=blk5 S.out.box;go_wp2_with (go_at_call 23;refine K1.out.mono ?_;rintro e w1 ⟨rfl,b1⟩;refine Hid.out ?_);replace S:=Lib.hid (S.out.below b1);have hE1:=Lib.hid (hE0.out.below b1 (Nat.le_refl _));clear x0 x1 x2 x3 x4 K1 b1 hE0;refine Lib.hid ?_;have KR2:=Lib.hid (KRD.out w1 S.out.lib hE1.out);go_wp2_with (go_at_call 45;refine KR2.out.mono ?_;rintro e w2 ⟨rfl,b2⟩;refine Hid.out ?_);have hba:=b2.alloc b2.size (.cells #[.int .i64 xk,.int .i64 xn] 41);replace S:=Lib.hid (S.out.below hba);clear hba b2 KR2 KRD hE1;refine Lib.hid ?_;go_upto_region 5 with (fail)
 generalize w2.alloc (.cells #[.int .i64 xk,.int .i64 xn] 41)=W2 at *;obtain ⟨⟨x0,x1,x2,x3,x4⟩,-⟩:=blk5 S.out.box;obtain ⟨⟨z0,z1,z2,z3,z4⟩,⟨e0,e1,e2,e3,e4⟩⟩:=blk5 S.out.res
 go_region_with (first
  | (go_at_call 51;refine (KC.out _ (by repeat (first | exact S.out | exact E6.out | refine IL.drew ?_))).mono ?_;rintro e V5 ⟨Y1,j1,Y2,j2,Y3,j3,Y5,j5,rfl,hO,E5⟩;replace hO:=Lib.hid hO;obtain ⟨⟨x0,x1,x2,x3,x4⟩,-⟩:=blk5 E5.box;obtain ⟨⟨z0,z1,z2,z3,z4⟩,⟨e0,e1,e2,e3,e4⟩⟩:=blk5 E5.res;replace E5:=Lib.hid E5;go_simp)
  | (go_at_call 52;refine (KA.out _ (by repeat (first | exact S.out | exact E5.out | refine IL.drew ?_))).mono ?_;rintro e V6 ⟨rfl,bA,E6⟩;(try (have hO2:OwnDk V6 w.heap.size (.agg #[.slice Y1 d.t.us.length j1,.slice Y2 d.t.bs.length j2,.slice Y3 d.t.ns.length j3,.int .i64 d.now,.slice Y5 d.past.length j5]) d:=(by first | exact hO.out.below bA (Nat.le_refl _) | exact (own_drewD hO.out).below bA (Nat.le_refl _) | exact (own_drewD (own_drewD hO.out)).below bA (Nat.le_refl _));replace hO:=Lib.hid hO2;clear hO2));clear bA;obtain ⟨⟨x0,x1,x2,x3,x4⟩,-⟩:=blk5 E6.box;obtain ⟨⟨z0,z1,z2,z3,z4⟩,⟨e0,e1,e2,e3,e4⟩⟩:=blk5 E6.res;replace E6:=Lib.hid E6;go_simp))
 all_goals
  go_wp2;refine bodyPost_ret (v:=.tuple #[.agg #[.slice Y1 d.t.us.length j1,.slice Y2 d.t.bs.length j2,.slice Y3 d.t.ns.length j3,.int .i64 d.now,.slice Y5 d.past.length j5],.string tR]) (by simp [results,Tryz.results14,go_sem,z0,z1,z2,z3,z4]) rfl ?_
  first
   | exact E6.out.fin hO.out _ _ _ _ _ _
   | exact E5.out.fin hO.out _ _ _ _ _ _
   | exact E6.out.drew.fin (own_drewD hO.out) _ _ _ _ _ _
   | exact E5.out.drew.fin (own_drewD hO.out) _ _ _ _ _ _
   | exact retDkT_drew (E6.out.fin hO.out _ _ _ _ _ _)
   | exact retDkT_drew (E5.out.fin hO.out _ _ _ _ _ _)
set_option maxRecDepth 100000 in
set_option maxHeartbeats 8000000 in
theorem implDeskLine_no (v:Value) (d:Dk) (s:ByteArray) (w:World) (h:Dsk w v d) (hf:d.Fine) (hk:dkOk d=false) :
 Calls Tryz.prog 14 #[v,.string s] w (RetDkT w noDk ⟨#[]⟩):=by
 obtain ⟨A1,c1,A2,c2,A3,c3,A5,c5,rfl,-⟩:=h.ex;have hB:=((Below.refl w.heap.size w).alloc (Nat.le_refl _) (.cells #[.slice A1 d.t.us.length c1,.slice A2 d.t.bs.length c2,.slice A3 d.t.ns.length c3,.int .i64 d.now,.slice A5 d.past.length c5] 33)).alloc (by simp) (.cells #[.slice none 0 0,.slice none 0 0,.slice none 0 0,.int .i64 0,.slice none 0 0] 33);have HX:=(Blk.new w 33 #[.slice A1 d.t.us.length c1,.slice A2 d.t.bs.length c2,.slice A3 d.t.ns.length c3,.int .i64 d.now,.slice A5 d.past.length c5]).alloc (.cells #[.slice none 0 0,.slice none 0 0,.slice none 0 0,.int .i64 0,.slice none 0 0] 33);have HZ:Blk ((w.alloc (.cells #[.slice A1 d.t.us.length c1,.slice A2 d.t.bs.length c2,.slice A3 d.t.ns.length c3,.int .i64 d.now,.slice A5 d.past.length c5] 33)).alloc (.cells #[.slice none 0 0,.slice none 0 0,.slice none 0 0,.int .i64 0,.slice none 0 0] 33)) (w.heap.size+1) 33 #[.slice none 0 0,.slice none 0 0,.slice none 0 0,.int .i64 0,.slice none 0 0]:=blk_new_at _ (by simp);have K1:=Lib.hid (implDeskOk_any _ d _ (h.below hB (Nat.le_refl _)) hf);rw [hk] at K1;replace hB:=Lib.hid hB;replace HX:=Lib.hid HX;replace HZ:=Lib.hid HZ;replace hk:=Lib.hid hk;clear h hf;go_enter Tryz.func14,Tryz.ntmps14;go_upto_region 1 with (fail)
 generalize (w.alloc (.cells #[.slice A1 d.t.us.length c1,.slice A2 d.t.bs.length c2,.slice A3 d.t.ns.length c3,.int .i64 d.now,.slice A5 d.past.length c5] 33)).alloc (.cells #[.slice none 0 0,.slice none 0 0,.slice none 0 0,.int .i64 0,.slice none 0 0] 33)=W at *;obtain ⟨⟨x0,x1,x2,x3,x4⟩,-⟩:=blk5 HX.out;go_wp2_with (go_at_call 23;refine K1.out.mono ?_;rintro e w1 ⟨rfl,b1⟩;refine Hid.out ?_);have hB1:=Lib.hid (hB.out.trans (b1.mono hB.out.size));have HZ1:=Lib.hid (HZ.out.below b1 HZ.out.lt);clear x0 x1 x2 x3 x4 K1 b1 HX HZ hB;refine Lib.hid ?_;obtain ⟨⟨z0,z1,z2,z3,z4⟩,⟨e0,e1,e2,e3,e4⟩⟩:=blk5 HZ1.out;have HF:=fun u0 u1 u2 u3 u4=>(own_noDk w1 w.heap.size).set5 (u0:=u0) (u1:=u1) (u2:=u2) (u3:=u3) (u4:=u4) HZ1.out
 have HG:=fun u0 u1 u2 u3 u4=>below_dk5 (u0:=u0) (u1:=u1) (u2:=u2) (u3:=u3) (u4:=u4) (g:=w.heap.size+1) hB1.out (by omega)
 replace HF:=Lib.hid HF;replace HG:=Lib.hid HG;clear HZ1 hB1;go_wp2;refine bodyPost_ret (v:=.tuple #[.agg #[.slice none 0 0,.slice none 0 0,.slice none 0 0,.int .i64 0,.slice none 0 0],.string ⟨#[]⟩]) (by simp [results,Tryz.results14,go_sem,z0,z1,z2,z3,z4]) rfl ?_;exact ⟨_,rfl,HF.out _ _ _ _ _,HG.out _ _ _ _ _⟩
theorem implDeskLine_any (v:Value) (d:Dk) (s:ByteArray) (w:World) (h:Dsk w v d) (hf:d.Fine) (hs:s.size≤1048576) (hT:LibT w) (hE:LibE w) :
 Calls Tryz.prog 14 #[v,.string s] w (RetDkT w (lineP d s).1 (lineP d s).2):=by
 cases hk:dkOk d
 · rw [lineP_no hk];exact implDeskLine_no v d s w h hf hk
 · cases hr:rdB (tl s)
   · rw [lineP_ask hk hr];exact implDeskLine_ask v d s w h hf hk hs hr hT hE
   · rw [lineP_deed hk hr];exact implDeskLine_deed v d s w h hf hk (by omega) hr hT hE
end
end Go.Proofs.YtmhgpbfogdoaeaaGreatDoor
