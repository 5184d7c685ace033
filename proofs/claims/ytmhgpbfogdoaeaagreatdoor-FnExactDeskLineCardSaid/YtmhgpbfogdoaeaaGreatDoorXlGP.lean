/-
  GP: P3a P3b Join P3f P4a P4b P4c P4d P4e P4f P4g.
-/
import Derived.Test.YtmhgpbfogdoaeaaGreatDoorXlGN
import Derived.Shelf.Strings.OnBuilder
import Derived.Test.YtmhgpbfogdoaeaaGreatDoorXlGA
import Derived.Lib.SliceRun
import Derived.RegionTactic
import Derived.BigRegion
import Derived.Laws.EntriesVeiled
namespace Go.Proofs.YtmhgpbfogdoaeaaGreatDoor
section
open Go.RowKit
theorem base_one {bs:List Int} (hb:basesOk bs=true) {n:Nat} (h:topOf bs n=0):baseN bs n=1:=by
 unfold baseN;rw [h,bases_one hb];rfl
theorem base_cast {bs:List Int} (hb:basesOk bs=true) {n:Nat}:(baseN bs n:Int)=bs.getD (topOf bs n) 0∧topOf bs n < bs.length∧1≤baseN bs n:=by
 by_cases h:topOf bs n=0
 · rw [base_one hb h,h,bases_one hb];have:=bases_len hb;exact ⟨rfl,by omega,Nat.le_refl _⟩
 · obtain ⟨h1,_,h3,h4,_⟩:=base_facts hb h;exact ⟨h3,h4,by omega⟩
set_option maxRecDepth 100000 in
set_option maxHeartbeats 1000000 in
theorem implTaken_any (A:Option Addr) (c:Nat) (bs:List Int) (n:Nat) (w:World) (hI:Ints w .i64 A bs.length c bs) (hb:basesOk bs=true) (hn:1≤n) (hn2:n≤99999) :
 Calls Tryz.prog 170 #[.slice A bs.length c,.int .i64 n] w fun e w'=>e=.returned (.tuple #[.int .i64 (topOf bs n),.int .i64 ((n / baseN bs n:Nat):Int),.bool (decide (n / baseN bs n < baseN bs n))])∧∃ m,w'=w.drewN m:=by
 have hbl:=bases_len hb;obtain ⟨b,o,rfl,-,hc⟩:=hI.at_ (by omega);replace hc:=Lib.hid hc;replace hb:=Lib.hid hb;clear hI;have hw0:IntKind.i64.wrap ((bs.length:Int) - 1)=(bs.length:Int) - 1:=IntWalk.i64_in _ (by omega);go_enter Tryz.func170,Tryz.ntmps170;go_wp2
 go_loop [7] (fun s7=>∃ k:Nat,k < bs.length∧s7=.int .i64 k∧∀ i,k < i→i < bs.length→(n:Int) < bs.getD i 0) (fun i=>(intOf i).toNat)
 case atStart=>exact ⟨bs.length - 1,by omega,by rw [Int.natCast_sub (by omega)];rfl,fun i h1 h2=>by omega⟩
 case round =>
  obtain ⟨k,hk,rfl,hab⟩:=hrel;have ck:=hc.out k hk;have px:=bases_pos hb.out k hk;replace hab:=Lib.hid hab
  by_cases hx:(n:Int) < bs.getD k 0
  · have hk0:k≠0:=by
     rintro rfl;rw [bases_one hb.out] at hx;omega
    have hw1:IntKind.i64.wrap ((k:Int) - 1)=(k:Int) - 1:=IntWalk.i64_in _ (by omega)
    have HR:∀ i,k - 1 < i→i < bs.length→(n:Int) < bs.getD i 0:=fun i h1 h2=>by
     by_cases e:i=k
     · subst e;exact hx
     · exact hab.out i (by omega) h2
    replace HR:=Lib.hid HR;generalize bs.getD k 0=x at *;go_wp2
    go_round
    case rel=>exact ⟨k - 1,by omega,by rw [Int.natCast_sub (by omega)];rfl,HR.out⟩
    case measure=>simp [intOf];omega
  · have ht:topOf bs n=k:=by
     by_cases hk0:k=0
     · subst hk0;exact topOf_zero fun i h1 h2=>hab.out i h1 h2
     · exact topOf_eq (by omega) hk (by omega) (fun i h1 h2=>hab.out i h1 h2)
    obtain ⟨f3,-,f1⟩:=base_cast hb.out (n:=n);rw [ht] at f3;have e1:(n:Int) / (baseN bs n:Int)=((n / baseN bs n:Nat):Int):=rfl;have d1:n / baseN bs n≤n:=Nat.div_le_self _ _;rw [f3] at e1;have hlt:(((n / baseN bs n:Nat):Int) < bs.getD k 0) ↔ n / baseN bs n < baseN bs n:=by rw [← f3];omega
    generalize hq:n / baseN bs n=q at *;generalize hy:baseN bs n=y at *;replace hq:=Lib.hid hq;replace hy:=Lib.hid hy;generalize bs.getD k 0=x at *;have q0:(0:Int)≤(n:Int) / x:=by rw [e1];omega
    have q1:(n:Int) / x≤99999:=by rw [e1];omega
    replace ht:=Lib.hid ht;replace e1:=Lib.hid e1;go_upto_region 5 with (fail)
    rw [e1.out];clear q0 q1
    by_cases hl:q < y
    · have hl':(q:Int) < x:=hlt.2 hl;have hd:decide ((q:Int) < x)=true:=decide_eq_true hl';have hd2:decide (q < y)=true:=decide_eq_true hl;replace hlt:=Lib.hid hlt;replace hd2:=Lib.hid hd2;go_wp2
      go_quiet (fail)
      go_wp2
      all_goals
       go_ret3
       exact ⟨by rw [ht.out,hy.out,hq.out,hd2.out];rfl,_,rfl⟩
    · have hl':¬ (q:Int) < x:=fun h=>hl (hlt.1 h)
      have hd:decide ((q:Int) < x)=false:=decide_eq_false hl';have hd2:decide (q < y)=false:=decide_eq_false hl;replace hlt:=Lib.hid hlt;replace hd2:=Lib.hid hd2;go_wp2
      go_quiet (fail)
      go_wp2
      all_goals
       go_ret3
       exact ⟨by rw [ht.out,hy.out,hq.out,hd2.out];rfl,_,rfl⟩
set_option maxRecDepth 100000 in
set_option maxHeartbeats 2000000 in
theorem implAskable_any (v:Value) (t:Tg) (n:Int) (w:World) (h:Tng w v t) (hf:t.Fine) (hn:-9223372036854775808≤n∧n≤9223372036854775807) :
 Calls Tryz.prog 148 #[v,.int .i64 n] w fun e w'=>e=.returned (.bool (okN t n))∧Below w.heap.size w w':=by
 obtain ⟨A1,c1,A2,c2,A3,c3,rfl,-⟩:=h.ex;have hB:=(Below.refl w.heap.size w).alloc (Nat.le_refl _) (.cells #[.slice A1 t.us.length c1,.slice A2 t.bs.length c2,.slice A3 t.ns.length c3] 31);have HX:=Blk.new w 31 #[.slice A1 t.us.length c1,.slice A2 t.bs.length c2,.slice A3 t.ns.length c3];have HT:=h.below hB (Nat.le_refl _);have K1:=Lib.hid (implTongueOk_any _ t _ HT hf);replace hB:=Lib.hid hB;replace HX:=Lib.hid HX;clear h hf HT;go_enter Tryz.func148,Tryz.ntmps148;go_upto_region 1 with (fail)
 generalize w.alloc (.cells #[.slice A1 t.us.length c1,.slice A2 t.bs.length c2,.slice A3 t.ns.length c3] 31)=W at *;obtain ⟨x0,x1,x2,-,-,-⟩:=blk3 HX.out;cases hok:t.ok
 · rw [hok] at K1;have hno:okN t n=false:=by unfold okN;rw [hok];rfl
   replace hno:=Lib.hid hno;go_wp2_with (fail);refine K1.out.mono ?_;rintro e w1 ⟨rfl,b1⟩;have hB1:=Lib.hid (hB.out.trans (b1.mono hB.out.size));clear b1;go_wp2;go_ret;exact ⟨ret_bool (by rw [hno.out];try (exact decide_eq_false (by omega))),hB1.out⟩
 · rw [hok] at K1;have hyes:okN t n=decide (1≤n∧n≤99999):=by unfold okN;rw [hok];rfl
   replace hyes:=Lib.hid hyes;clear hok
   by_cases h1:1≤n
   · by_cases h2:n≤99999
     · have hno:=Lib.hid (hyes.out.trans (decide_eq_true (And.intro h1 h2)));go_wp2_with (fail);refine K1.out.mono ?_;rintro e w1 ⟨rfl,b1⟩;have hB1:=Lib.hid (hB.out.trans (b1.mono hB.out.size));clear b1;go_wp2;go_ret;exact ⟨ret_bool (by rw [hno.out];try (exact decide_eq_false (by omega))),hB1.out⟩
     · have hno:=Lib.hid (hyes.out.trans (decide_eq_false (fun h=>h2 h.2)));go_wp2_with (fail);refine K1.out.mono ?_;rintro e w1 ⟨rfl,b1⟩;have hB1:=Lib.hid (hB.out.trans (b1.mono hB.out.size));clear b1;go_wp2;go_ret;exact ⟨ret_bool (by rw [hno.out];try (exact decide_eq_false (by omega))),hB1.out⟩
   · have hno:=Lib.hid (hyes.out.trans (decide_eq_false (fun h=>h1 h.1)));go_wp2_with (fail);refine K1.out.mono ?_;rintro e w1 ⟨rfl,b1⟩;have hB1:=Lib.hid (hB.out.trans (b1.mono hB.out.size));clear b1;go_wp2;go_ret;exact ⟨ret_bool (by rw [hno.out];try (exact decide_eq_false (by omega))),hB1.out⟩
end
section
open Go.RowKit
def RowOn (w:World) (u u':Value):Prop:=u'.ownBlock=u.ownBlock∨∃ g,u'.ownBlock=some g∧w.heap.size≤g
theorem RowOn.refl (w:World) (u:Value):RowOn w u u:=.inl rfl
theorem RowOn.trans {w w1:World} {u u1 u2:Value} (h:RowOn w u u1) (hs:w.heap.size≤w1.heap.size) (h2:RowOn w1 u1 u2):RowOn w u u2:=by
 rcases h2 with e | ⟨g,e,hg⟩
 · rcases h with e1 | ⟨g1,e1,h1⟩
   · exact .inl (e.trans e1)
   · exact .inr ⟨g1,e.trans e1,h1⟩
 · exact .inr ⟨g,e,by omega⟩
theorem grown_on {w w1 w2:World} {u u1:Value} (h:w.grownBy w1 u.ownBlock) (ho:RowOn w u u1) (h2:w1.grownBy w2 u1.ownBlock):w.grownBy w2 u.ownBlock :=
 ⟨h2.os.trans h.os,h2.tape.trans h.tape,h2.output.trans h.output,Nat.le_trans h.size h2.size,fun k hk hne=>(h2.block k (Nat.lt_of_lt_of_le hk h.size) (by
  rcases ho with e | ⟨g,e,hg⟩
  · rw [e];exact hne
  · rw [e];intro e2;cases e2;omega)).trans (h.block k hk hne)⟩
theorem rowOn_app {w w1:World} {u u':Value} (hs:w.heap.size≤w1.heap.size) (h:u'.ownBlock=u.ownBlock∨u'.ownBlock=some w1.heap.size):RowOn w u u':=by
 rcases h with e | e
 · exact .inl e
 · exact .inr ⟨_,e,hs⟩
def RetWith (w:World) (B:Nat) (u:Value) (xs nm:List ByteArray) (e:Ending) (w':World):Prop :=
 ∃ u',e=.returned (.tuple #[u',.bool (decide (nm≠[]))])∧w.grownBy w' u.ownBlock∧(nm=[]→u'=.slice none 0 0)∧(nm≠[]→OwnStrs w' B u' (xs++nm)∧RowOn w u u')
theorem with_no {w w':World} {B:Nat} {u:Value} {xs nm:List ByteArray} (h:nm=[]) (hg:w.grownBy w' u.ownBlock):RetWith w B u xs nm (.returned (.tuple #[.slice none 0 0,.bool false])) w' :=
 ⟨_,by rw [decide_eq_false (fun hn=>hn h)],hg,fun _=>rfl,fun hn=>absurd h hn⟩
theorem with_yes {w w':World} {B:Nat} {u u':Value} {xs nm:List ByteArray} (h:nm≠[]) (hg:w.grownBy w' u.ownBlock) (ho:OwnStrs w' B u' (xs++nm)) (hr:RowOn w u u'):RetWith w B u xs nm (.returned (.tuple #[u',.bool true])) w' :=
 ⟨_,by rw [decide_eq_true h],hg,fun e=>absurd e h,fun _=>⟨ho,hr⟩⟩
theorem top_unit {t:Tg} (hok:t.ok=true) {n:Nat} (h:n≤t.us.length):topOf t.bs n=0:=by
 have hs:=ok_shape hok
 exact topOf_zero fun i h1 hl=>by
  have h2:=hs.two (by omega)
  by_cases e:i=1
  · subst e;omega
  · have:=bases_mono hs.bs 1 i (by omega) hl;omega
theorem name_of_unit {t:Tg} (hok:t.ok=true) {n:Nat} (h:n≤t.us.length):nameT t n=[t.us.getD (n - 1) ByteArray.empty]:=by
 unfold nameT;rw [name_unit (top_unit hok h),if_neg (by omega)]
theorem name_behind {t:Tg} {n:Nat} (h:¬ n≤t.us.length) (ht:topOf t.bs n=0):nameT t n=[]:=by
 unfold nameT;rw [name_unit ht,if_pos (by omega)]
set_option maxRecDepth 100000 in
set_option maxHeartbeats 1000000 in
theorem implWith_any {t:Tg} (hok:t.ok=true) {W0:World} {v:Value} (hT:Tng W0 v t) {B:Nat} (hWB:W0.heap.size≤B):∀ n:Nat,1≤n→n≤99999→∀ (u:Value) (xs:List ByteArray) (w:World),Below W0.heap.size W0 w→B≤w.heap.size→OwnStrs w B u xs→xs.length+n≤1000000 →
 Calls Tryz.prog 149 #[u,v,.int .i64 n] w (RetWith w B u xs (nameT t n)):=by
 obtain ⟨i0,hi,hz0,hz1,hz2⟩:=info_parts str_info;obtain ⟨A1,c1,A2,c2,A3,c3,rfl,S1,I2,S3⟩:=hT.ex;have hsh:=ok_shape hok;have hul:=hsh.us;have hbs:=hsh.bs;have hbl:=bases_len hbs;have hns:=hsh.ns;have HL:=Lib.hid (name_len t.us t.bs t.ns hbs);have HU:=Lib.hid (fun m (h:m≤t.us.length)=>name_of_unit hok h);have HV:=Lib.hid (fun m (h:¬ m≤t.us.length) (ht:topOf t.bs m=0)=>name_behind h ht);have HS1:=Lib.hid (S1.at_ (by omega));have HI2:=Lib.hid (I2.at_ (by omega));have HI:=Lib.hid (fun W (h:Below W0.heap.size W0 W)=>I2.below h (Nat.le_refl _));replace hbs:=Lib.hid hbs;clear hsh hT;intro n
 induction n using Nat.strongRecOn with
 | _ n ih =>
  intro hn1 hn2 u xs w hw hBw ho hxl;have IH:=Lib.hid (fun m (h1:m < n) (h2:1≤m)=>ih m h1 h2 (by omega));clear ih;obtain ⟨Au,cu,rfl,-⟩:=ho.strs;have hB:=hw.alloc hw.size (.cells #[.slice A1 t.us.length c1,.slice A2 t.bs.length c2,.slice A3 t.ns.length c3] 31);have HX:=Blk.new w 31 #[.slice A1 t.us.length c1,.slice A2 t.bs.length c2,.slice A3 t.ns.length c3];have hG:=grown_of_below (Value.ownBlock (.slice Au xs.length cu)) ((Below.refl w.heap.size w).alloc (Nat.le_refl _) (.cells #[.slice A1 t.us.length c1,.slice A2 t.bs.length c2,.slice A3 t.ns.length c3] 31));have hO:=own_below ho ((Below.refl w.heap.size w).alloc (Nat.le_refl _) (.cells #[.slice A1 t.us.length c1,.slice A2 t.bs.length c2,.slice A3 t.ns.length c3] 31)) (Nat.le_refl _);have hlt0:=ho.lt;have hsz:w.heap.size+1=(w.alloc (.cells #[.slice A1 t.us.length c1,.slice A2 t.bs.length c2,.slice A3 t.ns.length c3] 31)).heap.size:=by simp
  replace hlt0:=Lib.hid hlt0;replace hB:=Lib.hid hB;replace HX:=Lib.hid HX;replace hG:=Lib.hid hG;replace hO:=Lib.hid hO;replace hw:=Lib.hid hw;clear ho;go_enter Tryz.func149,Tryz.ntmps149;go_upto_region 1 with (fail)
  generalize w.alloc (.cells #[.slice A1 t.us.length c1,.slice A2 t.bs.length c2,.slice A3 t.ns.length c3] 31)=W at *;obtain ⟨x0,x1,x2,-,-,-⟩:=blk3 HX.out;have k1:=Lib.hid (show xs.length+1≤maxLen by unfold maxLen;omega);have k2:=Lib.hid (show (xs.length+1) * 16≤140737488355328 by omega)
  by_cases hu:n≤t.us.length
  · have hN:=HU.out n hu;obtain ⟨b,o,e1,hb,hc⟩:=HS1.out;subst e1;have ck:=(hB.out.cell (p:=⟨b,o+(n - 1),none⟩) hb).trans (hc (n - 1) (by omega));have hu':(n:Int)≤(t.us.length:Int):=by omega
    have kk:IntKind.i64.wrap ((n:Int) - 1)=(n:Int) - 1:=IntWalk.i64_in _ (by omega);generalize t.us.getD (n - 1) ByteArray.empty=x at *;replace hN:=Lib.hid hN;clear hc S1 I2 S3;go_wp2_with (at_builtin;refine wpList_app _ rfl (.tmp 17) (.tmp 24) _ rfl B 9 i0 _ 16 Tryz.underlying28 hi hz0 hz1 hz2 rfl (.slice Au xs.length cu) _ _ rfl (hO.out.alloc _) (some ⟨_,0,none⟩) 1 1 [.string x] rfl (Src.one (blk_new_at _ rfl) rfl) k1.out k2.out (by simp;omega) ?_;intro v2 w2 ho2 hg2 hat2)
    have ho3:OwnStrs w2 B v2 (xs++[x]):=by
     unfold OwnStrs
     simpa using ho2
    obtain ⟨A4,c4,rfl,-⟩:=ho3.strs;have hG2:=grown_trans' hG.out (grown_trans' (World.grownBy_alloc W (.cells #[.string x] 9) _) hg2);have hR:=rowOn_app (w:=w) (by simp;omega) hat2;replace ho3:=Lib.hid ho3;replace hG2:=Lib.hid hG2;replace hR:=Lib.hid hR;clear ho2 hg2 hat2;go_wp2
    go_ret2
    rw [hN.out];exact with_yes (by simp) hG2.out ho3.out hR.out
  · have hu':¬ (n:Int)≤(t.us.length:Int):=by omega
    have KT:=implTaken_any A2 c2 t.bs n W (HI.out W hB.out) hbs.out hn1 hn2
    by_cases hlt:n / baseN t.bs n < baseN t.bs n
    · have ht:topOf t.bs n≠0:=fun h=>by
       rw [base_one hbs.out h,Nat.div_one] at hlt;omega
      rw [decide_eq_true hlt] at KT;obtain ⟨f1,f2,f3,f4,f5⟩:=base_facts hbs.out ht;obtain ⟨d1,d2,d3,d4⟩:=div_pos' f1 f2;have N2:=fun h=>name_nohead (us:=t.us) (ns:=t.ns) hbs.out ht h
      have N3:=fun h=>name_norest (us:=t.us) (ns:=t.ns) hbs.out ht h
      have N4:=fun h=>name_parts (us:=t.us) (ns:=t.ns) hbs.out ht h
      have e2:(n:Int) % (baseN t.bs n:Int)=((n % baseN t.bs n:Nat):Int):=rfl;obtain ⟨b2,o2,e3,hb2,hc2⟩:=HI2.out;subst e3;have ck2:=hc2 _ f4;rw [← f3] at ck2;obtain ⟨b3,o3,e4,hb3,hc3⟩:=S3.at_ (by omega);subst e4;have ck3:=hc3 (topOf t.bs n - 1) (by omega);have L1:=HL.out _ d1;have L2:n % baseN t.bs n≠0→(nameN t.us t.bs t.ns (n % baseN t.bs n)).length≤n % baseN t.bs n:=fun h0=>HL.out _ (Nat.one_le_iff_ne_zero.2 h0)
      have hbn:baseN t.bs n≤99999:=by omega
      replace f3:=Lib.hid f3;clear hc2 hc3;have IHq:=fun u xs w a b c d=>IH.out (n / baseN t.bs n) d2 d1 u xs w a b c d
      have IHr:=fun h0 u xs w a b c d=>IH.out (n % baseN t.bs n) d3 (Nat.one_le_iff_ne_zero.2 h0) u xs w a b c d
      unfold nameT at IHq IHr;generalize hq:n / baseN t.bs n=q at *;generalize hr:n % baseN t.bs n=r at *;generalize baseN t.bs n=bb at *;generalize topOf t.bs n=k at *;generalize t.ns.getD (k - 1) ByteArray.empty=nm at *;generalize nameN t.us t.bs t.ns q=qs at *;generalize nameN t.us t.bs t.ns r=rs at *;have q1:(n:Int) / (bb:Int)=q:=by rw [← hq];rfl
      replace N2:=Lib.hid N2;replace N3:=Lib.hid N3;replace N4:=Lib.hid N4;replace L1:=Lib.hid L1;replace L2:=Lib.hid L2;replace e2:=Lib.hid e2;replace q1:=Lib.hid q1;replace hq:=Lib.hid hq;replace hr:=Lib.hid hr;replace IHq:=Lib.hid IHq;replace IHr:=Lib.hid IHr;replace KT:=Lib.hid KT;replace ht:=Lib.hid ht;replace hlt:=Lib.hid hlt;clear IH;go_wp2_with (fail);refine KT.out.mono ?_;rintro e w1 ⟨rfl,m1,rfl⟩;have hB1:=below_drewN hB.out m1;have HX1:=HX.out.drewN m1;have hG1:=grown_drewN hG.out m1;have hO1:OwnStrs (W.drewN m1) B (.slice Au xs.length cu) xs:=OwnStrs.below hO.out (below_drewN (Below.refl _ _) m1) (Nat.le_refl _);have hs1:w.heap.size+1=(W.drewN m1).heap.size:=hsz;replace hB1:=Lib.hid hB1;replace HX1:=Lib.hid HX1;replace hG1:=Lib.hid hG1;replace hO1:=Lib.hid hO1;clear x0 x1 x2 hB HX hG hO KT hsz;generalize W.drewN m1=W1 at *;obtain ⟨x0,x1,x2,-,-,-⟩:=blk3 HX1.out;obtain ⟨okh,hokh⟩:∃ okh:Bool,okh=decide (1 < q→qs≠[]):=⟨_,rfl⟩;obtain ⟨hd,hhd⟩:∃ hd:List ByteArray,hd=if 1 < q then qs else []:=⟨_,rfl⟩
      have hdl:hd.length≤q:=by
       rw [hhd]
       split
       · exact L1.out
       · exact Nat.zero_le _
      replace hokh:=Lib.hid hokh;replace hhd:=Lib.hid hhd
      go_upto_if 38 with (fail)
      go_cut [0,10] (fun s0 s10 wx=>∃ u1,s0=u1∧s10=.bool okh∧W1.grownBy wx (Value.ownBlock (.slice Au xs.length cu))∧(okh=true→OwnStrs wx B u1 (xs++hd)∧RowOn W1 (.slice Au xs.length cu) u1))
      case first =>
       by_cases h1:1 < q
       · have h1':(1:Int) < (q:Int):=by omega
         have K5:=Lib.hid (IHq.out (.slice Au xs.length cu) xs W1 hB1.out (by omega) hO1.out (by omega));go_wp2_with (fail);refine K5.out.mono ?_;rintro e w2 ⟨u2,rfl,hg2,-,hy2⟩;have ho:decide (qs≠[])=okh:=by rw [hokh.out];by_cases h:qs=[] <;> simp [h,h1]
         rw [ho]
         have hy2':okh=true→OwnStrs w2 B u2 (xs++hd)∧RowOn W1 (.slice Au xs.length cu) u2:=fun h=>by
          rw [hhd.out,if_pos h1];exact hy2 (by rw [← ho] at h;exact of_decide_eq_true h)
         replace hg2:=Lib.hid hg2;replace hy2':=Lib.hid hy2';replace ho:=Lib.hid ho;clear hy2;go_wp2
         go_meet
         exact ⟨_,rfl,rfl,hg2.out,hy2'.out⟩
       · have h1':¬ (1:Int) < (q:Int):=by omega
         have ho:okh=true:=by rw [hokh.out];simp [h1]
         have hh:hd=[]:=by rw [hhd.out,if_neg h1]
         replace ho:=Lib.hid ho;replace hh:=Lib.hid hh;go_wp2
         go_meet
         exact ⟨_,rfl,by rw [ho.out],World.grownBy.refl _ _,fun _=>⟨by rw [hh.out,List.append_nil];exact hO1.out,RowOn.refl _ _⟩⟩
      case rest =>
       obtain ⟨u1,rfl,rfl,hgc,hyc⟩:=hcut;have hGc:=grown_trans' hG1.out hgc
       by_cases hk1:okh=true
       · obtain ⟨hoc,hRc⟩:=hyc hk1;obtain ⟨A5,c5,rfl,-⟩:=hoc.strs;have hltc:=hoc.lt;have hRw:RowOn w (.slice Au xs.length cu) (.slice A5 (xs++hd).length c5):=RowOn.trans (RowOn.refl _ _) (by omega) hRc;have hBc:=hB1.out.grown hgc (hB1.out.size) (fun k e=>Nat.le_trans hWB (hlt0.out k e).1);have hXc:=HX1.out.grown hgc (fun e=>by have:=(hlt0.out _ e.symm).2;omega)
         have hne5:some w.heap.size≠Value.ownBlock (.slice A5 (xs++hd).length c5):=fun e=>by
          rcases hRc with e1 | ⟨g,e1,hg⟩
          · rw [e1] at e;have:=(hlt0.out _ e.symm).2;omega
          · rw [e1] at e;cases e;omega
         have hb1:1 < q→qs≠[]:=of_decide_eq_true (hokh.out.symm.trans hk1)
         have hNN:(r≠0→rs≠[])→nameT t n=hd++[nm]++(if r=0 then [] else rs):=fun h=>by
          rw [hhd.out];exact N4.out hlt.out hb1 h
         have hwc:=hgc.size;have hyl:(xs++hd).length≤xs.length+q:=by rw [List.length_append];omega
         have hassoc:∀ zs,xs++(hd++[nm]++zs)=xs++hd++[nm]++zs:=fun zs=>by simp
         generalize xs++hd=ys at *;have cc2:=(hBc.cell (p:=⟨b2,o2+k,none⟩) hb2).trans ck2;have cc3:=(hBc.cell (p:=⟨b3,o3+(k - 1),none⟩) hb3).trans ck3;clear x0 x1 x2;obtain ⟨x0,x1,x2,-,-,-⟩:=blk3 hXc;have m1:=Lib.hid (show ys.length+1≤maxLen by unfold maxLen;omega);have m2:=Lib.hid (show (ys.length+1) * 16≤140737488355328 by omega);have kk1:(0:Int)≤(k:Int) - 1:=by omega
         have kk2:(k:Int) - 1 < (t.ns.length:Int):=by omega
         have kk3:((k:Int) - 1).toNat=k - 1:=by omega
         have kk4:IntKind.i64.wrap ((k:Int) - 1)=(k:Int) - 1:=IntWalk.i64_in _ (by omega);subst hk1;replace hoc:=Lib.hid hoc;replace hGc:=Lib.hid hGc;replace hRw:=Lib.hid hRw;replace hBc:=Lib.hid hBc;replace hXc:=Lib.hid hXc;replace hne5:=Lib.hid hne5;replace hb1:=Lib.hid hb1;replace hNN:=Lib.hid hNN;replace hassoc:=Lib.hid hassoc;replace hltc:=Lib.hid hltc;clear hgc hyc hRc;go_upto_region 9 with (at_builtin;refine wpList_app _ rfl (.tmp 48) (.tmp 55) _ rfl B 9 i0 _ 16 Tryz.underlying28 hi hz0 hz1 hz2 rfl (.slice A5 ys.length c5) _ _ rfl (hoc.out.alloc _) (some ⟨_,0,none⟩) 1 1 [.string nm] rfl (Src.one (blk_new_at _ rfl) rfl) m1.out m2.out (by simp;omega) ?_;intro v8 w8 ho8 hg8 hat8)
         have ho9:OwnStrs w8 B v8 (ys++[nm]):=by
          unfold OwnStrs
          simpa using ho8
         have hzl:(ys++[nm]).length=ys.length+1:=by simp
         obtain ⟨A8,c8,e8,-⟩:=ho9.strs;rw [hzl] at e8;subst e8;have hX8:=(hXc.out.alloc (.cells #[.string nm] 9)).grown hg8 hne5.out;have hB8:=(hBc.out.alloc hBc.out.size (.cells #[.string nm] 9)).grown hg8 (by simp;have:=hBc.out.size;omega) (fun k e=>Nat.le_trans hWB (hltc.out k e).1);have hR8:=RowOn.trans hRw.out (by omega) (rowOn_app (w:=wc) (by simp) hat8);have hG8:=grown_on hGc.out hRw.out (grown_trans' (World.grownBy_alloc wc (.cells #[.string nm] 9) _) hg8);have hs8:B≤w8.heap.size:=by have:=hg8.size;simp at this;omega
         have hs8':w.heap.size≤w8.heap.size:=by have:=hg8.size;simp at this;omega
         have c8':=(hB8.cell (p:=⟨b2,o2+k,none⟩) hb2).trans ck2;clear x0 x1 x2 cc2 cc3 ho8 hg8 hat8;obtain ⟨x0,x1,x2,-,-,-⟩:=blk3 hX8;generalize ys++[nm]=zs at *;have r0:(0:Int)≤(n:Int) % (bb:Int):=by rw [e2.out];omega
         have r1:(n:Int) % (bb:Int)≤99999:=by rw [e2.out];omega
         have hbz:¬ (bb:Int)=0:=by omega
         have hrl:r≤n:=by omega
         replace ho9:=Lib.hid ho9;replace hX8:=Lib.hid hX8;replace hB8:=Lib.hid hB8;replace hR8:=Lib.hid hR8;replace hG8:=Lib.hid hG8;go_upto_region 10 with (fail)
         rw [e2.out];clear r0 r1
         by_cases hr0:r=0
         · have hr0':¬ (0:Int) < (r:Int):=by omega
           have hN:=hNN.out (fun h=>absurd hr0 h);rw [if_pos hr0] at hN;have hne:nameT t n≠[]:=by rw [hN];simp
           have hfin:OwnStrs w8 B (.slice A8 (ys.length+1) c8) (xs++nameT t n):=by rw [hN,hassoc.out,List.append_nil];exact ho9.out
           replace hne:=Lib.hid hne;replace hfin:=Lib.hid hfin;clear hN;go_wp2
           go_ret2
           exact with_yes hne.out hG8.out hfin.out hR8.out
         · have hr0':(0:Int) < (r:Int):=by omega
           have K9:=Lib.hid (IHr.out hr0 (.slice A8 (ys.length+1) c8) zs w8 hB8.out hs8 ho9.out (by omega));go_wp2_with (fail);refine K9.out.mono ?_;rintro e w9 ⟨u9,rfl,hg9,hn9,hy9⟩;have hG9:=grown_on hG8.out hR8.out hg9
           by_cases hrs:rs=[]
           · have h9:=hn9 hrs;subst h9;rw [decide_eq_false (fun h=>h hrs)];have hN:=N3.out hr0 hrs;replace hN:=Lib.hid hN;replace hG9:=Lib.hid hG9;clear hg9 hn9 hy9;go_wp2
             go_ret2
             exact with_no hN.out hG9.out
           · obtain ⟨o9,r9⟩:=hy9 hrs;obtain ⟨A9,c9,rfl,-⟩:=o9.strs;rw [decide_eq_true hrs];have hN:=hNN.out (fun _=>hrs);rw [if_neg hr0] at hN;have hne:nameT t n≠[]:=by rw [hN];simp
             have hfin:OwnStrs w9 B (.slice A9 (zs++rs).length c9) (xs++nameT t n):=by rw [hN,hassoc.out];exact o9
             have hR9:=RowOn.trans hR8.out hs8' r9;replace hne:=Lib.hid hne;replace hfin:=Lib.hid hfin;replace hR9:=Lib.hid hR9;replace hG9:=Lib.hid hG9;clear hN o9 r9 hg9 hn9 hy9;generalize (zs++rs).length=L9 at *;go_wp2
             go_ret2
             exact with_yes hne.out hG9.out hfin.out hR9.out
       · have hk0:okh=false:=by simpa using hk1
         have hN:nameT t n=[]:=by
          rw [hk0] at hokh;have h:=of_decide_eq_false hokh.out.symm;have h1:1 < q:=Classical.byContradiction fun h1=>h fun h2=>absurd h2 h1
          exact N2.out h1 (Classical.byContradiction fun h2=>h fun _=>h2)
         subst hk0;replace hN:=Lib.hid hN;clear hk1 hyc;go_wp2
         go_ret2
         exact with_no hN.out hGc
    · have hN:nameT t n=[]:=by
       by_cases ht:topOf t.bs n=0
       · exact HV.out n hu ht
       · exact name_over hbs.out ht (by omega)
      rw [decide_eq_false hlt] at KT;replace KT:=Lib.hid KT;replace hN:=Lib.hid hN;replace hlt:=Lib.hid hlt;generalize topOf t.bs n=k at *;generalize n / baseN t.bs n=q at *;go_wp2_with (fail);refine KT.out.mono ?_;rintro e w1 ⟨rfl,m1,rfl⟩;go_wp2
      go_ret2
      exact with_no hN.out (grown_drewN hG.out m1)
theorem namedB_eq {t:Tg} {m:Nat} (h:okN t m=true):namedB t m=decide (nameT t m≠[]):=by
 unfold namedB;rw [nameOf_yes h];cases nameT t m <;> simp
set_option maxRecDepth 100000 in
set_option maxHeartbeats 2000000 in
theorem implNameOf_any (v:Value) (t:Tg) (n:Int) (w:World) (h:Tng w v t) (hf:t.Fine) (hn:-9223372036854775808≤n∧n≤9223372036854775807) :
 Calls Tryz.prog 124 #[v,.int .i64 n] w (RetStrs2 w (nameOf t n) (namedB t n)):=by
 have h0:=h;obtain ⟨A1,c1,A2,c2,A3,c3,rfl,-⟩:=h.ex;have hB:=(Below.refl w.heap.size w).alloc (Nat.le_refl _) (.cells #[.slice A1 t.us.length c1,.slice A2 t.bs.length c2,.slice A3 t.ns.length c3] 31);have HX:=Blk.new w 31 #[.slice A1 t.us.length c1,.slice A2 t.bs.length c2,.slice A3 t.ns.length c3];have HT:=h.below hB (Nat.le_refl _);have K1:=Lib.hid (implAskable_any _ t n _ HT hf hn);replace hB:=Lib.hid hB;replace HX:=Lib.hid HX;replace h0:=Lib.hid h0;clear h hf HT;go_enter Tryz.func124,Tryz.ntmps124;go_upto_region 1 with (fail)
 generalize w.alloc (.cells #[.slice A1 t.us.length c1,.slice A2 t.bs.length c2,.slice A3 t.ns.length c3] 31)=W at *;obtain ⟨x0,x1,x2,-,-,-⟩:=blk3 HX.out;go_wp2_with (fail);refine K1.out.mono ?_;rintro e w1 ⟨rfl,b1⟩;replace hB:=Lib.hid (hB.out.trans (b1.mono hB.out.size));replace HX:=Lib.hid (HX.out.below b1 HX.out.lt);clear b1 x0 x1 x2 K1;obtain ⟨x0,x1,x2,-,-,-⟩:=blk3 HX.out
 have hno:namedB t n=false→nameOf t n=[]→RetStrs2 w (nameOf t n) (namedB t n) (.returned (.tuple #[.slice none 0 0,.bool false])) w1:=fun h1 h2 =>
  ⟨_,by rw [h1],by rw [h2];exact owns_none _ _ _,hB.out⟩
 replace hno:=Lib.hid hno;cases hok:okN t n
 · obtain ⟨e1,e2⟩:=nameOf_no hok;replace e1:=Lib.hid e1;replace e2:=Lib.hid e2;replace hok:=Lib.hid hok;go_wp2
   go_ret2
   exact hno.out e2.out e1.out
 · have ho:=hok;unfold okN at ho;rw [Bool.and_eq_true,decide_eq_true_eq] at ho;obtain ⟨ho,hd⟩:=ho;obtain ⟨m,rfl⟩:∃ m:Nat,n=m:=⟨n.toNat,by omega⟩;have K2:=Lib.hid (implWith_any ho h0.out (Nat.le_refl _) m (by omega) (by omega) (.slice none 0 0) [] w1 hB.out hB.out.size (owns_none _ _ _) (by simp;omega));have e1:=nameOf_yes hok;have e2:=namedB_eq hok;replace e1:=Lib.hid e1;replace e2:=Lib.hid e2;replace hok:=Lib.hid hok;replace ho:=Lib.hid ho;replace hd:=Lib.hid hd;go_wp2_with (fail);refine K2.out.mono ?_;rintro e w3 ⟨u3,rfl,hg3,hn3,hy3⟩;have hB3:=hB.out.grown hg3 hB.out.size (fun k e=>by cases e)
   by_cases hne:nameT t m=[]
   · have h3:=hn3 hne;subst h3;rw [decide_eq_false (fun h=>h hne)] at e2 ⊢
     have hF:RetStrs2 w (nameOf t m) (namedB t m) (.returned (.tuple #[.slice none 0 0,.bool false])) w3 :=
      ⟨_,by rw [e2.out],by rw [e1.out,hne];exact owns_none _ _ _,hB3⟩
     replace hF:=Lib.hid hF;clear hn3 hy3 hg3 e1 e2 hne;go_wp2
     go_ret2
     exact hF.out
   · obtain ⟨o3,-⟩:=hy3 hne;rw [List.nil_append] at o3;obtain ⟨A,c,rfl,-⟩:=o3.strs;rw [decide_eq_true hne] at e2 ⊢
     have hF:RetStrs2 w (nameOf t m) (namedB t m) (.returned (.tuple #[.slice A (nameT t m).length c,.bool true])) w3 :=
      ⟨_,by rw [e2.out],by rw [e1.out];exact o3,hB3⟩
     replace hF:=Lib.hid hF;clear hn3 hy3 hg3 e1 e2 hne o3;generalize (nameT t m).length=L at *;go_wp2
     go_ret2
     exact hF.out
end
section
open Go.Shelf Go.RowKit
def joinRen:Go.Shelf.Ren:=⟨fun | 156=>177 | 165=>200 | 166=>56 | 169=>57 | 240=>111 | 241=>220 | 276=>143 | 277=>230 | n=>n,fun | 31=>28 | 9=>9 | 3=>3 | 4=>4 | 0=>0 | 20=>20 | 72=>88 | 76=>91 | 70=>86 | 37=>22 | 75=>90 | 127=>139 | 164=>153 | 5=>5 | 80=>93 | n=>n,fun | n=>n⟩
theorem joinLays:Go.Proofs.Lays.n156 Tryz.prog joinRen:={
 mixed:=by kernel_rfl
 f156:=Tryz.func177.trans (congrArg some (by kernel_rfl))
 f165:=Tryz.func200.trans (congrArg some (by kernel_rfl))
 f166:=Tryz.func56.trans (congrArg some (by kernel_rfl))
 f169:=Tryz.func57.trans (congrArg some (by kernel_rfl))
 f240:=Tryz.func111.trans (congrArg some (by kernel_rfl))
 f241:=Tryz.func220.trans (congrArg some (by kernel_rfl))
 f276:=Tryz.func143.trans (congrArg some (by kernel_rfl))
 f277:=Tryz.func230.trans (congrArg some (by kernel_rfl))
 t0:=Tryz.underlying0
 a0:=Tryz.isAgg0
 z0:=Tryz.sizeOf0
 v0:=Tryz.zeroValue0
 t3:=Tryz.underlying3
 a3:=Tryz.isAgg3
 z3:=Tryz.sizeOf3
 v3:=Tryz.zeroValue3
 t4:=Tryz.underlying4
 a4:=Tryz.isAgg4
 z4:=Tryz.sizeOf4
 v4:=Tryz.zeroValue4
 t9:=Tryz.underlying9
 a9:=Tryz.isAgg9
 z9:=Tryz.sizeOf9
 v9:=Tryz.zeroValue9
 t20:=Tryz.underlying20
 a20:=Tryz.isAgg20
 z20:=Tryz.sizeOf20
 v20:=Tryz.zeroValue20
 t31:=Tryz.underlying28
 a31:=Tryz.isAgg28
 z31:=Tryz.sizeOf28
 v31:=Tryz.zeroValue28
 t37:=Tryz.underlying22
 a37:=Tryz.isAgg22
 z37:=Tryz.sizeOf22
 v37:=Tryz.zeroValue22
 t70:=Tryz.underlying86
 a70:=Tryz.isAgg86
 z70:=Tryz.sizeOf86
 v70:=Tryz.zeroValue86
 t72:=Tryz.underlying88
 a72:=Tryz.isAgg88
 z72:=Tryz.sizeOf88
 v72:=Tryz.zeroValue88
 t75:=Tryz.underlying90
 a75:=Tryz.isAgg90
 z75:=Tryz.sizeOf90
 v75:=Tryz.zeroValue90
 t76:=Tryz.underlying91
 a76:=Tryz.isAgg91
 z76:=Tryz.sizeOf91
 v76:=Tryz.zeroValue91
 t127:=Tryz.underlying139
 a127:=Tryz.isAgg139
 z127:=Tryz.sizeOf139
 v127:=Tryz.zeroValue139
 t164:=Tryz.underlying153
 a164:=Tryz.isAgg153
 z164:=Tryz.sizeOf153
 v164:=Tryz.zeroValue153 }
theorem joinExtra:Builder.Extra Tryz.prog joinRen:={
 sizeBuilder:=by kernel_rfl
 liesBuilder:=by kernel_rfl
 t5:=Tryz.underlying5
 a5:=Tryz.isAgg5
 z5:=Tryz.sizeOf5
 v5:=Tryz.zeroValue5
 infoByte:=by kernel_rfl
 cellsByte:=by kernel_rfl
 sizeByte:=by kernel_rfl
 neB5:=by decide }
theorem join_none (a:Option Addr) (c:Nat) (sep:ByteArray) (w:World) :
 Calls Tryz.prog 177 #[.slice a 0 c,.string sep] w fun e w'=>e=.returned (.string ⟨#[]⟩)∧w'=w:=Any.strings_Join_none joinLays joinExtra a c sep w
theorem join_any {A:Option Addr} {c:Nat} {xs:List ByteArray} {w:World} (h:Strs w A xs.length c xs) (sep:ByteArray) (hN:xs.length≤1000000) (hlen:(Lib.join (xs.map (·.data.toList)) sep.data.toList).length≤140737488355328) :
 Calls Tryz.prog 177 #[.slice A xs.length c,.string sep] w fun e w'=>e=.returned (.string ⟨(Lib.join (xs.map (·.data.toList)) sep.data.toList).toArray⟩)∧Below w.heap.size w w':=by
 by_cases h0:0 < xs.length
 · obtain ⟨b,o,rfl,hb,hc⟩:=h.at_ h0;refine Any.strings_Join joinLays joinExtra b o c xs sep w (fun j x hx=>?_) hb (by omega) h.le hlen
   have hj:j < xs.length:=by
    rcases Nat.lt_or_ge j xs.length with h1 | h1
    · exact h1
    · rw [List.getElem?_eq_none h1] at hx;cases hx
   rw [hc j hj,List.getD_eq_getElem?_getD,hx];rfl
 · have e:xs=[]:=List.eq_nil_of_length_eq_zero (by omega);subst e;exact (join_none A c sep w).mono fun e w' ⟨he,hw⟩=>⟨he,hw ▸ Below.refl _ _⟩
end
section
open Go.RowKit
theorem join_snoc (x:List UInt8) (r:List (List UInt8)) (y sep:List UInt8):Lib.join (x :: r++[y]) sep=Lib.join (x :: r) sep++sep++y:=by
 rw [List.cons_append,Lib.join_cons,Lib.join_cons]
 simp [Lib.joinTail,List.append_assoc]
theorem joinW_join (xs:List ByteArray):∀ k,k≤xs.length→(joinW xs k).data.toList=Lib.join ((xs.take k).map (·.data.toList)) [32]:=by
 intro k
 induction k with
 | zero=>intro _;rfl
 | succ k ih =>
  intro hk;have ih:=ih (by omega);have hlt:k < xs.length:=by omega
  rw [List.take_succ_eq_append_getElem hlt,List.map_append,joinW];have hg:xs.getD k ByteArray.empty=xs[k]:=by simp [List.getD_eq_getElem?_getD,hlt]
  rw [hg]
  by_cases h0:0 < k
  · obtain ⟨x,r,e⟩:∃ x r,(xs.take k).map (·.data.toList)=x :: r:=by
     cases h:(xs.take k).map (·.data.toList) with
     | nil=>have:=congrArg List.length h;rw [List.length_map,List.length_take,List.length_nil] at this;omega
     | cons x r=>exact ⟨x,r,rfl⟩
    rw [e] at ih ⊢;rw [if_pos h0,List.map_cons,List.map_nil,join_snoc,← ih]
    simp [ByteArray.data_append]
  · obtain rfl:k=0:=by omega
    rw [if_neg h0]
    simp [ByteArray.data_append,joinW,Lib.join_one]
theorem join_text (xs:List ByteArray):(⟨(Lib.join (xs.map (·.data.toList)) [32]).toArray⟩:ByteArray)=joinW xs xs.length:=by
 have h:=joinW_join xs xs.length (Nat.le_refl _);rw [List.take_length] at h;rw [← h]
set_option maxRecDepth 100000 in
set_option maxHeartbeats 1000000 in
theorem implTextOf_any (v:Value) (t:Tg) (n:Int) (w:World) (h:Tng w v t) (hf:t.Fine) (hn:-9223372036854775808≤n∧n≤9223372036854775807) :
 Calls Tryz.prog 157 #[v,.int .i64 n] w fun e w'=>e=.returned (.string (textOf t n))∧Below w.heap.size w w':=by
 obtain ⟨A1,c1,A2,c2,A3,c3,rfl,-⟩:=h.ex;have hB:=(Below.refl w.heap.size w).alloc (Nat.le_refl _) (.cells #[.slice A1 t.us.length c1,.slice A2 t.bs.length c2,.slice A3 t.ns.length c3] 31);have HX:=Blk.new w 31 #[.slice A1 t.us.length c1,.slice A2 t.bs.length c2,.slice A3 t.ns.length c3];have HT:=h.below hB (Nat.le_refl _);have K1:=Lib.hid (implNameOf_any _ t n _ HT hf hn);replace hB:=Lib.hid hB;replace HX:=Lib.hid HX;clear h hf HT;have hjs:=joinW_size (nameOf_at t n) (nameOf t n).length;have hln:=nameOf_len t n;have htx:joinW (nameOf t n) (nameOf t n).length=textOf t n:=rfl;go_enter Tryz.func157,Tryz.ntmps157;go_upto_region 1 with (fail)
 generalize w.alloc (.cells #[.slice A1 t.us.length c1,.slice A2 t.bs.length c2,.slice A3 t.ns.length c3] 31)=W at *;obtain ⟨x0,x1,x2,-,-,-⟩:=blk3 HX.out;go_wp2_with (fail);refine K1.out.mono ?_;rintro e w1 ⟨v1,rfl,o1,b1⟩;obtain ⟨A,c,rfl,hs⟩:=o1.strs;have hB1:=hB.out.trans (b1.mono hB.out.size)
 have KJ:=join_any hs ⟨#[32]⟩ (by omega) (by
  have e:=join_text (nameOf t n);have e2:=congrArg ByteArray.size e
  have e3:(⟨(Lib.join ((nameOf t n).map (·.data.toList)) [32]).toArray⟩:ByteArray).size=(Lib.join ((nameOf t n).map (·.data.toList)) [32]).length:=by
   rw [ByteArray.size];simp
  rw [e3] at e2
  show (Lib.join ((nameOf t n).map (·.data.toList)) [32]).length≤_
  omega)
 have KJ':Calls Tryz.prog 177 #[.slice A (nameOf t n).length c,.string ⟨#[32]⟩] w1 fun e w'=>e=.returned (.string (textOf t n))∧Below w1.heap.size w1 w' :=
  KJ.mono fun e w' ⟨he,hb⟩=>⟨by rw [he];exact congrArg (fun x=>Ending.returned (.string x)) (join_text (nameOf t n)),hb⟩
 replace KJ':=Lib.hid KJ';replace hB1:=Lib.hid hB1;clear KJ b1 x0 x1 x2 K1 o1 HX hs hjs htx;generalize (nameOf t n).length=L at *;generalize namedB t n=bb at *;go_wp2_with (fail);refine KJ'.out.mono ?_;rintro e w2 ⟨rfl,b2⟩;have hB2:=Lib.hid (hB1.out.trans (b2.mono hB1.out.size));clear b2;go_wp2;go_ret;exact ⟨rfl,hB2.out⟩
end
section
open Go.RowKit
def sumTo' (s:List Int):Nat→Int
 | 0=>0
 | k+1=>sumTo' s k+s.getD k 0
def zeroTo (s:List Int) (p:Nat):List Int:=List.replicate p 0++s.drop p
def addOn (s:List Int) (u:Int):List Int:=s.set 0 (s.getD 0 0+u)
def timesOf (s:List Int) (p:Nat):Int:=if sumTo' s p=0 then 1 else sumTo' s p
def takeOn (b:List Int) (s:List Int) (p:Nat):Option (List Int) :=
 if 99999 / b.getD p 0 < timesOf s p then none else some ((zeroTo s p).set p (s.getD p 0+timesOf s p * b.getD p 0))
def stepOn (t:Tg) (s:List Int) (x:ByteArray):Option (List Int) :=
 if place t.us x < t.us.length then some (addOn s ((place t.us x:Int)+1))
 else if place t.ns x < t.ns.length then takeOn t.bs s (place t.ns x+1) else none
def readL (t:Tg):List ByteArray→List Int→Option (List Int)
 | [],s=>some s
 | x :: r,s=>(stepOn t s x).bind (readL t r)
def noSums:List Int:=[0,0,0,0,0]
def numR (t:Tg) (l:List ByteArray):Option Int:=(readL t l noSums).map fun s=>sumTo' s 5
theorem readL_append (t:Tg):∀ (l m:List ByteArray) (s:List Int),readL t (l++m) s=(readL t l s).bind (readL t m)
 | [],_,_=>rfl
 | x :: r,m,s=>by
  rw [List.cons_append,readL,readL];cases stepOn t s x with
  | none=>rfl
  | some s1=>exact readL_append t r m s1
theorem readL_one (t:Tg) (x:ByteArray) (s:List Int):readL t [x] s=stepOn t s x:=by
 rw [readL];cases stepOn t s x <;> rfl
theorem readL_snoc (t:Tg) (l:List ByteArray) (s:List Int) {k:Nat} (hk:k < l.length):readL t (l.take (k+1)) s=(readL t (l.take k) s).bind fun s'=>stepOn t s' (l.getD k ByteArray.empty):=by
 rw [List.take_succ_eq_append_getElem hk,readL_append];have e:l.getD k ByteArray.empty=l[k]:=by simp [List.getD_eq_getElem?_getD,hk]
 rw [e]
 congr 1
 funext s'
 exact readL_one t _ s'
theorem readL_none (t:Tg) (l:List ByteArray) (s:List Int) {k:Nat} (h:readL t (l.take k) s=none):readL t l s=none:=by
 rw [← List.take_append_drop k l,readL_append,h];rfl
theorem getD_set (s:List Int) (i j:Nat) (x:Int) (hi:i < s.length):(s.set i x).getD j 0=if i=j then x else s.getD j 0:=by
 simp only [List.getD_eq_getElem?_getD,List.getElem?_set]
 by_cases h:i=j
 · subst h;simp [hi]
 · simp [h]
theorem zeroTo_len (s:List Int) (p:Nat) (_h:p≤s.length):(zeroTo s p).length=s.length:=by unfold zeroTo;simp;omega
theorem getD_zeroTo (s:List Int) (p j:Nat) (_h:p≤s.length):(zeroTo s p).getD j 0=if j < p then 0 else s.getD j 0:=by
 unfold zeroTo;simp only [List.getD_eq_getElem?_getD]
 by_cases hj:j < p
 · rw [List.getElem?_append_left (by simpa using hj),if_pos hj];simp [hj]
 · rw [List.getElem?_append_right (by simp;omega),if_neg hj];simp only [List.length_replicate,List.getElem?_drop];rw [show p+(j - p)=j by omega]
theorem sumTo_ext {s s':List Int}:∀ k,(∀ i,i < k→s.getD i 0=s'.getD i 0)→sumTo' s k=sumTo' s' k
 | 0,_=>rfl
 | k+1,h=>by rw [sumTo',sumTo',sumTo_ext k (fun i hi=>h i (by omega)),h k (by omega)]
theorem sumTo_flat {s:List Int} (a:Nat):∀ b,a≤b→(∀ i,a≤i→i < b→s.getD i 0=0)→sumTo' s b=sumTo' s a
 | 0,h,_=>by rw [show a=0 by omega]
 | b+1,h,hz=>by
  by_cases e:a=b+1
  · rw [e]
  · rw [sumTo',sumTo_flat a b (by omega) (fun i h1 h2=>hz i h1 (by omega)),hz b (by omega) (by omega)];omega
theorem sumTo_zero {s:List Int} {k:Nat} (h:∀ i,i < k→s.getD i 0=0):sumTo' s k=0 :=
 sumTo_flat 0 k (by omega) fun i _ hi=>h i hi
structure SumOk (s:List Int) (k:Nat):Prop where
 len:s.length=5
 bd:∀ i,0≤s.getD i 0∧s.getD i 0≤100000 * (k:Int)
theorem noSums_ok:SumOk noSums 0:=⟨rfl,fun i=>by
 match i with
 | 0=>decide
 | 1=>decide
 | 2=>decide
 | 3=>decide
 | 4=>decide
 | i+5=>simp [noSums]⟩
theorem SumOk.sum {s:List Int} {k:Nat} (h:SumOk s k):∀ j,j≤5→0≤sumTo' s j∧sumTo' s j≤100000 * (k:Int) * j:=by
 intro j
 induction j with
 | zero=>intro _;exact ⟨Int.le_refl _,by simp [sumTo']⟩
 | succ j ih =>
  intro hj;have h1:=ih (by omega);have h2:=h.bd j;rw [sumTo']
  have e:(100000 * (k:Int)) * ((j+1:Nat):Int)=100000 * (k:Int) * j+100000 * (k:Int):=by
   rw [show ((j+1:Nat):Int)=(j:Int)+1 by omega,Int.mul_add,Int.mul_one]
  omega
theorem times_pos {s:List Int} {k:Nat} (h:SumOk s k) {p:Nat} (hp:p≤5):1≤timesOf s p:=by
 have:=(h.sum p hp).1;unfold timesOf
 split <;> omega
theorem addOn_ok {s:List Int} {k:Nat} (h:SumOk s k) {u:Int} (h0:0≤u) (h1:u≤100000):SumOk (addOn s u) (k+1):=by
 refine ⟨by unfold addOn;rw [List.length_set];exact h.len,fun i=>?_⟩;unfold addOn;rw [getD_set _ _ _ _ (by rw [h.len];omega)];have a:=h.bd 0;have b:=h.bd i
 split <;> omega
theorem times_mul {s:List Int} {k:Nat} (h:SumOk s k) {p:Nat} (hp:p < 5) {b:Int} (hb:1≤b) (ht:¬ 99999 / b < timesOf s p):0≤timesOf s p * b∧timesOf s p * b≤99999:=by
 have h1:=times_pos h (p:=p) (by omega);have h2:timesOf s p≤99999 / b:=by omega
 have h3:=Int.mul_le_mul_of_nonneg_right h2 (show (0:Int)≤b by omega);have h4:=Int.ediv_mul_le 99999 (show b≠0 by omega);have h5:=Int.mul_nonneg (show 0≤timesOf s p by omega) (show (0:Int)≤b by omega);omega
theorem takeOn_ok {s s':List Int} {k:Nat} (h:SumOk s k) {b:List Int} {p:Nat} (hp:p < 5) (hb:1≤b.getD p 0) (e:takeOn b s p=some s'):SumOk s' (k+1):=by
 unfold takeOn at e
 split at e
 · cases e
 · rename_i ht
   cases e;have hm:=times_mul h hp hb ht;have hl:=h.len;refine ⟨by rw [List.length_set,zeroTo_len _ _ (by omega)];exact hl,fun i=>?_⟩;rw [getD_set _ _ _ _ (by rw [zeroTo_len _ _ (by omega)];omega),getD_zeroTo _ _ _ (by omega)];have a:=h.bd p;have b:=h.bd i
   split
   · omega
   · split <;> omega
theorem place_base {t:Tg} (hok:t.ok=true) {x:ByteArray} (h:place t.ns x < t.ns.length):place t.ns x+1 < t.bs.length∧place t.ns x+1 < 5:=by
 have hs:=ok_shape hok;have:=bases_len hs.bs;have:=hs.ns;omega
theorem stepOn_ok {t:Tg} (hok:t.ok=true) {s s':List Int} {k:Nat} (h:SumOk s k) {x:ByteArray} (e:stepOn t s x=some s'):SumOk s' (k+1):=by
 have hs:=ok_shape hok;have hu:=hs.us;unfold stepOn at e
 split at e
 · cases e;exact addOn_ok h (by omega) (by omega)
 · split at e
   · rename_i hx
     have hp:=place_base hok hx;exact takeOn_ok h hp.2 (bases_pos hs.bs _ hp.1).1 e
   · cases e
theorem place_none_us {t:Tg} (hok:t.ok=true) {x:ByteArray} (hx:x ∈ t.ns):¬ place t.us x < t.us.length:=fun h=>by
 have hd:=(List.nodup_append.1 ((ok_iff t).1 hok).2.2.2.2.2).2.2;exact hd x (place_mem.1 h) x hx rfl
theorem place_nodup {ws:List ByteArray} (hd:ws.Nodup) {j:Nat} (hj:j < ws.length):place ws (ws.getD j ByteArray.empty)=j :=
 place_eq hj (fun i hi e=>by
  have hi':i < ws.length:=by omega
  rw [List.getD_eq_getElem?_getD,List.getD_eq_getElem?_getD,List.getElem?_eq_getElem hi',List.getElem?_eq_getElem hj] at e;exact (List.pairwise_iff_getElem.1 hd) i j hi' hj hi (by simpa using e)) rfl
theorem readL_name {t:Tg} (hok:t.ok=true):∀ n:Nat,1≤n→n≤99999→nameT t n≠[]→∀ s:List Int,s.length=5→(∀ i,i≤topOf t.bs n→s.getD i 0=0) →
 ∃ s',readL t (nameT t n) s=some s'∧s'.length=5∧(∀ i,topOf t.bs n < i→s'.getD i 0=s.getD i 0)∧sumTo' s' (topOf t.bs n+1)=n:=by
 have hsh:=ok_shape hok;have hb:=hsh.bs;have hns:=hsh.ns;have hbl:=bases_len hb;have hdd:=List.nodup_append.1 ((ok_iff t).1 hok).2.2.2.2.2;intro n
 induction n using Nat.strongRecOn with
 | _ n ih =>
  intro hn hn2 hne s hsl hsz
  by_cases ht:topOf t.bs n=0
  · have hu:=name_unit (us:=t.us) (ns:=t.ns) ht;have hlt:¬ t.us.length < n:=fun h=>by rw [nameT,hu,if_pos h] at hne;exact hne rfl
    have hn1:n - 1 < t.us.length:=by omega
    have e:nameT t n=[t.us.getD (n - 1) ByteArray.empty]:=by rw [nameT,hu,if_neg hlt]
    have hp:=place_nodup hdd.1 hn1;have h0:=hsz 0 (by omega);rw [e,readL_one,ht];refine ⟨addOn s (((n - 1:Nat):Int)+1),?_,?_,fun i hi=>?_,?_⟩
    · unfold stepOn;rw [hp,if_pos hn1]
    · unfold addOn;rw [List.length_set];exact hsl
    · unfold addOn;rw [getD_set _ _ _ _ (by omega),if_neg (by omega)]
    · rw [sumTo',sumTo'];unfold addOn;rw [getD_set _ _ _ _ (by omega),if_pos rfl,h0];omega
  · obtain ⟨g1,g2,g3⟩:=name_some hb ht hne;have hf:=base_facts hb ht;have hd:=div_pos' hf.1 hf.2.1;have hp:=name_parts hb ht g1 g2 g3;have hq:topOf t.bs (n / baseN t.bs n:Nat) < topOf t.bs n:=topOf_lt hb hf.2.2.2.1 hf.2.2.2.2 (by rw [← hf.2.2.1];omega);have hr:topOf t.bs (n % baseN t.bs n:Nat) < topOf t.bs n:=topOf_lt hb hf.2.2.2.1 hf.2.2.2.2 (by rw [← hf.2.2.1];have:=Nat.mod_lt n (show 0 < baseN t.bs n by omega);omega)
    have hmul:(baseN t.bs n:Int) * ((n / baseN t.bs n:Nat):Int)+((n % baseN t.bs n:Nat):Int)=n:=by
     have:=Nat.div_add_mod n (baseN t.bs n)
     exact_mod_cast this
    have hp':nameT t n=_:=hp;have hqn:(n / baseN t.bs n:Nat)≤99999 / baseN t.bs n:=Nat.div_le_div_right hn2
    obtain ⟨s1,r1,l1,z1,y1,t1⟩:∃ s1,readL t (if 1 < n / baseN t.bs n then nameN t.us t.bs t.ns (n / baseN t.bs n) else []) s=some s1∧s1.length=5∧(∀ i,topOf t.bs n≤i→s1.getD i 0=s.getD i 0)∧0≤sumTo' s1 (topOf t.bs n)∧timesOf s1 (topOf t.bs n)=(n / baseN t.bs n:Nat):=by
     by_cases h1:1 < n / baseN t.bs n
     · obtain ⟨s1,r1,l1,z1,y1⟩:=ih _ hd.2.1 hd.1 (by omega) (g2 h1) s hsl (fun i hi=>hsz i (by omega))
       have e1:sumTo' s1 (topOf t.bs n)=(n / baseN t.bs n:Nat):=by
        rw [sumTo_flat (topOf t.bs (n / baseN t.bs n:Nat)+1) (topOf t.bs n) (by omega) (fun i h2 h3=>by rw [z1 i (by omega)];exact hsz i (by omega)),y1]
       refine ⟨s1,by rw [if_pos h1];exact r1,l1,fun i hi=>z1 i (by omega),by omega,?_⟩;unfold timesOf;rw [e1,if_neg (by omega)]
     · have e1:sumTo' s (topOf t.bs n)=0:=sumTo_zero fun i hi=>hsz i (by omega)
       refine ⟨s,by rw [if_neg h1];rfl,hsl,fun i _=>rfl,by omega,?_⟩;unfold timesOf;rw [e1,if_pos rfl];have:=hd.1;omega
    have hj:topOf t.bs n - 1 < t.ns.length:=by omega
    have hk5:topOf t.bs n < 5:=by omega
    have hx:t.ns.getD (topOf t.bs n - 1) ByteArray.empty ∈ t.ns:=by rw [List.getD_eq_getElem?_getD,List.getElem?_eq_getElem hj];exact List.getElem_mem hj
    have hpl:=place_nodup hdd.2.1 hj
    have r2:stepOn t s1 (t.ns.getD (topOf t.bs n - 1) ByteArray.empty)=some ((zeroTo s1 (topOf t.bs n)).set (topOf t.bs n) ((n / baseN t.bs n:Nat) * (baseN t.bs n:Int))):=by
     unfold stepOn takeOn
     rw [if_neg (place_none_us hok hx),hpl,if_pos hj,show topOf t.bs n - 1+1=topOf t.bs n by omega,t1,← hf.2.2.1,if_neg (by
      have:(99999:Int) / (baseN t.bs n:Int)=((99999 / baseN t.bs n:Nat):Int):=rfl;omega),z1 _ (Nat.le_refl _),hsz _ (Nat.le_refl _),Int.zero_add]
    obtain ⟨s2,hs2⟩:∃ s2,s2=(zeroTo s1 (topOf t.bs n)).set (topOf t.bs n) ((n / baseN t.bs n:Nat) * (baseN t.bs n:Int)):=⟨_,rfl⟩;rw [← hs2] at r2;have l2:s2.length=5:=by rw [hs2,List.length_set,zeroTo_len _ _ (by omega)];exact l1
    have v2:∀ i,s2.getD i 0=if topOf t.bs n=i then ((n / baseN t.bs n:Nat) * (baseN t.bs n:Int)) else if i < topOf t.bs n then 0 else s1.getD i 0:=fun i=>by
     rw [hs2,getD_set _ _ _ _ (by rw [zeroTo_len _ _ (by omega)];omega),getD_zeroTo _ _ _ (by omega)]
    have v2t:s2.getD (topOf t.bs n) 0=(n / baseN t.bs n:Nat) * (baseN t.bs n:Int):=by rw [v2,if_pos rfl]
    have v2l:∀ i,i < topOf t.bs n→s2.getD i 0=0:=fun i hi=>by rw [v2,if_neg (by omega),if_pos hi]
    have v2g:∀ i,topOf t.bs n < i→s2.getD i 0=s.getD i 0:=fun i hi=>by rw [v2,if_neg (by omega),if_neg (by omega),z1 i (by omega)]
    rw [hp',readL_append,readL_append,r1,Option.bind_some,readL_one,r2,Option.bind_some]
    by_cases h0:n % baseN t.bs n=0
    · rw [if_pos h0];refine ⟨s2,rfl,l2,v2g,?_⟩;rw [sumTo',sumTo_zero v2l,v2t,Int.mul_comm];omega
    · rw [if_neg h0];obtain ⟨s3,r3,l3,z3,y3⟩:=ih _ hd.2.2.1 (by omega) (by omega) (g3 h0) s2 l2 (fun i hi=>v2l i (by omega));refine ⟨s3,r3,l3,fun i hi=>by rw [z3 i (by omega)];exact v2g i hi,?_⟩;rw [sumTo',z3 _ (by omega),v2t,sumTo_flat (topOf t.bs (n % baseN t.bs n:Nat)+1) (topOf t.bs n) (by omega) (fun i h2 h3=>by rw [z3 i (by omega)];exact v2l i h3),y3,Int.mul_comm];omega
theorem numR_name {t:Tg} (hok:t.ok=true) {n:Nat} (h1:1≤n) (h2:n≤99999) (hne:nameT t n≠[]):numR t (nameT t n)=some (n:Int):=by
 have hb:=(ok_shape hok).bs;have hbl:=bases_len hb;have hz:∀ i,noSums.getD i 0=0:=fun i=>by have:=noSums_ok.bd i;omega
 obtain ⟨s,r,l,z,y⟩:=readL_name hok n h1 h2 hne noSums rfl (fun i _=>hz i)
 have ht:topOf t.bs n < t.bs.length:=by
  by_cases ht:topOf t.bs n=0
  · omega
  · exact (base_facts hb ht).2.2.2.1
 unfold numR;rw [r,Option.map_some,sumTo_flat (topOf t.bs n+1) 5 (by omega) (fun i h3 h4=>by rw [z i (by omega)];exact hz i),y]
theorem num_no {t:Tg} {l:List ByteArray} (h:numR t l=none):readB t l=false:=by
 cases hb:readB t l
 · rfl
 · obtain ⟨hok,hn,he,-,-⟩:=read_yes hb;obtain ⟨-,a1,a2⟩:=named_ok hn;obtain ⟨m,hm⟩:∃ m:Nat,readV t l=m:=⟨(readV t l).toNat,by omega⟩;rw [hm] at hn he a1 a2;obtain ⟨ho,hne⟩:=named_ne hn;rw [nameOf_yes ho] at he;have:=numR_name hok (n:=m) (by omega) (by omega) hne;rw [he,h] at this;cases this
theorem num_read {t:Tg} {l:List ByteArray} {n:Int} (h:numR t l=some n) (hl:l.length≤40):readB t l=(namedB t n&&decide (nameOf t n=l))∧(readB t l=true→readV t l=n):=by
 have e2:readB t l=true→readV t l=n:=fun hb=>by
  obtain ⟨hok,hn,he,-,-⟩:=read_yes hb;obtain ⟨-,a1,a2⟩:=named_ok hn;obtain ⟨m,hm⟩:∃ m:Nat,readV t l=m:=⟨(readV t l).toNat,by omega⟩;rw [hm] at hn he a1 a2 ⊢;obtain ⟨ho,hne⟩:=named_ne hn;rw [nameOf_yes ho] at he;have:=numR_name hok (n:=m) (by omega) (by omega) hne;rw [he,h] at this;cases this;rfl
 refine ⟨?_,e2⟩;cases hb:readB t l
 · cases hn:namedB t n
   · rfl
   · rw [Bool.true_and]
     symm
     refine decide_eq_false fun he=>?_
     have:=(read_name hn (by rw [he];exact hl)).1;rw [he,hb] at this;cases this
 · obtain ⟨-,hn,he,-,-⟩:=read_yes hb;rw [e2 hb] at hn he;rw [hn,decide_eq_true he];rfl
theorem readL_bd {t:Tg} (hok:t.ok=true) (l:List ByteArray):∀ k,k≤l.length→∀ s,readL t (l.take k) noSums=some s→SumOk s k:=by
 intro k
 induction k with
 | zero=>intro _ s e;cases e;exact noSums_ok
 | succ k ih =>
  intro hk s e;rw [readL_snoc _ _ _ (by omega)] at e;cases h:readL t (l.take k) noSums with
  | none=>rw [h] at e;cases e
  | some s'=>rw [h] at e;exact stepOn_ok hok (ih (by omega) s' h) e
theorem numR_bd {t:Tg} (hok:t.ok=true) {l:List ByteArray} (hl:l.length≤40) {n:Int} (h:numR t l=some n):0≤n∧n≤20000000:=by
 unfold numR at h;cases e:readL t l noSums with
 | none=>rw [e] at h;cases h
 | some s =>
  rw [e,Option.map_some] at h;cases h;have hs:=(readL_bd hok l l.length (Nat.le_refl _) s (by rw [List.take_length];exact e)).sum 5 (Nat.le_refl _);omega
end
section
open Go.RowKit
structure Rdr (w:World) (g:Nat) (u:Value) (s:List Int):Prop where
 len:s.length=5
 blk:Blk w g 226 (#[u]++(s.map (Value.int .i64)).toArray)
section
variable {w w' : World} {g : Nat} {u : Value} {s : List Int}
theorem Rdr.base (h:Rdr w g u s):w.cell? ⟨g,0,none⟩=some u:=by rw [h.blk.cell];simp
theorem Rdr.cell (h:Rdr w g u s) {i:Nat} (hi:i < 5):w.cell? ⟨g,1+i,none⟩=some (.int .i64 (s.getD i 0)):=by
 have hl:=h.len;rw [h.blk.cell,Array.getElem?_append_right (by simp)]
 simp [List.getElem?_eq_getElem (show i < s.length by omega)]
theorem Rdr.frozen (h:Rdr w g u s) (i:Nat):w.frozen? ⟨g,i,none⟩=false:=h.blk.frozen i
theorem Rdr.set_ (h:Rdr w g u s) {i:Nat} (hi:i < 5) (x:Int):Rdr (w.setCell ⟨g,1+i,none⟩ (.int .i64 x)) g u (s.set i x):=by
 have hl:=h.len;refine ⟨by rw [List.length_set];exact hl,?_⟩;have:=h.blk.set_ (1+i) (.int .i64 x)
 have e:(#[u]++(s.map (Value.int .i64)).toArray).setIfInBounds (1+i) (.int .i64 x)=#[u]++((s.set i x).map (Value.int .i64)).toArray:=by
  apply Array.ext_getElem?;intro j;rw [Array.getElem?_setIfInBounds]
  by_cases hj:1+i=j
  · subst hj;rw [if_pos rfl,if_pos (by simp;omega),Array.getElem?_append_right (by simp)]
    simp [show i < s.length by omega]
  · rw [if_neg hj];rcases Nat.lt_or_ge j 1 with h1 | h1
    · rw [Array.getElem?_append_left (by simpa using h1),Array.getElem?_append_left (by simpa using h1)]
    · rw [Array.getElem?_append_right (by simpa using h1),Array.getElem?_append_right (by simpa using h1)];simp only [List.size_toArray,List.length_cons,List.length_nil,List.getElem?_toArray,List.map_set];rw [List.getElem?_set_ne (by omega)]
 rwa [e] at this
theorem Rdr.drewN (h:Rdr w g u s) (m:Nat):Rdr (w.drewN m) g u s:=⟨h.len,h.blk.drewN m⟩
theorem Rdr.below {B:Nat} (h:Rdr w g u s) (hb:Below B w w') (hg:g < B):Rdr w' g u s:=⟨h.len,h.blk.below hb hg⟩
theorem Rdr.lt (h:Rdr w g u s):g < w.heap.size:=h.blk.lt
theorem Rdr.ints (h:Rdr w g u s) {p:Nat} (hp:p≤5):Ints w .i64 (some ⟨g,1,none⟩) p 5 (s.take p) :=
 ⟨by have:=h.len;simp;omega,hp,fun _=>⟨g,1,rfl,h.lt,fun j hj=>by
  rw [h.cell (by omega)]
  simp [List.getD_eq_getElem?_getD,hj]⟩⟩
theorem Rdr.zero (h:Rdr w g u s) {p:Nat} (h1:1≤p) (hp:p < 5):Rdr (w.setCells g 1 (List.replicate p (.int .i64 0))) g u (zeroTo s p)∧w.grownBy (w.setCells g 1 (List.replicate p (.int .i64 0))) (some g):=by
 have hl:=h.len
 obtain ⟨a,b,c,d,e,rfl⟩:∃ a b c d e,s=[a,b,c,d,e]:=by
  match s,hl with
  | [a,b,c,d,e],_=>exact ⟨a,b,c,d,e,rfl⟩
 have k0:=h.set_ (i:=0) (by omega) 0;have k1:=k0.set_ (i:=1) (by omega) 0;have k2:=k1.set_ (i:=2) (by omega) 0;have k3:=k2.set_ (i:=3) (by omega) 0;have g0:=grown_setCell w g 1 (.int .i64 0);have g1:=g0.trans (grown_setCell _ g 2 (.int .i64 0));have g2:=g1.trans (grown_setCell _ g 3 (.int .i64 0));have g3:=g2.trans (grown_setCell _ g 4 (.int .i64 0));rcases (show p=1∨p=2∨p=3∨p=4 by omega) with rfl | rfl | rfl | rfl
 · exact ⟨k0,g0⟩
 · exact ⟨k1,g1⟩
 · exact ⟨k2,g2⟩
 · exact ⟨k3,g3⟩
end
theorem sumTo_take (s:List Int) (p:Nat):sumTo' (s.take p) p=sumTo' s p :=
 sumTo_ext p fun i hi=>by simp [List.getD_eq_getElem?_getD,hi]
theorem sumTo_lim {xs:List Int} {M:Int} (_hM:0≤M) (h:∀ j,0≤xs.getD j 0∧xs.getD j 0≤M):∀ k:Nat,0≤sumTo' xs k∧sumTo' xs k≤M * (k:Int):=by
 intro k
 induction k with
 | zero=>exact ⟨Int.le_refl _,by simp [sumTo']⟩
 | succ k ih =>
  have h2:=h k;rw [sumTo']
  have e:M * ((k+1:Nat):Int)=M * k+M:=by
   rw [show ((k+1:Nat):Int)=(k:Int)+1 by omega,Int.mul_add,Int.mul_one]
  omega
theorem take_bd {s:List Int} {k:Nat} (h:SumOk s k) (hk:k≤50) (p:Nat):∀ j,0≤(s.take p).getD j 0∧(s.take p).getD j 0≤5000000:=fun j=>by
 by_cases hj:j < p
 · have e:(s.take p).getD j 0=s.getD j 0:=by simp [List.getD_eq_getElem?_getD,hj]
   rw [e];have:=h.bd j;omega
 · have e:(s.take p).getD j 0=0:=by simp [List.getD_eq_getElem?_getD,List.getElem?_take,hj]
   omega
theorem sumOfAll_any (A:Option Addr) (n c:Nat) (xs:List Int) (w:World) (h:Ints w .i64 A n c xs) (hn:n≤100) (hb:∀ j,0≤xs.getD j 0∧xs.getD j 0≤5000000) :
 Calls Tryz.prog 225 #[.slice A n c] w fun e w'=>e=.returned (.int .i64 (sumTo' xs n))∧w=w':=by
 have HS:=Lib.hid (sumTo_lim (by decide) hb);have HB:=Lib.hid hb;clear hb;go_enter Tryz.func225,Tryz.ntmps225;go_wp2
 go_loop [3,8] (fun s3 s8=>∃ k:Nat,k≤n∧s8=.int .i64 k∧s3=.int .i64 (sumTo' xs k)) (fun _ i=>n - (intOf i).toNat)
 case atStart=>exact ⟨0,Nat.zero_le _,rfl,rfl⟩
 case round =>
  obtain ⟨k,hk,rfl,rfl⟩:=hrel
  by_cases hlt:k < n
  · obtain ⟨b,o,rfl,-,hc⟩:=h.at_ (by omega);have ck:=hc k hlt;have b1:=HS.out k;have b2:=HB.out k;have HJ:sumTo' xs (k+1)=sumTo' xs k+xs.getD k 0:=rfl;generalize xs.getD k 0=x at *;generalize sumTo' xs k=y at *;replace HJ:=Lib.hid HJ;clear hc;go_wp2
    go_round
    case rel=>exact ⟨k+1,by omega,by go_num,by rw [HJ.out]⟩
    case measure=>simp [intOf];omega
  · obtain rfl:k=n:=by omega
    go_wp2;go_ret;exact ⟨rfl,rfl⟩
def RdrPost (w:World) (g:Nat) (u:Value) (s:List Int) (e:Ending) (w':World):Prop:=e=.returned (.bool true)∧Rdr w' g u s∧w.grownBy w' (some g)
set_option maxHeartbeats 1000000 in
theorem addUnit_any (g:Nat) (u:Value) (s:List Int) (x:Int) (w:World) (h:Rdr w g u s) (hs:0≤s.getD 0 0∧s.getD 0 0≤5000000) (hx:0≤x∧x≤100000) :
 Calls Tryz.prog 231 #[.pointer (some ⟨g,0,none⟩),.int .i64 x] w (RdrPost w g u (addOn s x)):=by
 have c0:=h.cell (i:=0) (by omega);simp only [Nat.add_zero] at c0;have f0:=h.frozen 1;have HF:∀ m,RdrPost w g u (addOn s x) (.returned (.bool true)) ((w.setCell ⟨g,1,none⟩ (.int .i64 (s.getD 0 0+x))).drewN m):=fun m=>⟨rfl,(h.set_ (i:=0) (by omega) _).drewN m,grown_drewN (grown_setCell _ _ _ _) m⟩
 replace HF:=Lib.hid HF;have hw:IntKind.i64.wrap (s.getD 0 0+x)=s.getD 0 0+x:=IntWalk.i64_in _ (by omega);generalize s.getD 0 0=y at *;clear h;go_enter Tryz.func231,Tryz.ntmps231;go_wp2
 go_region
 all_goals
  go_wp2;go_ret;exact HF.out 1
def TakePost (w:World) (g:Nat) (u:Value) (res:Option (List Int)) (e:Ending) (w':World):Prop :=
 w.grownBy w' (some g)∧((res=none∧e=.returned (.bool false))∨∃ s',res=some s'∧e=.returned (.bool true)∧Rdr w' g u s')
set_option maxRecDepth 100000 in
set_option maxHeartbeats 2000000 in
theorem takeBase_any (g:Nat) (A2:Option Addr) (c2:Nat) (b:List Int) (s:List Int) (k p:Nat) (w:World) (h:Rdr w g (.slice A2 b.length c2) s) (hI:Ints w .i64 A2 b.length c2 b) (hne:∀ a o,A2=some ⟨a,o,none⟩→a≠g)
 (hs:SumOk s k) (hk:k≤50) (h1:1≤p) (hp:p < 5) (hbl:b.length≤5) (hpb:p < b.length) (hb:1≤b.getD p 0∧b.getD p 0≤999999) :
 Calls Tryz.prog 232 #[.pointer (some ⟨g,0,none⟩),.int .i64 p] w (TakePost w g (.slice A2 b.length c2) (takeOn b s p)):=by
 obtain ⟨a2,o2,rfl,hlt2,hc2⟩:=hI.at_ (by omega);have hag:=hne a2 o2 rfl;have KS:=sumOfAll_any (some ⟨g,1,none⟩) p 5 (s.take p) w (h.ints (by omega)) (by omega) (take_bd hs hk p);rw [sumTo_take] at KS;replace KS:=Lib.hid KS;have hsb:=hs.sum p (by omega)
 have HC:∀ ty,(Builtin.clear_ #[29] ty #[.slice (some ⟨g,1,none⟩) p 5]).run Tryz.prog w=.ok (.tuple #[]) (w.setCells g 1 (List.replicate p (.int .i64 0))):=fun ty =>
  Lib.run_clear_slice w _ _ ty _ Tryz.underlying29 zeroInt rfl rfl g 1 p 5 (by omega) (fun j hj=>by rw [h.cell (by omega)];rfl) (fun j _=>h.frozen _)
 obtain ⟨hz,hgz⟩:=h.zero h1 hp
 have hT:(timesOf s p=1∧sumTo' s p=0)∨(timesOf s p=sumTo' s p∧sumTo' s p≠0):=by
  unfold timesOf
  split
  · rename_i e;exact .inl ⟨rfl,e⟩
  · rename_i e;exact .inr ⟨rfl,e⟩
 have hTp:=times_pos hs (p:=p) (by omega);have hTm:=times_mul hs hp hb.1;have hbd:=hs.bd p;have hTk:takeOn b s p=if 99999 / b.getD p 0 < timesOf s p then none else some ((zeroTo s p).set p (s.getD p 0+timesOf s p * b.getD p 0)):=rfl
 have hzp:(zeroTo s p).getD p 0=s.getD p 0:=by rw [getD_zeroTo _ _ _ (by have:=hs.len;omega),if_neg (by omega)]
 have hc:w.cell? ⟨a2,o2+p,none⟩=some (.int .i64 (b.getD p 0)):=hc2 p hpb
 have hTb:timesOf s p≤100000000:=by
  rcases hT with ⟨e,_⟩ | ⟨e,_⟩
  · omega
  · rw [e];have hp5:(p:Int)≤4:=by omega
    have:100000 * (k:Int) * (p:Int)≤5000000 * 4:=Int.mul_le_mul (by omega) hp5 (by omega) (by omega);omega
 have hu0:=h.base;have fz:=h.frozen 1;generalize takeOn b s p=res at *;generalize timesOf s p=T at *;generalize sumTo' s p=t0 at *;generalize s.getD p 0=y at *;generalize b.getD p 0=bp at *;generalize hzs:zeroTo s p=zs at *;replace hzs:=Lib.hid hzs;replace hTk:=Lib.hid hTk;replace hz:=Lib.hid hz;replace hgz:=Lib.hid hgz;replace hT:=Lib.hid hT;replace hTm:=Lib.hid hTm;replace hzp:=Lib.hid hzp;clear hI hc2 hne hs h;have pc:(p:Int)≤5:=by omega
 have pc':p≤5:=by omega
 go_enter Tryz.func232,Tryz.ntmps232;go_wp2_with (fail);refine KS.out.mono ?_;rintro e w' ⟨rfl,rfl⟩;clear KS;go_upto_region 3 with (fail)
 generalize w.setCells g 1 (List.replicate p (.int .i64 0))=W1 at *;have hu1:=hz.out.base;have hy1:=hz.out.cell (i:=p) (by omega);rw [hzp.out] at hy1;have fy1:=hz.out.frozen (1+p);have hc1:W1.cell? ⟨a2,o2+p,none⟩=some (.int .i64 bp):=(World.cell?_of_block (a:=⟨a2,o2+p,none⟩) (hgz.out.block a2 hlt2 (fun e=>hag (Option.some.inj e)))).trans hc;have hset:=fun v=>hz.out.set_ (i:=p) (by omega) v
 replace hset:=Lib.hid hset;clear hu0 fz hc HC
 go_upto_if 18 with (fail)
 go_cut [5] (fun s5 wx=>s5=.int .i64 T∧W1=wx)
 case first =>
  rcases hT.out with ⟨e1,e2⟩ | ⟨e1,e2⟩
  · have hb0:(t0==0)=true:=by rw [beq_iff_eq];exact e2
    replace e1:=Lib.hid e1;clear e2;go_wp2
    go_meet
    exact ⟨by rw [e1.out],rfl⟩
  · have hb0:(t0==0)=false:=by rw [beq_eq_false_iff_ne];exact e2
    replace e1:=Lib.hid e1;replace e2:=Lib.hid e2;go_wp2
    go_meet
    exact ⟨by rw [e1.out],rfl⟩
 case rest =>
  obtain ⟨rfl,rfl⟩:=hcut;have hbz:¬ bp=0:=by omega
  have hp0:(p:Int) < 5:=by omega
  have hpl:(p:Int) < (b.length:Int):=by omega
  have hq:IntKind.i64.wrap ((99999:Int).tdiv bp)=99999 / bp:=by
   have q1:=IntWalk.tdiv_le 99999 bp (by omega) (by omega);rw [Int.tdiv_eq_ediv_of_nonneg (by omega)];exact IntWalk.i64_in _ (by omega)
  by_cases hlt:99999 / bp < T
  · have hn:=hTk.out;rw [if_pos hlt] at hn;have hF:TakePost w g (.slice (some ⟨a2,o2,none⟩) b.length c2) res (.returned (.bool false)) W1:=⟨hgz.out,.inl ⟨hn,rfl⟩⟩;replace hF:=Lib.hid hF;clear hn;go_wp2;go_ret;exact hF.out
  · have hn:=hTk.out;rw [if_neg hlt] at hn;have hm:=hTm.out (by omega);have w1:IntKind.i64.wrap (T * bp)=T * bp:=IntWalk.i64_in _ (by omega);have w2:IntKind.i64.wrap (y+T * bp)=y+T * bp:=IntWalk.i64_in _ (by omega)
    have hF:∀ m,TakePost w g (.slice (some ⟨a2,o2,none⟩) b.length c2) res (.returned (.bool true)) ((W1.setCell ⟨g,1+p,none⟩ (.int .i64 (y+T * bp))).drewN m):=fun m =>
     ⟨grown_drewN (hgz.out.trans (grown_setCell _ _ _ _)) m,.inr ⟨_,hn,rfl,(hset.out _).drewN m⟩⟩
    replace hF:=Lib.hid hF;clear hn hm;go_upto_region 7 with (fail)
    go_region
    all_goals
     go_wp2;go_ret;exact hF.out 1
end
section
open Go.RowKit Go.WideMaps Go.Maps
def stepCells:List Value→Option (DataW Unit × List MemPlace)
 | [.func (.func f) a b,.int k n]=>if a.size=0∧b.size=0∧k=.i64 then some (.agg [.lit (.int .i64 f),.lit (.int .i64 n)],[]) else none
 | [.nilFunc,.int k n]=>if k=.i64 then some (.agg [.lit (.int .i64 (-1)),.lit (.int .i64 n)],[]) else none
 | _=>none
def stepElem:Value→Option (DataW Unit × List MemPlace)
 | .agg cs=>stepCells cs.toList
 | _=>none
abbrev stepV (f:Nat) (n:Int):Value:=.agg #[.func (.func f) #[] #[],.int .i64 n]
def stepD (f:Nat) (n:Int):DataW Unit:=.agg [.lit (.int .i64 f),.lit (.int .i64 n)]
theorem stepElem_mk (f:Nat) (n:Int):stepElem (stepV f n)=some (stepD f n,[]):=rfl
theorem stepElem_inv {v:Value} {f:Nat} {n:Int} {ps:List MemPlace} (h:stepElem v=some (stepD f n,ps)):v=stepV f n:=by
 unfold stepElem at h
 split at h
 · rename_i cs
   unfold stepCells at h
   split at h
   · rename_i f' a b k n' e
     split at h
     · rename_i hc
       obtain ⟨ha,hb,rfl⟩:=hc;simp only [stepD,Option.some.injEq,Prod.mk.injEq,DataW.agg.injEq,List.cons.injEq,DataW.lit.injEq,Lit.int.injEq] at h;obtain ⟨⟨⟨-,hf⟩,⟨-,rfl⟩,-⟩,-⟩:=h;obtain rfl:f'=f:=Int.ofNat_inj.1 hf;have e1:a=#[]:=Array.size_eq_zero_iff.1 ha;have e2:b=#[]:=Array.size_eq_zero_iff.1 hb;subst e1 e2;have:cs=#[.func (.func f') #[] #[],.int .i64 n']:=Array.toList_inj.1 e;rw [this]
     · cases h
   · split at h
     · simp only [stepD,Option.some.injEq,Prod.mk.injEq,DataW.agg.injEq,List.cons.injEq,DataW.lit.injEq,Lit.int.injEq] at h;obtain ⟨⟨⟨-,hf⟩,-⟩,-⟩:=h;omega
     · cases h
   · cases h
 · cases h
theorem stepElem_zero {v:Value} {ps:List MemPlace} (h:stepElem v=some (.agg [.lit (.int .i64 (-1)),.lit (.int .i64 0)],ps)):v=.agg #[.nilFunc,.int .i64 0]:=by
 unfold stepElem at h
 split at h
 · rename_i cs
   unfold stepCells at h
   split at h
   · split at h
     · simp only [Option.some.injEq,Prod.mk.injEq,DataW.agg.injEq,List.cons.injEq,DataW.lit.injEq,Lit.int.injEq] at h;obtain ⟨⟨⟨-,hf⟩,-⟩,-⟩:=h;omega
     · cases h
   · rename_i k n' e
     split at h
     · rename_i hk
       subst hk;simp only [Option.some.injEq,Prod.mk.injEq,DataW.agg.injEq,List.cons.injEq,DataW.lit.injEq,Lit.int.injEq] at h;obtain ⟨⟨-,⟨-,rfl⟩,-⟩,-⟩:=h;have:cs=#[.nilFunc,.int .i64 0]:=Array.toList_inj.1 e;rw [this]
     · cases h
   · cases h
 · cases h
theorem stepZero (w:World):(zeroValue 229).run Tryz.prog w=.ok (.agg #[.nilFunc,.int .i64 0]) w:=by kernel_rfl
theorem stepZero_reads:stepElem (.agg #[.nilFunc,.int .i64 0])=some (.agg [.lit (.int .i64 (-1)),.lit (.int .i64 0)],[]):=rfl
def plF (ws:List ByteArray) (f:Nat→DataW Unit):Nat→DataW Unit
 | 0=>.map []
 | k+1=>(plF ws f k).put (keyL (ws.getD k ByteArray.empty)) (f k)
theorem plF_tidy (ws:List ByteArray) (f:Nat→DataW Unit):∀ k,Tidy (plF ws f k)
 | 0=>tidy_empty
 | k+1=>(plF_tidy ws f k).put (keyL_is _) _
theorem plF_has (ws:List ByteArray) (f:Nat→DataW Unit) (x:ByteArray):∀ k,k≤ws.length→(Maps.has (plF ws f k) (keyL x)=true ↔ x ∈ ws.take k)
 | 0,_=>by simp [plF,Maps.has]
 | k+1,h=>by
  have hk:k < ws.length:=by omega
  have hg:ws.getD k ByteArray.empty=ws[k]:=by simp [List.getD_eq_getElem?_getD,hk]
  have hr:=plF_has ws f x k (by omega);rw [List.take_succ_eq_append_getElem hk]
  by_cases e:x=ws[k]
  · subst e
    show Maps.has ((plF ws f k).put _ _) _=true ↔ _
    rw [hg,has_put_same (plF_tidy ws f k).isMap (keyL_is _)];simp only [List.mem_append,List.mem_singleton,or_true]
  · show Maps.has ((plF ws f k).put _ _) _=true ↔ _
    rw [hg,has_put_other (keyL_inj e),hr];simp only [List.mem_append,List.mem_singleton,e,or_false]
theorem plF_at (ws:List ByteArray) (f:Nat→DataW Unit) (hd:ws.Nodup) (z:DataW Unit):∀ k,k≤ws.length→∀ j,(hj:j < k)→(plF ws f k).atKey (keyL (ws.getD j ByteArray.empty)) z=f j
 | k+1,h,j,hj=>by
  by_cases e:j=k
  · subst e;exact atKey_put_same (plF_tidy ws f j).isMap (keyL_is _) _ _
  · have hne:ws.getD j ByteArray.empty≠ws.getD k ByteArray.empty:=by
     have hjl:j < ws.length:=by omega
     have hkl:k < ws.length:=by omega
     simp only [List.getD_eq_getElem?_getD,List.getElem?_eq_getElem hjl,List.getElem?_eq_getElem hkl,Option.getD_some];exact List.pairwise_iff_getElem.1 hd j k hjl hkl (by omega)
    show ((plF ws f k).put _ _).atKey _ _=_
    rw [atKey_put_other (keyL_inj hne)];exact plF_at ws f hd z k (by omega) j (by omega)
def fS (t:Tg) (k:Nat):DataW Unit:=if k < t.us.length then stepD 231 ((k:Int)+1) else stepD 232 (((k - t.us.length:Nat):Int)+1)
def stD (t:Tg) (k:Nat):DataW Unit:=plF (t.us++t.ns) (fS t) k
theorem stD_us {t:Tg} {k:Nat} (hk:k < t.us.length):stD t (k+1)=(stD t k).put (keyL (t.us.getD k ByteArray.empty)) (stepD 231 ((k:Int)+1)):=by
 have e:(t.us++t.ns).getD k ByteArray.empty=t.us.getD k ByteArray.empty:=by simp [List.getD_eq_getElem?_getD,List.getElem?_append_left hk]
 unfold stD;rw [plF,e,fS,if_pos hk]
theorem stD_ns {t:Tg} {k:Nat}:stD t (t.us.length+(k+1))=(stD t (t.us.length+k)).put (keyL (t.ns.getD k ByteArray.empty)) (stepD 232 ((k:Int)+1)):=by
 have e:(t.us++t.ns).getD (t.us.length+k) ByteArray.empty=t.ns.getD k ByteArray.empty:=by
  rw [List.getD_eq_getElem?_getD,List.getElem?_append_right (by omega)]
  simp [List.getD_eq_getElem?_getD]
 unfold stD
 show plF _ _ ((t.us.length+k)+1)=_
 rw [plF,e,fS,if_neg (by omega),show t.us.length+k - t.us.length=k by omega]
def stAll (t:Tg):DataW Unit:=stD t (t.us.length+t.ns.length)
theorem st_has (t:Tg) (x:ByteArray):Maps.has (stAll t) (keyL x)=(decide (place t.us x < t.us.length) || decide (place t.ns x < t.ns.length)):=by
 have h:=plF_has (t.us++t.ns) (fS t) x (t.us++t.ns).length (Nat.le_refl _);rw [List.take_length,List.mem_append,← place_mem,← place_mem] at h;have e:stAll t=plF (t.us++t.ns) (fS t) (t.us++t.ns).length:=by rw [List.length_append];rfl
 rw [← e] at h;rw [Bool.eq_iff_iff,h,Bool.or_eq_true,decide_eq_true_eq,decide_eq_true_eq]
theorem st_us {t:Tg} (hok:t.ok=true) {x:ByteArray} (h:place t.us x < t.us.length) (z:DataW Unit):(stAll t).atKey (keyL x) z=stepD 231 ((place t.us x:Int)+1):=by
 have hd:=((ok_iff t).1 hok).2.2.2.2.2;have:=plF_at (t.us++t.ns) (fS t) hd z (t.us++t.ns).length (Nat.le_refl _) (place t.us x) (by simp;omega);have e:stAll t=plF (t.us++t.ns) (fS t) (t.us++t.ns).length:=by rw [List.length_append];rfl
 rw [← e,fS,if_pos h] at this
 have e2:(t.us++t.ns).getD (place t.us x) ByteArray.empty=x:=by
  rw [List.getD_eq_getElem?_getD,List.getElem?_append_left h,← List.getD_eq_getElem?_getD];exact place_at h
 rwa [e2] at this
theorem st_ns {t:Tg} (hok:t.ok=true) {x:ByteArray} (h:place t.ns x < t.ns.length) (z:DataW Unit):(stAll t).atKey (keyL x) z=stepD 232 ((place t.ns x:Int)+1):=by
 have hd:=((ok_iff t).1 hok).2.2.2.2.2;have:=plF_at (t.us++t.ns) (fS t) hd z (t.us++t.ns).length (Nat.le_refl _) (t.us.length+place t.ns x) (by simp;omega);have e:stAll t=plF (t.us++t.ns) (fS t) (t.us++t.ns).length:=by rw [List.length_append];rfl
 rw [← e,fS,if_neg (by omega),show t.us.length+place t.ns x - t.us.length=place t.ns x by omega] at this
 have e2:(t.us++t.ns).getD (t.us.length+place t.ns x) ByteArray.empty=x:=by
  rw [List.getD_eq_getElem?_getD,List.getElem?_append_right (by omega),show t.us.length+place t.ns x - t.us.length=place t.ns x by omega,← List.getD_eq_getElem?_getD];exact place_at h
 rwa [e2] at this
theorem wpList_step_yes {P:Program} (w:World) {ops:Array Oper} {rest:List Oper} {o:Oper} {a:Act} {Q:Exit→Act→World→Prop} (hg:o.guard=none) (m x:Operand) (t:TypeId) (hop:o.op=Op.lookup t m x true)
 (k e:TypeId) (K:Keyed P k) (ht:P.underlying t=some (.map k e)) (hz:(zeroValue e).run P w=.ok (.agg #[.nilFunc,.int .i64 0]) w) (b n:Nat) (D:DataW Unit)
 (hm:a.eval m=.map (some b)) (hown:w.ownsMap P k stepElem b n D) (key:Value) (kl:Lit) (hx:a.eval x=key) (hkey:keyOf P k key=some kl) (f:Nat) (j:Int) (hh:Maps.has D kl=true) (hat:∀ z,D.atKey kl z=stepD f j)
 (hK:wpList P ops Q rest (a.put o.dst (.tuple #[stepV f j,.bool true])) w):wpList P ops Q (o :: rest) a w :=
 wpList_lookup_own_ok w hg m x t hop k e K ht stepElem hz _ [] stepZero_reads b n D hm hown key kl hx hkey (fun v ps hv=>by
  rw [hat] at hv;rw [stepElem_inv hv,hh];exact hK)
theorem wpList_step_no {P:Program} (w:World) {ops:Array Oper} {rest:List Oper} {o:Oper} {a:Act} {Q:Exit→Act→World→Prop} (hg:o.guard=none) (m x:Operand) (t:TypeId) (hop:o.op=Op.lookup t m x true)
 (k e:TypeId) (K:Keyed P k) (ht:P.underlying t=some (.map k e)) (hz:(zeroValue e).run P w=.ok (.agg #[.nilFunc,.int .i64 0]) w) (b n:Nat) (D:DataW Unit)
 (hm:a.eval m=.map (some b)) (hown:w.ownsMap P k stepElem b n D) (key:Value) (kl:Lit) (hx:a.eval x=key) (hkey:keyOf P k key=some kl) (hh:Maps.has D kl=false)
 (hK:wpList P ops Q rest (a.put o.dst (.tuple #[.agg #[.nilFunc,.int .i64 0],.bool false])) w):wpList P ops Q (o :: rest) a w :=
 wpList_lookup_own_ok w hg m x t hop k e K ht stepElem hz _ [] stepZero_reads b n D hm hown key kl hx hkey (fun v ps hv=>by
  rw [atKey_of_not_has hh] at hv;rw [stepElem_zero hv,hh];exact hK)
def Stepped (w:World) (b:Nat) (t:Tg) (k:Nat):Prop:=w.ownsMap Tryz.prog 9 stepElem b k (stD t k)
set_option maxRecDepth 100000 in
set_option maxHeartbeats 2000000 in
theorem stepsOf_any (v:Value) (t:Tg) (w:World) (h:Tng w v t) (hok:t.ok=true) (hf:t.Fine) :
 Calls Tryz.prog 224 #[v] w fun e w'=>e=.returned (.map (some (w.heap.size+1)))∧Stepped w' (w.heap.size+1) t (t.us.length+t.ns.length)∧Below w.heap.size w w':=by
 obtain ⟨A1,c1,A2,c2,A3,c3,rfl,-⟩:=h.ex;have hmm:=fun kd n W=>run_makeMap_n (P:=Tryz.prog) 222 9 229 kd n Tryz.underlying222 W
 have hs:=ok_shape hok;have hul:=hs.us;have hns:=hs.ns;have hbl:=bases_len hs.bs;have hB:=(Below.refl w.heap.size w).alloc (Nat.le_refl _) (.cells #[.slice A1 t.us.length c1,.slice A2 t.bs.length c2,.slice A3 t.ns.length c3] 31);have HX:=Blk.new w 31 #[.slice A1 t.us.length c1,.slice A2 t.bs.length c2,.slice A3 t.ns.length c3];have HT:=h.below hB (Nat.le_refl _);have hsz:∀ x,x ∈ t.us++t.ns→x.size≤maxLen:=fun x hx=>by have:=hf.size x hx;unfold maxLen;omega
 have hsu:∀ k,(t.us.getD k ByteArray.empty).size≤maxLen:=fun k=>by
  by_cases hk:k < t.us.length
  · rw [List.getD,List.getElem?_eq_getElem hk];exact hsz _ (List.mem_append_left _ (List.getElem_mem hk))
  · rw [List.getD,List.getElem?_eq_none (by omega)];exact Nat.zero_le _
 have hsn:∀ k,(t.ns.getD k ByteArray.empty).size≤maxLen:=fun k=>by
  by_cases hk:k < t.ns.length
  · rw [List.getD,List.getElem?_eq_getElem hk];exact hsz _ (List.mem_append_right _ (List.getElem_mem hk))
  · rw [List.getD,List.getElem?_eq_none (by omega)];exact Nat.zero_le _
 replace hsu:=Lib.hid hsu;replace hsn:=Lib.hid hsn;replace hB:=Lib.hid hB;replace HX:=Lib.hid HX;replace HT:=Lib.hid HT;clear h hf hsz hs;have hsW:(w.alloc (.cells #[.slice A1 t.us.length c1,.slice A2 t.bs.length c2,.slice A3 t.ns.length c3] 31)).heap.size=w.heap.size+1:=World.size_alloc ..;go_enter Tryz.func224,Tryz.ntmps224;go_upto_region 1 with (fail)
 generalize w.alloc (.cells #[.slice A1 t.us.length c1,.slice A2 t.bs.length c2,.slice A3 t.ns.length c3] 31)=W at *;obtain ⟨x0,x1,x2,-,-,-⟩:=blk3 HX.out;have kk:IntKind.i64.wrap ((t.us.length:Int)+(t.ns.length:Int))=(t.us.length:Int)+(t.ns.length:Int):=IntWalk.i64_in _ (by omega);have hD0:Stepped (W.alloc (.map #[] 0)) W.heap.size t 0:=World.ownsMap_made _ _ _ _;have hB0:=hB.out.alloc hB.out.size (.map #[] 0);have HX0:=HX.out.alloc (.map #[] 0);have hBm:=(Below.refl W.heap.size W).alloc (Nat.le_refl _) (.map #[] 0);obtain ⟨_,_,_,_,_,_,ev,S1,-,S3⟩:=HT.out.ex;cases ev;obtain ⟨b1,o1,rfl,hb1,hc1⟩:=S1.at_ (by omega);have HU:∀ k,k < t.us.length→(W.alloc (.map #[] 0)).cell? ⟨b1,o1+k,none⟩=some (.string (t.us.getD k ByteArray.empty)):=fun k hk=>(hBm.cell (p:=⟨b1,o1+k,none⟩) hb1).trans (hc1 k hk)
 have HN:0 < t.ns.length→∃ b o,A3=some ⟨b,o,none⟩∧b < W.heap.size∧∀ k,k < t.ns.length→(W.alloc (.map #[] 0)).cell? ⟨b,o+k,none⟩=some (.string (t.ns.getD k ByteArray.empty)):=fun h0=>by
  obtain ⟨b,o,e,hb,hc⟩:=S3.at_ h0;exact ⟨b,o,e,hb,fun k hk=>(hBm.cell (p:=⟨b,o+k,none⟩) hb).trans (hc k hk)⟩
 have hls:∀ (b:Nat) (wr:World),b < W.heap.size→(W.alloc (.map #[] 0)).grownBy wr (some W.heap.size)→wr.heap[b]?=(W.alloc (.map #[] 0)).heap[b]?:=fun b wr hb hg=>hg.block b (by have:=hBm.size;omega) (fun e=>by cases e;omega)
 replace hD0:=Lib.hid hD0;replace hB0:=Lib.hid hB0;replace HX0:=Lib.hid HX0;replace HU:=Lib.hid HU;replace HN:=Lib.hid HN;replace hls:=Lib.hid hls;clear S1 S3 hc1 hBm;replace hsW:=Lib.hid hsW;clear hB HX HT;go_upto_region 2 with (fail)
 have hsM:W.heap.size=w.heap.size+1:=hsW.out;replace hsM:=Lib.hid hsM;have hMM:W.heap.size=w.heap.size+1:=hsM.out;generalize W.alloc (.map #[] 0)=W1 at *;generalize W.heap.size=M at *;replace hMM:=Lib.hid hMM;have HXu:=Lib.hid (fun W' (hb:Below W1.heap.size W1 W')=>blk3 (HX0.out.below hb HX0.out.lt));clear x0 x1 x2 hmm kk hsW hsM;obtain ⟨x0,x1,x2,-,-,-⟩:=blk3 HX0.out;have hMw:w.heap.size≤M:=by rw [hMM.out];omega
 replace hMw:=Lib.hid hMw;go_wp2
 go_loopw [19] (fun i wr=>∃ k:Nat,k≤t.us.length∧i=.int .i64 k∧Stepped wr M t k∧W1.grownBy wr (some M)) (fun i _=>t.us.length - (intOf i).toNat)
 case atStart=>exact ⟨0,Nat.zero_le _,rfl,hD0.out,World.grownBy.refl _ _⟩
 case round =>
  obtain ⟨k,hk,rfl,hown,hg⟩:=hrel;have hXr:=HX0.out.grown hg (fun e=>by have:=Option.some.inj e;have:=hMM.out;omega)
  by_cases hlt:k < t.us.length
  · have ck:=(World.cell?_of_block (a:=⟨b1,o1+k,none⟩) (hls.out b1 wr hb1 hg)).trans (HU.out k hlt);have hkey:=keyOf_string_mk (P:=Tryz.prog) Tryz.underlying9 (hsu.out k);have HD:=stD_us (t:=t) hlt;generalize t.us.getD k ByteArray.empty=x at *;replace hown:=Lib.hid hown;replace hg:=Lib.hid hg;replace hkey:=Lib.hid hkey;replace HD:=Lib.hid HD;have kw:IntKind.i64.wrap ((k:Int)+1)=(k:Int)+1:=IntWalk.i64_in _ (by omega);clear hXr;go_wp2_with (at_mapUpdate;refine wpList_mapUpdate_own _ rfl _ _ _ 222 rfl 9 229 keyLaw Tryz.underlying222 stepElem M k _ rfl hown.out (by unfold maxLen;omega) _ _ _ rfl rfl hkey.out _ [] (stepElem_mk _ _) ?_;intro w1 hown1 hgrow1);have HG:=Lib.hid (hg.out.trans hgrow1);rw [← HD.out] at hown1;replace hown1:=Lib.hid hown1;clear hgrow1;go_wp2
    go_roundw
    case rel=>exact ⟨k+1,by omega,by go_num,hown1.out,HG.out⟩
    case measure=>simp [intOf];omega
  · obtain rfl:k=t.us.length:=by omega
    replace hown:=Lib.hid hown;replace hg:=Lib.hid hg;clear x0 x1 x2;obtain ⟨x0,x1,x2,-,-,-⟩:=blk3 hXr;clear hXr;go_wp2
    go_loopw [33] (fun i wq=>∃ k:Nat,k≤t.ns.length∧i=.int .i64 k∧Stepped wq M t (t.us.length+k)∧W1.grownBy wq (some M)) (fun i _=>t.ns.length - (intOf i).toNat)
    case atStart=>exact ⟨0,Nat.zero_le _,rfl,hown.out,hg.out⟩
    case round =>
     obtain ⟨k,hk,rfl,hown2,hg2⟩:=hrel;clear x0 x1 x2 hown hg
     by_cases hlt2:k < t.ns.length
     · obtain ⟨b3,o3,rfl,hb3,hc3⟩:=HN.out (by omega);have ck:=(World.cell?_of_block (a:=⟨b3,o3+k,none⟩) (hls.out b3 _ hb3 hg2)).trans (hc3 k hlt2);have hkey:=keyOf_string_mk (P:=Tryz.prog) Tryz.underlying9 (hsn.out k);have HD:=stD_ns (t:=t) (k:=k);generalize t.ns.getD k ByteArray.empty=x at *;replace hown2:=Lib.hid hown2;replace hg2:=Lib.hid hg2;replace hkey:=Lib.hid hkey;replace HD:=Lib.hid HD;have kw:IntKind.i64.wrap ((k:Int)+1)=(k:Int)+1:=IntWalk.i64_in _ (by omega);clear hc3;go_wp2_with (at_mapUpdate;refine wpList_mapUpdate_own _ rfl _ _ _ 222 rfl 9 229 keyLaw Tryz.underlying222 stepElem M (t.us.length+k) _ rfl hown2.out (by unfold maxLen;omega) _ _ _ rfl rfl hkey.out _ [] (stepElem_mk _ _) ?_;intro w1 hown1 hgrow1);have HG:=Lib.hid (hg2.out.trans hgrow1);rw [← HD.out] at hown1;replace hown1:=Lib.hid hown1;clear hgrow1;go_wp2
       go_roundw
       case rel=>exact ⟨k+1,by omega,by go_num,hown1.out,HG.out⟩
       case measure=>simp [intOf];omega
     · obtain rfl:k=t.ns.length:=by omega
       replace hown2:=Lib.hid hown2;replace hg2:=Lib.hid hg2;go_wp2;go_ret;rw [hMM.out] at hown2 hg2 ⊢;exact ⟨rfl,hown2.out,hB0.out.grown hg2.out hB0.out.size (fun j hj=>by cases hj;omega)⟩
end
section
open Go.RowKit Go.WideMaps Go.Maps
structure RdgSt (w:World) (t:Tg) (u:Value) (g m:Nat) (wr:World) (s:List Int):Prop where
 rd:Rdr wr g u s
 st:Stepped wr m t (t.us.length+t.ns.length)
 low:Below w.heap.size w wr
theorem RdgSt.below {w wr w':World} {t:Tg} {u:Value} {g m:Nat} {s:List Int} (h:RdgSt w t u g m wr s) (hb:Below wr.heap.size wr w'):RdgSt w t u g m w' s :=
 ⟨h.rd.below hb h.rd.lt,h.st.kept (row:=none) (grown_of_below none hb) (by simp),h.low.trans (hb.mono h.low.size)⟩
theorem RdgSt.turn {w wr w':World} {t:Tg} {u:Value} {g m:Nat} {s s':List Int} (h:RdgSt w t u g m wr s) (hg:wr.grownBy w' (some g)) (hr:Rdr w' g u s') (hm:m≠g) (hw:w.heap.size≤g):RdgSt w t u g m w' s' :=
 ⟨hr,h.st.kept hg (fun e=>hm (Option.some.inj e)),h.low.grown hg h.low.size (fun k e=>by cases e;exact hw)⟩
set_option maxRecDepth 100000 in
set_option maxHeartbeats 4000000 in
theorem numberRead_any (v:Value) (t:Tg) (A:Option Addr) (n c:Nat) (l:List ByteArray) (w:World) (h:Tng w v t) (hok:t.ok=true) (hf:t.Fine) (hl:Strs w A n c l) (hn:n≤40) (hsz:∀ x ∈ l,x.size≤maxLen) :
 Calls Tryz.prog 212 #[v,.slice A n c] w fun e w'=>e=.returned (.tuple #[.int .i64 ((numR t l).getD (-1)),.bool (numR t l).isSome])∧Below w.heap.size w w':=by
 obtain ⟨A1,c1,A2,c2,A3,c3,rfl,-⟩:=h.ex;have hln:=hl.len;have hB:=(Below.refl w.heap.size w).alloc (Nat.le_refl _) (.cells #[.slice A1 t.us.length c1,.slice A2 t.bs.length c2,.slice A3 t.ns.length c3] 31);have HX:=Blk.new w 31 #[.slice A1 t.us.length c1,.slice A2 t.bs.length c2,.slice A3 t.ns.length c3];have HT:=h.below hB (Nat.le_refl _);have K1:=stepsOf_any _ t _ HT hok hf;rw [World.size_alloc] at K1;have HL:=Lib.hid (fun W (hb:Below w.heap.size w W)=>hl.below hb (Nat.le_refl _))
 have hA2:∀ a o,A2=some ⟨a,o,none⟩→a < w.heap.size:=fun a o e=>by
  obtain ⟨_,_,_,_,_,_,ev,-,I2,-⟩:=h.ex;cases ev;obtain ⟨a',o',e',hlt,-⟩:=I2.at_ (bases_len (ok_shape hok).bs).1;rw [e] at e';cases e';exact hlt
 replace hA2:=Lib.hid hA2;have HI:=Lib.hid (fun W (hb:Below w.heap.size w W)=>h.below hb (Nat.le_refl _));replace K1:=Lib.hid K1;replace hB:=Lib.hid hB;replace HX:=Lib.hid HX;replace hln:=Lib.hid hln;replace hsz:=Lib.hid hsz;replace hf:=Lib.hid hf;clear h hl HT;go_enter Tryz.func212,Tryz.ntmps212;go_upto_region 1 with (fail)
 have hsW:(w.alloc (.cells #[.slice A1 t.us.length c1,.slice A2 t.bs.length c2,.slice A3 t.ns.length c3] 31)).heap.size=w.heap.size+1:=World.size_alloc ..;generalize w.alloc (.cells #[.slice A1 t.us.length c1,.slice A2 t.bs.length c2,.slice A3 t.ns.length c3] 31)=W at *;obtain ⟨x0,x1,x2,-,-,-⟩:=blk3 HX.out;replace hsW:=Lib.hid hsW;go_wp2_with (fail);refine K1.out.mono ?_;rintro e w2 ⟨rfl,st2,b2⟩;rw [← hsW.out] at b2;have hB2:=hB.out.trans (b2.mono hB.out.size);have hX2:=HX.out.below b2 HX.out.lt;have hs2:w.heap.size+1 < w2.heap.size:=by have:=st2.lt;omega
 replace st2:=Lib.hid st2;replace hB2:=Lib.hid hB2;clear x0 x1 x2 b2 K1 HX hB;obtain ⟨x0,x1,x2,-,-,-⟩:=blk3 hX2;clear hX2;go_upto_region 3 with (fail)
 have hG:=Lib.hid (⟨⟨rfl,Blk.new w2 226 _⟩,st2.out.alloc _,hB2.out.alloc hB2.out.size _⟩:RdgSt w t (.slice A2 t.bs.length c2) w2.heap.size (w.heap.size+1+1) (w2.alloc (.cells #[.slice A2 t.bs.length c2,.int .i64 0,.int .i64 0,.int .i64 0,.int .i64 0,.int .i64 0] 226)) noSums);have hmg:w.heap.size+1+1≠w2.heap.size:=by have:=st2.out.lt;omega
 have hwg:w.heap.size≤w2.heap.size:=by omega
 clear x0 x1 x2 st2 hB2 hs2;generalize w2.alloc (.cells #[.slice A2 t.bs.length c2,.int .i64 0,.int .i64 0,.int .i64 0,.int .i64 0,.int .i64 0] 226)=W3 at *;generalize w2.heap.size=g at *;generalize hmm:w.heap.size+1+1=m at *;replace hmm:=Lib.hid hmm;replace hmg:=Lib.hid hmg;replace hwg:=Lib.hid hwg;go_wp2
 go_loopw [19] (fun i wr=>∃ (k:Nat) (s:List Int),k≤n∧i=.int .i64 k∧readL t (l.take k) noSums=some s∧RdgSt w t (.slice A2 t.bs.length c2) g m wr s) (fun i _=>n - (intOf i).toNat)
 case atStart=>exact ⟨0,noSums,Nat.zero_le _,rfl,rfl,hG.out⟩
 case round =>
  obtain ⟨k,s,hk,rfl,hrl,hS⟩:=hrel;clear hG;have hsok:=readL_bd hok l k (by rw [hln.out];exact hk) s hrl
  by_cases hlt:k < n
  · obtain ⟨b,o,rfl,-,hc⟩:=(HL.out _ hS.low).at_ (by omega);have ck:=hc k hlt
    have hxs:(l.getD k ByteArray.empty).size≤maxLen:=by
     have hkl:k < l.length:=by rw [hln.out];exact hlt
     rw [List.getD_eq_getElem?_getD,List.getElem?_eq_getElem hkl];exact hsz.out _ (List.getElem_mem hkl)
    have hkey:=keyOf_string_mk (P:=Tryz.prog) Tryz.underlying9 hxs;have hsn:=readL_snoc t l noSums (k:=k) (by rw [hln.out];exact hlt);rw [hrl,Option.bind_some] at hsn;generalize l.getD k ByteArray.empty=x at *;have hhas:=st_has t x;replace hkey:=Lib.hid hkey;replace hsn:=Lib.hid hsn;replace hS:=Lib.hid hS;replace hrl:=Lib.hid hrl;replace hsok:=Lib.hid hsok;clear hc;have hsh:=ok_shape hok;have hul:=hsh.us;have hw1:wr.heap.size≤wr.heap.size:=Nat.le_refl _;have hglt:=hS.out.rd.lt
    by_cases hu:place t.us x < t.us.length
    · rw [decide_eq_true hu,Bool.true_or] at hhas;have hat:=st_us hok hu;have hst:stepOn t s x=some (addOn s ((place t.us x:Int)+1)):=by unfold stepOn;rw [if_pos hu]
      rw [hst] at hsn;generalize place t.us x=j at *;have hWb:=(Below.refl wr.heap.size wr).alloc (Nat.le_refl _) (.cells #[.func (.func 231) #[] #[],.int .i64 ((j:Int)+1)] 229);have hS4:=hS.out.below hWb;have hY:=Blk.new wr 229 #[.func (.func 231) #[] #[],.int .i64 ((j:Int)+1)];have KA:=addUnit_any g _ s ((j:Int)+1) _ hS4.rd (by have:=hsok.out.bd 0;omega) (by omega);replace hS4:=Lib.hid hS4;replace hY:=Lib.hid hY;replace KA:=Lib.hid KA;replace hhas:=Lib.hid hhas;replace hat:=Lib.hid hat;replace hst:=Lib.hid hst;replace hsn:=Lib.hid hsn;clear hWb hsh;go_upto_region 7 with (at_lookup;refine wpList_step_yes _ rfl _ _ _ rfl 9 229 keyLaw Tryz.underlying222 (stepZero _) m _ _ rfl hS.out.st _ _ rfl hkey.out _ _ hhas.out hat.out ?_)
      generalize wr.alloc (.cells #[.func (.func 231) #[] #[],.int .i64 ((j:Int)+1)] 229)=W4 at *;have y0:=hY.out.cell 0;have y1:=hY.out.cell 1;simp only [List.getElem?_toArray,List.getElem?_cons_zero,List.getElem?_cons_succ] at y0 y1;go_wp2_with (fail);refine KA.out.mono ?_;rintro e w5 ⟨rfl,r5,g5⟩;have hS5:=hS4.out.turn g5 r5 hmg.out hwg.out;replace hS5:=Lib.hid hS5;clear y0 y1 KA hY hS4 r5 g5 hS hat hhas hst;go_wp2
      go_roundw
      case rel=>exact ⟨k+1,_,by omega,by go_num,hsn.out,hS5.out⟩
      case measure=>simp [intOf];omega
    · by_cases hb:place t.ns x < t.ns.length
      · rw [decide_eq_true hb,Bool.or_true] at hhas;have hat:=st_ns hok hb;have hst:stepOn t s x=takeOn t.bs s (place t.ns x+1):=by unfold stepOn;rw [if_neg hu,if_pos hb]
        rw [hst] at hsn;obtain ⟨hp1,hp2⟩:=place_base hok hb;have hpos:=bases_pos hsh.bs _ hp1;have hbl:=(bases_len hsh.bs).2;generalize place t.ns x=j at *;have hWb:=(Below.refl wr.heap.size wr).alloc (Nat.le_refl _) (.cells #[.func (.func 232) #[] #[],.int .i64 ((j:Int)+1)] 229);have hS4:=hS.out.below hWb;have hY:=Blk.new wr 229 #[.func (.func 232) #[] #[],.int .i64 ((j:Int)+1)]
        have hI:Ints (wr.alloc (.cells #[.func (.func 232) #[] #[],.int .i64 ((j:Int)+1)] 229)) .i64 A2 t.bs.length c2 t.bs:=by
         obtain ⟨_,_,_,_,_,_,ev,-,I2,-⟩:=(HI.out _ hS4.low).ex;cases ev;exact I2
        have KA:=takeBase_any g A2 c2 t.bs s k (j+1) _ hS4.rd hI (fun a o e=>by have:=hA2.out a o e;have:=hwg.out;omega) hsok.out (by omega) (by omega) hp2 hbl hp1 hpos;rw [show (((j+1:Nat)):Int)=(j:Int)+1 from rfl] at KA;replace hS4:=Lib.hid hS4;replace hY:=Lib.hid hY;replace KA:=Lib.hid KA;replace hhas:=Lib.hid hhas;replace hat:=Lib.hid hat;replace hst:=Lib.hid hst;replace hsn:=Lib.hid hsn;clear hWb hsh hpos hI;go_upto_region 7 with (at_lookup;refine wpList_step_yes _ rfl _ _ _ rfl 9 229 keyLaw Tryz.underlying222 (stepZero _) m _ _ rfl hS.out.st _ _ rfl hkey.out _ _ hhas.out hat.out ?_)
        generalize wr.alloc (.cells #[.func (.func 232) #[] #[],.int .i64 ((j:Int)+1)] 229)=W4 at *;have y0:=hY.out.cell 0;have y1:=hY.out.cell 1;simp only [List.getElem?_toArray,List.getElem?_cons_zero,List.getElem?_cons_succ] at y0 y1;go_wp2_with (fail);refine KA.out.mono ?_;rintro e w5 ⟨g5,hh⟩;rcases hh with ⟨hn5,rfl⟩ | ⟨s',hs5,rfl,r5⟩
        · have hno:readL t l noSums=none:=readL_none t l noSums (k:=k+1) (by rw [hsn.out];exact hn5);have hnr:numR t l=none:=by unfold numR;rw [hno];rfl
          have hB5:=hS4.out.low.grown g5 hS4.out.low.size (fun q e=>by cases e;exact hwg.out);replace hnr:=Lib.hid hnr;replace hB5:=Lib.hid hB5;clear y0 y1 KA hY hS4 g5 hS hat hhas hst hno hn5;go_wp2
          go_ret2
          exact ⟨by rw [hnr.out];rfl,hB5.out⟩
        · have hS5:=hS4.out.turn g5 r5 hmg.out hwg.out;have hsn5:=hsn.out.trans hs5;replace hS5:=Lib.hid hS5;replace hsn5:=Lib.hid hsn5;clear y0 y1 KA hY hS4 r5 g5 hS hat hhas hst hs5;go_wp2
          go_roundw
          case rel=>exact ⟨k+1,s',by omega,by go_num,hsn5.out,hS5.out⟩
          case measure=>simp [intOf];omega
      · rw [decide_eq_false hu,decide_eq_false hb] at hhas
        have hno:readL t l noSums=none:=readL_none t l noSums (k:=k+1) (by
         rw [hsn.out];unfold stepOn;rw [if_neg hu,if_neg hb])
        have hnr:numR t l=none:=by unfold numR;rw [hno];rfl
        replace hhas:=Lib.hid hhas;replace hnr:=Lib.hid hnr;clear hno;go_wp2_with (at_lookup;refine wpList_step_no _ rfl _ _ _ rfl 9 229 keyLaw Tryz.underlying222 (stepZero _) m _ _ rfl hS.out.st _ _ rfl hkey.out hhas.out ?_)
        go_ret2
        exact ⟨by rw [hnr.out];rfl,hS.out.low.alloc hS.out.low.size _⟩
  · obtain rfl:k=n:=by omega
    rw [List.take_of_length_le (by rw [hln.out];exact Nat.le_refl _)] at hrl;have hnr:numR t l=some (sumTo' s 5):=by unfold numR;rw [hrl];rfl
    have KS:=sumOfAll_any (some ⟨g,1,none⟩) 5 5 (s.take 5) wr (hS.rd.ints (Nat.le_refl _)) (by omega) (take_bd hsok (by omega) 5);rw [sumTo_take] at KS;replace KS:=Lib.hid KS;replace hnr:=Lib.hid hnr;replace hS:=Lib.hid hS;replace hrl:=Lib.hid hrl;replace hsok:=Lib.hid hsok;generalize sumTo' s 5=r5 at *;go_wp2_with (fail);refine KS.out.mono ?_;rintro e w' ⟨rfl,rfl⟩;go_wp2
    go_ret2
    exact ⟨by rw [hnr.out];rfl,hS.out.low⟩
end
section
open Go.RowKit
set_option maxHeartbeats 1000000 in
theorem equalStr_any (A A':Option Addr) (n c n' c':Nat) (xs ys:List ByteArray) (w:World) (h:Strs w A n c xs) (h':Strs w A' n' c' ys) (hn:n≤2097152) (hn':n'≤2097152) :
 Calls Tryz.prog 213 #[.slice A n c,.slice A' n' c'] w fun e w'=>e=.returned (.bool (decide (xs=ys)))∧∃ m,w'=w.drewN m:=by
 obtain ⟨rfl,hcap,h⟩:=h;obtain ⟨rfl,hcap',h'⟩:=h'
 by_cases hl:xs.length=ys.length
 · rw [← hl] at h' hcap' ⊢;replace hl:=Lib.hid hl;have heq:((xs.length:Int) != xs.length)=false:=by simp
   go_enter Tryz.func213,Tryz.ntmps213;go_wp2
   go_loopw [13] (fun i wr=>∃ k m:Nat,k≤xs.length∧i=.int .i64 k∧xs.take k=ys.take k∧wr=w.drewN m) (fun i _=>xs.length - (intOf i).toNat)
   case atStart=>exact ⟨0,0,Nat.zero_le _,rfl,by simp,rfl⟩
   case round =>
    obtain ⟨k,m,hk,rfl,hu,rfl⟩:=hrel
    by_cases hlt:k < xs.length
    · obtain ⟨b,o,rfl,_,h⟩:=h (by omega);obtain ⟨b',o',rfl,_,h'⟩:=h' (by omega);have c1:=h k hlt;have c2:=h' k hlt;have HU:=takeS_go (k:=k) xs ys hlt hl.out hu;have HN:¬ xs.getD k ByteArray.empty=ys.getD k ByteArray.empty→¬ xs=ys:=fun hn he=>hn (by rw [he])
      generalize xs.getD k ByteArray.empty=x1 at *;generalize ys.getD k ByteArray.empty=x2 at *;replace HU:=Lib.hid HU;replace HN:=Lib.hid HN;clear h h' hu
      by_cases hx:x1=x2
      · have hx1:(x1.toList==x2.toList)=true:=by rw [str_eq];exact decide_eq_true hx
        have hx2:(x1.toList != x2.toList)=false:=by rw [bne,hx1];rfl
        replace hx:=Lib.hid hx;go_wp2
        go_quiet (fail)
        go_wp2
        go_roundw
        case rel=>exact ⟨k+1,m+nq,by omega,by go_num,HU.out hx.out,by simp⟩
        case measure=>simp [intOf];omega
      · have hx1:(x1.toList==x2.toList)=false:=by rw [str_eq];exact decide_eq_false hx
        have hx2:(x1.toList != x2.toList)=true:=by rw [bne,hx1];rfl
        go_wp2
        go_quiet (fail)
        go_wp2;go_ret;exact ⟨ret_bool (by rw [decide_eq_false (HN.out hx)]),m+nq,by simp⟩
    · have HE:=Lib.hid (takeS_end xs ys (by omega) hl.out hu);clear h h' hu;go_wp2;go_ret;exact ⟨ret_bool (by rw [decide_eq_true HE.out]),m,rfl⟩
 · have hne:xs≠ys:=fun e=>hl (by rw [e])
   have HN:=Lib.hid hne;have hneq:((xs.length:Int) != ys.length)=true:=by rw [bne_iff_ne];omega
   clear hne;go_enter Tryz.func213,Tryz.ntmps213;go_wp2;go_ret;exact ⟨ret_bool (by rw [decide_eq_false HN.out]),0,rfl⟩
set_option maxRecDepth 100000 in
set_option maxHeartbeats 4000000 in
theorem implReadName_any (v:Value) (t:Tg) (A:Option Addr) (n c:Nat) (l:List ByteArray) (w:World) (h:Tng w v t) (hf:t.Fine) (hl:Strs w A n c l) (hn:n≤2000000) (hsz:∀ x ∈ l,x.size≤1048576) :
 Calls Tryz.prog 186 #[v,.slice A n c] w fun e w'=>e=.returned (.tuple #[.int .i64 (readV t l),.bool (readB t l)])∧Below w.heap.size w w':=by
 obtain ⟨A1,c1,A2,c2,A3,c3,rfl,-⟩:=h.ex;have hln:=hl.len;have hB:=(Below.refl w.heap.size w).alloc (Nat.le_refl _) (.cells #[.slice A1 t.us.length c1,.slice A2 t.bs.length c2,.slice A3 t.ns.length c3] 31);have HX:=Blk.new w 31 #[.slice A1 t.us.length c1,.slice A2 t.bs.length c2,.slice A3 t.ns.length c3];have HT:=h.below hB (Nat.le_refl _);have HL:=hl.below hB (Nat.le_refl _);have K1:=Lib.hid (implTongueOk_any _ t _ HT hf);have hsz':∀ x ∈ l,x.size≤maxLen:=fun x hx=>by have:=hsz x hx;unfold maxLen;omega
 replace hB:=Lib.hid hB;replace HX:=Lib.hid HX;replace HT:=Lib.hid HT;replace HL:=Lib.hid HL;replace hsz':=Lib.hid hsz';replace hln:=Lib.hid hln;clear h hl hsz;have hrn:okL t l=false→readB t l=false:=fun h=>by unfold readB;rw [h];rfl
 replace hrn:=Lib.hid hrn;go_enter Tryz.func186,Tryz.ntmps186;go_upto_region 1 with (fail)
 generalize w.alloc (.cells #[.slice A1 t.us.length c1,.slice A2 t.bs.length c2,.slice A3 t.ns.length c3] 31)=W at *;obtain ⟨x0,x1,x2,-,-,-⟩:=blk3 HX.out;go_wp2_with (fail);refine K1.out.mono ?_;rintro e w1 ⟨rfl,b1⟩;replace hB:=Lib.hid (hB.out.trans (b1.mono hB.out.size));replace HX:=Lib.hid (HX.out.below b1 HX.out.lt);replace HT:=Lib.hid (HT.out.below b1 (Nat.le_refl _));replace HL:=Lib.hid (HL.out.below b1 (Nat.le_refl _));clear b1 x0 x1 x2 K1;obtain ⟨x0,x1,x2,-,-,-⟩:=blk3 HX.out;cases hok:t.ok
 · have hno:=hrn.out (by unfold okL;rw [hok];rfl);have hv:=read_no hno;replace hno:=Lib.hid hno;replace hv:=Lib.hid hv;replace hok:=Lib.hid hok;go_wp2
   go_ret2
   exact ⟨two_ret hv.out.symm hno.out.symm,hB.out⟩
 · by_cases hd:1≤n∧n≤40
   · obtain ⟨hd1,hd2⟩:=hd;have t1:¬ (n:Int) < 1:=by omega
     have t2:¬ (40:Int) < (n:Int):=by omega
     have K2:=numberRead_any _ t A n c l w1 HT.out hok hf HL.out hd2 hsz'.out;have HK:=Lib.hid (fun (x:Int) (hx:0≤x∧x≤20000000) W' (h:Below w1.heap.size w1 W')=>implNameOf_any _ t x W' (HT.out.below h (Nat.le_refl _)) hf (by omega));have hnn:=fun h=>num_no (t:=t) (l:=l) h
     have hnb:=fun (x:Int) (h:numR t l=some x)=>numR_bd hok (by rw [hln.out];exact hd2) h
     have hnr:=fun (x:Int) (h:numR t l=some x)=>num_read (t:=t) (l:=l) h (by rw [hln.out];exact hd2)
     cases hres:numR t l with
     | none =>
      rw [hres] at K2;have hno:=hnn hres;have hv:=read_no hno;replace hno:=Lib.hid hno;replace hv:=Lib.hid hv;replace hok:=Lib.hid hok;replace K2:=Lib.hid K2;clear hnn hnb hnr hres;go_wp2_with (fail);refine K2.out.mono ?_;rintro e w2 ⟨rfl,b2⟩;simp only [Option.getD_none,Option.isSome_none];replace hB:=Lib.hid (hB.out.trans (b2.mono hB.out.size));clear b2 x0 x1 x2 K2;go_wp2
      go_ret2
      exact ⟨two_ret hv.out.symm hno.out.symm,hB.out⟩
     | some x =>
      rw [hres] at K2;have hxb:=hnb x hres;obtain ⟨HR,HV⟩:=hnr x hres;have hnl:=nameOf_len t x;replace HR:=Lib.hid HR;replace HV:=Lib.hid HV;replace hok:=Lib.hid hok;replace K2:=Lib.hid K2;clear hnn hnb hnr hres;go_wp2_with (fail);refine K2.out.mono ?_;rintro e w2 ⟨rfl,b2⟩;simp only [Option.getD_some,Option.isSome_some];have K3:=Lib.hid (HK.out x hxb _ b2);replace hB:=Lib.hid (hB.out.trans (b2.mono hB.out.size));replace HX:=Lib.hid (HX.out.below b2 HX.out.lt);replace HL:=Lib.hid (HL.out.below b2 (Nat.le_refl _));clear b2 x0 x1 x2 K2 HK HT;obtain ⟨x0,x1,x2,-,-,-⟩:=blk3 HX.out;go_wp2_with (fail);refine K3.out.mono ?_;rintro e w3 ⟨v3,rfl,o3,b3⟩;obtain ⟨A4,c4,rfl,s3⟩:=o3.strs;replace hB:=Lib.hid (hB.out.trans (b3.mono hB.out.size));replace HL:=Lib.hid (HL.out.below b3 (Nat.le_refl _));have K4:=Lib.hid (equalStr_any A4 A _ c4 n c _ l w3 s3 HL.out (by omega) (by omega));clear b3 x0 x1 x2 K3 o3 HX s3;generalize nameOf t x=ws at *;generalize namedB t x=nb at *;cases nb
      · have hr:readB t l=false:=by rw [HR.out];rfl
        have hv:=Lib.hid (read_no hr);replace hr:=Lib.hid hr;go_wp2
        go_ret2
        exact ⟨two_ret hv.out.symm hr.out.symm,hB.out⟩
      · have hrr:readB t l=decide (ws=l):=by rw [HR.out,Bool.true_and]
        have hvv:decide (ws=l)=false→readV t l=-1:=fun e=>read_no (hrr.trans e)
        have hvx:decide (ws=l)=true→readV t l=x:=fun e=>HV.out (hrr.trans e)
        generalize decide (ws=l)=eq at *;replace hrr:=Lib.hid hrr;replace hvv:=Lib.hid hvv;replace hvx:=Lib.hid hvx;go_wp2_with (fail);refine K4.out.mono ?_;rintro e w4 ⟨rfl,m4,rfl⟩;replace hB:=Lib.hid (below_drewN hB.out m4);cases eq
        · have hv:=Lib.hid (hvv.out rfl);clear hvv hvx;go_wp2
          go_ret2
          exact ⟨two_ret hv.out.symm hrr.out.symm,hB.out⟩
        · have hv:=Lib.hid (hvx.out rfl);clear hvv hvx;go_wp2
          go_ret2
          exact ⟨two_ret hv.out.symm hrr.out.symm,hB.out⟩
   · have hno:=hrn.out (by unfold okL;rw [hln.out,decide_eq_false hd,Bool.and_false]);have hv:=read_no hno;replace hno:=Lib.hid hno;replace hv:=Lib.hid hv;replace hok:=Lib.hid hok
     by_cases h1:n < 1
     · have t1:(n:Int) < 1:=by omega
       replace hd:=Lib.hid hd;go_wp2
       go_ret2
       exact ⟨two_ret hv.out.symm hno.out.symm,hB.out⟩
     · have t1:¬ (n:Int) < 1:=by omega
       have t2:(40:Int) < (n:Int):=by omega
       replace hd:=Lib.hid hd;go_wp2
       go_ret2
       exact ⟨two_ret hv.out.symm hno.out.symm,hB.out⟩
end
end Go.Proofs.YtmhgpbfogdoaeaaGreatDoor
