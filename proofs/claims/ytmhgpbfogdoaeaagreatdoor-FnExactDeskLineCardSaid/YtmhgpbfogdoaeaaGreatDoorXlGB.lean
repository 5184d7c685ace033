/-
  GB: Tng TngB TngS TngT OwnT Words UnitsM UnitsS.
-/
import Derived.Test.YtmhgpbfogdoaeaaGreatDoorXlGA
import Derived.IntWalk
import Derived.Deep.RegionHeld3
import Derived.WalkLawsBesides
import Derived.Deep.DeepCutAuto
namespace Go.Proofs.YtmhgpbfogdoaeaaGreatDoor
section
open Go.RowKit Go.WideMaps Go.Maps
structure Tg where
 us:List ByteArray
 bs:List Int
 ns:List ByteArray
def Tg.ok (t:Tg):Bool:=tongueOk t.us t.bs t.ns
def Tg.words (t:Tg):List ByteArray:=t.us++t.ns
structure Tg.Fine (t:Tg):Prop where
 us:t.us.length≤1048576
 bs:t.bs.length≤1048576
 ns:t.ns.length≤1048576
 fits:Fits t.bs
 size:∀ x ∈ t.us++t.ns,x.size≤1048576
structure Tng (w:World) (v:Value) (t:Tg):Prop where
 ex:∃ A1 c1 A2 c2 A3 c3,v=.agg #[.slice A1 t.us.length c1,.slice A2 t.bs.length c2,.slice A3 t.ns.length c3]∧Strs w A1 t.us.length c1 t.us∧Ints w .i64 A2 t.bs.length c2 t.bs∧Strs w A3 t.ns.length c3 t.ns
section
variable {w w' : World} {v : Value} {t : Tg}
theorem Tng.below {B:Nat} (h:Tng w v t) (hb:Below B w w') (hB:w.heap.size≤B):Tng w' v t:=by
 obtain ⟨A1,c1,A2,c2,A3,c3,e,h1,h2,h3⟩:=h.ex;exact ⟨A1,c1,A2,c2,A3,c3,e,h1.below hb hB,h2.below hb hB,h3.below hb hB⟩
end
theorem ok_iff (t:Tg):t.ok=true ↔
 (1≤t.us.length∧t.us.length≤20)∧basesOk t.bs=true∧t.ns.length+1=t.bs.length∧(2≤t.bs.length→t.bs.getD 1 0=t.us.length+1)∧(∀ s ∈ t.words,wordOk s=true)∧t.words.Nodup:=tongueOk_iff _ _ _
theorem ok_no {t:Tg} (h:¬ ((1≤t.us.length∧t.us.length≤20)∧basesOk t.bs=true∧t.ns.length+1=t.bs.length∧(2≤t.bs.length→t.bs.getD 1 0=t.us.length+1)∧(∀ s ∈ t.words,wordOk s=true)∧t.words.Nodup)):t.ok=false:=by
 cases e:t.ok
 · rfl
 · exact absurd ((ok_iff t).1 e) h
structure Tg.Shape (t:Tg):Prop where
 us:1≤t.us.length∧t.us.length≤20
 bs:basesOk t.bs=true
 ns:t.ns.length+1=t.bs.length
 two:2≤t.bs.length→t.bs.getD 1 0=t.us.length+1
theorem ok_shape {t:Tg} (h:t.ok=true):t.Shape:=let ⟨a,b,c,d,_,_⟩:=(ok_iff t).1 h;⟨a,b,c,d⟩
theorem ok_no_shape {t:Tg} (h:¬ t.Shape):t.ok=false:=ok_no fun ⟨a,b,c,d,_,_⟩=>h ⟨a,b,c,d⟩
def wordsTo (ws:List ByteArray) (k:Nat):Prop:=∀ j,j < k→wordOk (ws.getD j ByteArray.empty)=true
theorem ok_of_words {t:Tg} (hs:t.Shape) (hw:wordsTo t.words t.words.length) (hd:t.words.Nodup):t.ok=true :=
 (ok_iff t).2 ⟨hs.us,hs.bs,hs.ns,hs.two,fun s m=>by
  obtain ⟨j,hj,rfl⟩:=List.mem_iff_getElem.1 m;have:=hw j hj
  simpa [List.getD_eq_getElem?_getD,hj] using this,hd⟩
theorem ok_no_word {t:Tg} {k:Nat} (hk:k < t.words.length) (h:wordOk (t.words.getD k ByteArray.empty)=false):t.ok=false :=
 ok_no fun ⟨_,_,_,_,hw,_⟩=>by
  have:=hw _ (List.getElem_mem hk);simp only [List.getD_eq_getElem?_getD,List.getElem?_eq_getElem hk,Option.getD_some] at h;rw [this] at h;cases h
theorem ok_size {t:Tg} (hs:t.Shape) (hw:wordsTo t.words t.words.length):t.ok=decide ((Maps.size (plD t.words t.words.length):Int)=(t.words.length:Int)):=by
 have h:=(plD_size t.words _ (Nat.le_refl _)).2;rw [List.take_length] at h
 by_cases hd:t.words.Nodup
 · rw [ok_of_words hs hw hd,decide_eq_true (by rw [h.2 hd])]
 · rw [ok_no (fun ⟨_,_,_,_,_,hd'⟩=>hd hd'),decide_eq_false (fun e=>hd (h.1 (by omega)))]
theorem words_length (t:Tg):t.words.length=t.us.length+t.ns.length:=by simp [Tg.words]
theorem words_size {t:Tg} (h:t.Fine) (k:Nat):(t.words.getD k ByteArray.empty).size≤maxLen:=by
 by_cases hk:k < t.words.length
 · have:=h.size _ (List.getElem_mem hk);simp only [List.getD_eq_getElem?_getD,List.getElem?_eq_getElem hk,Option.getD_some];unfold maxLen;omega
 · rw [List.getD,List.getElem?_eq_none (by omega)];exact Nat.zero_le _
set_option maxRecDepth 100000 in
set_option maxHeartbeats 1000000 in
theorem implTongueOk_no (v:Value) (t:Tg) (w:World) (h:Tng w v t) (hf:t.Fine) (hs:¬ t.Shape) :
 Calls Tryz.prog 169 #[v] w fun e w'=>e=.returned (.bool false)∧Below w.heap.size w w':=by
 obtain ⟨A1,c1,A2,c2,A3,c3,rfl,h1,h2,h3⟩:=h.ex;have hB:=fun W h=>implBasesOk_any A2 t.bs.length c2 t.bs W h hf.bs hf.fits
 have hu:=hf.us;have hb:=hf.bs;have hn:=hf.ns;have HI:=Lib.hid (h2.below ((Below.refl _ _).alloc (Nat.le_refl _) (.cells #[.slice A1 t.us.length c1,.slice A2 t.bs.length c2,.slice A3 t.ns.length c3] 31)) (Nat.le_refl _))
 by_cases hu1:1≤t.us.length∧t.us.length≤20
 · obtain ⟨u1,u2⟩:=hu1;cases hbs:basesOk t.bs
   · replace hB:=Lib.hid hB;replace hbs:=Lib.hid hbs;clear h h1 h2 h3 hs;go_enter Tryz.func169,Tryz.ntmps169;go_wp2_with (fail);refine (hB.out _ HI.out).mono ?_;rintro e _ ⟨rfl,rfl⟩;rw [hbs.out];go_wp2;go_ret;exact ⟨rfl,(Below.refl _ _).alloc (Nat.le_refl _) _⟩
   · have hbl:=bases_len hbs;replace hB:=Lib.hid hB
     by_cases hnb:t.ns.length+1=t.bs.length
     · have h2b:2≤t.bs.length∧¬ t.bs.getD 1 0=t.us.length+1:=by
        by_cases h2:2≤t.bs.length
        · refine ⟨h2,fun e=>hs ⟨⟨u1,u2⟩,hbs,hnb,fun _=>e⟩⟩
        · exact absurd ⟨⟨u1,u2⟩,hbs,hnb,fun h=>absurd h h2⟩ hs
       obtain ⟨h2l,hne⟩:=h2b;have hq:((t.ns.length:Int) != (t.bs.length:Int) - 1)=false:=by rw [bne_eq_false_iff_eq];omega
       obtain ⟨b,o,rfl,hbo,h2c⟩:=h2.at_ (by omega);have c1:=h2c 1 (by omega);have f1:=hf.fits 1;have hd1:decide (1 < (t.bs.length:Int))=true:=decide_eq_true (by omega);have hl1:1 < t.bs.length:=by omega
       have hw1:IntKind.i64.wrap ((t.us.length:Int)+1)=(t.us.length:Int)+1:=IntWalk.i64_in _ (by omega);generalize t.bs.getD 1 0=x at *;replace hbs:=Lib.hid hbs;have hne':(x != (t.us.length:Int)+1)=true:=by rw [bne_iff_ne];exact hne
       clear h h1 h2 h3 hs h2c hnb hne;go_enter Tryz.func169,Tryz.ntmps169;go_wp2_with (fail);refine (hB.out _ HI.out).mono ?_;rintro e _ ⟨rfl,rfl⟩;rw [hbs.out];go_wp2
       go_quiet (fail)
       go_wp2;go_ret;exact ⟨rfl,below_drewN ((Below.refl _ _).alloc (Nat.le_refl _) _) _⟩
     · have hq:((t.ns.length:Int) != (t.bs.length:Int) - 1)=true:=by rw [bne_iff_ne];omega
       replace hbs:=Lib.hid hbs;clear h h1 h2 h3 hs hnb;go_enter Tryz.func169,Tryz.ntmps169;go_wp2_with (fail);refine (hB.out _ HI.out).mono ?_;rintro e _ ⟨rfl,rfl⟩;rw [hbs.out];go_wp2;go_ret;exact ⟨rfl,(Below.refl _ _).alloc (Nat.le_refl _) _⟩
 · clear h h1 h2 h3 hs hB
   by_cases hu0:t.us.length < 1
   all_goals
    go_enter Tryz.func169,Tryz.ntmps169;go_wp2;go_ret;exact ⟨rfl,(Below.refl _ _).alloc (Nat.le_refl _) _⟩
end
section
open Go.RowKit Go.WideMaps Go.Maps
theorem words_go {ws:List ByteArray} {k:Nat} (h:wordsTo ws k) (hx:wordOk (ws.getD k ByteArray.empty)=true):wordsTo ws (k+1):=fun j hj=>by
 by_cases e:j=k
 · subst e;exact hx
 · exact h j (by omega)
set_option maxRecDepth 100000 in
set_option maxHeartbeats 2000000 in
theorem implTongueOk_shape (v:Value) (t:Tg) (w:World) (h:Tng w v t) (hf:t.Fine) (hs:t.Shape) :
 Calls Tryz.prog 169 #[v] w fun e w'=>e=.returned (.bool t.ok)∧Below w.heap.size w w':=by
 obtain ⟨A1,c1,A2,c2,A3,c3,rfl,h1,h2,h3⟩:=h.ex;have hB:=Lib.hid (fun W h=>implBasesOk_any A2 t.bs.length c2 t.bs W h hf.bs hf.fits);have hBel:Below w.heap.size w (w.alloc (.cells #[.slice A1 t.us.length c1,.slice A2 t.bs.length c2,.slice A3 t.ns.length c3] 31)):=(Below.refl _ _).alloc (Nat.le_refl _) _;have HI:=Lib.hid (h2.below hBel (Nat.le_refl _));have H1:=Lib.hid h1;have H3:=Lib.hid h3;replace hBel:=Lib.hid hBel;have HF:=Lib.hid hf;have hu:=hs.us;obtain ⟨u1,u2⟩:=hu;have hbs:=Lib.hid hs.bs;have hbl:=bases_len hs.bs;obtain ⟨b1,b5⟩:=hbl;have hnb:=hs.ns;have hq:((t.ns.length:Int) != (t.bs.length:Int) - 1)=false:=by rw [bne_eq_false_iff_eq];omega
 have hnl:t.ns.length≤5:=by omega
 replace hnb:=Lib.hid hnb;have HE:=Lib.hid (fun hw=>ok_size hs hw);have HNO:=Lib.hid (fun k hk h=>ok_no_word (t:=t) (k:=k) hk h);have hwl:=Lib.hid (words_length t);have HSZ:=Lib.hid (words_size hf);have HWS:=Lib.hid (show ∀ x ∈ t.words,x.size≤maxLen from fun x hx=>by have:=hf.size x hx;unfold maxLen;omega);have HX:∀ nq,Blk ((w.alloc (.cells #[.slice A1 t.us.length c1,.slice A2 t.bs.length c2,.slice A3 t.ns.length c3] 31)).drewN nq) w.heap.size 31 #[.slice A1 t.us.length c1,.slice A2 t.bs.length c2,.slice A3 t.ns.length c3]:=fun nq=>(Blk.new _ _ _).drewN _
 have HZ:∀ nq,((w.alloc (.cells #[.slice A1 t.us.length c1,.slice A2 t.bs.length c2,.slice A3 t.ns.length c3] 31)).drewN nq).heap.size=w.heap.size+1:=fun nq=>by simp
 replace HX:=Lib.hid HX;replace HZ:=Lib.hid HZ
 by_cases h2l:1 < t.bs.length
 · obtain ⟨b,o,rfl,hbo,h2c⟩:=h2.at_ (by omega);have cx:=h2c 1 (by omega);have hx:=hs.two (by omega);rw [hx] at cx;have hd1:decide (1 < (t.bs.length:Int))=true:=decide_eq_true (by omega);have hw1:IntKind.i64.wrap ((t.us.length:Int)+1)=(t.us.length:Int)+1:=IntWalk.i64_in _ (by omega);have hne:((t.us.length:Int)+1 != (t.us.length:Int)+1)=false:=by simp
   clear h h1 h2 h3 hs h2c hx hf;go_enter Tryz.func169,Tryz.ntmps169;go_wp2_with (fail);refine (hB.out _ HI.out).mono ?_;rintro e _ ⟨rfl,rfl⟩;rw [hbs.out];go_wp2
   go_quiet (fail)
   clear cx hne hw1 hd1;have hX:=HX.out nq;have hZ:=HZ.out nq;have hY:=below_drewN hBel.out nq;clear HX HZ HI hbo;generalize (w.alloc (.cells #[.slice A1 t.us.length c1,.slice (some ⟨b,o,none⟩) t.bs.length c2,.slice A3 t.ns.length c3] 31)).drewN nq=W at *;have x0:W.cell? ⟨w.heap.size,0,none⟩=some (.slice A1 t.us.length c1):=hX.cell 0;have x2:W.cell? ⟨w.heap.size,2,none⟩=some (.slice A3 t.ns.length c3):=hX.cell 2;have hW1:w.heap.size < W.heap.size:=by omega
   replace hY:=Lib.hid hY;replace hZ:=Lib.hid hZ;clear hX;go_wp2_with (fail);have hW2:Below w.heap.size w (W.alloc (.cells #[.slice A1 t.us.length c1,.slice A3 t.ns.length c3] 28)):=hY.out.alloc (by omega) _;have hC:=concat_any A1 A3 W.heap.size _ c1 _ c3 t.us t.ns (W.alloc (.cells #[.slice A1 t.us.length c1,.slice A3 t.ns.length c3] 28)) (by simp) (by go_simp) (by go_simp) (H1.out.below hW2 (Nat.le_refl _)) (H3.out.below hW2 (Nat.le_refl _)) HF.out.us HF.out.ns;refine hC.mono ?_;rintro e w1 ⟨v1,rfl,ho1,hb1⟩;have hW3:=hW2.trans (hb1.mono hW2.size);clear hC x0 x2 hW2 hb1 hY hZ hW1 H1 H3 hBel hB hbs;obtain ⟨A,c,rfl,hS⟩:=strs_of_own ho1
   change Strs w1 A (t.us.length+t.ns.length) c t.words at hS
   clear ho1;have hlen:=hS.len;have hWl:t.us.length+t.ns.length=t.words.length:=hlen.symm;rw [hWl] at hS;have hnw:t.words.length≤25:=by omega
   have hS0:=Lib.hid hS;obtain ⟨-,-,hat⟩:=hS;replace hat:=Lib.hid hat;replace hW3:=Lib.hid hW3;rw [hWl];clear hlen hWl;go_wp2
   go_loop [55] (fun i=>∃ k:Nat,k≤t.words.length∧i=.int .i64 k∧wordsTo t.words k) (fun i=>t.words.length - (intOf i).toNat)
   case atStart=>exact ⟨0,Nat.zero_le _,rfl,fun j hj=>absurd hj (by omega)⟩
   case round =>
    obtain ⟨k,hk,rfl,hu⟩:=hrel
    by_cases hlt:k < t.words.length
    · obtain ⟨b,o,rfl,hbo,hc⟩:=hat.out (by omega);have ck:=hc k hlt;have hW:=implWordOk_any _ w1 (HSZ.out k);have HU:=Lib.hid (words_go hu);have HN:=Lib.hid (HNO.out k hlt);generalize t.words.getD k ByteArray.empty=x at *;clear hc hu;go_wp2_with (fail);refine hW.mono ?_;rintro e _ ⟨rfl,rfl⟩;clear hW;cases hx:wordOk x
      · replace HN:=Lib.hid (HN.out hx);go_wp2;go_ret;exact ⟨ret_bool HN.out.symm,hW3.out⟩
      · replace HU:=Lib.hid (HU.out hx);go_wp2
        go_round
        case rel=>exact ⟨k+1,by omega,by go_num,HU.out⟩
        case measure=>simp [intOf];omega
    · obtain rfl:k=t.words.length:=by omega
      have HE2:=Lib.hid (HE.out hu);clear hu hat HE;go_wp2_with (fail);refine (places_any A _ c t.words w1 hS0.out (by omega) HWS.out).mono ?_;rintro e w2 ⟨rfl,hp,hb⟩;have hW4:=Lib.hid (hW3.out.trans (hb.mono hW3.out.size));replace hp:=Lib.hid hp;clear hb;go_wp2_with (at_len;refine wpList_len_own _ rfl _ 199 rfl 9 3 Tryz.underlying199 _ w1.heap.size _ _ rfl hp.out ?_);go_ret;exact ⟨ret_bool (by rw [HE2.out];rfl),hW4.out⟩
 · have hd1:decide (1 < (t.bs.length:Int))=false:=decide_eq_false (by omega);clear h h1 h2 h3 hs hf;go_enter Tryz.func169,Tryz.ntmps169;go_wp2_with (fail);refine (hB.out _ HI.out).mono ?_;rintro e _ ⟨rfl,rfl⟩;rw [hbs.out];go_wp2
   go_quiet (fail)
   clear hd1;have hX:=HX.out nq;have hZ:=HZ.out nq;have hY:=below_drewN hBel.out nq;clear HX HZ HI;generalize (w.alloc (.cells #[.slice A1 t.us.length c1,.slice A2 t.bs.length c2,.slice A3 t.ns.length c3] 31)).drewN nq=W at *;have x0:W.cell? ⟨w.heap.size,0,none⟩=some (.slice A1 t.us.length c1):=hX.cell 0;have x2:W.cell? ⟨w.heap.size,2,none⟩=some (.slice A3 t.ns.length c3):=hX.cell 2;have hW1:w.heap.size < W.heap.size:=by omega
   replace hY:=Lib.hid hY;replace hZ:=Lib.hid hZ;clear hX;go_wp2_with (fail);have hW2:Below w.heap.size w (W.alloc (.cells #[.slice A1 t.us.length c1,.slice A3 t.ns.length c3] 28)):=hY.out.alloc (by omega) _;have hC:=concat_any A1 A3 W.heap.size _ c1 _ c3 t.us t.ns (W.alloc (.cells #[.slice A1 t.us.length c1,.slice A3 t.ns.length c3] 28)) (by simp) (by go_simp) (by go_simp) (H1.out.below hW2 (Nat.le_refl _)) (H3.out.below hW2 (Nat.le_refl _)) HF.out.us HF.out.ns;refine hC.mono ?_;rintro e w1 ⟨v1,rfl,ho1,hb1⟩;have hW3:=hW2.trans (hb1.mono hW2.size);clear hC x0 x2 hW2 hb1 hY hZ hW1 H1 H3 hBel hB hbs;obtain ⟨A,c,rfl,hS⟩:=strs_of_own ho1
   change Strs w1 A (t.us.length+t.ns.length) c t.words at hS
   clear ho1;have hlen:=hS.len;have hWl:t.us.length+t.ns.length=t.words.length:=hlen.symm;rw [hWl] at hS;have hnw:t.words.length≤25:=by omega
   have hS0:=Lib.hid hS;obtain ⟨-,-,hat⟩:=hS;replace hat:=Lib.hid hat;replace hW3:=Lib.hid hW3;rw [hWl];clear hlen hWl;go_wp2
   go_loop [55] (fun i=>∃ k:Nat,k≤t.words.length∧i=.int .i64 k∧wordsTo t.words k) (fun i=>t.words.length - (intOf i).toNat)
   case atStart=>exact ⟨0,Nat.zero_le _,rfl,fun j hj=>absurd hj (by omega)⟩
   case round =>
    obtain ⟨k,hk,rfl,hu⟩:=hrel
    by_cases hlt:k < t.words.length
    · obtain ⟨b,o,rfl,hbo,hc⟩:=hat.out (by omega);have ck:=hc k hlt;have hW:=implWordOk_any _ w1 (HSZ.out k);have HU:=Lib.hid (words_go hu);have HN:=Lib.hid (HNO.out k hlt);generalize t.words.getD k ByteArray.empty=x at *;clear hc hu;go_wp2_with (fail);refine hW.mono ?_;rintro e _ ⟨rfl,rfl⟩;clear hW;cases hx:wordOk x
      · replace HN:=Lib.hid (HN.out hx);go_wp2;go_ret;exact ⟨ret_bool HN.out.symm,hW3.out⟩
      · replace HU:=Lib.hid (HU.out hx);go_wp2
        go_round
        case rel=>exact ⟨k+1,by omega,by go_num,HU.out⟩
        case measure=>simp [intOf];omega
    · obtain rfl:k=t.words.length:=by omega
      have HE2:=Lib.hid (HE.out hu);clear hu hat HE;go_wp2_with (fail);refine (places_any A _ c t.words w1 hS0.out (by omega) HWS.out).mono ?_;rintro e w2 ⟨rfl,hp,hb⟩;have hW4:=Lib.hid (hW3.out.trans (hb.mono hW3.out.size));replace hp:=Lib.hid hp;clear hb;go_wp2_with (at_len;refine wpList_len_own _ rfl _ 199 rfl 9 3 Tryz.underlying199 _ w1.heap.size _ _ rfl hp.out ?_);go_ret;exact ⟨ret_bool (by rw [HE2.out];rfl),hW4.out⟩
end
section
open Go.RowKit Go.WideMaps Go.Maps
set_option maxRecDepth 100000 in
set_option maxHeartbeats 2000000 in
theorem specTongueOk_no (v:Value) (t:Tg) (w:World) (h:Tng w v t) (hf:t.Fine) (hs:¬ t.Shape) :
 Calls Tryz.prog 100 #[v] w fun e w'=>e=.returned (.bool false)∧Below w.heap.size w w':=by
 obtain ⟨A1,c1,A2,c2,A3,c3,rfl,h1,h2,h3⟩:=h.ex;have hB:=Lib.hid (fun W h=>specBasesOk_any A2 t.bs.length c2 t.bs W h hf.bs hf.fits);have hu:=hf.us;have hb:=hf.bs;have hn:=hf.ns;have HI:=Lib.hid (fun nq=>(h2.below ((Below.refl _ _).alloc (Nat.le_refl _) (.cells #[.slice A1 t.us.length c1,.slice A2 t.bs.length c2,.slice A3 t.ns.length c3] 31)) (Nat.le_refl _)).drewN nq)
 by_cases hu1:1≤t.us.length∧t.us.length≤20
 · have hu2:decide (1≤(t.us.length:Int)∧(t.us.length:Int)≤20)=true:=decide_eq_true (by omega);cases hbs:basesOk t.bs
   · replace hbs:=Lib.hid hbs;rw [hbs.out] at hB;clear h h1 h2 h3 hs;go_enter Tryz.func100,Tryz.ntmps100;go_wp2
     go_quiet ((first | (go_at_call 101;exact quiet_same (in_any _ _ _ _)) | (go_at_call 130;exact Calls.quiet_of (hB.out _ (HI.out _)))))
     go_wp2;go_ret;exact ⟨rfl,below_drewN ((Below.refl _ _).alloc (Nat.le_refl _) _) _⟩
   · have hbl:=bases_len hbs;obtain ⟨b1,b5⟩:=hbl
     by_cases hnb:t.ns.length+1=t.bs.length
     · have h2b:2≤t.bs.length∧¬ t.bs.getD 1 0=t.us.length+1:=by
        by_cases h2:2≤t.bs.length
        · refine ⟨h2,fun e=>hs ⟨hu1,hbs,hnb,fun _=>e⟩⟩
        · exact absurd ⟨hu1,hbs,hnb,fun h=>absurd h h2⟩ hs
       obtain ⟨h2l,hne⟩:=h2b;have hq:((t.ns.length:Int) != (t.bs.length:Int) - 1)=false:=by rw [bne_eq_false_iff_eq];omega
       obtain ⟨b,o,rfl,hbo,h2c⟩:=h2.at_ (by omega);have c1:=h2c 1 (by omega);have f1:=hf.fits 1;have hd1:decide (1 < (t.bs.length:Int))=true:=decide_eq_true (by omega);have hl1:1 < t.bs.length:=by omega
       have hw1:IntKind.i64.wrap ((t.us.length:Int)+1)=(t.us.length:Int)+1:=IntWalk.i64_in _ (by omega);have hw2:IntKind.i64.wrap ((t.bs.length:Int) - 1)=(t.bs.length:Int) - 1:=IntWalk.i64_in _ (by omega);generalize t.bs.getD 1 0=x at *;replace hbs:=Lib.hid hbs;rw [hbs.out] at hB;have hne':(x != (t.us.length:Int)+1)=true:=by rw [bne_iff_ne];exact hne
       clear h h1 h2 h3 hs h2c hnb hne;go_enter Tryz.func100,Tryz.ntmps100;go_wp2
       go_quiet ((first | (go_at_call 101;exact quiet_same (in_any _ _ _ _)) | (go_at_call 130;exact Calls.quiet_of (hB.out _ (HI.out _)))))
       go_wp2;go_ret;exact ⟨rfl,below_drewN ((Below.refl _ _).alloc (Nat.le_refl _) _) _⟩
     · have hq:((t.ns.length:Int) != (t.bs.length:Int) - 1)=true:=by rw [bne_iff_ne];omega
       have hw2:IntKind.i64.wrap ((t.bs.length:Int) - 1)=(t.bs.length:Int) - 1:=IntWalk.i64_in _ (by omega);replace hbs:=Lib.hid hbs;rw [hbs.out] at hB;clear h h1 h2 h3 hs hnb;go_enter Tryz.func100,Tryz.ntmps100;go_wp2
       go_quiet ((first | (go_at_call 101;exact quiet_same (in_any _ _ _ _)) | (go_at_call 130;exact Calls.quiet_of (hB.out _ (HI.out _)))))
       go_wp2;go_ret;exact ⟨rfl,below_drewN ((Below.refl _ _).alloc (Nat.le_refl _) _) _⟩
 · have hu2:decide (1≤(t.us.length:Int)∧(t.us.length:Int)≤20)=false:=decide_eq_false (by omega);clear h h1 h2 h3 hs hB hu1;go_enter Tryz.func100,Tryz.ntmps100;go_wp2
   go_quiet ((first | (go_at_call 101;exact quiet_same (in_any _ _ _ _)) | fail))
   go_wp2;go_ret;exact ⟨rfl,below_drewN ((Below.refl _ _).alloc (Nat.le_refl _) _) _⟩
end
section
open Go.RowKit Go.WideMaps Go.Maps
def apartTo (ws:List ByteArray) (k:Nat):Prop:=∀ j,j < k→∀ i,i < j→ws.getD i ByteArray.empty≠ws.getD j ByteArray.empty
theorem apart_go {ws:List ByteArray} {k:Nat} (h:apartTo ws k) (hx:∀ i,i < k→ws.getD i ByteArray.empty≠ws.getD k ByteArray.empty):apartTo ws (k+1):=fun j hj i hi=>by
 by_cases e:j=k
 · subst e;exact hx i hi
 · exact h j (by omega) i hi
theorem apart_nodup {ws:List ByteArray} (h:apartTo ws ws.length):ws.Nodup:=by
 refine List.pairwise_iff_getElem.2 fun i j hi hj hij=>?_
 have:=h j hj i hij
 simpa [List.getD_eq_getElem?_getD,hi,hj] using this
theorem ok_no_twice {t:Tg} {j k:Nat} (hj:j < k) (hk:k < t.words.length) (h:t.words.getD j ByteArray.empty=t.words.getD k ByteArray.empty):t.ok=false :=
 ok_no fun ⟨_,_,_,_,_,hd⟩=>by
  have:=List.pairwise_iff_getElem.1 hd j k (by omega) hk hj;simp only [List.getD_eq_getElem?_getD,List.getElem?_eq_getElem hk,List.getElem?_eq_getElem (show j < t.words.length by omega),Option.getD_some] at h;exact this h
theorem ne_go {ws:List ByteArray} {j:Nat} {x:ByteArray} (h:∀ i,i < j→ws.getD i ByteArray.empty≠x) (e:ws.getD j ByteArray.empty≠x):∀ i,i < j+1→ws.getD i ByteArray.empty≠x:=fun i hi=>by
 by_cases e':i=j
 · subst e';exact e
 · exact h i (by omega)
set_option maxRecDepth 100000 in
set_option maxHeartbeats 4000000 in
theorem specTongueOk_shape (v:Value) (t:Tg) (w:World) (h:Tng w v t) (hf:t.Fine) (hs:t.Shape) :
 Calls Tryz.prog 100 #[v] w fun e w'=>e=.returned (.bool t.ok)∧Below w.heap.size w w':=by
 obtain ⟨i0,hi,hz0,hz1,hz2⟩:=info_parts str_info;obtain ⟨A1,c1,A2,c2,A3,c3,rfl,h1,h2,h3⟩:=h.ex;have hB:=Lib.hid (fun W h=>specBasesOk_any A2 t.bs.length c2 t.bs W h hf.bs hf.fits);have hBel:Below w.heap.size w (w.alloc (.cells #[.slice A1 t.us.length c1,.slice A2 t.bs.length c2,.slice A3 t.ns.length c3] 31)):=(Below.refl _ _).alloc (Nat.le_refl _) _;have HI:=Lib.hid (fun nq=>(h2.below hBel (Nat.le_refl _)).drewN nq);have H1:=Lib.hid h1;have H3:=Lib.hid h3;replace hBel:=Lib.hid hBel;have HF:=Lib.hid hf;have hu:=hs.us;have hu2:decide (1≤(t.us.length:Int)∧(t.us.length:Int)≤20)=true:=decide_eq_true (by omega);obtain ⟨u1,u2⟩:=hu;have hbs:=hs.bs;rw [hbs] at hB;clear hbs;have hbl:=bases_len hs.bs;obtain ⟨b1,b5⟩:=hbl;have hnb:=hs.ns;have hq:((t.ns.length:Int) != (t.bs.length:Int) - 1)=false:=by rw [bne_eq_false_iff_eq];omega
 have hw2:IntKind.i64.wrap ((t.bs.length:Int) - 1)=(t.bs.length:Int) - 1:=IntWalk.i64_in _ (by omega);have hnl:t.ns.length≤5:=by omega
 replace hnb:=Lib.hid hnb;have HNO:=Lib.hid (fun k hk h=>ok_no_word (t:=t) (k:=k) hk h);have hwl:=Lib.hid (words_length t);have HSZ:=Lib.hid (words_size hf);have HX:∀ nq,Blk ((w.alloc (.cells #[.slice A1 t.us.length c1,.slice A2 t.bs.length c2,.slice A3 t.ns.length c3] 31)).drewN nq) w.heap.size 31 #[.slice A1 t.us.length c1,.slice A2 t.bs.length c2,.slice A3 t.ns.length c3]:=fun nq=>(Blk.new _ _ _).drewN _
 have HZ:∀ nq,((w.alloc (.cells #[.slice A1 t.us.length c1,.slice A2 t.bs.length c2,.slice A3 t.ns.length c3] 31)).drewN nq).heap.size=w.heap.size+1:=fun nq=>by simp
 replace HX:=Lib.hid HX;replace HZ:=Lib.hid HZ;have HS:=Lib.hid hs
 by_cases h2l:1 < t.bs.length
 · obtain ⟨b,o,rfl,hbo,h2c⟩:=h2.at_ (by omega);have cx:=h2c 1 (by omega);have hx:=hs.two (by omega);rw [hx] at cx;have hd1:decide (1 < (t.bs.length:Int))=true:=decide_eq_true (by omega);have hw1:IntKind.i64.wrap ((t.us.length:Int)+1)=(t.us.length:Int)+1:=IntWalk.i64_in _ (by omega);have hne:((t.us.length:Int)+1 != (t.us.length:Int)+1)=false:=by simp
   clear h h1 h2 h3 hs h2c hx hf;go_enter Tryz.func100,Tryz.ntmps100;go_wp2
   go_quiet ((first | (go_at_call 101;exact quiet_same (in_any _ _ _ _)) | (go_at_call 130;exact Calls.quiet_of (hB.out _ (HI.out _)))))
   clear cx hne hw1 hd1;have hX:=HX.out nq;have hZ:=HZ.out nq;have hY:=below_drewN hBel.out nq;clear HX HZ HI hbo;generalize (w.alloc (.cells #[.slice A1 t.us.length c1,.slice (some ⟨b,o,none⟩) t.bs.length c2,.slice A3 t.ns.length c3] 31)).drewN nq=W at *;have x0:W.cell? ⟨w.heap.size,0,none⟩=some (.slice A1 t.us.length c1):=hX.cell 0;have x2:W.cell? ⟨w.heap.size,2,none⟩=some (.slice A3 t.ns.length c3):=hX.cell 2;have hW1:w.heap.size < W.heap.size:=by omega
   replace hY:=Lib.hid hY;replace hZ:=Lib.hid hZ;clear hX;have HB0:Below W.heap.size W ((W.alloc (.cells #[] 9)).drew):=((Below.refl _ _).alloc (Nat.le_refl _) _).drew;have HO0:((W.alloc (.cells #[] 9)).drew).ownsRow W.heap.size 9 1 (.slice (some ⟨W.heap.size,0,none⟩) 0 0) 0 []:=owns_empty ((Blk.new W 9 #[]).drew) (Nat.le_refl _);have HS1:=Lib.hid (((H1.out.below hY.out (Nat.le_refl _)).below HB0 (Nat.le_refl _)).src);have HS3:=Lib.hid ((H3.out.below hY.out (Nat.le_refl _)));replace HB0:=Lib.hid HB0;replace HO0:=Lib.hid HO0;go_wp2
   go_region_law (first
    | (refine step_app _ (by rfl) (.tmp 44) (.tmp 46) _ (by rfl) W.heap.size 9 i0 _ 16 Tryz.underlying28 hi hz0 hz1 hz2 rfl (.slice (some ⟨W.heap.size,0,none⟩) 0 0) 0 [] (by rfl) HO0.out A1 _ c1 _ (by rfl) HS1.out (by unfold maxLen;omega) (by omega) (by simp) ?_;intro v5 w5 ho5 hg5 hat5;have hB5:=below_own HB0.out HO0.out hg5 (by simp) (Nat.le_refl _);have x2':w5.cell? ⟨w.heap.size,2,none⟩=some (.slice A3 t.ns.length c3):=(hB5.cell (p:=⟨w.heap.size,2,none⟩) hW1).trans x2;have hS5:=(HS3.out.below hB5 (Nat.le_refl _)).src;replace ho5:=Lib.hid ho5;replace hg5:=Lib.hid hg5;replace hB5:=Lib.hid hB5;replace hS5:=Lib.hid hS5)
    | (refine step_app _ (by rfl) (.tmp 47) (.tmp 49) _ (by rfl) W.heap.size 9 i0 _ 16 Tryz.underlying28 hi hz0 hz1 hz2 rfl v5 _ _ (by rfl) ho5.out A3 _ c3 _ (by rfl) hS5.out (by unfold maxLen;omega) (by omega) hB5.out.size ?_;intro v6 w6 ho6 hg6 hat6;have hB6:=below_own hB5.out ho5.out hg6 hB5.out.size (Nat.le_refl _);replace ho6:=Lib.hid ho6;replace hg6:=Lib.hid hg6;replace hB6:=Lib.hid hB6))
   all_goals
    have hB7:=hY.out.trans (hB6.out.mono hY.out.size)
    have ho7:w6.ownsRow W.heap.size 9 1 v6 t.words.length (t.words.map Value.string):=by
     have:=ho6.out;rw [hwl.out]
     simpa [Tg.words] using this
    obtain ⟨A,c,rfl,hS⟩:=strs_of_own ho7;obtain ⟨-,-,hat⟩:=hS;replace hat:=Lib.hid hat;replace hB7:=Lib.hid hB7;have hnw:t.words.length≤25:=by have:=hwl.out;omega
    clear ho7 ho6 ho5 hB6 hB5 hS5 x2' hg5 hg6 hat5 hat6 HB0 HO0 HS1 HS3 x0 x2 hW1 hY hZ H1 H3 hBel hB hw2 hq hu2;go_wp2
    go_loopw [4] (fun i wr=>∃ k m:Nat,k≤t.words.length∧i=.int .i64 k∧wordsTo t.words k∧apartTo t.words k∧wr=w6.drewN m) (fun i _=>t.words.length - (intOf i).toNat)
    case atStart=>exact ⟨0,0,Nat.zero_le _,rfl,fun j hj=>absurd hj (by omega),fun j hj=>absurd hj (by omega),rfl⟩
    case round =>
     obtain ⟨k,m,hk,rfl,hu,ha,rfl⟩:=hrel
     by_cases hlt:k < t.words.length
     · obtain ⟨b,o,rfl,hbo,hc⟩:=hat.out (by omega);have ck:=hc k hlt;have hW:=specWordOk_any _ (w6.drewN m) (HSZ.out k);have HU:=Lib.hid (words_go hu);have HN:=Lib.hid (HNO.out k hlt);have HA:=Lib.hid (apart_go ha);have HD:=Lib.hid (fun j hj=>ok_no_twice (t:=t) (j:=j) hj hlt);replace hc:=Lib.hid hc;generalize hx:t.words.getD k ByteArray.empty=x at *;replace hx:=Lib.hid hx;clear hu ha;go_wp2_with (fail);refine hW.mono ?_;rintro e _ ⟨rfl,rfl⟩;clear hW;cases hxo:wordOk x
       · replace HN:=Lib.hid (HN.out hxo);go_wp2;go_ret;exact ⟨ret_bool HN.out.symm,below_drewN hB7.out m⟩
       · replace HU:=Lib.hid (HU.out hxo);clear HN hxo;go_wp2;obtain ⟨wo,hwo⟩:∃ wo:World,wo=w6.drewN m:=⟨_,rfl⟩;rw [← hwo];have ck':w6.cell? ⟨b,o+k,none⟩=some (.string x):=by rw [← hx.out];exact hc.out k hlt
         replace ck':=Lib.hid ck';replace hwo:=Lib.hid hwo;clear ck
         go_loopw [5] (fun i wr=>∃ j m:Nat,j≤k∧i=.int .i64 j∧(∀ i,i < j→t.words.getD i ByteArray.empty≠x)∧wr=w6.drewN m) (fun i _=>k - (intOf i).toNat)
         case atStart=>exact ⟨0,m,Nat.zero_le _,rfl,fun i hi=>absurd hi (by omega),hwo.out⟩
         case round =>
          obtain ⟨j,m2,hj,rfl,hd,rfl⟩:=hrel
          by_cases hjt:j < k
          · have cj:=hc.out j (by omega);have ck:=ck'.out;have hjl:j < t.words.length:=by omega
            have HD2:=HD.out j hjt;have HG:=ne_go hd;generalize t.words.getD j ByteArray.empty=y at *;clear hd
            by_cases e:y=x
            · have he:(y.toList==x.toList)=true:=by rw [str_eq];exact decide_eq_true e
              replace HD2:=Lib.hid (HD2 e);replace e:=Lib.hid e;clear HG;go_wp2
              go_quiet (fail)
              go_wp2;go_ret;exact ⟨ret_bool HD2.out.symm,below_drewN (below_drewN hB7.out _) _⟩
            · have he:(y.toList==x.toList)=false:=by rw [str_eq];exact decide_eq_false e
              replace HG:=Lib.hid (HG e);replace e:=Lib.hid e;clear HD2;go_wp2
              go_quiet (fail)
              go_wp2
              go_roundw
              case rel=>exact ⟨j+1,m2+nq,by omega,by go_num,HG.out,by simp⟩
              case measure=>simp [intOf];omega
          · obtain rfl:j=k:=by omega
            replace HA:=Lib.hid (HA.out hd);clear hd;go_wp2
            go_roundw
            case rel=>exact ⟨j+1,m2,by omega,by go_num,HU.out,HA.out,rfl⟩
            case measure=>simp [intOf];omega
     · obtain rfl:k=t.words.length:=by omega
       have HO:=Lib.hid (ok_of_words HS.out hu (apart_nodup ha));clear hu ha hat;go_wp2;go_ret;exact ⟨ret_bool HO.out.symm,below_drewN hB7.out m⟩
 · have hd1:decide (1 < (t.bs.length:Int))=false:=decide_eq_false (by omega);clear h h1 h2 h3 hs hf;go_enter Tryz.func100,Tryz.ntmps100;go_wp2
   go_quiet ((first | (go_at_call 101;exact quiet_same (in_any _ _ _ _)) | (go_at_call 130;exact Calls.quiet_of (hB.out _ (HI.out _)))))
   clear hd1;have hX:=HX.out nq;have hZ:=HZ.out nq;have hY:=below_drewN hBel.out nq;clear HX HZ HI;generalize (w.alloc (.cells #[.slice A1 t.us.length c1,.slice A2 t.bs.length c2,.slice A3 t.ns.length c3] 31)).drewN nq=W at *;have x0:W.cell? ⟨w.heap.size,0,none⟩=some (.slice A1 t.us.length c1):=hX.cell 0;have x2:W.cell? ⟨w.heap.size,2,none⟩=some (.slice A3 t.ns.length c3):=hX.cell 2;have hW1:w.heap.size < W.heap.size:=by omega
   replace hY:=Lib.hid hY;replace hZ:=Lib.hid hZ;clear hX;have HB0:Below W.heap.size W ((W.alloc (.cells #[] 9)).drew):=((Below.refl _ _).alloc (Nat.le_refl _) _).drew;have HO0:((W.alloc (.cells #[] 9)).drew).ownsRow W.heap.size 9 1 (.slice (some ⟨W.heap.size,0,none⟩) 0 0) 0 []:=owns_empty ((Blk.new W 9 #[]).drew) (Nat.le_refl _);have HS1:=Lib.hid (((H1.out.below hY.out (Nat.le_refl _)).below HB0 (Nat.le_refl _)).src);have HS3:=Lib.hid ((H3.out.below hY.out (Nat.le_refl _)));replace HB0:=Lib.hid HB0;replace HO0:=Lib.hid HO0;go_wp2
   go_region_law (first
    | (refine step_app _ (by rfl) (.tmp 44) (.tmp 46) _ (by rfl) W.heap.size 9 i0 _ 16 Tryz.underlying28 hi hz0 hz1 hz2 rfl (.slice (some ⟨W.heap.size,0,none⟩) 0 0) 0 [] (by rfl) HO0.out A1 _ c1 _ (by rfl) HS1.out (by unfold maxLen;omega) (by omega) (by simp) ?_;intro v5 w5 ho5 hg5 hat5;have hB5:=below_own HB0.out HO0.out hg5 (by simp) (Nat.le_refl _);have x2':w5.cell? ⟨w.heap.size,2,none⟩=some (.slice A3 t.ns.length c3):=(hB5.cell (p:=⟨w.heap.size,2,none⟩) hW1).trans x2;have hS5:=(HS3.out.below hB5 (Nat.le_refl _)).src;replace ho5:=Lib.hid ho5;replace hg5:=Lib.hid hg5;replace hB5:=Lib.hid hB5;replace hS5:=Lib.hid hS5)
    | (refine step_app _ (by rfl) (.tmp 47) (.tmp 49) _ (by rfl) W.heap.size 9 i0 _ 16 Tryz.underlying28 hi hz0 hz1 hz2 rfl v5 _ _ (by rfl) ho5.out A3 _ c3 _ (by rfl) hS5.out (by unfold maxLen;omega) (by omega) hB5.out.size ?_;intro v6 w6 ho6 hg6 hat6;have hB6:=below_own hB5.out ho5.out hg6 hB5.out.size (Nat.le_refl _);replace ho6:=Lib.hid ho6;replace hg6:=Lib.hid hg6;replace hB6:=Lib.hid hB6))
   all_goals
    have hB7:=hY.out.trans (hB6.out.mono hY.out.size)
    have ho7:w6.ownsRow W.heap.size 9 1 v6 t.words.length (t.words.map Value.string):=by
     have:=ho6.out;rw [hwl.out]
     simpa [Tg.words] using this
    obtain ⟨A,c,rfl,hS⟩:=strs_of_own ho7;obtain ⟨-,-,hat⟩:=hS;replace hat:=Lib.hid hat;replace hB7:=Lib.hid hB7;have hnw:t.words.length≤25:=by have:=hwl.out;omega
    clear ho7 ho6 ho5 hB6 hB5 hS5 x2' hg5 hg6 hat5 hat6 HB0 HO0 HS1 HS3 x0 x2 hW1 hY hZ H1 H3 hBel hB hw2 hq hu2;go_wp2
    go_loopw [4] (fun i wr=>∃ k m:Nat,k≤t.words.length∧i=.int .i64 k∧wordsTo t.words k∧apartTo t.words k∧wr=w6.drewN m) (fun i _=>t.words.length - (intOf i).toNat)
    case atStart=>exact ⟨0,0,Nat.zero_le _,rfl,fun j hj=>absurd hj (by omega),fun j hj=>absurd hj (by omega),rfl⟩
    case round =>
     obtain ⟨k,m,hk,rfl,hu,ha,rfl⟩:=hrel
     by_cases hlt:k < t.words.length
     · obtain ⟨b,o,rfl,hbo,hc⟩:=hat.out (by omega);have ck:=hc k hlt;have hW:=specWordOk_any _ (w6.drewN m) (HSZ.out k);have HU:=Lib.hid (words_go hu);have HN:=Lib.hid (HNO.out k hlt);have HA:=Lib.hid (apart_go ha);have HD:=Lib.hid (fun j hj=>ok_no_twice (t:=t) (j:=j) hj hlt);replace hc:=Lib.hid hc;generalize hx:t.words.getD k ByteArray.empty=x at *;replace hx:=Lib.hid hx;clear hu ha;go_wp2_with (fail);refine hW.mono ?_;rintro e _ ⟨rfl,rfl⟩;clear hW;cases hxo:wordOk x
       · replace HN:=Lib.hid (HN.out hxo);go_wp2;go_ret;exact ⟨ret_bool HN.out.symm,below_drewN hB7.out m⟩
       · replace HU:=Lib.hid (HU.out hxo);clear HN hxo;go_wp2;obtain ⟨wo,hwo⟩:∃ wo:World,wo=w6.drewN m:=⟨_,rfl⟩;rw [← hwo];have ck':w6.cell? ⟨b,o+k,none⟩=some (.string x):=by rw [← hx.out];exact hc.out k hlt
         replace ck':=Lib.hid ck';replace hwo:=Lib.hid hwo;clear ck
         go_loopw [5] (fun i wr=>∃ j m:Nat,j≤k∧i=.int .i64 j∧(∀ i,i < j→t.words.getD i ByteArray.empty≠x)∧wr=w6.drewN m) (fun i _=>k - (intOf i).toNat)
         case atStart=>exact ⟨0,m,Nat.zero_le _,rfl,fun i hi=>absurd hi (by omega),hwo.out⟩
         case round =>
          obtain ⟨j,m2,hj,rfl,hd,rfl⟩:=hrel
          by_cases hjt:j < k
          · have cj:=hc.out j (by omega);have ck:=ck'.out;have hjl:j < t.words.length:=by omega
            have HD2:=HD.out j hjt;have HG:=ne_go hd;generalize t.words.getD j ByteArray.empty=y at *;clear hd
            by_cases e:y=x
            · have he:(y.toList==x.toList)=true:=by rw [str_eq];exact decide_eq_true e
              replace HD2:=Lib.hid (HD2 e);replace e:=Lib.hid e;clear HG;go_wp2
              go_quiet (fail)
              go_wp2;go_ret;exact ⟨ret_bool HD2.out.symm,below_drewN (below_drewN hB7.out _) _⟩
            · have he:(y.toList==x.toList)=false:=by rw [str_eq];exact decide_eq_false e
              replace HG:=Lib.hid (HG e);replace e:=Lib.hid e;clear HD2;go_wp2
              go_quiet (fail)
              go_wp2
              go_roundw
              case rel=>exact ⟨j+1,m2+nq,by omega,by go_num,HG.out,by simp⟩
              case measure=>simp [intOf];omega
          · obtain rfl:j=k:=by omega
            replace HA:=Lib.hid (HA.out hd);clear hd;go_wp2
            go_roundw
            case rel=>exact ⟨j+1,m2,by omega,by go_num,HU.out,HA.out,rfl⟩
            case measure=>simp [intOf];omega
     · obtain rfl:k=t.words.length:=by omega
       have HO:=Lib.hid (ok_of_words HS.out hu (apart_nodup ha));clear hu ha hat;go_wp2;go_ret;exact ⟨ret_bool HO.out.symm,below_drewN hB7.out m⟩
theorem implTongueOk_any (v:Value) (t:Tg) (w:World) (h:Tng w v t) (hf:t.Fine) :
 Calls Tryz.prog 169 #[v] w fun e w'=>e=.returned (.bool t.ok)∧Below w.heap.size w w':=by
 by_cases hs:t.Shape
 · exact implTongueOk_shape v t w h hf hs
 · rw [ok_no_shape hs];exact implTongueOk_no v t w h hf hs
theorem specTongueOk_any (v:Value) (t:Tg) (w:World) (h:Tng w v t) (hf:t.Fine) :
 Calls Tryz.prog 100 #[v] w fun e w'=>e=.returned (.bool t.ok)∧Below w.heap.size w w':=by
 by_cases hs:t.Shape
 · exact specTongueOk_shape v t w h hf hs
 · rw [ok_no_shape hs];exact specTongueOk_no v t w h hf hs
end
section
open Go.RowKit
structure OwnTng (w:World) (B:Nat) (v:Value) (t:Tg):Prop where
 ex:∃ v1 v2 v3,v=.agg #[v1,v2,v3]∧OwnStrs w B v1 t.us∧OwnI w B v2 t.bs∧OwnStrs w B v3 t.ns∧∀ k,v1.ownBlock=some k→v3.ownBlock≠some k
theorem OwnTng.below {w w':World} {B S:Nat} {v:Value} {t:Tg} (h:OwnTng w B v t) (hb:Below S w w') (hS:w.heap.size≤S):OwnTng w' B v t:=by
 obtain ⟨v1,v2,v3,e,h1,h2,h3,ha⟩:=h.ex;exact ⟨v1,v2,v3,e,h1.below hb hS,h2.below hb hS,h3.below hb hS,ha⟩
theorem OwnTng.mono {w:World} {B B':Nat} {v:Value} {t:Tg} (h:OwnTng w B v t) (hB:B'≤B):OwnTng w B' v t:=by
 obtain ⟨v1,v2,v3,e,h1,h2,h3,ha⟩:=h.ex;exact ⟨v1,v2,v3,e,h1.mono hB,h2.mono hB,h3.mono hB,ha⟩
theorem OwnTng.tng {w:World} {B:Nat} {v:Value} {t:Tg} (h:OwnTng w B v t):Tng w v t:=by
 obtain ⟨v1,v2,v3,e,h1,h2,h3,ha⟩:=h.ex;obtain ⟨A1,c1,rfl,s1⟩:=h1.strs;obtain ⟨A2,c2,rfl,s2⟩:=h2.ints;obtain ⟨A3,c3,rfl,s3⟩:=h3.strs;exact ⟨A1,c1,A2,c2,A3,c3,e,s1,s2,s3⟩
def noTg:Tg:=⟨[],[],[]⟩
theorem own_noTg (w:World) (B:Nat):OwnTng w B (.agg #[.slice none 0 0,.slice none 0 0,.slice none 0 0]) noTg :=
 ⟨_,_,_,rfl,owns_none _ _ _,owns_none _ _ _,owns_none _ _ _,fun k hk=>by simp [Value.ownBlock] at hk⟩
def RetTng (w:World) (t:Tg) (e:Ending) (w':World):Prop:=∃ v,e=.returned v∧OwnTng w' w.heap.size v t∧Below w.heap.size w w'
theorem OwnStrs.lt {w:World} {B:Nat} {v:Value} {xs:List ByteArray} (h:OwnStrs w B v xs):∀ k,v.ownBlock=some k→B≤k∧k < w.heap.size:=World.ownsRow.lt h
theorem own_far {w:World} {B:Nat} {t:TypeId} {v:Value} {n:Nat} {xs:List Value} (h:w.ownsRow B t 1 v n xs) {g i:Nat} (hp:g < B) (u:Value):(w.setCell ⟨g,i,none⟩ u).ownsRow B t 1 v n xs :=
 h.kept (grown_setCell w g i u) (by
  cases hv:v.ownBlock with
  | none=>exact .inl rfl
  | some k=>exact .inr fun e=>by have:=(h.lt k hv).1;cases e;omega)
theorem own_tng3 {w:World} {B B' g:Nat} {v1 v2 v3 u0 u1 u2:Value} {t:Tg} (h1:OwnStrs w B v1 t.us) (h2:OwnI w B v2 t.bs) (h3:OwnStrs w B v3 t.ns) (ha:∀ k,v1.ownBlock=some k→v3.ownBlock≠some k) (hg:g < B) (hB:B'≤B) :
 OwnTng (((w.setCell ⟨g,0,none⟩ u0).setCell ⟨g,1,none⟩ u1).setCell ⟨g,2,none⟩ u2) B' (.agg #[v1,v2,v3]) t :=
 OwnTng.mono (B:=B) ⟨v1,v2,v3,rfl,own_far (own_far (own_far h1 hg _) hg _) hg _,own_far (own_far (own_far h2 hg _) hg _) hg _,own_far (own_far (own_far h3 hg _) hg _) hg _,ha⟩ hB
theorem below_tng3 {w w1:World} {g:Nat} {u0 u1 u2:Value} (h:Below w.heap.size w w1) (hg:w.heap.size≤g):Below w.heap.size w (((w1.setCell ⟨g,0,none⟩ u0).setCell ⟨g,1,none⟩ u1).setCell ⟨g,2,none⟩ u2) :=
 ((h.setCell (by simpa using hg) _).setCell (by simpa using hg) _).setCell (by simpa using hg) _
theorem blk3 {w:World} {g:Nat} {t:TypeId} {x y z:Value} (h:Blk w g t #[x,y,z]):w.cell? ⟨g,0,none⟩=some x∧w.cell? ⟨g,1,none⟩=some y∧w.cell? ⟨g,2,none⟩=some z∧w.frozen? ⟨g,0,none⟩=false∧w.frozen? ⟨g,1,none⟩=false∧w.frozen? ⟨g,2,none⟩=false :=
 ⟨h.cell 0,h.cell 1,h.cell 2,h.frozen 0,h.frozen 1,h.frozen 2⟩
end
section
open Go.RowKit Go.WideMaps Go.Maps
def wordsOf (t:Tg):List ByteArray:=if t.ok then t.words else []
end
section
open Go.RowKit Go.WideMaps Go.Maps
def place (ws:List ByteArray) (x:ByteArray):Nat:=ws.findIdx (fun y=>decide (y=x))
theorem place_le (ws:List ByteArray) (x:ByteArray):place ws x≤ws.length:=List.findIdx_le_length
theorem place_at {ws:List ByteArray} {x:ByteArray} (h:place ws x < ws.length):ws.getD (place ws x) ByteArray.empty=x:=by
 have:=List.findIdx_getElem (w:=h);simp only [decide_eq_true_eq] at this;simp only [List.getD_eq_getElem?_getD,List.getElem?_eq_getElem h,Option.getD_some];exact this
theorem place_first {ws:List ByteArray} {x:ByteArray} {i:Nat} (h:i < place ws x):ws.getD i ByteArray.empty≠x:=by
 have hl:i < ws.length:=Nat.lt_of_lt_of_le h (place_le ws x);have:=List.not_of_lt_findIdx h;simp only [decide_eq_false_iff_not] at this;simp only [List.getD_eq_getElem?_getD,List.getElem?_eq_getElem hl,Option.getD_some]
 simpa using this
theorem place_eq {ws:List ByteArray} {x:ByteArray} {k:Nat} (hk:k < ws.length) (h:∀ i,i < k→ws.getD i ByteArray.empty≠x) (e:ws.getD k ByteArray.empty=x):place ws x=k:=by
 rcases Nat.lt_trichotomy (place ws x) k with h1 | h1 | h1
 · exact absurd (place_at (by omega)) (h _ h1)
 · exact h1
 · exact absurd e (place_first h1)
theorem place_none {ws:List ByteArray} {x:ByteArray} (h:∀ i,i < ws.length→ws.getD i ByteArray.empty≠x):place ws x=ws.length:=by
 rcases Nat.lt_or_ge (place ws x) ws.length with h1 | h1
 · exact absurd (place_at h1) (h _ h1)
 · have:=place_le ws x;omega
theorem place_mem {ws:List ByteArray} {x:ByteArray}:place ws x < ws.length ↔ x ∈ ws:=by
 constructor
 · intro h;rw [← place_at h];simp only [List.getD_eq_getElem?_getD,List.getElem?_eq_getElem h,Option.getD_some];exact List.getElem_mem h
 · intro h;obtain ⟨j,hj,rfl⟩:=List.mem_iff_getElem.1 h;rcases Nat.lt_or_ge (place ws ws[j]) ws.length with h1 | h1
   · exact h1
   · exact absurd (by simp [List.getD_eq_getElem?_getD,hj]) (place_first (ws:=ws) (x:=ws[j]) (i:=j) (by omega))
def unitB (t:Tg) (x:ByteArray):Bool:=t.ok&&decide (place t.us x < t.us.length)
def unitV (t:Tg) (x:ByteArray):Int:=if unitB t x then (place t.us x:Int)+1 else -1
def baseB (t:Tg) (x:ByteArray):Bool:=t.ok&&decide (place t.ns x < t.ns.length)
def baseV (t:Tg) (x:ByteArray):Int:=if baseB t x then (place t.ns x:Int)+1 else -1
theorem wordsOf_len (t:Tg) (hf:t.Fine):(wordsOf t).length≤2097152:=by
 unfold wordsOf;have:=hf.us;have:=hf.ns
 split
 · rw [words_length];omega
 · simp
theorem two_ret {a b:Int} {c d:Bool} (h:a=b) (h':c=d):Ending.returned (.tuple #[.int .i64 a,.bool c])=.returned (.tuple #[.int .i64 b,.bool d]):=by rw [h,h']
def noneTo (ws:List ByteArray) (x:ByteArray) (k:Nat):Prop:=∀ i,i < k→ws.getD i ByteArray.empty≠x
theorem none_go {ws:List ByteArray} {x:ByteArray} {k:Nat} (h:noneTo ws x k) (e:¬ ws.getD k ByteArray.empty=x):noneTo ws x (k+1):=ne_go h e
theorem unit_at {t:Tg} {x:ByteArray} {k:Nat} (ho:t.ok=true) (hk:k < t.us.length) (h:noneTo t.us x k) (e:t.us.getD k ByteArray.empty=x):unitB t x=true∧unitV t x=(k:Int)+1:=by
 have hp:=place_eq hk h e;have hb:unitB t x=true:=by unfold unitB;rw [ho,hp,Bool.true_and];exact decide_eq_true hk
 exact ⟨hb,by unfold unitV;rw [hb,if_pos rfl,hp]⟩
theorem unit_no {t:Tg} {x:ByteArray} (h:t.ok=false∨noneTo t.us x t.us.length):unitB t x=false∧unitV t x=-1:=by
 have hb:unitB t x=false:=by
  rcases h with h | h
  · simp [unitB,h]
  · unfold unitB;rw [place_none h];simp
 exact ⟨hb,by unfold unitV;rw [hb];rfl⟩
theorem base_at {t:Tg} {x:ByteArray} {k:Nat} (ho:t.ok=true) (hk:k < t.ns.length) (h:noneTo t.ns x k) (e:t.ns.getD k ByteArray.empty=x):baseB t x=true∧baseV t x=(k:Int)+1:=by
 have hp:=place_eq hk h e;have hb:baseB t x=true:=by unfold baseB;rw [ho,hp,Bool.true_and];exact decide_eq_true hk
 exact ⟨hb,by unfold baseV;rw [hb,if_pos rfl,hp]⟩
theorem base_no {t:Tg} {x:ByteArray} (h:t.ok=false∨noneTo t.ns x t.ns.length):baseB t x=false∧baseV t x=-1:=by
 have hb:baseB t x=false:=by
  rcases h with h | h
  · simp [baseB,h]
  · unfold baseB;rw [place_none h];simp
 exact ⟨hb,by unfold baseV;rw [hb];rfl⟩
end
section
open Go.RowKit Go.WideMaps Go.Maps
set_option maxRecDepth 100000 in
set_option maxHeartbeats 1000000 in
theorem specUnitOf_any (v:Value) (t:Tg) (x:ByteArray) (w:World) (h:Tng w v t) (hf:t.Fine) :
 Calls Tryz.prog 118 #[v,.string x] w fun e w'=>e=.returned (.tuple #[.int .i64 (unitV t x),.bool (unitB t x)])∧Below w.heap.size w w':=by
 obtain ⟨A1,c1,A2,c2,A3,c3,rfl,h1,h2,h3⟩:=h.ex;have hBel:Below w.heap.size w (w.alloc (.cells #[.slice A1 t.us.length c1,.slice A2 t.bs.length c2,.slice A3 t.ns.length c3] 31)):=(Below.refl _ _).alloc (Nat.le_refl _) _;have HX:=(Blk.new w 31 #[.slice A1 t.us.length c1,.slice A2 t.bs.length c2,.slice A3 t.ns.length c3]);have hZ:(w.alloc (.cells #[.slice A1 t.us.length c1,.slice A2 t.bs.length c2,.slice A3 t.ns.length c3] 31)).heap.size=w.heap.size+1:=by simp
 have HT:=Lib.hid (h.below hBel (Nat.le_refl _));replace HX:=Lib.hid HX;replace hBel:=Lib.hid hBel;replace hZ:=Lib.hid hZ;have hu:=hf.us;have HF:=Lib.hid hf;have HS:=Lib.hid (fun k=>unit_at (t:=t) (x:=x) (k:=k));have HN:=Lib.hid (unit_no (t:=t) (x:=x));have H1:=Lib.hid (h1.below hBel.out (Nat.le_refl _));clear h h1 h2 h3 hf;go_enter Tryz.func118,Tryz.ntmps118;go_wp2;generalize w.alloc (.cells #[.slice A1 t.us.length c1,.slice A2 t.bs.length c2,.slice A3 t.ns.length c3] 31)=W at *
 go_loopw [6] (fun i wr=>∃ k:Nat,k≤t.us.length∧i=.int .i64 k∧noneTo t.us x k∧Below W.heap.size W wr) (fun i _=>t.us.length - (intOf i).toNat)
 case atStart=>exact ⟨0,Nat.zero_le _,rfl,fun i hi=>absurd hi (by omega),Below.refl _ _⟩
 case round =>
  obtain ⟨k,hk,rfl,hn,hb⟩:=hrel;have hX:=HX.out.below hb (by have:=hZ.out;omega);have x0:wr.cell? ⟨w.heap.size,0,none⟩=some (.slice A1 t.us.length c1):=hX.cell 0;have x1:wr.cell? ⟨w.heap.size,1,none⟩=some (.slice A2 t.bs.length c2):=hX.cell 1;have x2:wr.cell? ⟨w.heap.size,2,none⟩=some (.slice A3 t.ns.length c3):=hX.cell 2;have hB:=hBel.out.trans (hb.mono (by have:=hZ.out;omega));replace hB:=Lib.hid hB
  by_cases hlt:k < t.us.length
  · have hT:=specTongueOk_any _ t wr (HT.out.below hb (Nat.le_refl _)) HF.out;have HSk:=Lib.hid (fun ho e=>HS.out k ho hlt hn e);have HNk:=Lib.hid (none_go hn);have S1:=Lib.hid (H1.out.below hb (Nat.le_refl _));replace hb:=Lib.hid hb;replace hX:=Lib.hid hX;clear hn;go_wp2_with (fail);refine hT.mono ?_;rintro e w2 ⟨rfl,hb2⟩;clear hT x0 x1 x2;have hB2:=hB.out.trans (hb2.mono hB.out.size);have hb2':=hb.out.trans (hb2.mono hb.out.size);have x0:w2.cell? ⟨w.heap.size,0,none⟩=some (.slice A1 t.us.length c1):=(hX.out.below hb2 hX.out.lt).cell 0;replace S1:=S1.out.below hb2 (Nat.le_refl _);clear hb2;replace hB2:=Lib.hid hB2;replace hb2':=Lib.hid hb2';cases hok:t.ok
    · have HO:=Lib.hid (HN.out (.inl hok));clear S1;go_wp2
      go_ret2
      exact ⟨two_ret HO.out.2.symm HO.out.1.symm,hB2.out⟩
    · obtain ⟨b,o,rfl,hbo,hc⟩:=S1.at_ (by omega);have ck:=hc k hlt;have HSk':=HSk.out hok;have HNk':=HNk.out;generalize t.us.getD k ByteArray.empty=y at *;clear hc S1
      by_cases e:y=x
      · have he:(y.toList==x.toList)=true:=by rw [str_eq];exact decide_eq_true e
        have HO:=Lib.hid (HSk' e);clear HSk' HNk';replace e:=Lib.hid e;go_wp2
        go_ret2
        exact ⟨two_ret HO.out.2.symm HO.out.1.symm,hB2.out⟩
      · have he:(y.toList==x.toList)=false:=by rw [str_eq];exact decide_eq_false e
        have HO:=Lib.hid (HNk' e);clear HSk' HNk';replace e:=Lib.hid e;go_wp2
        go_roundw
        case rel=>exact ⟨k+1,by omega,by go_num,HO.out,hb2'.out⟩
        case measure=>simp [intOf];omega
  · obtain rfl:k=t.us.length:=by omega
    have HO:=Lib.hid (HN.out (.inr hn));clear hn hb hX x1 x2;go_wp2
    go_ret2
    exact ⟨two_ret HO.out.2.symm HO.out.1.symm,hB.out⟩
set_option maxRecDepth 100000 in
set_option maxHeartbeats 1000000 in
theorem specBaseOf_any (v:Value) (t:Tg) (x:ByteArray) (w:World) (h:Tng w v t) (hf:t.Fine) :
 Calls Tryz.prog 119 #[v,.string x] w fun e w'=>e=.returned (.tuple #[.int .i64 (baseV t x),.bool (baseB t x)])∧Below w.heap.size w w':=by
 obtain ⟨A1,c1,A2,c2,A3,c3,rfl,h1,h2,h3⟩:=h.ex;have hBel:Below w.heap.size w (w.alloc (.cells #[.slice A1 t.us.length c1,.slice A2 t.bs.length c2,.slice A3 t.ns.length c3] 31)):=(Below.refl _ _).alloc (Nat.le_refl _) _;have HX:=(Blk.new w 31 #[.slice A1 t.us.length c1,.slice A2 t.bs.length c2,.slice A3 t.ns.length c3]);have hZ:(w.alloc (.cells #[.slice A1 t.us.length c1,.slice A2 t.bs.length c2,.slice A3 t.ns.length c3] 31)).heap.size=w.heap.size+1:=by simp
 have HT:=Lib.hid (h.below hBel (Nat.le_refl _));replace HX:=Lib.hid HX;replace hBel:=Lib.hid hBel;replace hZ:=Lib.hid hZ;have hu:=hf.ns;have HF:=Lib.hid hf;have HS:=Lib.hid (fun k=>base_at (t:=t) (x:=x) (k:=k));have HN:=Lib.hid (base_no (t:=t) (x:=x));have H1:=Lib.hid (h3.below hBel.out (Nat.le_refl _));clear h h1 h2 h3 hf;go_enter Tryz.func119,Tryz.ntmps119;go_wp2;generalize w.alloc (.cells #[.slice A1 t.us.length c1,.slice A2 t.bs.length c2,.slice A3 t.ns.length c3] 31)=W at *
 go_loopw [6] (fun i wr=>∃ k:Nat,k≤t.ns.length∧i=.int .i64 k∧noneTo t.ns x k∧Below W.heap.size W wr) (fun i _=>t.ns.length - (intOf i).toNat)
 case atStart=>exact ⟨0,Nat.zero_le _,rfl,fun i hi=>absurd hi (by omega),Below.refl _ _⟩
 case round =>
  obtain ⟨k,hk,rfl,hn,hb⟩:=hrel;have hX:=HX.out.below hb (by have:=hZ.out;omega);have x0:wr.cell? ⟨w.heap.size,0,none⟩=some (.slice A1 t.us.length c1):=hX.cell 0;have x1:wr.cell? ⟨w.heap.size,1,none⟩=some (.slice A2 t.bs.length c2):=hX.cell 1;have x2:wr.cell? ⟨w.heap.size,2,none⟩=some (.slice A3 t.ns.length c3):=hX.cell 2;have hB:=hBel.out.trans (hb.mono (by have:=hZ.out;omega));replace hB:=Lib.hid hB
  by_cases hlt:k < t.ns.length
  · have hT:=specTongueOk_any _ t wr (HT.out.below hb (Nat.le_refl _)) HF.out;have HSk:=Lib.hid (fun ho e=>HS.out k ho hlt hn e);have HNk:=Lib.hid (none_go hn);have S1:=Lib.hid (H1.out.below hb (Nat.le_refl _));replace hb:=Lib.hid hb;replace hX:=Lib.hid hX;clear hn;go_wp2_with (fail);refine hT.mono ?_;rintro e w2 ⟨rfl,hb2⟩;clear hT x0 x1 x2;have hB2:=hB.out.trans (hb2.mono hB.out.size);have hb2':=hb.out.trans (hb2.mono hb.out.size);have x0:w2.cell? ⟨w.heap.size,2,none⟩=some (.slice A3 t.ns.length c3):=(hX.out.below hb2 hX.out.lt).cell 2;replace S1:=S1.out.below hb2 (Nat.le_refl _);clear hb2;replace hB2:=Lib.hid hB2;replace hb2':=Lib.hid hb2';cases hok:t.ok
    · have HO:=Lib.hid (HN.out (.inl hok));clear S1;go_wp2
      go_ret2
      exact ⟨two_ret HO.out.2.symm HO.out.1.symm,hB2.out⟩
    · obtain ⟨b,o,rfl,hbo,hc⟩:=S1.at_ (by omega);have ck:=hc k hlt;have HSk':=HSk.out hok;have HNk':=HNk.out;generalize t.ns.getD k ByteArray.empty=y at *;clear hc S1
      by_cases e:y=x
      · have he:(y.toList==x.toList)=true:=by rw [str_eq];exact decide_eq_true e
        have HO:=Lib.hid (HSk' e);clear HSk' HNk';replace e:=Lib.hid e;go_wp2
        go_ret2
        exact ⟨two_ret HO.out.2.symm HO.out.1.symm,hB2.out⟩
      · have he:(y.toList==x.toList)=false:=by rw [str_eq];exact decide_eq_false e
        have HO:=Lib.hid (HNk' e);clear HSk' HNk';replace e:=Lib.hid e;go_wp2
        go_roundw
        case rel=>exact ⟨k+1,by omega,by go_num,HO.out,hb2'.out⟩
        case measure=>simp [intOf];omega
  · obtain rfl:k=t.ns.length:=by omega
    have HO:=Lib.hid (HN.out (.inr hn));clear hn hb hX x1 x0;go_wp2
    go_ret2
    exact ⟨two_ret HO.out.2.symm HO.out.1.symm,hB.out⟩
end
end Go.Proofs.YtmhgpbfogdoaeaaGreatDoor
