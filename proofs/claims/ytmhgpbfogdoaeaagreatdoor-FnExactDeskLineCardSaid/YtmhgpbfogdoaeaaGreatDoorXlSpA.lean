/-
  The model's texts put together, and what stands behind a word.
-/
import Derived.Test.YtmhgpbfogdoaeaaGreatDoorXlGM
namespace Go.Proofs.YtmhgpbfogdoaeaaGreatDoor
open Go.RowKit
set_option maxRecDepth 100000 in
set_option maxHeartbeats 2000000 in
theorem specJoined_any (A:Option Addr) (c:Nat) (xs:List ByteArray) (b:Bool) (w:World) (h:Strs w A xs.length c xs) (hn:xs.length≤1000) (hs:∀ y ∈ xs,y.size≤3000) (hb:b=decide (0 < xs.length)) :
 Calls Tryz.prog 69 #[.slice A xs.length c,.bool b] w fun e w'=>e=.returned (.string (orNone ⟨#[32]⟩ xs))∧w=w':=by
 by_cases h0:0 < xs.length
 · have hres:orNone ⟨#[32]⟩ xs=joinG ⟨#[32]⟩ xs xs.length:=by unfold orNone;rw [if_pos h0]
   rw [decide_eq_true h0] at hb;subst hb;have hat:=Lib.hid (at_le hs);have hjs:=Lib.hid (joinG_size (sep:=⟨#[32]⟩) (at_le hs));generalize hL:xs.length=L at *;replace hL:=Lib.hid hL;replace hres:=Lib.hid hres;clear hs;go_enter Tryz.func69,Tryz.ntmps69;go_wp2
   go_loop [5,6] (fun s5 s6=>∃ k:Nat,k≤L∧s6=.int .i64 k∧s5=.string (joinG ⟨#[32]⟩ xs k)) (fun _ i=>L - (intOf i).toNat)
   case atStart=>exact ⟨0,Nat.zero_le _,rfl,rfl⟩
   case round =>
    obtain ⟨k,hk,rfl,rfl⟩:=hrel
    by_cases hlt:k < L
    · obtain ⟨b,o,rfl,-,hc⟩:=h.at_ (by omega);have ck:=hc k hlt;have HJ:joinG ⟨#[32]⟩ xs (k+1)=(if 0 < k then joinG ⟨#[32]⟩ xs k++⟨#[32]⟩ else joinG ⟨#[32]⟩ xs k)++xs.getD k ByteArray.empty:=rfl;have z1:=hjs.out k;have z2:=hat.out k;have y1:(⟨#[32]⟩:ByteArray).size=1:=rfl;have z3:(3000+(⟨#[32]⟩:ByteArray).size) * k≤3001 * 1000:=Nat.mul_le_mul (by omega) (by omega);generalize xs.getD k ByteArray.empty=x at *;generalize joinG ⟨#[32]⟩ xs k=out at *;have y2:(out++⟨#[32]⟩).size=out.size+1:=by rw [ByteArray.size_append,y1]
      have y3:¬ (9223372036854775807 < out.size+1):=by omega
      have y4:¬ (9223372036854775807 < out.size+1+x.size):=by omega
      have y5:¬ (9223372036854775807 < out.size+x.size):=by omega
      clear hc z3 z1
      by_cases h0:0 < k
      · have h0':(0:Int) < (k:Int):=by omega
        rw [if_pos h0] at HJ;replace HJ:=Lib.hid HJ;go_wp2
        go_round
        case rel=>exact ⟨k+1,by omega,by go_num,by rw [HJ.out]⟩
        case measure=>simp [intOf];omega
      · have h0':¬ (0:Int) < (k:Int):=by omega
        rw [if_neg h0] at HJ;replace HJ:=Lib.hid HJ;go_wp2
        go_round
        case rel=>exact ⟨k+1,by omega,by go_num,by rw [HJ.out]⟩
        case measure=>simp [intOf];omega
    · obtain rfl:k=L:=by omega
      go_wp2;go_ret;exact ⟨ret_str hres.out.symm,rfl⟩
 · have hres:orNone ⟨#[32]⟩ xs=noneT:=by unfold orNone;rw [if_neg h0]
   rw [decide_eq_false h0] at hb;subst hb;replace hres:=Lib.hid hres;go_enter Tryz.func69,Tryz.ntmps69;go_wp2;go_ret;exact ⟨ret_str hres.out.symm,rfl⟩
theorem toList_ne {a b:ByteArray} (h:a≠b):(a.toList==b.toList)=false:=by
 have tl9:∀ x:ByteArray,x.toList=tl x:=fun x=>by simp [ByteArray.toList_eq]
 rw [tl9,tl9];exact beq_eq_false_iff_ne.2 fun e=>h (tl_inj e)
set_option maxRecDepth 100000 in
set_option maxHeartbeats 2000000 in
theorem specTail_any (s wd:ByteArray) (w:World) (_hs:s.size≤1048576) (hw:wd.size≤100) :
 Calls Tryz.prog 72 #[.string s,.string wd] w fun e w'=>e=.returned (.tuple #[.string (if tailB wd s=true then tailT wd s else ⟨#[]⟩),.bool (tailB wd s)])∧w=w':=by
 have k1:IntKind.i64.wrap ((wd.size:Int)+1)=(wd.size:Int)+1:=IntWalk.i64_in _ (by omega);have y1:(⟨#[32]⟩:ByteArray).size=1:=rfl;have y3:¬ (9223372036854775807 < wd.size+1):=by omega
 by_cases h1:wd.size+1 < s.size
 · have t1:¬ (s.size:Int)≤(wd.size:Int)+1:=by omega
   have t2:decide ((s.size:Int)≤(wd.size:Int)+1)=false:=decide_eq_false t1;have n0:(0:Int)≤(wd.size:Int)+1:=by omega
   have n1:(wd.size:Int)+1≤(s.size:Int):=by omega
   have n2:((wd.size:Int)+1).toNat=wd.size+1:=by omega
   by_cases h2:s.extract 0 (wd.size+1)=wd++⟨#[32]⟩
   · have hb:tailB wd s=true:=decide_eq_true ⟨h1,h2⟩;have e1:((s.extract 0 (wd.size+1)).toList==(wd++⟨#[32]⟩).toList)=true:=by rw [h2];simp
     have hr:(if tailB wd s=true then tailT wd s else ⟨#[]⟩)=s.extract (wd.size+1) s.size:=by rw [if_pos hb];rfl
     rw [hb] at hr;rw [hb,hr];replace hb:=Lib.hid hb;replace h2:=Lib.hid h2;replace hr:=Lib.hid hr;go_enter Tryz.func72,Tryz.ntmps72;go_wp2
     go_ret2
     exact ⟨rfl,rfl⟩
   · have hb:tailB wd s=false:=decide_eq_false fun h=>h2 h.2
     have e1:=toList_ne h2;rw [hb];replace hb:=Lib.hid hb;replace h2:=Lib.hid h2;go_enter Tryz.func72,Tryz.ntmps72;go_wp2
     go_ret2
     exact ⟨rfl,rfl⟩
 · have t1:(s.size:Int)≤(wd.size:Int)+1:=by omega
   have t2:decide ((s.size:Int)≤(wd.size:Int)+1)=true:=decide_eq_true t1;have hb:tailB wd s=false:=decide_eq_false fun h=>h1 h.1
   rw [hb];replace hb:=Lib.hid hb;go_enter Tryz.func72,Tryz.ntmps72;go_wp2
   go_ret2
   exact ⟨rfl,rfl⟩
end Go.Proofs.YtmhgpbfogdoaeaaGreatDoor
