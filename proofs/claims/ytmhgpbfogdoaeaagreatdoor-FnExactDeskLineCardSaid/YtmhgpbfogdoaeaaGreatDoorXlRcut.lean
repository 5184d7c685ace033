/-
  The model's cut of a text at its spaces.
-/
import Derived.Test.YtmhgpbfogdoaeaaGreatDoorXlGA
namespace Go.Proofs.YtmhgpbfogdoaeaaGreatDoor
open Go.RowKit
def cutTo (s:ByteArray):Nat→List ByteArray × Nat
 | 0=>([],0)
 | k+1=>if h:k < s.size then (if s[k].toNat=32 then ((cutTo s k).1++[s.extract (cutTo s k).2 k],k+1) else cutTo s k) else cutTo s k
def cutL (s:ByteArray):List ByteArray:=(cutTo s s.size).1++[s.extract (cutTo s s.size).2 s.size]
theorem cutTo_at (s:ByteArray):∀ k,(cutTo s k).2≤k∧(cutTo s k).1.length≤k:=by
 intro k
 induction k with
 | zero=>exact ⟨Nat.le_refl _,Nat.le_refl _⟩
 | succ k ih =>
  rw [cutTo]
  split
  · split
    · exact ⟨Nat.le_refl _,by simp;omega⟩
    · omega
  · omega
theorem cutL_len (s:ByteArray):(cutL s).length≤s.size+1:=by
 have:=(cutTo_at s s.size).2;unfold cutL
 simp
 omega
set_option maxRecDepth 100000 in
set_option maxHeartbeats 4000000 in
theorem specCut_any (s:ByteArray) (w:World) (hs:s.size≤2000000) :
 Calls Tryz.prog 94 #[.string s,.int .u8 32] w (RetStrs w (cutL s)):=by
 obtain ⟨i0,hi,hz0,hz1,hz2⟩:=info_parts str_info;have hat:=Lib.hid (cutTo_at s);have hcl:cutL s=(cutTo s s.size).1++[s.extract (cutTo s s.size).2 s.size]:=rfl;generalize cutL s=cl at *;replace hcl:=Lib.hid hcl;go_enter Tryz.func94,Tryz.ntmps94;go_wp2
 go_loopw [5,6,7] (fun s5 s6 s7 wr=>∃ k:Nat,k≤s.size∧s7=.int .i64 k∧s6=.int .i64 (cutTo s k).2∧OwnStrs wr w.heap.size s5 (cutTo s k).1∧Below w.heap.size w wr) (fun _ _ s7 _=>s.size - (intOf s7).toNat)
 case atStart=>exact ⟨0,Nat.zero_le _,rfl,rfl,owns_empty (Blk.new _ _ _) (Nat.le_refl _),(Below.refl _ _).alloc (Nat.le_refl _) _⟩
 case round =>
  obtain ⟨k,hk,rfl,rfl,ho,hB⟩:=hrel;obtain ⟨A5,c5,rfl,-⟩:=ho.strs;obtain ⟨ha1,ha2⟩:=hat.out k
  by_cases hlt:k < s.size
  · have HC:cutTo s (k+1)=if s[k].toNat=32 then ((cutTo s k).1++[s.extract (cutTo s k).2 k],k+1) else cutTo s k:=by rw [cutTo,dif_pos hlt]
    by_cases h32:s[k].toNat=32
    · rw [if_pos h32] at HC;have hb:((s[k].toNat:Int)==32)=true:=by rw [beq_iff_eq];omega
      generalize hct:cutTo s k=ct at *;obtain ⟨out,fr⟩:=ct;have f1:(fr:Int)≤(k:Int):=by have:fr≤k:=ha1;omega
      have f2:(k:Int)≤(s.size:Int):=by omega
      have f0:(0:Int)≤(fr:Int):=by omega
      have m1:=Lib.hid (show out.length+1≤maxLen by have:out.length≤k:=ha2;unfold maxLen;omega);have m2:=Lib.hid (show (out.length+1) * 16≤140737488355328 by have:out.length≤k:=ha2;omega);replace ho:=Lib.hid ho;replace hB:=Lib.hid hB;replace HC:=Lib.hid HC;replace hct:=Lib.hid hct;go_wp2_with (at_builtin;refine wpList_app _ rfl (.tmp 20) (.tmp 25) _ rfl w.heap.size 9 i0 _ 16 Tryz.underlying28 hi hz0 hz1 hz2 rfl (.slice A5 out.length c5) _ _ rfl (World.ownsRow.alloc ho.out _) (some ⟨wr.heap.size,0,none⟩) 1 1 [.string (s.extract fr k)] rfl (Src.one (Blk.new _ _ _) rfl) m1.out m2.out (by have:=hB.out.size;simp;omega) ?_;intro v6 w6 ho6 hg6 _);have hB6:=Lib.hid (below_own (hB.out.alloc hB.out.size _) (World.ownsRow.alloc ho.out _) hg6 (by have:=hB.out.size;simp;omega) (Nat.le_refl _));have ho7:=Lib.hid (own_snoc4 ho6);clear ho6 hg6;go_wp2
      go_roundw
      case rel=>exact ⟨k+1,by omega,by go_num,by rw [HC.out];go_num,by rw [HC.out];exact ho7.out,hB6.out⟩
      case measure=>simp [intOf];omega
    · rw [if_neg h32] at HC;have hb:((s[k].toNat:Int)==32)=false:=by rw [beq_eq_false_iff_ne];omega
      replace ho:=Lib.hid ho;replace hB:=Lib.hid hB;replace HC:=Lib.hid HC;go_wp2
      go_roundw
      case rel=>exact ⟨k+1,by omega,by go_num,by rw [HC.out],by rw [HC.out];exact ho.out,hB.out⟩
      case measure=>simp [intOf];omega
  · obtain rfl:k=s.size:=by omega
    generalize hct:cutTo s s.size=ct at *;obtain ⟨out,fr⟩:=ct;have f1:(fr:Int)≤(s.size:Int):=by have:fr≤s.size:=ha1;omega
    have f0:(0:Int)≤(fr:Int):=by omega
    have m1:=Lib.hid (show out.length+1≤maxLen by have:out.length≤s.size:=ha2;unfold maxLen;omega);have m2:=Lib.hid (show (out.length+1) * 16≤140737488355328 by have:out.length≤s.size:=ha2;omega);replace ho:=Lib.hid ho;replace hB:=Lib.hid hB;replace hct:=Lib.hid hct;go_wp2_with (at_builtin;refine wpList_app _ rfl (.tmp 29) (.tmp 33) _ rfl w.heap.size 9 i0 _ 16 Tryz.underlying28 hi hz0 hz1 hz2 rfl (.slice A5 out.length c5) _ _ rfl (World.ownsRow.alloc ho.out _) (some ⟨wr.heap.size,0,none⟩) 1 1 [.string (s.extract fr s.size)] rfl (Src.one (Blk.new _ _ _) rfl) m1.out m2.out (by have:=hB.out.size;simp;omega) ?_;intro v6 w6 ho6 hg6 _);have hB6:=Lib.hid (below_own (hB.out.alloc hB.out.size _) (World.ownsRow.alloc ho.out _) hg6 (by have:=hB.out.size;simp;omega) (Nat.le_refl _));have ho7:=own_snoc4 ho6;have ho8:OwnStrs w6 w.heap.size v6 cl:=by rw [hcl.out];exact ho7
    obtain ⟨A6,c6,rfl,-⟩:=ho8.strs;replace ho8:=Lib.hid ho8;clear ho6 hg6 ho7;go_wp2;go_ret;exact ⟨_,rfl,ho8.out,hB6.out⟩
end Go.Proofs.YtmhgpbfogdoaeaaGreatDoor
