/-
  Contracts of slices.Clone at texts and at numbers.
-/
import Derived.Test.YtmhgpbfogdoaeaaGreatDoorXlGA
import Derived.WalkSpells
import Derived.Lib.QuietBelow
namespace Go.Proofs.YtmhgpbfogdoaeaaGreatDoor
open Go.RowKit
theorem cloneStr_any (A:Option Addr) (n c:Nat) (xs:List ByteArray) (w:World) (h:Strs w A n c xs) (hn:n≤1048576) :
 Calls Tryz.prog 103 #[.slice A n c] w fun e w'=>∃ v,e=.returned v∧OwnStrs w' w.heap.size v xs∧Below w.heap.size w w':=by
 obtain ⟨i0,hi,hz0,hz1,hz2⟩:=info_parts str_info;have hlen:=Lib.hid h.len;have HS:=Lib.hid (h.src.alloc' (.cells #[] 9));have HR:∀ v w',w'.ownsRow w.heap.size 9 1 v (0+n) ([]++xs.map Value.string)→Below w.heap.size w w'→∃ v',Ending.returned v=.returned v'∧OwnStrs w' w.heap.size v' xs∧Below w.heap.size w w':=fun v w' ho hb=>⟨v,rfl,by unfold OwnStrs;rw [hlen.out];simpa using ho,hb⟩
 replace HR:=Lib.hid HR;have hnil:=fun (W:World)=>Lib.run_eql_slice_nil (P:=Tryz.prog) W 28 9 A n c 0 0 Tryz.underlying28
 cases A with
 | none =>
  have h0:n=0:=by
   rcases Nat.eq_zero_or_pos n with h0 | h0
   · exact h0
   · obtain ⟨b,o,e,_⟩:=h.at_ h0;cases e
  subst h0;have hx:xs=[]:=List.eq_nil_of_length_eq_zero hlen.out;have HF:=Lib.hid (HR.out (.slice none 0 0) w (by rw [hx];exact owns_none _ _ _) (Below.refl _ _));simp only [Option.isNone_none] at hnil;clear h;go_enter Tryz.func103,Tryz.ntmps103;go_wp2;go_ret;exact HF.out
 | some ad =>
  simp only [Option.isNone_some] at hnil;clear h;have k1:=Lib.hid (show 0+n≤maxLen by unfold maxLen;omega);have k2:=Lib.hid (show (0+n) * 16≤140737488355328 by omega);have HO:=Lib.hid (owns_empty (w:=w.alloc (.cells #[] 9)) (B:=w.heap.size) (Blk.new w 9 #[]) (Nat.le_refl _));have HB:=Lib.hid ((Below.refl w.heap.size w).alloc (Nat.le_refl _) (.cells #[] 9));go_enter Tryz.func103,Tryz.ntmps103;go_wp2_with (at_builtin;refine wpList_app _ rfl (.tmp 5) (.tmp 6) _ rfl w.heap.size 9 i0 _ 16 Tryz.underlying28 hi hz0 hz1 hz2 rfl _ 0 [] rfl HO.out (some ad) n c _ rfl HS.out k1.out k2.out (by simp) ?_;intro v5 w5 ho5 hg5 _);have HF:=Lib.hid (HR.out v5 w5 ho5 (below_own HB.out HO.out hg5 (by simp) (Nat.le_refl _)));clear ho5 hg5;go_wp2;go_ret;exact HF.out
theorem cloneInt_any (A:Option Addr) (n c:Nat) (xs:List Int) (w:World) (h:Ints w .i64 A n c xs) (hn:n≤1048576) :
 Calls Tryz.prog 104 #[.slice A n c] w fun e w'=>∃ v,e=.returned v∧OwnI w' w.heap.size v xs∧Below w.heap.size w w':=by
 obtain ⟨i0,hi,hz0,hz1,hz2⟩:=info_parts int_info0;have hlen:=Lib.hid h.len;have HS:=Lib.hid (h.src.alloc' (.cells #[] 3));have HR:∀ v w',w'.ownsRow w.heap.size 3 1 v (0+n) ([]++xs.map (Value.int .i64))→Below w.heap.size w w'→∃ v',Ending.returned v=.returned v'∧OwnI w' w.heap.size v' xs∧Below w.heap.size w w':=fun v w' ho hb=>⟨v,rfl,by unfold OwnI;rw [hlen.out];simpa using ho,hb⟩
 replace HR:=Lib.hid HR;have hnil:=fun (W:World)=>Lib.run_eql_slice_nil (P:=Tryz.prog) W 29 3 A n c 0 0 Tryz.underlying29
 cases A with
 | none =>
  have h0:n=0:=by
   rcases Nat.eq_zero_or_pos n with h0 | h0
   · exact h0
   · obtain ⟨b,o,e,_⟩:=h.at_ h0;cases e
  subst h0;have hx:xs=[]:=List.eq_nil_of_length_eq_zero hlen.out;have HF:=Lib.hid (HR.out (.slice none 0 0) w (by rw [hx];exact owns_none _ _ _) (Below.refl _ _));simp only [Option.isNone_none] at hnil;clear h;go_enter Tryz.func104,Tryz.ntmps104;go_wp2;go_ret;exact HF.out
 | some ad =>
  simp only [Option.isNone_some] at hnil;clear h;have k1:=Lib.hid (show 0+n≤maxLen by unfold maxLen;omega);have k2:=Lib.hid (show (0+n) * 8≤140737488355328 by omega);have HO:=Lib.hid (owns_empty (w:=w.alloc (.cells #[] 3)) (B:=w.heap.size) (Blk.new w 3 #[]) (Nat.le_refl _));have HB:=Lib.hid ((Below.refl w.heap.size w).alloc (Nat.le_refl _) (.cells #[] 3));go_enter Tryz.func104,Tryz.ntmps104;go_wp2_with (at_builtin;refine wpList_app _ rfl (.tmp 5) (.tmp 6) _ rfl w.heap.size 3 i0 _ 8 Tryz.underlying29 hi hz0 hz1 hz2 rfl _ 0 [] rfl HO.out (some ad) n c _ rfl HS.out k1.out k2.out (by simp) ?_;intro v5 w5 ho5 hg5 _);have HF:=Lib.hid (HR.out v5 w5 ho5 (below_own HB.out HO.out hg5 (by simp) (Nat.le_refl _)));clear ho5 hg5;go_wp2;go_ret;exact HF.out
end Go.Proofs.YtmhgpbfogdoaeaaGreatDoor
