/-
  GV: Sc Va Vb Vc Vd Ve Vf.
-/
import Derived.Shelf.Strconv.Itoa3
import Derived.Shelf.Strconv.ErrVarAll
import Derived.Shelf.Strings.Search2
import Derived.Test.YtmhgpbfogdoaeaaGreatDoorXlGA
import Derived.Lib.QuietBelow
import Derived.Lib.SmallJoins
import Derived.Lib.AppendIntMem
import Derived.Test.YtmhgpbfogdoaeaaGreatDoorXlGX
import Derived.Laws.IdiomStrings
import Derived.IntWalk
import Derived.Deep.QuietTactic
import Derived.BigQuiet
import Derived.Test.YtmhgpbfogdoaeaaGreatDoorXlDdsB
import Derived.Test.YtmhgpbfogdoaeaaGreatDoorXlCutD
namespace Go.Proofs.YtmhgpbfogdoaeaaGreatDoor
section
open Go.Shelf Go.RowKit
def scRen:Go.Shelf.Ren:=⟨fun | 129=>190 | 171=>55 | 172=>92 | 205=>176 | 217=>125 | 219=>151 | 224=>172 | 225=>171 | 243=>110 | 244=>128 | 245=>129 | 246=>142 | 247=>152 | 266=>150 | 267=>173 | 279=>153 | 280=>154 | 281=>155 | 282=>156 | 283=>165 | 284=>166 | 285=>167 | 286=>168 | 287=>174 | 314=>197 | 316=>175 | 317=>189 | 318=>191 | 319=>192 | 320=>193 | 321=>198 | 322=>199 | 337=>217 | 338=>218 | n=>n,fun | 0=>0 | 2=>2 | 3=>3 | 4=>4 | 5=>5 | 9=>9 | 20=>20 | 21=>21 | 37=>22 | 46=>173 | 51=>195 | 53=>166 | 75=>90 | 76=>91 | 80=>93 | 85=>159 | 127=>139 | 143=>204 | 145=>206 | 146=>201 | 167=>158 | 168=>161 | 171=>165 | 173=>169 | 175=>174 | 210=>177 | 212=>194 | 213=>196 | 232=>235 | 233=>236 | n=>n,fun | 1=>0 | 15=>1 | 16=>2 | 17=>3 | 18=>4 | 19=>5 | n=>n⟩
set_option maxRecDepth 100000 in
theorem itoaLays:LaysM.n171 Tryz.prog scRen:={
 mixed:=by kernel_rfl
 f129:=Tryz.func190.trans (congrArg some (by kernel_rfl))
 f171:=Tryz.func55.trans (congrArg some (by kernel_rfl))
 f243:=Tryz.func110.trans (congrArg some (by kernel_rfl))
 f246:=Tryz.func142.trans (congrArg some (by kernel_rfl))
 f283:=Tryz.func165.trans (congrArg some (by kernel_rfl))
 f284:=Tryz.func166.trans (congrArg some (by kernel_rfl))
 f285:=Tryz.func167.trans (congrArg some (by kernel_rfl))
 f286:=Tryz.func168.trans (congrArg some (by kernel_rfl))
 f317:=Tryz.func189.trans (congrArg some (by kernel_rfl))
 f318:=Tryz.func191.trans (congrArg some (by kernel_rfl))
 f319:=Tryz.func192.trans (congrArg some (by kernel_rfl))
 f320:=Tryz.func193.trans (congrArg some (by kernel_rfl))
 f337:=Tryz.func217.trans (congrArg some (by kernel_rfl))
 f338:=Tryz.func218.trans (congrArg some (by kernel_rfl))
 t0:=Tryz.underlying0
 a0:=Tryz.isAgg0
 z0:=Tryz.sizeOf0
 v0:=Tryz.zeroValue0
 t2:=Tryz.underlying2
 a2:=Tryz.isAgg2
 z2:=Tryz.sizeOf2
 v2:=Tryz.zeroValue2
 t3:=Tryz.underlying3
 a3:=Tryz.isAgg3
 z3:=Tryz.sizeOf3
 v3:=Tryz.zeroValue3
 t4:=Tryz.underlying4
 a4:=Tryz.isAgg4
 z4:=Tryz.sizeOf4
 v4:=Tryz.zeroValue4
 t5:=Tryz.underlying5
 a5:=Tryz.isAgg5
 z5:=Tryz.sizeOf5
 v5:=Tryz.zeroValue5
 t9:=Tryz.underlying9
 a9:=Tryz.isAgg9
 z9:=Tryz.sizeOf9
 v9:=Tryz.zeroValue9
 t20:=Tryz.underlying20
 a20:=Tryz.isAgg20
 z20:=Tryz.sizeOf20
 v20:=Tryz.zeroValue20
 t37:=Tryz.underlying22
 a37:=Tryz.isAgg22
 z37:=Tryz.sizeOf22
 v37:=Tryz.zeroValue22
 t46:=Tryz.underlying173
 a46:=Tryz.isAgg173
 z46:=Tryz.sizeOf173
 v46:=Tryz.zeroValue173
 t51:=Tryz.underlying195
 a51:=Tryz.isAgg195
 z51:=Tryz.sizeOf195
 v51:=Tryz.zeroValue195
 t53:=Tryz.underlying166
 a53:=Tryz.isAgg166
 z53:=Tryz.sizeOf166
 v53:=Tryz.zeroValue166
 t171:=Tryz.underlying165
 a171:=Tryz.isAgg165
 z171:=Tryz.sizeOf165
 v171:=Tryz.zeroValue165
 t173:=Tryz.underlying169
 a173:=Tryz.isAgg169
 z173:=Tryz.sizeOf169
 v173:=Tryz.zeroValue169
 t212:=Tryz.underlying194
 a212:=Tryz.isAgg194
 z212:=Tryz.sizeOf194
 v212:=Tryz.zeroValue194
 t213:=Tryz.underlying196
 a213:=Tryz.isAgg196
 z213:=Tryz.sizeOf196
 t232:=Tryz.underlying235
 a232:=Tryz.isAgg235
 z232:=Tryz.sizeOf235
 v232:=Tryz.zeroValue235
 t233:=Tryz.underlying236
 a233:=Tryz.isAgg236
 z233:=Tryz.sizeOf236
 v233:=Tryz.zeroValue236
 g17:=by kernel_rfl
 g18:=by kernel_rfl
 g19:=by kernel_rfl
 i0:=by kernel_rfl
 i2:=by kernel_rfl
 i3:=by kernel_rfl
 i4:=by kernel_rfl
 i5:=by kernel_rfl
 i9:=by kernel_rfl
 i20:=by kernel_rfl
 i37:=by kernel_rfl
 i46:=by kernel_rfl
 i51:=by kernel_rfl
 i53:=by kernel_rfl
 i171:=by kernel_rfl
 i173:=by kernel_rfl
 i212:=by kernel_rfl
 i232:=by kernel_rfl
 i233:=by kernel_rfl
 m17:=by kernel_rfl
 m18:=by kernel_rfl
 m19:=by kernel_rfl }
set_option maxRecDepth 100000 in
theorem atoiLays:LaysC.n172 Tryz.prog scRen:={
 mixed:=by kernel_rfl
 f129:=Tryz.func190.trans (congrArg some (by kernel_rfl))
 f171:=Tryz.func55.trans (congrArg some (by kernel_rfl))
 f172:=Tryz.func92.trans (congrArg some (by kernel_rfl))
 f205:=Tryz.func176.trans (congrArg some (by kernel_rfl))
 f243:=Tryz.func110.trans (congrArg some (by kernel_rfl))
 f244:=Tryz.func128.trans (congrArg some (by kernel_rfl))
 f245:=Tryz.func129.trans (congrArg some (by kernel_rfl))
 f246:=Tryz.func142.trans (congrArg some (by kernel_rfl))
 f247:=Tryz.func152.trans (congrArg some (by kernel_rfl))
 f279:=Tryz.func153.trans (congrArg some (by kernel_rfl))
 f280:=Tryz.func154.trans (congrArg some (by kernel_rfl))
 f281:=Tryz.func155.trans (congrArg some (by kernel_rfl))
 f282:=Tryz.func156.trans (congrArg some (by kernel_rfl))
 f283:=Tryz.func165.trans (congrArg some (by kernel_rfl))
 f284:=Tryz.func166.trans (congrArg some (by kernel_rfl))
 f285:=Tryz.func167.trans (congrArg some (by kernel_rfl))
 f286:=Tryz.func168.trans (congrArg some (by kernel_rfl))
 f287:=Tryz.func174.trans (congrArg some (by kernel_rfl))
 f316:=Tryz.func175.trans (congrArg some (by kernel_rfl))
 f317:=Tryz.func189.trans (congrArg some (by kernel_rfl))
 f318:=Tryz.func191.trans (congrArg some (by kernel_rfl))
 f319:=Tryz.func192.trans (congrArg some (by kernel_rfl))
 f320:=Tryz.func193.trans (congrArg some (by kernel_rfl))
 f321:=Tryz.func198.trans (congrArg some (by kernel_rfl))
 f322:=Tryz.func199.trans (congrArg some (by kernel_rfl))
 f337:=Tryz.func217.trans (congrArg some (by kernel_rfl))
 f338:=Tryz.func218.trans (congrArg some (by kernel_rfl))
 t0:=Tryz.underlying0
 a0:=Tryz.isAgg0
 z0:=Tryz.sizeOf0
 v0:=Tryz.zeroValue0
 t2:=Tryz.underlying2
 a2:=Tryz.isAgg2
 z2:=Tryz.sizeOf2
 v2:=Tryz.zeroValue2
 t3:=Tryz.underlying3
 a3:=Tryz.isAgg3
 z3:=Tryz.sizeOf3
 v3:=Tryz.zeroValue3
 t4:=Tryz.underlying4
 a4:=Tryz.isAgg4
 z4:=Tryz.sizeOf4
 v4:=Tryz.zeroValue4
 t5:=Tryz.underlying5
 a5:=Tryz.isAgg5
 z5:=Tryz.sizeOf5
 v5:=Tryz.zeroValue5
 t9:=Tryz.underlying9
 a9:=Tryz.isAgg9
 z9:=Tryz.sizeOf9
 v9:=Tryz.zeroValue9
 t20:=Tryz.underlying20
 a20:=Tryz.isAgg20
 z20:=Tryz.sizeOf20
 v20:=Tryz.zeroValue20
 t21:=Tryz.underlying21
 a21:=Tryz.isAgg21
 z21:=Tryz.sizeOf21
 v21:=Tryz.zeroValue21
 t37:=Tryz.underlying22
 a37:=Tryz.isAgg22
 z37:=Tryz.sizeOf22
 v37:=Tryz.zeroValue22
 t46:=Tryz.underlying173
 a46:=Tryz.isAgg173
 z46:=Tryz.sizeOf173
 v46:=Tryz.zeroValue173
 t51:=Tryz.underlying195
 a51:=Tryz.isAgg195
 z51:=Tryz.sizeOf195
 v51:=Tryz.zeroValue195
 t53:=Tryz.underlying166
 a53:=Tryz.isAgg166
 z53:=Tryz.sizeOf166
 v53:=Tryz.zeroValue166
 t75:=Tryz.underlying90
 a75:=Tryz.isAgg90
 z75:=Tryz.sizeOf90
 v75:=Tryz.zeroValue90
 t76:=Tryz.underlying91
 a76:=Tryz.isAgg91
 z76:=Tryz.sizeOf91
 v76:=Tryz.zeroValue91
 t85:=Tryz.underlying159
 a85:=Tryz.isAgg159
 z85:=Tryz.sizeOf159
 v85:=Tryz.zeroValue159
 t127:=Tryz.underlying139
 a127:=Tryz.isAgg139
 z127:=Tryz.sizeOf139
 v127:=Tryz.zeroValue139
 t143:=Tryz.underlying204
 a143:=Tryz.isAgg204
 z143:=Tryz.sizeOf204
 v143:=Tryz.zeroValue204
 t145:=Tryz.underlying206
 a145:=Tryz.isAgg206
 z145:=Tryz.sizeOf206
 v145:=Tryz.zeroValue206
 t167:=Tryz.underlying158
 a167:=Tryz.isAgg158
 z167:=Tryz.sizeOf158
 v167:=Tryz.zeroValue158
 t168:=Tryz.underlying161
 a168:=Tryz.isAgg161
 z168:=Tryz.sizeOf161
 v168:=Tryz.zeroValue161
 t171:=Tryz.underlying165
 a171:=Tryz.isAgg165
 z171:=Tryz.sizeOf165
 v171:=Tryz.zeroValue165
 t173:=Tryz.underlying169
 a173:=Tryz.isAgg169
 z173:=Tryz.sizeOf169
 v173:=Tryz.zeroValue169
 t175:=Tryz.underlying174
 a175:=Tryz.isAgg174
 z175:=Tryz.sizeOf174
 v175:=Tryz.zeroValue174
 t210:=Tryz.underlying177
 a210:=Tryz.isAgg177
 z210:=Tryz.sizeOf177
 v210:=Tryz.zeroValue177
 t212:=Tryz.underlying194
 a212:=Tryz.isAgg194
 z212:=Tryz.sizeOf194
 v212:=Tryz.zeroValue194
 t213:=Tryz.underlying196
 a213:=Tryz.isAgg196
 z213:=Tryz.sizeOf196
 t232:=Tryz.underlying235
 a232:=Tryz.isAgg235
 z232:=Tryz.sizeOf235
 v232:=Tryz.zeroValue235
 t233:=Tryz.underlying236
 a233:=Tryz.isAgg236
 z233:=Tryz.sizeOf236
 v233:=Tryz.zeroValue236
 g15:=by kernel_rfl
 g16:=by kernel_rfl
 g17:=by kernel_rfl
 g18:=by kernel_rfl
 g19:=by kernel_rfl
 t80:=Tryz.underlying93
 a80:=Tryz.isAgg93
 z80:=Tryz.sizeOf93
 v80:=Tryz.zeroValue93
 i0:=by kernel_rfl
 i2:=by kernel_rfl
 i3:=by kernel_rfl
 i4:=by kernel_rfl
 i5:=by kernel_rfl
 i9:=by kernel_rfl
 i20:=by kernel_rfl
 i21:=by kernel_rfl
 i37:=by kernel_rfl
 i46:=by kernel_rfl
 i51:=by kernel_rfl
 i53:=by kernel_rfl
 i75:=by kernel_rfl
 i76:=by kernel_rfl
 i80:=by kernel_rfl
 i85:=by kernel_rfl
 i127:=by kernel_rfl
 i143:=by kernel_rfl
 i145:=by kernel_rfl
 i167:=by kernel_rfl
 i168:=by kernel_rfl
 i171:=by kernel_rfl
 i173:=by kernel_rfl
 i175:=by kernel_rfl
 i210:=by kernel_rfl
 i212:=by kernel_rfl
 i232:=by kernel_rfl
 i233:=by kernel_rfl
 m15:=by kernel_rfl
 m16:=by kernel_rfl
 m17:=by kernel_rfl
 m18:=by kernel_rfl
 m19:=by kernel_rfl
 c0:=by kernel_rfl
 c2:=by kernel_rfl
 c3:=by kernel_rfl
 c4:=by kernel_rfl
 c5:=by kernel_rfl
 c9:=by kernel_rfl
 c20:=by kernel_rfl
 c21:=by kernel_rfl
 c37:=by kernel_rfl
 c46:=by kernel_rfl
 c51:=by kernel_rfl
 c53:=by kernel_rfl
 c75:=by kernel_rfl
 c76:=by kernel_rfl
 c80:=by kernel_rfl
 c85:=by kernel_rfl
 c127:=by kernel_rfl
 c143:=by kernel_rfl
 c145:=by kernel_rfl
 c167:=by kernel_rfl
 c168:=by kernel_rfl
 c171:=by kernel_rfl
 c173:=by kernel_rfl
 c175:=by kernel_rfl
 c210:=by kernel_rfl
 c212:=by kernel_rfl
 c213:=by kernel_rfl
 c232:=by kernel_rfl
 c233:=by kernel_rfl }
theorem idxLays:Lays.n219 Tryz.prog scRen:={
 mixed:=by kernel_rfl
 f217:=Tryz.func125.trans (congrArg some (by kernel_rfl))
 f219:=Tryz.func151.trans (congrArg some (by kernel_rfl))
 f224:=Tryz.func172.trans (congrArg some (by kernel_rfl))
 f225:=Tryz.func171.trans (congrArg some (by kernel_rfl))
 f266:=Tryz.func150.trans (congrArg some (by kernel_rfl))
 f267:=Tryz.func173.trans (congrArg some (by kernel_rfl))
 f314:=Tryz.func197.trans (congrArg some (by kernel_rfl))
 t3:=Tryz.underlying3
 a3:=Tryz.isAgg3
 z3:=Tryz.sizeOf3
 v3:=Tryz.zeroValue3
 t4:=Tryz.underlying4
 a4:=Tryz.isAgg4
 z4:=Tryz.sizeOf4
 v4:=Tryz.zeroValue4
 t5:=Tryz.underlying5
 a5:=Tryz.isAgg5
 z5:=Tryz.sizeOf5
 v5:=Tryz.zeroValue5
 t9:=Tryz.underlying9
 a9:=Tryz.isAgg9
 z9:=Tryz.sizeOf9
 v9:=Tryz.zeroValue9
 t46:=Tryz.underlying173
 a46:=Tryz.isAgg173
 z46:=Tryz.sizeOf173
 v46:=Tryz.zeroValue173
 t51:=Tryz.underlying195
 a51:=Tryz.isAgg195
 z51:=Tryz.sizeOf195
 v51:=Tryz.zeroValue195
 t146:=Tryz.underlying201
 a146:=Tryz.isAgg201
 z146:=Tryz.sizeOf201
 v146:=Tryz.zeroValue201
 g1:=by kernel_rfl }
end
section
open Go.RowKit Go.Sort
structure LibT (w:World):Prop where
 tab:Lib.TabIs Tryz.prog w "internal/strconv.uint64pow10" .u64 Lib.pow10Tab
theorem LibT.below {w w':World} {B:Nat} (h:LibT w) (hb:Below B w w') (hB:w.heap.size≤B):LibT w' :=
 ⟨Joins.var_stays (g:=3) (by kernel_rfl) h.tab hb hB⟩
structure LibE (w:World):Prop where
 es:∃ tp p,w.var? Tryz.prog "strconv.ErrSyntax"=some #[.iface tp p]
 er:∃ tp p,w.var? Tryz.prog "strconv.ErrRange"=some #[.iface tp p]
theorem LibE.below {w w':World} {B:Nat} (h:LibE w) (hb:Below B w w') (hB:w.heap.size≤B):LibE w':=by
 obtain ⟨t1,p1,e1⟩:=h.es;obtain ⟨t2,p2,e2⟩:=h.er;exact ⟨⟨t1,p1,Joins.var_stays (g:=1) (by kernel_rfl) e1 hb hB⟩,⟨t2,p2,Joins.var_stays (g:=2) (by kernel_rfl) e2 hb hB⟩⟩
theorem ret_str {a b:ByteArray} (h:a=b):Ending.returned (.string a)=.returned (.string b):=by rw [h]
def numT (n:Int):ByteArray:=⟨(Lib.decDigits n.toNat).toArray⟩
theorem num_size {n:Int} (h0:0≤n) (h1:n≤999999):(numT n).size≤6:=dig_len 6 n.toNat (by omega) (by omega)
theorem itoa_any (n:Int) (h0:0≤n) (h1:n≤9223372036854775807) (w:World) (hT:LibT w) :
 Calls Tryz.prog 55 #[.int .i64 n] w fun e w'=>e=.returned (.string (numT n))∧Below w.heap.size w w':=by
 refine (Go.Proofs.Any.strconv_Itoa itoaLays n (by omega) h1 w hT.tab).mono ?_;rintro e w' ⟨rfl,k,os,rfl⟩;refine ⟨?_,Lib.below_grow _ w (Nat.le_refl _) k os⟩;unfold numT Lib.itoa;rw [if_neg (by omega)]
theorem deedT_tl (a:Dd):tl (deedT a)=deedL a:=rfl
theorem bad_deed {k n:Int} (h:k < 0∨5≤k∨n < 0∨999999 < n):deedT ⟨k,n⟩=⟨#[]⟩:=by
 refine tl_inj ?_;rw [deedT_tl];unfold deedL
 dsimp only
 rw [if_neg (by omega),if_neg (by omega)]
theorem deed_num {k n:Int} (hk:0≤k∧k≤2) (hn:0≤n∧n≤999999):deedL ⟨k,n⟩=wordL k++32 :: Lib.decDigits n.toNat:=by
 unfold deedL;rw [if_pos ⟨hk,hn⟩]
theorem deed_word {k n:Int} (hk:k=3∨k=4) (hn:n=0):deedL ⟨k,n⟩=wordL k:=by
 unfold deedL
 dsimp only
 rw [if_neg (by omega),if_pos ⟨hk,hn⟩]
theorem deed_none {k n:Int} (hk:k=3∨k=4) (hn:¬ n=0):deedT ⟨k,n⟩=⟨#[]⟩:=by
 refine tl_inj ?_;rw [deedT_tl];unfold deedL
 dsimp only
 rw [if_neg (by omega),if_neg (by omega)]
def wordCells:Array Value:=#[.string ⟨#[116,111]⟩,.string ⟨#[109,111,114,101]⟩,.string ⟨#[108,101,115,115]⟩,.string ⟨#[108,101,116,116,101,114,115]⟩,.string ⟨#[98,97,99,107]⟩]
theorem deedWords_any (w:World):Calls Tryz.prog 54 #[] w fun e w'=>e=.returned (.slice (some ⟨w.heap.size,0,none⟩) 5 5)∧w'=w.alloc (.cells wordCells 9):=by
 go_enter Tryz.func54,Tryz.ntmps54;go_wp2;go_ret;exact ⟨rfl,rfl⟩
set_option maxRecDepth 100000 in
set_option maxHeartbeats 4000000 in
theorem implDeedText_any (a:Dd) (w:World) (hT:LibT w) :
 Calls Tryz.prog 15 #[.agg #[.int .i64 a.kind,.int .i64 a.n]] w fun e w'=>e=.returned (.string (deedT a))∧Below w.heap.size w w':=by
 obtain ⟨k,n⟩:=a
 dsimp only
 have hB:=((Below.refl w.heap.size w).alloc (Nat.le_refl _) (.cells #[.int .i64 k,.int .i64 n] 41)).alloc (by simp) (.cells wordCells 9);have HX:=(Blk.new w 41 #[.int .i64 k,.int .i64 n]).alloc (.cells wordCells 9);have HW:Blk ((w.alloc (.cells #[.int .i64 k,.int .i64 n] 41)).alloc (.cells wordCells 9)) (w.heap.size+1) 9 wordCells:=blk_new_at _ (by simp);have hT2:=Lib.hid (hT.below hB (Nat.le_refl _));have hsz:(w.alloc (.cells #[.int .i64 k,.int .i64 n] 41)).heap.size=w.heap.size+1:=by simp
 replace hB:=Lib.hid hB;replace HX:=Lib.hid HX;replace HW:=Lib.hid HW;clear hT;go_enter Tryz.func15,Tryz.ntmps15;go_wp2_with (fail);refine (deedWords_any _).mono ?_;rintro e _ ⟨rfl,rfl⟩;rw [hsz];replace hsz:=Lib.hid hsz;generalize (w.alloc (.cells #[.int .i64 k,.int .i64 n] 41)).alloc (.cells wordCells 9)=W at *;have x0:W.cell? ⟨w.heap.size,0,none⟩=some (.int .i64 k):=HX.out.cell 0;have x1:W.cell? ⟨w.heap.size,1,none⟩=some (.int .i64 n):=HX.out.cell 1;have y0:W.cell? ⟨w.heap.size+1,0,none⟩=some (.string ⟨#[116,111]⟩):=HW.out.cell 0;have y1:W.cell? ⟨w.heap.size+1,1,none⟩=some (.string ⟨#[109,111,114,101]⟩):=HW.out.cell 1;have y2:W.cell? ⟨w.heap.size+1,2,none⟩=some (.string ⟨#[108,101,115,115]⟩):=HW.out.cell 2;have y3:W.cell? ⟨w.heap.size+1,3,none⟩=some (.string ⟨#[108,101,116,116,101,114,115]⟩):=HW.out.cell 3;have y4:W.cell? ⟨w.heap.size+1,4,none⟩=some (.string ⟨#[98,97,99,107]⟩):=HW.out.cell 4;clear HX HW
 by_cases c1:k < 0
 · have g1:decide (k < 0)=true:=decide_eq_true c1;have hg:=Lib.hid (bad_deed (k:=k) (n:=n) (.inl c1));go_wp2;go_ret;exact ⟨ret_str hg.out.symm,hB.out⟩
 · have g1:decide (k < 0)=false:=decide_eq_false c1
   by_cases c2:5≤k
   · have g2:decide ((5:Int)≤k)=true:=decide_eq_true c2;have hg:=Lib.hid (bad_deed (k:=k) (n:=n) (.inr (.inl c2)));go_wp2;go_ret;exact ⟨ret_str hg.out.symm,hB.out⟩
   · have g2:decide ((5:Int)≤k)=false:=decide_eq_false c2
     by_cases c3:n < 0
     · have g3:decide (n < 0)=true:=decide_eq_true c3;have hg:=Lib.hid (bad_deed (k:=k) (n:=n) (.inr (.inr (.inl c3))));go_wp2;go_ret;exact ⟨ret_str hg.out.symm,hB.out⟩
     · have g3:decide (n < 0)=false:=decide_eq_false c3
       by_cases c4:999999 < n
       · have g4:decide ((999999:Int) < n)=true:=decide_eq_true c4;have hg:=Lib.hid (bad_deed (k:=k) (n:=n) (.inr (.inr (.inr c4))));go_wp2;go_ret;exact ⟨ret_str hg.out.symm,hB.out⟩
       · have g4:decide ((999999:Int) < n)=false:=decide_eq_false c4;have hT3:=Lib.hid (fun d os=>itoa_any n (by omega) (by omega) (grow (redrawn W d) os) (hT2.out.below (below_regrown W d os) (Nat.le_refl _)))
         by_cases hk3:k≤2
         · have hg:=Lib.hid (deed_num (k:=k) (n:=n) ⟨by omega,hk3⟩ ⟨by omega,by omega⟩);have q3:(k==3)=false:=by rw [beq_eq_false_iff_ne];omega
           have q4:(k==4)=false:=by rw [beq_eq_false_iff_ne];omega
           have n3:(k != 3)=true:=by rw [bne,q3];rfl
           have n4:(k != 4)=true:=by rw [bne,q4];rfl
           have hcat:∀ s:ByteArray,tl s=wordL k→(s++⟨#[32]⟩)++numT n=deedT ⟨k,n⟩:=fun s hs=>by
            refine tl_inj ?_;rw [tl_app,tl_app,deedT_tl,hg.out,hs]
            show wordL k++[32]++Lib.decDigits n.toNat=_
            simp
           replace hcat:=Lib.hid hcat;have z0:=fun d os=>cell_regrown x0 d os
           have z1:=fun d os=>cell_regrown x1 d os
           have kk0:(0:Int)≤k:=by omega
           have kk1:k < 5:=by omega
           obtain ⟨s,hs,hs7,ys⟩:∃ s:ByteArray,tl s=wordL k∧s.size≤7∧W.cell? ⟨w.heap.size+1,k.toNat,none⟩=some (.string s):=by
            obtain rfl | rfl | rfl:k=0∨k=1∨k=2:=by omega
            · exact ⟨_,rfl,by decide,y0⟩
            · exact ⟨_,rfl,by decide,y1⟩
            · exact ⟨_,rfl,by decide,y2⟩
           have hfin:=Lib.hid (hcat.out s hs);have hnt:(numT n).size≤6:=num_size (by omega) (by omega);have hz1:¬ 9223372036854775807 < s.size+1:=by omega
           have hz2:¬ 9223372036854775807 < s.size+1+(numT n).size:=by omega
           have hz3:¬ 9223372036854775807 < (s++(⟨#[32]⟩:ByteArray)).size+(numT n).size:=by rw [ByteArray.size_append];exact hz2
           have z2:=fun d os=>cell_regrown ys d os
           clear y0 y1 y2 y3 y4 ys hs hcat;go_upto_region 5 with (fail)
           refine wp_region_quiet_below (by kernel_rfl) (by kernel_rfl) ?_
           repeat (go_big_quiet_step (first | (go_at_call 55;exact Calls.regrown_of (hT3.out _ _))))
           refine wpQuiet_nil ?_;intro _ hw';obtain ⟨pq,hw''⟩:=hw';have HBq:=hB.out.trans ((below_regrown W pq.d pq.os).mono hB.out.size);subst hw'';replace HBq:=Lib.hid HBq;clear z0 z1 z2;go_wp2;go_ret;exact ⟨ret_str hfin.out,HBq.out⟩
         · by_cases h0:n=0
           · subst h0;have hq0:((0:Int) != 0)=false:=rfl;obtain rfl | rfl:k=3∨k=4:=by omega
             · have hg:(⟨#[108,101,116,116,101,114,115]⟩:ByteArray)=deedT ⟨3,0⟩:=tl_inj (by rw [deedT_tl,deed_word (.inl rfl) rfl];rfl);replace hg:=Lib.hid hg;go_wp2;go_ret;exact ⟨ret_str hg.out,hB.out⟩
             · have hg:(⟨#[98,97,99,107]⟩:ByteArray)=deedT ⟨4,0⟩:=tl_inj (by rw [deedT_tl,deed_word (.inr rfl) rfl];rfl);replace hg:=Lib.hid hg;go_wp2;go_ret;exact ⟨ret_str hg.out,hB.out⟩
           · have hq0:(n != 0)=true:=by simpa using h0
             have hq1:(n==0)=false:=by simpa using h0
             have hg:=Lib.hid (deed_none (k:=k) (n:=n) (by omega) h0);obtain rfl | rfl:k=3∨k=4:=by omega
             all_goals
              go_wp2;go_ret;exact ⟨ret_str hg.out.symm,hB.out⟩
end
section
open Go.RowKit Go.Lib Go.Sort
theorem conv_one (b:UInt8) (W:World) (g:Nat) (h:W.cell? ⟨g,0,none⟩=some (.int .u8 (b.toNat:Int))) :
 (convert 22 9 (.slice (some ⟨g,0,none⟩) 1 1)).run Tryz.prog W=.ok (.string ⟨#[b]⟩) W:=by
 have:=run_convert_bytes_back (P:=Tryz.prog) W 22 9 5 ⟨g,0,none⟩ 1 [b] Tryz.underlying22 Tryz.underlying5 Tryz.underlying9 (by
  intro j hj;have hj0:j=0:=by simp at hj;omega
  subst hj0;rw [List.getElem_cons_zero]
  simpa [Addr.add] using h)
 simpa using this
theorem digit_of {d:Nat} (h:d < 10):((UInt8.ofNat (48+d)).toNat:Int)=48+(d:Int):=by rw [digit_nat h];omega
theorem numT_small {n:Nat} (h:n < 10):numT (n:Int)=⟨#[UInt8.ofNat (48+n)]⟩:=by
 unfold numT;rw [Int.toNat_natCast,Lib.decDigits,dif_pos h]
theorem numT_big {n:Nat} (h:¬ n < 10):numT ((n / 10:Nat):Int)++⟨#[UInt8.ofNat (48+n % 10)]⟩=numT (n:Int):=by
 refine tl_inj ?_;rw [tl_app];unfold numT;rw [Int.toNat_natCast,Int.toNat_natCast]
 show Lib.decDigits (n / 10)++[UInt8.ofNat (48+n % 10)]=Lib.decDigits n
 rw [Lib.decDigits.eq_def n,dif_neg h]
set_option maxRecDepth 100000 in
set_option maxHeartbeats 4000000 in
theorem num_any (n:Nat):∀ (w:World),n≤999999 →
 Calls Tryz.prog 64 #[.int .i64 (n:Int)] w fun e w'=>e=.returned (.string (numT (n:Int)))∧Below w.heap.size w w':=by
 induction n using Nat.strongRecOn with
 | _ n ih =>
  intro w hn
  by_cases h:n < 10
  · have hg:=Lib.hid (numT_small h);have hd:=digit_of h;have h10:(n:Int) < 10:=by omega
    have hneg:¬ (n:Int) < 0:=by omega
    have hw64:IntKind.i64.wrap (48+(n:Int))=48+(n:Int):=IntWalk.i64_in _ (by omega);have hw8:IntKind.u8.wrap (48+(n:Int))=48+(n:Int):=IntWalk.u8_in _ (by omega);generalize UInt8.ofNat (48+n)=b at *;have hback:=conv_one b (w.alloc (.cells #[.int .u8 (48+(n:Int))] 5)) w.heap.size (by rw [hd];simp);have hB:=Lib.hid ((Below.refl w.heap.size w).alloc (Nat.le_refl _) (.cells #[.int .u8 (48+(n:Int))] 5));clear hd ih;go_enter Tryz.func64,Tryz.ntmps64;go_wp2;go_ret;exact ⟨ret_str hg.out.symm,hB.out⟩
  · have hg:=Lib.hid (numT_big h);have hK:=Lib.hid (fun W=>ih (n / 10) (by omega) W (by omega));have hd:=digit_of (d:=n % 10) (by omega);generalize UInt8.ofNat (48+n % 10)=b at *;have h10:¬ (n:Int) < 10:=by omega
    have h10':decide ((n:Int) < 10)=false:=decide_eq_false h10;have q1:(n:Int).tdiv 10=((n / 10:Nat):Int):=by rw [Int.tdiv_eq_ediv_of_nonneg (by omega)];omega
    have q2:(n:Int).tmod 10=((n % 10:Nat):Int):=by rw [Int.tmod_eq_emod_of_nonneg (by omega)];omega
    have q3:IntKind.i64.wrap (((n / 10:Nat):Int))=((n / 10:Nat):Int):=IntWalk.i64_in _ (by omega);have q4:IntKind.i64.wrap (48+((n % 10:Nat):Int))=48+((n % 10:Nat):Int):=IntWalk.i64_in _ (by omega);have q5:IntKind.u8.wrap (48+((n % 10:Nat):Int))=48+((n % 10:Nat):Int):=IntWalk.u8_in _ (by omega);have q6:IntKind.i64.wrap ((n:Int).tdiv 10)=((n / 10:Nat):Int):=by rw [q1];exact q3
    have hns:(numT ((n / 10:Nat):Int)).size≤6:=num_size (by omega) (by omega);have hz1:¬ 9223372036854775807 < (numT ((n / 10:Nat):Int)).size+1:=by omega
    generalize ((n % 10:Nat):Int)=r at *;generalize hqq:((n / 10:Nat):Int)=q at *;replace hqq:=Lib.hid hqq;have hback:=fun X:World=>conv_one b (X.alloc (.cells #[.int .u8 (48+r)] 5)) X.heap.size (by rw [hd];simp)
    have hback2:=fun X:World=>conv_one b (X.alloc (.cells #[.int .u8 (48+r)] 5)).drew X.heap.size (by rw [hd];simp)
    have hlate:∀ V:World,Below (w.alloc (.cells #[.int .u8 (48+r)] 5)).drew.heap.size (w.alloc (.cells #[.int .u8 (48+r)] 5)).drew V→(convert 22 9 (.slice (some ⟨w.heap.size,0,none⟩) 1 1)).run Tryz.prog V=.ok (.string ⟨#[b]⟩) V:=fun V hb =>
     conv_one b V w.heap.size ((hb.cell (p:=⟨w.heap.size,0,none⟩) (by simp)).trans (by rw [hd];simp))
    replace hlate:=Lib.hid hlate;have hBa:=Lib.hid (fun (X:World) (h:Below w.heap.size w X)=>h.alloc h.size (.cells #[.int .u8 (48+r)] 5));clear hd ih;go_enter Tryz.func64,Tryz.ntmps64;go_upto_region 3 with (fail)
    go_region_with (first | (go_at_call 64;refine (hK.out (w.alloc (.cells #[.int .u8 (48+r)] 5)).drew).mono ?_;rintro e V ⟨rfl,hb⟩;have hlt:=hlate.out _ hb;go_simp) | (go_at_call 64;refine (hK.out _).mono ?_;rintro e V ⟨rfl,hb⟩;go_simp))
    all_goals
     have hwV:Below w.heap.size w V:=by
      first
       | exact (Below.refl _ _).drew.trans hb
       | exact ((hBa.out w (Below.refl _ _)).drew).trans (hb.mono (by simp))
     replace hwV:=Lib.hid hwV;go_wp2;go_ret;refine ⟨ret_str hg.out,?_⟩
     first
      | exact hwV.out
      | exact hwV.out.drew
      | exact hBa.out _ hwV.out
      | exact (hBa.out _ hwV.out).drew
theorem num_int (n:Int) (w:World) (h0:0≤n) (h1:n≤999999) :
 Calls Tryz.prog 64 #[.int .i64 n] w fun e w'=>e=.returned (.string (numT n))∧Below w.heap.size w w':=by
 obtain ⟨m,rfl⟩:∃ m:Nat,n=(m:Int):=⟨n.toNat,by omega⟩;exact num_any m w (by omega)
set_option maxRecDepth 100000 in
set_option maxHeartbeats 4000000 in
theorem specDeedText_any (a:Dd) (w:World) :
 Calls Tryz.prog 87 #[.agg #[.int .i64 a.kind,.int .i64 a.n]] w fun e w'=>e=.returned (.string (deedT a))∧Below w.heap.size w w':=by
 obtain ⟨k,n⟩:=a
 dsimp only
 have hB:=Lib.hid ((Below.refl w.heap.size w).alloc (Nat.le_refl _) (.cells #[.int .i64 k,.int .i64 n] 41));have HX:=Lib.hid (Blk.new w 41 #[.int .i64 k,.int .i64 n]);go_enter Tryz.func87,Tryz.ntmps87;go_upto_region 1 with (fail)
 generalize w.alloc (.cells #[.int .i64 k,.int .i64 n] 41)=W at *;have x0:W.cell? ⟨w.heap.size,0,none⟩=some (.int .i64 k):=HX.out.cell 0;have x1:W.cell? ⟨w.heap.size,1,none⟩=some (.int .i64 n):=HX.out.cell 1;clear HX
 by_cases hin:0≤n∧n≤999999
 · have hd:decide (0≤n∧n≤999999)=true:=decide_eq_true hin;have hns:=num_size hin.1 hin.2;have hz1:¬ 9223372036854775807 < 3+(numT n).size:=by omega
   have hz2:¬ 9223372036854775807 < 5+(numT n).size:=by omega
   have hnum:=Lib.hid (fun W=>num_int n W hin.1 hin.2);have hI:=Lib.hid (fun W=>in_any n 0 999999 W);simp only [hd] at hI
   by_cases h2:0≤k∧k≤2
   · have hg:=Lib.hid (deed_num (k:=k) (n:=n) h2 hin);obtain rfl | rfl | rfl:k=0∨k=1∨k=2:=by omega
     · have hcat:(⟨#[116,111,32]⟩:ByteArray)++numT n=deedT ⟨0,n⟩:=tl_inj (by rw [tl_app,deedT_tl,hg.out];rfl);replace hcat:=Lib.hid hcat;clear hd hin;go_wp2_with (first | (go_at_call 101;refine (hI.out _).mono ?_;rintro e _ ⟨rfl,rfl⟩) | (go_at_call 64;refine (hnum.out _).mono ?_;rintro e V ⟨rfl,hb⟩;replace hB:=Lib.hid (hB.out.trans (hb.mono hB.out.size));clear hb));go_ret;exact ⟨ret_str hcat.out,hB.out⟩
     · have hcat:(⟨#[109,111,114,101,32]⟩:ByteArray)++numT n=deedT ⟨1,n⟩:=tl_inj (by rw [tl_app,deedT_tl,hg.out];rfl);replace hcat:=Lib.hid hcat;clear hd hin;go_wp2_with (first | (go_at_call 101;refine (hI.out _).mono ?_;rintro e _ ⟨rfl,rfl⟩) | (go_at_call 64;refine (hnum.out _).mono ?_;rintro e V ⟨rfl,hb⟩;replace hB:=Lib.hid (hB.out.trans (hb.mono hB.out.size));clear hb));go_ret;exact ⟨ret_str hcat.out,hB.out⟩
     · have hcat:(⟨#[108,101,115,115,32]⟩:ByteArray)++numT n=deedT ⟨2,n⟩:=tl_inj (by rw [tl_app,deedT_tl,hg.out];rfl);replace hcat:=Lib.hid hcat;clear hd hin;go_wp2_with (first | (go_at_call 101;refine (hI.out _).mono ?_;rintro e _ ⟨rfl,rfl⟩) | (go_at_call 64;refine (hnum.out _).mono ?_;rintro e V ⟨rfl,hb⟩;replace hB:=Lib.hid (hB.out.trans (hb.mono hB.out.size));clear hb));go_ret;exact ⟨ret_str hcat.out,hB.out⟩
   · have q0:(k==0)=false:=by rw [beq_eq_false_iff_ne];omega
     have q1:(k==1)=false:=by rw [beq_eq_false_iff_ne];omega
     have q2:(k==2)=false:=by rw [beq_eq_false_iff_ne];omega
     clear hd hin hz1 hz2 hns hnum hI
     by_cases h34:(k=3∨k=4)∧n=0
     · obtain ⟨h34,rfl⟩:=h34;have q:((0:Int)==0)=true:=rfl;obtain rfl | rfl:=h34
       · have hg:(⟨#[108,101,116,116,101,114,115]⟩:ByteArray)=deedT ⟨3,0⟩:=tl_inj (by rw [deedT_tl,deed_word (.inl rfl) rfl];rfl);replace hg:=Lib.hid hg;go_wp2;go_ret;exact ⟨ret_str hg.out,hB.out⟩
       · have hg:(⟨#[98,97,99,107]⟩:ByteArray)=deedT ⟨4,0⟩:=tl_inj (by rw [deedT_tl,deed_word (.inr rfl) rfl];rfl);replace hg:=Lib.hid hg;go_wp2;go_ret;exact ⟨ret_str hg.out,hB.out⟩
     · have hg:deedT ⟨k,n⟩=⟨#[]⟩:=by
        by_cases hk:k=3∨k=4
        · exact deed_none hk (fun e=>h34 ⟨hk,e⟩)
        · exact bad_deed (by omega)
       replace hg:=Lib.hid hg
       by_cases hn0:n=0
       · have q3:(k==3)=false:=by rw [beq_eq_false_iff_ne];omega
         have q4:(k==4)=false:=by rw [beq_eq_false_iff_ne];omega
         go_wp2;go_ret;exact ⟨ret_str hg.out.symm,hB.out⟩
       · have q5:(n==0)=false:=by rw [beq_eq_false_iff_ne];exact hn0
         go_wp2
         all_goals
          go_ret;exact ⟨ret_str hg.out.symm,hB.out⟩
 · have hd:decide (0≤n∧n≤999999)=false:=decide_eq_false hin;have hI:=Lib.hid (fun W=>in_any n 0 999999 W);simp only [hd] at hI;have hg:deedT ⟨k,n⟩=⟨#[]⟩:=bad_deed (by omega);have q5:(n==0)=false:=by rw [beq_eq_false_iff_ne];omega
   replace hg:=Lib.hid hg;clear hd hin
   by_cases c0:k=0
   · subst c0;go_wp2_with (go_at_call 101;refine (hI.out _).mono ?_;rintro e _ ⟨rfl,rfl⟩);go_ret;exact ⟨ret_str hg.out.symm,hB.out⟩
   by_cases c1:k=1
   · subst c1;go_wp2_with (go_at_call 101;refine (hI.out _).mono ?_;rintro e _ ⟨rfl,rfl⟩);go_ret;exact ⟨ret_str hg.out.symm,hB.out⟩
   by_cases c2:k=2
   · subst c2;go_wp2_with (go_at_call 101;refine (hI.out _).mono ?_;rintro e _ ⟨rfl,rfl⟩);go_ret;exact ⟨ret_str hg.out.symm,hB.out⟩
   have q0:(k==0)=false:=by rw [beq_eq_false_iff_ne];omega
   have q1:(k==1)=false:=by rw [beq_eq_false_iff_ne];omega
   have q2:(k==2)=false:=by rw [beq_eq_false_iff_ne];omega
   go_wp2
   all_goals
    go_ret;exact ⟨ret_str hg.out.symm,hB.out⟩
end
section
open Go.RowKit Go.Sort
def cutT1 (s:ByteArray):ByteArray:=⟨(cut1 (tl s)).1.toArray⟩
def cutT2 (s:ByteArray):ByteArray:=⟨(cut1 (tl s)).2.toArray⟩
theorem cut_no {s:ByteArray} (h:Lib.indexByte (tl s) 32=-1):cutT1 s=s∧cutT2 s=⟨#[]⟩:=by
 have e:cut1 (tl s)=(tl s,[]):=by unfold cut1;rw [h];rfl
 exact ⟨tl_inj (by show (cut1 (tl s)).1=_;rw [e]),tl_inj (by show (cut1 (tl s)).2=_;rw [e])⟩
theorem cut_yes {s:ByteArray} {i:Nat} (h:Lib.indexByte (tl s) 32=i) (hi:i < s.size):cutT1 s=s.extract 0 i∧cutT2 s=s.extract (i+1) s.size:=by
 have e:cut1 (tl s)=((tl s).take i,(tl s).drop (i+1)):=by unfold cut1;rw [h,if_pos (by omega)];simp
 refine ⟨tl_inj ?_,tl_inj ?_⟩
 · show (cut1 (tl s)).1=_
   rw [e]
   show (tl s).take i=(s.extract 0 i).data.toList
   rw [Lib.extract_data];rfl
 · show (cut1 (tl s)).2=_
   rw [e]
   show (tl s).drop (i+1)=(s.extract (i+1) s.size).data.toList
   rw [Lib.extract_data];have:s.data.toList.length=s.size:=tl_len s
   show s.data.toList.drop (i+1)=(s.data.toList.drop (i+1)).take (s.size - (i+1))
   rw [List.take_of_length_le (by rw [List.length_drop];omega)]
set_option maxRecDepth 100000 in
set_option maxHeartbeats 2000000 in
theorem liteCut_any (s:ByteArray) (w:World) (hs:s.size≤4000000) :
 Calls Tryz.prog 127 #[.string s,.string ⟨#[32]⟩] w fun e w'=>∃ b,e=.returned (.tuple #[.string (cutT1 s),.string (cutT2 s),.bool b])∧∃ m,w'=w.drewN m:=by
 have HI:=Lib.hid (fun W=>Go.Proofs.Any.stringslite_Index_one idxLays s 32 W);have hsz:(tl s).length=s.size:=tl_len s;rcases space_cases (tl s) with ⟨hx,-,-⟩ | ⟨i,hx,h2,-,-⟩
 · obtain ⟨e1,e2⟩:=cut_no hx;replace HI:=Lib.hid (fun W=>by have:=HI.out W;rw [show Lib.indexByte s.data.toList 32=-1 from hx] at this;exact this);rw [e1,e2];clear e1 e2 hx hsz;go_enter Tryz.func127,Tryz.ntmps127;go_wp2_with (go_at_call 151;refine (HI.out _).mono ?_;rintro e _ ⟨rfl,rfl⟩)
   go_ret3
   exact ⟨_,rfl,0,rfl⟩
 · have hi:i < s.size:=by
    rcases Nat.lt_or_ge i s.size with h1 | h1
    · exact h1
    · rw [List.getElem?_eq_none (by omega)] at h2;cases h2
   obtain ⟨e1,e2⟩:=cut_yes hx hi;replace HI:=Lib.hid (fun W=>by have:=HI.out W;rw [show Lib.indexByte s.data.toList 32=(i:Int) from hx] at this;exact this);rw [e1,e2];clear e1 e2 hx h2 hsz;have k0:(0:Int)≤(i:Int):=by omega
   have k1:(i:Int)≤(s.size:Int):=by omega
   have k2:IntKind.i64.wrap ((i:Int)+1)=((i+1:Nat):Int):=by rw [IntWalk.i64_in _ (by omega)];omega
   have k3:((i+1:Nat):Int)≤(s.size:Int):=by omega
   have k4:(0:Int)≤((i+1:Nat):Int):=by omega
   go_enter Tryz.func127,Tryz.ntmps127;go_wp2_with (go_at_call 151;refine (HI.out _).mono ?_;rintro e _ ⟨rfl,rfl⟩)
   go_quiet (fail)
   go_wp2
   go_ret3
   exact ⟨_,rfl,_,rfl⟩
set_option maxRecDepth 100000 in
theorem cut_any (s:ByteArray) (w:World) (hs:s.size≤4000000) :
 Calls Tryz.prog 91 #[.string s,.string ⟨#[32]⟩] w fun e w'=>∃ b,e=.returned (.tuple #[.string (cutT1 s),.string (cutT2 s),.bool b])∧∃ m,w'=w.drewN m:=by
 have H:=Lib.hid (fun W=>liteCut_any s W hs);go_enter Tryz.func91,Tryz.ntmps91;go_wp2_with (go_at_call 127;refine (H.out _).mono ?_;rintro e _ ⟨b,rfl,m,rfl⟩)
 go_ret3
 exact ⟨_,rfl,_,rfl⟩
theorem cutT2_size (s:ByteArray):(cutT2 s).size≤s.size:=by
 have h1:(cutT2 s).size=(cut1 (tl s)).2.length:=by simp [cutT2,ByteArray.size]
 have h2:(tl s).length=s.size:=tl_len s;rw [h1,← h2];unfold cut1
 split
 · rw [List.length_drop];omega
 · exact Nat.zero_le _
theorem atoi_any (s:ByteArray) (w:World) (hs:s.size≤4000000) (hE:LibE w) :
 Calls Tryz.prog 92 #[.string s] w fun e w'=>∃ v,e=.returned (.tuple #[.int .i64 (atoiV (tl s)),v])∧Below w.heap.size w w':=by
 have hd:∀ x,Lib.atoiAll s.data.toList=x→Lib.atoiAll (tl s)=x:=fun x h=>h
 rcases h:Lib.atoiAll s.data.toList with v | _ | _
 · refine (Go.Proofs.Any.strconv_Atoi_ok atoiLays s (by omega) v h w).mono ?_;rintro e w' ⟨rfl,hw⟩;have e1:atoiV (tl s)=v:=by unfold atoiV;rw [hd _ h]
   rw [e1];refine ⟨_,rfl,?_⟩;rcases hw with rfl | ⟨t,rfl⟩
   · exact Below.refl _ _
   · exact Joins.below_bytesWorld _ w _ t (Nat.le_refl _)
 · obtain ⟨tp,p,hv⟩:=hE.es;refine (Go.Proofs.Any.strconv_Atoi_syntax_var atoiLays s (by omega) h tp p w hv).mono ?_;rintro e w' ⟨N,rfl,-,-,hb⟩;have e1:atoiV (tl s)=0:=by unfold atoiV;rw [hd _ h]
   rw [e1];exact ⟨_,rfl,hb⟩
 · obtain ⟨tp,p,hv⟩:=hE.er;refine (Go.Proofs.Any.strconv_Atoi_range_var atoiLays s (by omega) h tp p w hv).mono ?_;rintro e w' ⟨N,rfl,-,-,hb⟩;have e1:atoiV (tl s)=Lib.atoiSat s.data.toList:=by unfold atoiV;rw [hd _ h]
   rw [e1];exact ⟨_,rfl,hb⟩
end
section
open Go.RowKit Go.Sort
theorem kind_at {l:List UInt8} {k:Nat} (hk:k < 5) (h:∀ j:Nat,j < k→wordL (j:Int)≠l) (e:wordL (k:Int)=l):kindL l=k:=by
 subst e;exact kind_word ⟨by omega,by omega⟩
theorem kind_none {l:List UInt8} (h:∀ j:Nat,j < 5→wordL (j:Int)≠l):kindL l=-1:=by
 have h0:=h 0 (by omega);have h1:=h 1 (by omega);have h2:=h 2 (by omega);have h3:=h 3 (by omega);have h4:=h 4 (by omega);unfold kindL;rw [if_neg (fun e=>h0 e.symm),if_neg (fun e=>h1 e.symm),if_neg (fun e=>h2 e.symm),if_neg (fun e=>h3 e.symm),if_neg (fun e=>h4 e.symm)]
theorem word_cell {W:World} {g k:Nat} (h:Blk W g 9 wordCells) (hk:k < 5):∃ s:ByteArray,tl s=wordL (k:Int)∧W.cell? ⟨g,k,none⟩=some (.string s):=by
 obtain rfl | rfl | rfl | rfl | rfl:k=0∨k=1∨k=2∨k=3∨k=4:=by omega
 · exact ⟨_,rfl,h.cell 0⟩
 · exact ⟨_,rfl,h.cell 1⟩
 · exact ⟨_,rfl,h.cell 2⟩
 · exact ⟨_,rfl,h.cell 3⟩
 · exact ⟨_,rfl,h.cell 4⟩
set_option maxRecDepth 100000 in
set_option maxHeartbeats 1000000 in
theorem index5_any (g:Nat) (x:ByteArray) (w:World) (h:Blk w g 9 wordCells) :
 Calls Tryz.prog 93 #[.slice (some ⟨g,0,none⟩) 5 5,.string x] w fun e w'=>e=.returned (.int .i64 (kindL (tl x)))∧w=w':=by
 have HN:=Lib.hid (kind_none (l:=tl x));have HY:=Lib.hid (fun k hk h e=>kind_at (l:=tl x) (k:=k) hk h e);have hc:=Lib.hid (fun k hk=>word_cell (k:=k) h hk);clear h;go_enter Tryz.func93,Tryz.ntmps93;go_wp2
 go_loop [8] (fun i=>∃ k:Nat,k≤5∧i=.int .i64 k∧∀ j:Nat,j < k→wordL (j:Int)≠tl x) (fun i=>5 - (intOf i).toNat)
 case atStart=>exact ⟨0,Nat.zero_le _,rfl,fun i hi=>absurd hi (by omega)⟩
 case round =>
  obtain ⟨k,hk,rfl,hno⟩:=hrel
  by_cases hlt:k < 5
  · obtain ⟨y,hy,ck⟩:=hc.out k hlt;have HYk:=Lib.hid (HY.out k hlt hno);replace hno:=Lib.hid hno;have hk5:(k:Int) < 5:=by omega
    by_cases e:y=x
    · have he:(x.toList==y.toList)=true:=by rw [str_eq];exact decide_eq_true e.symm
      have hr:=Lib.hid (HYk.out (by rw [← e];exact hy.symm));replace e:=Lib.hid e;replace hy:=Lib.hid hy;go_wp2;go_ret;exact ⟨ret_int hr.out.symm,rfl⟩
    · have he:(x.toList==y.toList)=false:=by rw [str_eq];exact decide_eq_false (fun h=>e h.symm)
      have hg:∀ j:Nat,j < k+1→wordL (j:Int)≠tl x:=fun j hj=>by
       by_cases hjk:j=k
       · subst hjk;rw [← hy];exact fun h=>e (tl_inj h)
       · exact hno.out j (by omega)
      replace hg:=Lib.hid hg;replace e:=Lib.hid e;replace hy:=Lib.hid hy;go_wp2
      go_round
      case rel=>exact ⟨k+1,by omega,by go_num,hg.out⟩
      case measure=>simp [intOf];omega
  · obtain rfl:k=5:=by omega
    have hr:=Lib.hid (HN.out hno);clear hno;go_wp2;go_ret;exact ⟨ret_int hr.out.symm,rfl⟩
theorem emp_iff (s:ByteArray):s.toList.isEmpty=decide (s=⟨#[]⟩):=by
 rw [Lib.toList_data]
 by_cases h:s=⟨#[]⟩
 · subst h;rfl
 · rw [decide_eq_false h];cases e:s.data.toList with
   | nil=>exact absurd (tl_inj (b:=⟨#[]⟩) e) h
   | cons a l=>rfl
def RetRd (w:World) (s:ByteArray) (e:Ending) (w':World):Prop:=e=.returned (.tuple #[.agg #[.int .i64 (rdV (tl s)).kind,.int .i64 (rdV (tl s)).n],.bool (rdB (tl s))])∧Below w.heap.size w w'
theorem rd_empty {s:ByteArray} (h:s=⟨#[]⟩):rdB (tl s)=false:=by subst h;unfold rdB;exact decide_eq_false (fun h=>h.1 rfl)
theorem rd_diff {s:ByteArray} (h:deedT (candP (tl s))≠s):rdB (tl s)=false:=by
 unfold rdB;exact decide_eq_false (fun h2=>h (tl_inj h2.2))
theorem rd_same {s:ByteArray} (h0:s≠⟨#[]⟩) (h:deedT (candP (tl s))=s):rdB (tl s)=true:=by
 unfold rdB;refine decide_eq_true ⟨fun e=>h0 (tl_inj e),?_⟩;have:=congrArg tl h;exact this
theorem below_dd2 {w w1:World} {g B:Nat} {u0 u1:Value} (h:Below B w w1) (hg:B≤g):Below B w ((w1.setCell ⟨g,0,none⟩ u0).setCell ⟨g,1,none⟩ u1) :=
 (h.setCell (by simpa using hg) _).setCell (by simpa using hg) _
set_option maxRecDepth 100000 in
set_option maxHeartbeats 4000000 in
theorem implReadDeed_any (s:ByteArray) (w:World) (hs:s.size≤4000000) (hT:LibT w) (hE:LibE w) :
 Calls Tryz.prog 45 #[.string s] w (RetRd w s):=by
 have hB:=Lib.hid ((Below.refl w.heap.size w).alloc (Nat.le_refl _) (.cells #[.int .i64 0,.int .i64 0] 41));have HZ:=Lib.hid (Blk.new w 41 #[.int .i64 0,.int .i64 0]);go_enter Tryz.func45,Tryz.ntmps45;go_upto_region 1 with (fail)
 generalize w.alloc (.cells #[.int .i64 0,.int .i64 0] 41)=W at *;go_wp2_with (fail);refine (cut_any s W hs).mono ?_;rintro e _ ⟨bf,rfl,m,rfl⟩;have hB1:=Lib.hid (below_drewN hB.out m);have HZ1:=Lib.hid (HZ.out.below (below_drewN (Below.refl _ _) m) HZ.out.lt);clear hB HZ;generalize W.drewN m=W1 at *;go_wp2_with (fail);refine (atoi_any (cutT2 s) W1 (Nat.le_trans (cutT2_size s) hs) (hE.below hB1.out (Nat.le_refl _))).mono ?_;rintro e W2 ⟨ev,rfl,hb2⟩;have hB2:=Lib.hid (hB1.out.trans (hb2.mono hB1.out.size));have HZ2:=Lib.hid (HZ1.out.below hb2 HZ1.out.lt);clear hb2 hB1 HZ1;go_wp2_with (fail);refine (deedWords_any W2).mono ?_;rintro e _ ⟨rfl,rfl⟩;have hA:=(Below.refl W2.heap.size W2).alloc (Nat.le_refl _) (.cells wordCells 9);have HW:=Lib.hid (Blk.new W2 9 wordCells);have hB3:=Lib.hid (hB2.out.trans (hA.mono hB2.out.size));have HZ3:=Lib.hid (HZ2.out.below hA HZ2.out.lt);clear hA hB2 HZ2;generalize hgg:W2.heap.size=g at *;replace hgg:=Lib.hid hgg;generalize W2.alloc (.cells wordCells 9)=W3 at *;have hz:=HZ3.out.lt;go_wp2_with (fail);refine (index5_any g (cutT1 s) W3 HW.out).mono ?_;rintro e _ ⟨rfl,rfl⟩;have hcd:candP (tl s)=⟨kindL (tl (cutT1 s)),atoiV (tl (cutT2 s))⟩:=rfl;have hno:=Lib.hid (rd_no (l:=tl s));have hem:=Lib.hid (rd_empty (s:=s));have hdf:=Lib.hid (rd_diff (s:=s));have hsm:=Lib.hid (rd_same (s:=s));have hyv:rdB (tl s)=true→rdV (tl s)=candP (tl s):=fun h=>by unfold rdV;rw [if_pos h]
 rw [hcd] at hdf hsm hyv;replace hyv:=Lib.hid hyv;clear hcd HW;generalize kindL (tl (cutT1 s))=kk at *;generalize atoiV (tl (cutT2 s))=nn at *;have hA:=(Below.refl W3.heap.size W3).alloc (Nat.le_refl _) (.cells #[.int .i64 kk,.int .i64 nn] 41);have HD:=Lib.hid (Blk.new W3 41 #[.int .i64 kk,.int .i64 nn]);have hB4:=Lib.hid (hB3.out.trans (hA.mono hB3.out.size));have HZ4:=Lib.hid (HZ3.out.below hA HZ3.out.lt);have hfin:∀ V u0 u1,Below w.heap.size w V→Below w.heap.size w ((V.setCell ⟨w.heap.size,0,none⟩ u0).setCell ⟨w.heap.size,1,none⟩ u1):=fun V u0 u1 h=>below_dd2 h (Nat.le_refl _)
 replace hfin:=Lib.hid hfin;clear hA hB3 HZ3;go_upto_region 4 with (fail)
 generalize W3.alloc (.cells #[.int .i64 kk,.int .i64 nn] 41)=W4 at *;generalize W3.heap.size=q at *;have d0:W4.cell? ⟨q,0,none⟩=some (.int .i64 kk):=HD.out.cell 0;have d1:W4.cell? ⟨q,1,none⟩=some (.int .i64 nn):=HD.out.cell 1
 by_cases he:s=⟨#[]⟩
 · have hse:s.toList.isEmpty=true:=by rw [emp_iff];exact decide_eq_true he
   have hf:=hem.out he;have hv:=hno.out hf;have hg:RetRd w s (.returned (.tuple #[.agg #[.int .i64 0,.int .i64 0],.bool false])) ((W4.setCell ⟨w.heap.size,0,none⟩ (.int .i64 0)).setCell ⟨w.heap.size,1,none⟩ (.int .i64 0)):=⟨by rw [hf,hv],hfin.out _ _ _ hB4.out⟩;replace hg:=Lib.hid hg;replace he:=Lib.hid he;replace hf:=Lib.hid hf;replace hv:=Lib.hid hv;have z0:W4.cell? ⟨w.heap.size,0,none⟩=some (.int .i64 0):=HZ4.out.cell 0;have z1:W4.cell? ⟨w.heap.size,1,none⟩=some (.int .i64 0):=HZ4.out.cell 1;have f0:=HZ4.out.frozen 0;have f1:=HZ4.out.frozen 1;clear HD HZ4 hem hdf hsm hyv hno;go_wp2;refine bodyPost_ret (v:=.tuple #[.agg #[.int .i64 0,.int .i64 0],.bool false]) (by simp [results,Tryz.results45,go_sem,z0,z1]) rfl ?_;exact hg.out
 · have hse:s.toList.isEmpty=false:=by rw [emp_iff];exact decide_eq_false he
   have KD:=Lib.hid (implDeedText_any ⟨kk,nn⟩ W4 (hT.below hB4.out (Nat.le_refl _)));go_wp2_with (fail);refine KD.out.mono ?_;rintro e W5 ⟨rfl,hb5⟩;have hB5:=Lib.hid (hB4.out.trans (hb5.mono hB4.out.size));have HZ5:=Lib.hid (HZ4.out.below hb5 HZ4.out.lt);have HD5:=Lib.hid (HD.out.below hb5 HD.out.lt);clear hb5 hB4 HZ4 HD d0 d1 KD;have d0:W5.cell? ⟨q,0,none⟩=some (.int .i64 kk):=HD5.out.cell 0;have d1:W5.cell? ⟨q,1,none⟩=some (.int .i64 nn):=HD5.out.cell 1;have z0:W5.cell? ⟨w.heap.size,0,none⟩=some (.int .i64 0):=HZ5.out.cell 0;have z1:W5.cell? ⟨w.heap.size,1,none⟩=some (.int .i64 0):=HZ5.out.cell 1;have f0:=HZ5.out.frozen 0;have f1:=HZ5.out.frozen 1
   by_cases hd:deedT ⟨kk,nn⟩=s
   · have hq:((deedT ⟨kk,nn⟩).toList==s.toList)=true:=by rw [str_eq];exact decide_eq_true hd
     have hf:=hsm.out he hd;have hv:=hyv.out hf;have hg:RetRd w s (.returned (.tuple #[.agg #[.int .i64 kk,.int .i64 nn],.bool true])) ((W5.setCell ⟨w.heap.size,0,none⟩ (.int .i64 kk)).setCell ⟨w.heap.size,1,none⟩ (.int .i64 nn)):=⟨by rw [hf,hv],hfin.out _ _ _ hB5.out⟩;replace hg:=Lib.hid hg;replace he:=Lib.hid he;replace hf:=Lib.hid hf;replace hv:=Lib.hid hv;replace hd:=Lib.hid hd;clear HD5 HZ5 hem hdf hsm hyv hno;go_wp2;refine bodyPost_ret (v:=.tuple #[.agg #[.int .i64 kk,.int .i64 nn],.bool true]) (by simp [results,Tryz.results45,go_sem,z0,z1]) rfl ?_;exact hg.out
   · have hq:((deedT ⟨kk,nn⟩).toList==s.toList)=false:=by rw [str_eq];exact decide_eq_false hd
     have hf:=hdf.out hd;have hv:=hno.out hf;have hg:RetRd w s (.returned (.tuple #[.agg #[.int .i64 0,.int .i64 0],.bool false])) ((W5.setCell ⟨w.heap.size,0,none⟩ (.int .i64 0)).setCell ⟨w.heap.size,1,none⟩ (.int .i64 0)):=⟨by rw [hf,hv],hfin.out _ _ _ hB5.out⟩;replace hg:=Lib.hid hg;replace he:=Lib.hid he;replace hf:=Lib.hid hf;replace hv:=Lib.hid hv;replace hd:=Lib.hid hd;clear HD5 HZ5 hem hdf hsm hyv hno;go_wp2;refine bodyPost_ret (v:=.tuple #[.agg #[.int .i64 0,.int .i64 0],.bool false]) (by simp [results,Tryz.results45,go_sem,z0,z1]) rfl ?_;exact hg.out
end
section
open Go.RowKit Go.Sort
theorem fold_snoc (l:List UInt8) (c:UInt8):foldD (l++[c]) 0=foldD l 0 * 10+(c.toNat - 48):=by unfold foldD;rw [List.foldl_append];rfl
theorem fold_up:∀ (l:List UInt8) (acc:Nat),(∀ c ∈ l,48≤c.toNat∧c.toNat≤57)→foldD l acc < (acc+1) * 10 ^ l.length:=by
 intro l
 induction l with
 | nil=>intro acc _;show acc < (acc+1) * 1;omega
 | cons c r ih =>
  intro acc h;have h1:=ih (acc * 10+(c.toNat - 48)) (fun x hx=>h x (List.mem_cons_of_mem _ hx));have h2:=h c (List.mem_cons_self ..);have h3:(acc * 10+(c.toNat - 48)+1) * 10 ^ r.length≤((acc+1) * 10) * 10 ^ r.length:=Nat.mul_le_mul_right _ (by omega);have h4:(acc+1) * 10 ^ (c :: r).length=((acc+1) * 10) * 10 ^ r.length:=by rw [List.length_cons,Nat.pow_succ,Nat.mul_assoc,Nat.mul_comm (10 ^ r.length) 10]
  rw [h4];exact Nat.lt_of_lt_of_le h1 h3
theorem fold_bd {l:List UInt8} (h:∀ c ∈ l,48≤c.toNat∧c.toNat≤57) (hl:l.length≤6):foldD l 0 < 1000000:=by
 have h1:=fold_up l 0 h;have h2:10 ^ l.length≤10 ^ 6:=Nat.pow_le_pow_right (by decide) hl;omega
theorem dig_no {l:List UInt8} (h:¬ ((1≤l.length∧l.length≤6)∧¬ (1 < l.length∧(l.getD 0 0).toNat=48)∧(∀ c ∈ l,48≤c.toNat∧c.toNat≤57))):digV l=-1:=by unfold digV;rw [if_neg h]
theorem dig_yes {l:List UInt8} (h:(1≤l.length∧l.length≤6)∧¬ (1 < l.length∧(l.getD 0 0).toNat=48)∧(∀ c ∈ l,48≤c.toNat∧c.toNat≤57)):digV l=(foldD l 0:Nat):=by unfold digV;rw [if_pos h]
theorem tl_at {s:ByteArray} {k:Nat} (h:k < s.size):(tl s)[k]'(by rw [tl_len];exact h)=s[k]:=rfl
theorem tl_snoc {s:ByteArray} {k:Nat} (h:k < s.size):(tl s).take (k+1)=(tl s).take k++[s[k]]:=by
 rw [List.take_succ_eq_append_getElem (by rw [tl_len];exact h),tl_at h]
set_option maxRecDepth 100000 in
set_option maxHeartbeats 4000000 in
theorem digsV_any (s:ByteArray) (w:World) (hs:s.size≤4000000) :
 Calls Tryz.prog 95 #[.string s] w fun e w'=>e=.returned (.int .i64 (digV (tl s)))∧w=w':=by
 have hI:=Lib.hid (fun W=>in_any (s.size:Int) 1 6 W);have hno:=Lib.hid (dig_no (l:=tl s));have hyes:=Lib.hid (dig_yes (l:=tl s));have hlen:=Lib.hid (tl_len s)
 by_cases h6:1≤s.size∧s.size≤6
 · have hd:decide ((1:Int)≤(s.size:Int)∧(s.size:Int)≤6)=true:=decide_eq_true (by omega);simp only [hd] at hI;have h0s:0 < s.size:=by omega
   have hz0:(0:Int) < (s.size:Int):=by omega
   by_cases h0:1 < s.size∧s[0].toNat=48
   · have hr:=Lib.hid (hno.out (fun h=>h.2.1 (by
      rw [hlen.out];refine ⟨h0.1,?_⟩;rw [List.getD_eq_getElem?_getD,List.getElem?_eq_getElem (by rw [hlen.out];exact h0s),Option.getD_some,tl_at h0s];exact h0.2)))
     obtain ⟨h01,h02⟩:=h0;have g1:(1:Int) < (s.size:Int):=by omega
     have g2:decide ((1:Int) < (s.size:Int))=true:=decide_eq_true g1;have g3:((s[0].toNat:Int)==48)=true:=by rw [h02];rfl
     clear hyes hno;go_enter Tryz.func95,Tryz.ntmps95;go_wp2_with (go_at_call 101;refine (hI.out _).mono ?_;rintro e _ ⟨rfl,rfl⟩);go_ret;exact ⟨ret_int hr.out.symm,rfl⟩
   · have hloop:∀ (W:World),W=w→True:=fun _ _=>trivial
     clear hloop
     have g3:¬ (1 < s.size)∨((s[0].toNat:Int)==48)=false:=by
      by_cases e:1 < s.size
      · right
        rw [beq_eq_false_iff_ne];intro h;exact h0 ⟨e,by omega⟩
      · exact .inl e
     have h0':¬ (1 < (tl s).length∧((tl s).getD 0 0).toNat=48):=by
      rintro ⟨h1,h2⟩;rw [hlen.out] at h1;rw [List.getD_eq_getElem?_getD,List.getElem?_eq_getElem (by rw [hlen.out];exact h0s),Option.getD_some,tl_at h0s] at h2;exact h0 ⟨h1,h2⟩
     replace h0':=Lib.hid h0';have h6':=Lib.hid h6
     by_cases e1:1 < s.size
     · have g1:decide ((1:Int) < (s.size:Int))=true:=decide_eq_true (by omega)
       have g4:((s[0].toNat:Int)==48)=false:=by
        rcases g3 with h | h
        · exact absurd e1 h
        · exact h
       clear g3;go_enter Tryz.func95,Tryz.ntmps95;go_wp2_with (go_at_call 101;refine (hI.out _).mono ?_;rintro e _ ⟨rfl,rfl⟩)
       go_loop [3,4] (fun s3 s4=>∃ k:Nat,k≤s.size∧s4=.int .i64 (k:Int)∧s3=.int .i64 ((foldD ((tl s).take k) 0:Nat):Int)∧∀ c ∈ (tl s).take k,48≤c.toNat∧c.toNat≤57) (fun _ s4=>s.size - (intOf s4).toNat)
       case atStart=>exact ⟨0,Nat.zero_le _,rfl,rfl,fun c hc=>by simp at hc⟩
       case round =>
        obtain ⟨k,hk,rfl,rfl,hdg⟩:=hrel
        by_cases hlt:k < s.size
        · have hsn:=tl_snoc hlt;have hf0:=fold_bd hdg (by rw [List.length_take,hlen.out];omega);have hall:∀ c ∈ tl s,(48≤c.toNat∧c.toNat≤57)∨True:=fun _ _=>.inr trivial
          clear hall;have hmem:s[k] ∈ tl s:=by rw [← tl_at hlt];exact List.getElem_mem _
          have hr:¬ (48≤s[k].toNat∧s[k].toNat≤57)→digV (tl s)=-1:=fun hc=>hno.out (fun h=>hc (h.2.2 _ hmem))
          have hgo:48≤s[k].toNat∧s[k].toNat≤57→∀ c ∈ (tl s).take (k+1),48≤c.toNat∧c.toNat≤57:=fun hc c hm=>by
           rw [hsn] at hm;rcases List.mem_append.1 hm with h | h
           · exact hdg c h
           · rw [List.mem_singleton] at h;subst h;exact hc
          have hfs:foldD ((tl s).take (k+1)) 0=foldD ((tl s).take k) 0 * 10+(s[k].toNat - 48):=by rw [hsn,fold_snoc]
          replace hr:=Lib.hid hr;replace hgo:=Lib.hid hgo;have hc255:s[k].toNat < 256:=s[k].toNat_lt;replace hfs:=Lib.hid hfs;generalize foldD ((tl s).take k) 0=f at *;clear hsn hmem hdg;have hks:(k:Int) < (s.size:Int):=by omega
          have hk0:(0:Int)≤(k:Int):=by omega
          by_cases h48:s[k].toNat < 48
          · have q1:decide ((s[k].toNat:Int) < 48)=true:=decide_eq_true (by omega);have hg:=Lib.hid (hr.out (by omega));go_wp2;go_ret;exact ⟨ret_int hg.out.symm,rfl⟩
          · have q1:decide ((s[k].toNat:Int) < 48)=false:=decide_eq_false (by omega)
            by_cases h57:57 < s[k].toNat
            · have q2:decide ((57:Int) < (s[k].toNat:Int))=true:=decide_eq_true (by omega);have hg:=Lib.hid (hr.out (by omega));go_wp2;go_ret;exact ⟨ret_int hg.out.symm,rfl⟩
            · have q2:decide ((57:Int) < (s[k].toNat:Int))=false:=decide_eq_false (by omega);have hg:=Lib.hid (hgo.out (by omega));have w1:IntKind.i64.wrap (10 * (f:Int))=10 * (f:Int):=IntWalk.i64_in _ (by omega);have w2:IntKind.u8.wrap ((s[k].toNat:Int) - 48)=(s[k].toNat:Int) - 48:=IntWalk.u8_in _ (by omega);have w3:IntKind.i64.wrap ((s[k].toNat:Int) - 48)=(s[k].toNat:Int) - 48:=IntWalk.i64_in _ (by omega);have w4:IntKind.i64.wrap (10 * (f:Int)+((s[k].toNat:Int) - 48))=10 * (f:Int)+((s[k].toNat:Int) - 48):=IntWalk.i64_in _ (by omega);have w5:IntKind.i64.wrap ((k:Int)+1)=(k:Int)+1:=IntWalk.i64_in _ (by omega);go_wp2
              go_round
              case rel=>exact ⟨k+1,by omega,by go_num,by rw [hfs.out];congr 1;omega,hg.out⟩
              case measure=>simp [intOf];omega
        · obtain rfl:k=s.size:=by omega
          have htk:(tl s).take s.size=tl s:=List.take_of_length_le (by rw [hlen.out];exact Nat.le_refl _);rw [htk] at hdg;rw [htk];have hg:=Lib.hid (hyes.out ⟨by rw [hlen.out];exact h6'.out,h0'.out,hdg⟩);clear hdg htk;go_wp2;go_ret;exact ⟨ret_int hg.out.symm,rfl⟩
     · have g1:decide ((1:Int) < (s.size:Int))=false:=decide_eq_false (by omega);clear g3;go_enter Tryz.func95,Tryz.ntmps95;go_wp2_with (go_at_call 101;refine (hI.out _).mono ?_;rintro e _ ⟨rfl,rfl⟩)
       go_loop [3,4] (fun s3 s4=>∃ k:Nat,k≤s.size∧s4=.int .i64 (k:Int)∧s3=.int .i64 ((foldD ((tl s).take k) 0:Nat):Int)∧∀ c ∈ (tl s).take k,48≤c.toNat∧c.toNat≤57) (fun _ s4=>s.size - (intOf s4).toNat)
       case atStart=>exact ⟨0,Nat.zero_le _,rfl,rfl,fun c hc=>by simp at hc⟩
       case round =>
        obtain ⟨k,hk,rfl,rfl,hdg⟩:=hrel
        by_cases hlt:k < s.size
        · have hsn:=tl_snoc hlt;have hf0:=fold_bd hdg (by rw [List.length_take,hlen.out];omega);have hall:∀ c ∈ tl s,(48≤c.toNat∧c.toNat≤57)∨True:=fun _ _=>.inr trivial
          clear hall;have hmem:s[k] ∈ tl s:=by rw [← tl_at hlt];exact List.getElem_mem _
          have hr:¬ (48≤s[k].toNat∧s[k].toNat≤57)→digV (tl s)=-1:=fun hc=>hno.out (fun h=>hc (h.2.2 _ hmem))
          have hgo:48≤s[k].toNat∧s[k].toNat≤57→∀ c ∈ (tl s).take (k+1),48≤c.toNat∧c.toNat≤57:=fun hc c hm=>by
           rw [hsn] at hm;rcases List.mem_append.1 hm with h | h
           · exact hdg c h
           · rw [List.mem_singleton] at h;subst h;exact hc
          have hfs:foldD ((tl s).take (k+1)) 0=foldD ((tl s).take k) 0 * 10+(s[k].toNat - 48):=by rw [hsn,fold_snoc]
          replace hr:=Lib.hid hr;replace hgo:=Lib.hid hgo;have hc255:s[k].toNat < 256:=s[k].toNat_lt;replace hfs:=Lib.hid hfs;generalize foldD ((tl s).take k) 0=f at *;clear hsn hmem hdg;have hks:(k:Int) < (s.size:Int):=by omega
          have hk0:(0:Int)≤(k:Int):=by omega
          by_cases h48:s[k].toNat < 48
          · have q1:decide ((s[k].toNat:Int) < 48)=true:=decide_eq_true (by omega);have hg:=Lib.hid (hr.out (by omega));go_wp2;go_ret;exact ⟨ret_int hg.out.symm,rfl⟩
          · have q1:decide ((s[k].toNat:Int) < 48)=false:=decide_eq_false (by omega)
            by_cases h57:57 < s[k].toNat
            · have q2:decide ((57:Int) < (s[k].toNat:Int))=true:=decide_eq_true (by omega);have hg:=Lib.hid (hr.out (by omega));go_wp2;go_ret;exact ⟨ret_int hg.out.symm,rfl⟩
            · have q2:decide ((57:Int) < (s[k].toNat:Int))=false:=decide_eq_false (by omega);have hg:=Lib.hid (hgo.out (by omega));have w1:IntKind.i64.wrap (10 * (f:Int))=10 * (f:Int):=IntWalk.i64_in _ (by omega);have w2:IntKind.u8.wrap ((s[k].toNat:Int) - 48)=(s[k].toNat:Int) - 48:=IntWalk.u8_in _ (by omega);have w3:IntKind.i64.wrap ((s[k].toNat:Int) - 48)=(s[k].toNat:Int) - 48:=IntWalk.i64_in _ (by omega);have w4:IntKind.i64.wrap (10 * (f:Int)+((s[k].toNat:Int) - 48))=10 * (f:Int)+((s[k].toNat:Int) - 48):=IntWalk.i64_in _ (by omega);have w5:IntKind.i64.wrap ((k:Int)+1)=(k:Int)+1:=IntWalk.i64_in _ (by omega);go_wp2
              go_round
              case rel=>exact ⟨k+1,by omega,by go_num,by rw [hfs.out];congr 1;omega,hg.out⟩
              case measure=>simp [intOf];omega
        · obtain rfl:k=s.size:=by omega
          have htk:(tl s).take s.size=tl s:=List.take_of_length_le (by rw [hlen.out];exact Nat.le_refl _);rw [htk] at hdg;rw [htk];have hg:=Lib.hid (hyes.out ⟨by rw [hlen.out];exact h6'.out,h0'.out,hdg⟩);clear hdg htk;go_wp2;go_ret;exact ⟨ret_int hg.out.symm,rfl⟩
 · have hd:decide ((1:Int)≤(s.size:Int)∧(s.size:Int)≤6)=false:=decide_eq_false (by omega);simp only [hd] at hI;have hr:=Lib.hid (hno.out (fun h=>h6 (by have:=h.1;rw [hlen.out] at this;exact this)));clear hyes hno;go_enter Tryz.func95,Tryz.ntmps95;go_wp2_with (go_at_call 101;refine (hI.out _).mono ?_;rintro e _ ⟨rfl,rfl⟩);go_ret;exact ⟨ret_int hr.out.symm,rfl⟩
end
section
open Go.RowKit Go.Sort
theorem try_hit {s:ByteArray} {x:Dd} (h0:s≠⟨#[]⟩) (h:deedT x=s):rdB (tl s)=true∧rdV (tl s)=x :=
 rd_deed (a:=x) (l:=tl s) (congrArg tl h) (fun e=>h0 (tl_inj e))
theorem try_none {s:ByteArray} (h:∀ (j:Nat) x,(tryL (tl s))[j]?=some x→¬ (s≠⟨#[]⟩∧deedT x=s)):rdB (tl s)=false:=by
 cases e:rdB (tl s)
 · rfl
 · exfalso
   obtain ⟨h1,h2⟩:=rd_text e;obtain ⟨j,hj⟩:=List.mem_iff_getElem?.1 (rd_tried e);exact h j _ hj ⟨fun e=>h2 (by rw [e]),tl_inj h1⟩
theorem try_two {s:ByteArray} (h:(cutL s).length=2):tryL (tl s)=[⟨3,0⟩,⟨4,0⟩]++[⟨0,digV (tl ((cutL s).getD 1 ByteArray.empty))⟩,⟨1,digV (tl ((cutL s).getD 1 ByteArray.empty))⟩,⟨2,digV (tl ((cutL s).getD 1 ByteArray.empty))⟩]:=by
 have hc:(cutL s).map tl=cutR (tl s):=cutL_data s;have hl:(cutR (tl s)).length=2:=by rw [← hc,List.length_map,h]
 have hg:(cutR (tl s)).getD 1 []=tl ((cutL s).getD 1 ByteArray.empty):=by
  rw [← hc]
  match cutL s,h with
  | [a,b],_=>rfl
 unfold tryL;rw [if_pos hl,hg]
theorem try_not {s:ByteArray} (h:¬ (cutL s).length=2):tryL (tl s)=[⟨3,0⟩,⟨4,0⟩]:=by
 have hc:(cutL s).map tl=cutR (tl s):=cutL_data s;unfold tryL;rw [if_neg (by rw [← hc,List.length_map];exact h)];rfl
theorem cutLs_size {s:ByteArray}:∀ x ∈ cutL s,x.size≤s.size:=by
 have h1:∀ k,∀ x ∈ (cutTo s k).1,x.size≤s.size:=by
  intro k
  induction k with
  | zero=>intro x hx;simp [cutTo] at hx
  | succ k ih =>
   intro x hx;rw [cutTo] at hx
   split at hx
   · split at hx
     · rcases List.mem_append.1 hx with h | h
       · exact ih x h
       · rw [List.mem_singleton] at h;subst h;rw [ByteArray.size_extract];omega
     · exact ih x hx
   · exact ih x hx
 intro x hx;unfold cutL at hx;rcases List.mem_append.1 hx with h | h
 · exact h1 _ x h
 · rw [List.mem_singleton] at h;subst h;rw [ByteArray.size_extract];omega
theorem cellD_list (w:World) (cs:List Value) (t:TypeId):∀ j u,cs[j]?=some u→(w.alloc (.cells cs.toArray t)).cell? ((⟨w.heap.size,0,none⟩:Addr).add j)=some u:=by
 intro j u hj;have hb:=Blk.new w t cs.toArray;have:=hb.cell j;rw [add_plain',Nat.zero_add,this]
 simpa using hj
structure TrySt (w:World) (v:Value) (q:List Dd) (W:World):Prop where
 own:OwnDds W (w.heap.size+1) v q
 res:Blk W w.heap.size 41 #[.int .i64 0,.int .i64 0]
 low:Below w.heap.size w W
theorem TrySt.below {w W W':World} {v:Value} {q:List Dd} (h:TrySt w v q W) (hb:Below W.heap.size W W'):TrySt w v q W':=⟨h.own.below hb (Nat.le_refl _),h.res.below hb h.res.lt,h.low.trans (hb.mono h.low.size)⟩
set_option maxRecDepth 100000 in
set_option maxHeartbeats 4000000 in
theorem specReadDeed_any (s:ByteArray) (w:World) (hs:s.size≤2000000) :
 Calls Tryz.prog 46 #[.string s] w (RetRd w s):=by
 obtain ⟨i0,hi,hz0,hz1,hz2⟩:=info_parts dd_info;have hB:=Lib.hid ((Below.refl w.heap.size w).alloc (Nat.le_refl _) (.cells #[.int .i64 0,.int .i64 0] 41));have HZ:=Lib.hid (Blk.new w 41 #[.int .i64 0,.int .i64 0]);have hhit:=Lib.hid (fun x=>try_hit (s:=s) (x:=x));have hnone:=Lib.hid (try_none (s:=s));have htwo:=Lib.hid (try_two (s:=s));have hnot:=Lib.hid (try_not (s:=s));have hcs:=Lib.hid (cutLs_size (s:=s));have hrno:=Lib.hid (rd_no (l:=tl s));go_enter Tryz.func46,Tryz.ntmps46;go_upto_region 1 with (fail)
 generalize w.alloc (.cells #[.int .i64 0,.int .i64 0] 41)=W at *;go_wp2_with (fail);refine (specCut_any s W hs).mono ?_;rintro e W1 ⟨v1,rfl,ho,hb⟩;have hB1:=Lib.hid (hB.out.trans (hb.mono hB.out.size));have HZ1:=Lib.hid (HZ.out.below hb HZ.out.lt);obtain ⟨CA,CC,rfl,hst⟩:=ho.strs;have hlc:=cutL_len s;clear hb hB HZ ho;generalize cutL s=cl at *;have hA:=(Below.refl W1.heap.size W1).alloc (Nat.le_refl _) (.cells #[.int .i64 3,.int .i64 0,.int .i64 4,.int .i64 0] 41)
 have hO2:OwnDds (W1.alloc (.cells #[.int .i64 3,.int .i64 0,.int .i64 4,.int .i64 0] 41)) (w.heap.size+1) (.slice (some ⟨W1.heap.size,0,none⟩) 2 2) [⟨3,0⟩,⟨4,0⟩] :=
  own_of_blk (q:=[⟨3,0⟩,⟨4,0⟩]) (Blk.new W1 _ _) HZ1.out.lt rfl (by unfold maxLen;omega)
 have S:=Lib.hid (TrySt.mk hO2 (HZ1.out.below hA HZ1.out.lt) (hB1.out.trans (hA.mono hB1.out.size)));replace hst:=Lib.hid (hst.below hA (Nat.le_refl _));clear hA hO2 hB1 HZ1;go_upto_region 3 with (fail)
 generalize W1.alloc (.cells #[.int .i64 3,.int .i64 0,.int .i64 4,.int .i64 0] 41)=W2 at *;generalize W1.heap.size=g at *
 go_upto_if 15 with (fail)
 go_cut [5,6] (fun s5 s6 wx=>TrySt w s5 (tryL (tl s)) wx)
 case first =>
  by_cases h2:cl.length=2
  · have hq:=htwo.out h2;have e2:((cl.length:Int)==2)=true:=by rw [h2];rfl
    have e3:(1:Int) < (cl.length:Int):=by omega
    have hy:=hcs.out (cl.getD 1 ByteArray.empty) (by rw [List.getD_eq_getElem?_getD,List.getElem?_eq_getElem (by omega),Option.getD_some];exact List.getElem_mem _);obtain ⟨b,o,rfl,hbl,hcc⟩:=hst.out.at_ (by omega);have c1:=hcc 1 (by omega);generalize cl.getD 1 ByteArray.empty=y at *;replace hq:=Lib.hid hq;replace h2:=Lib.hid h2;have hD:=Lib.hid (fun W=>digsV_any y W (by omega));generalize digV (tl y)=dn at *;clear hcc;have hrow:=S.out.own;unfold OwnDds at hrow;have hal:=World.ownsRow.alloc hrow (.cells #[.int .i64 0,.int .i64 dn,.int .i64 1,.int .i64 dn,.int .i64 2,.int .i64 dn] 41);have hB2:=S.out.low;have hszB:w.heap.size+1≤(W2.alloc (.cells #[.int .i64 0,.int .i64 dn,.int .i64 1,.int .i64 dn,.int .i64 2,.int .i64 dn] 41)).heap.size:=by have:=S.out.res.lt;simp;omega
    have HZ2:=S.out.res.alloc (.cells #[.int .i64 0,.int .i64 dn,.int .i64 1,.int .i64 dn,.int .i64 2,.int .i64 dn] 41);have hBa:=hB2.alloc hB2.size (.cells #[.int .i64 0,.int .i64 dn,.int .i64 1,.int .i64 dn,.int .i64 2,.int .i64 dn] 41);replace hrow:=Lib.hid hrow;replace hal:=Lib.hid hal;replace HZ2:=Lib.hid HZ2;replace hBa:=Lib.hid hBa;replace hszB:=Lib.hid hszB;clear hB2;go_wp2_with (first | (go_at_call 95;refine (hD.out _).mono ?_;rintro e _ ⟨rfl,rfl⟩) | (at_builtin;refine wpList_append_own _ rfl _ _ 24 rfl (w.heap.size+1) 41 i0 (.agg #[.int .i64 0,.int .i64 0]) 2 16 Tryz.underlying24 hi hz0 hz1 hz2 rfl (by decide) _ _ _ rfl hal.out ⟨W2.heap.size,0,none⟩ 3 3 [.int .i64 0,.int .i64 dn,.int .i64 1,.int .i64 dn,.int .i64 2,.int .i64 dn] rfl rfl (cellD_list W2 [.int .i64 0,.int .i64 dn,.int .i64 1,.int .i64 dn,.int .i64 2,.int .i64 dn] _) (fun x hx=>by simp at hx;rcases hx with rfl | rfl | rfl | rfl | rfl | rfl <;> rfl) (by unfold maxLen;simp) (by simp) hszB.out ?_;intro v' w4 hown' hg4 _))
    have ho4:OwnDds w4 (w.heap.size+1) v' (tryL (tl s)):=by
     rw [hq.out];exact hown'
    have HZ4:=HZ2.out.grown hg4 (fun e=>by have h1:=(hal.out.lt w.heap.size e.symm).1;omega);have hB4:=hBa.out.grown hg4 hBa.out.size (fun k e=>by have h1:=(hal.out.lt k e).1;omega);have S4:=Lib.hid (TrySt.mk ho4 HZ4 hB4);clear ho4 HZ4 hB4 hown' hg4 hal HZ2 hBa hrow;go_wp2
    go_meet
    exact S4.out
  · have hq:=hnot.out h2;have e2:((cl.length:Int)==2)=false:=by rw [beq_eq_false_iff_ne];omega
    go_wp2
    go_meet
    rw [hq];exact S.out
 case rest =>
  clear S hst hcs htwo hnot;replace hcut:=Lib.hid hcut;obtain ⟨QA,QC,rfl,-⟩:=OwnDds.deeds hcut.out.own;generalize hq:tryL (tl s)=q at *;replace hq:=Lib.hid hq;have hql:q.length≤5:=by rw [← hq.out];unfold tryL;split <;> simp
  go_wp2
  go_loopw [7] (fun s7 wr=>∃ k:Nat,k≤q.length∧s7=.int .i64 (k:Int)∧(∀ (j:Nat) x,j < k→q[j]?=some x→¬ (s≠⟨#[]⟩∧deedT x=s))∧TrySt w (.slice QA q.length QC) q wr) (fun s7 _=>q.length - (intOf s7).toNat)
  case atStart=>exact ⟨0,Nat.zero_le _,rfl,fun j x hj=>absurd hj (by omega),hcut.out⟩
  case round =>
   clear hcut;obtain ⟨k,hk,rfl,hno,S⟩:=hrel
   by_cases hlt:k < q.length
   · have hx:q[k]?=some (q[k]'hlt):=List.getElem?_eq_getElem hlt;generalize q[k]'hlt=x at *;obtain ⟨A9,c9,e9,hd9⟩:=S.own.deeds;cases e9;have hdd:=Lib.hid (fun W (hb:Below wr.heap.size wr W)=>hd9.below hb (Nat.le_refl _));obtain ⟨b,o,rfl,hbl,hc⟩:=hd9.at_ (by omega);obtain ⟨c1,c2⟩:=hc k x hx
     have hgo:¬ (s≠⟨#[]⟩∧deedT x=s)→∀ (j:Nat) y,j < k+1→q[j]?=some y→¬ (s≠⟨#[]⟩∧deedT y=s):=fun h j y hj hy=>by
      by_cases hjk:j=k
      · subst hjk;rw [hx] at hy;cases hy;exact h
      · exact hno j y (by omega) hy
     replace hgo:=Lib.hid hgo;have hht:=Lib.hid (hhit.out x);have hfresh:=Lib.hid (fun W (hb:Below wr.heap.size wr W)=>(⟨(hb.cell (p:=⟨b,o+k * 2,none⟩) hbl).trans c1,(hb.cell (p:=⟨b,o+k * 2+1,none⟩) hbl).trans c2⟩:W.cell? ⟨b,o+k * 2,none⟩=some (.int .i64 x.kind)∧W.cell? ⟨b,o+k * 2+1,none⟩=some (.int .i64 x.n)));have KD:=Lib.hid (fun W=>specDeedText_any x W);obtain ⟨xk,xn⟩:=x
     dsimp only at hfresh KD c1 c2
     have cs2:=dd_cells;have hix:(k:Int) < (q.length:Int):=by omega
     have hk0:(0:Int)≤(k:Int):=by omega
     have hk1:IntKind.i64.wrap ((k:Int)+1)=(k:Int)+1:=IntWalk.i64_in _ (by omega);replace S:=Lib.hid S;replace hno:=Lib.hid hno;clear hd9 hdd hc hx
     by_cases he:s=⟨#[]⟩
     · have hse:s.toList.isEmpty=true:=by rw [emp_iff];exact decide_eq_true he
       have hg:=Lib.hid (hgo.out (fun h=>h.1 he));replace he:=Lib.hid he;go_wp2
       go_roundw
       case rel=>exact ⟨k+1,by omega,by go_num,hg.out,S.out⟩
       case measure=>simp [intOf];omega
     · have hse:s.toList.isEmpty=false:=by rw [emp_iff];exact decide_eq_false he
       go_wp2_with (fail);refine (KD.out _).mono ?_;rintro e w5 ⟨rfl,b5⟩;replace S:=Lib.hid (S.out.below b5);obtain ⟨d1,d2⟩:=hfresh.out _ b5;clear b5 c1 c2 KD hfresh
       by_cases hd:deedT ⟨xk,xn⟩=s
       · have hq1:((deedT ⟨xk,xn⟩).toList==s.toList)=true:=by rw [str_eq];exact decide_eq_true hd
         obtain ⟨hf,hv⟩:=hht.out he hd;have hg:RetRd w s (.returned (.tuple #[.agg #[.int .i64 xk,.int .i64 xn],.bool true])) ((w5.setCell ⟨w.heap.size,0,none⟩ (.int .i64 xk)).setCell ⟨w.heap.size,1,none⟩ (.int .i64 xn)):=⟨by rw [hf,hv],below_dd2 S.out.low (Nat.le_refl _)⟩;replace hg:=Lib.hid hg;replace he:=Lib.hid he;replace hd:=Lib.hid hd;replace hf:=Lib.hid hf;replace hv:=Lib.hid hv;have z0:w5.cell? ⟨w.heap.size,0,none⟩=some (.int .i64 0):=S.out.res.cell 0;have z1:w5.cell? ⟨w.heap.size,1,none⟩=some (.int .i64 0):=S.out.res.cell 1;have f0:=S.out.res.frozen 0;have f1:=S.out.res.frozen 1;clear S;go_wp2;refine bodyPost_ret (v:=.tuple #[.agg #[.int .i64 xk,.int .i64 xn],.bool true]) (by simp [results,Tryz.results46,go_sem,z0,z1]) rfl ?_;exact hg.out
       · have hq1:((deedT ⟨xk,xn⟩).toList==s.toList)=false:=by rw [str_eq];exact decide_eq_false hd
         have hg:=Lib.hid (hgo.out (fun h=>hd h.2));replace he:=Lib.hid he;replace hd:=Lib.hid hd;go_wp2
         go_roundw
         case rel=>exact ⟨k+1,by omega,by go_num,hg.out,S.out⟩
         case measure=>simp [intOf];omega
   · obtain rfl:k=q.length:=by omega
     have hf:rdB (tl s)=false:=hnone.out (fun j x hj=>by
      have hjl:j < q.length:=by
       rcases Nat.lt_or_ge j q.length with h1 | h1
       · exact h1
       · rw [List.getElem?_eq_none h1] at hj;cases hj
      exact hno j x hjl hj)
     have hv:=hrno.out hf;have hg:RetRd w s (.returned (.tuple #[.agg #[.int .i64 0,.int .i64 0],.bool false])) ((wr.setCell ⟨w.heap.size,0,none⟩ (.int .i64 0)).setCell ⟨w.heap.size,1,none⟩ (.int .i64 0)):=⟨by rw [hf,hv],below_dd2 S.low (Nat.le_refl _)⟩;replace hg:=Lib.hid hg;replace hf:=Lib.hid hf;replace hv:=Lib.hid hv;have z0:wr.cell? ⟨w.heap.size,0,none⟩=some (.int .i64 0):=S.res.cell 0;have z1:wr.cell? ⟨w.heap.size,1,none⟩=some (.int .i64 0):=S.res.cell 1;have f0:=S.res.frozen 0;have f1:=S.res.frozen 1;clear S hno;go_wp2;refine bodyPost_ret (v:=.tuple #[.agg #[.int .i64 0,.int .i64 0],.bool false]) (by simp [results,Tryz.results46,go_sem,z0,z1]) rfl ?_;exact hg.out
end
end Go.Proofs.YtmhgpbfogdoaeaaGreatDoor
