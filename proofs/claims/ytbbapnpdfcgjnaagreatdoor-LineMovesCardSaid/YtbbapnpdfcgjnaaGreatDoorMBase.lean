/- Base, LnCls, LnDef, LnFun1, LnFun2, LnFun3, LnFun4, LnFun5, UBeg, UPlaces: parts of the proof, joined. -/
import Derived.Deep.AppendLies
import Derived.WalkSpells
import Derived.WalkLawsBesides
import Derived.BigQuiet
import Derived.Test.YtbbapnpdfcgjnaaGreatDoorMUMath
import Derived.Test.YtbbapnpdfcgjnaaGreatDoorMShelf
open Go.RowKit.Below renaming refl->sD
open Go renaming World->sE, Calls->sH
open List renaming length_eq_zero_iff->sG, length_take->sL, length_drop->sN
open Go.Lib renaming Utf8Tabs->sI, runeStart->sU
open Nat renaming le_refl->sJ, lt_of_lt_of_le->sP, le_trans->sQ
open Go.RowKit renaming Below->sK
open Go.Value renaming int->sM
open ByteArray renaming data_extract->sO, ext->sT
set_option maxHeartbeats 64000000
namespace Go.Proofs.YtbbapnpdfcgjnaaGreatDoor
section
open Go.RowKit
theorem hid {p:Prop} (h:p):Hid p:=h
theorem add_blk (a:Addr) (k:Nat):(a.add k).block=a.block:=by unfold Addr.add;split<;>rfl
theorem ot {w w':sE} (h:sI 0 1 w) (hs:2<=w.heap.size) (hb:sK w.heap.size w w'):sI 0 1 w':=
 ⟨fun c hc=>(hb.cell (p:=⟨0,c,none⟩) (by show 0<w.heap.size;omega)).trans (h.1 c hc),fun i hi=>⟨(hb.cell (p:=⟨1,2 * i,none⟩) (by show 1<w.heap.size;omega)).trans (h.2 i hi).1,(hb.cell (p:=⟨1,2 * i+1,none⟩) (by show 1<w.heap.size;omega)).trans (h.2 i hi).2⟩⟩
theorem pL (l:List UInt8) (w:sE) (hT:sI 0 1 w):
  sH Tryz.prog 89 #[.string ⟨l.toArray⟩] w fun e w'=>e= .returned (.tuple #[.int .i32 (dec l).1,.int .i64 (dec l).2])/\sK w.heap.size w w':=by
 by_cases h:l=[]
 ·subst h
  go_enter Tryz.func89,Tryz.ntmps89;go_wp2;go_ret2;exact⟨rfl,sD _ _⟩
 ·have hd:dec l=Lib.decodeGo ⟨l.toArray⟩:=if_neg h
  rw[hd];have he:l.isEmpty=false:=by simpa using h
  clear hd h;have HT:=hid hT;clear hT;go_enter Tryz.func89,Tryz.ntmps89;go_wp2_with (go_at_call 125;refine(Tryz.utf8_DecodeRuneInString _ _ (by exact HT.out)).mono ?_;rintro e w1 ⟨rfl,hb⟩)
  go_ret2;exact⟨rfl,hb⟩
theorem rJ (s:ByteArray) (l:List UInt8) (w:sE) (hs:s=⟨l.toArray⟩) (hT:sI 0 1 w):
  sH Tryz.prog 89 #[.string s] w fun e w'=>e= .returned (.tuple #[.int .i32 (dec l).1,.int .i64 (dec l).2])/\sK w.heap.size w w':=by
 subst hs;exact pL l w hT
theorem znC (l:List UInt8) (w:sE) (hl:l.length<=9223372036854775807) (hT:sI 0 1 w):
  sH Tryz.prog 116 #[.string ⟨l.toArray⟩] w fun e w'=>e= .returned (.tuple #[.int .i32 (aV l).1,.int .i64 (aV l).2])/\sK w.heap.size w w':=by
 by_cases h:l=[]
 ·subst h
  go_enter Tryz.func116,Tryz.ntmps116;go_wp2;go_ret2;exact⟨rfl,sD _ _⟩
 ·have hd:aV l=Lib.decodeLastL l:=if_neg h
  rw[hd];have he:l.isEmpty=false:=by simpa using h
  clear hd h;have HT:=hid hT;have hs':(⟨l.toArray⟩:ByteArray).size<=9223372036854775807:=by show l.toArray.size<=_;simpa using hl
  have HS:=hid hs';clear hT hs';go_enter Tryz.func116,Tryz.ntmps116;go_wp2_with (go_at_call 151;refine(Tryz.utf8_DecodeLastRuneInString ⟨l.toArray⟩ _ HS.out (by exact HT.out)).mono ?_;rintro e w1 ⟨rfl,hb⟩)
  go_ret2;exact⟨rfl,hb⟩
end
section
open Go.RowKit
theorem af (r lo hi:Int) (w:sE) (h:lo<=r/\r<=hi):sH Tryz.prog 178 #[.int .i32 r,.int .i32 lo,.int .i32 hi] w fun e w'=>e= .returned (.bool true)/\w'=w:=by
 obtain⟨h1,h2⟩:=h;go_enter Tryz.func178,Tryz.ntmps178;go_wp2;go_ret;exact⟨rfl,rfl⟩
theorem ag (r lo hi:Int) (w:sE) (h:¬(lo<=r/\r<=hi)):sH Tryz.prog 178 #[.int .i32 r,.int .i32 lo,.int .i32 hi] w fun e w'=>e= .returned (.bool false)/\w'=w:=by
 by_cases h1:lo<=r
 ·have h2:¬r<=hi:=fun h2=>h ⟨h1,h2⟩
  clear h;go_enter Tryz.func178,Tryz.ntmps178;go_wp2;go_ret;exact⟨rfl,rfl⟩
 ·clear h
  go_enter Tryz.func178,Tryz.ntmps178;go_wp2;go_ret;exact⟨rfl,rfl⟩
def aG (r:Int):Int:=
 if 48<=r/\r<=57 then 20 else if r=11 then 1 else if r=12 then 1 else if r=13 then 2 else if r=10 then 3 else if r=32 then 4 else if r=9 then 17 else if r=40 then 9 else if r=91 then 9 else if r=123 then 9 else if r=41 then 10 else if r=93 then 10 else if r=125 then 11 else if r=34 then 12 else if r=39 then 12 else if r=33 then 13 else if r=63 then 13 else if r=44 then 14 else if r=46 then 14 else if r=58 then 14 else if r=59 then 14 else if r=47 then 15 else if r=45 then 16 else if r=37 then 21 else if r=36 then 22 else if r=43 then 22 else if r=92 then 22 else 0
theorem zcZ (r:Int) (w:sE):sH Tryz.prog 153 #[.int .i32 r] w fun e w'=>e= .returned (.int .i64 (aG r))/\w'=w:=by
 by_cases h0:48<=r/\r<=57
 ·have HV:=hid (show aG r=20 by unfold aG;rw[if_pos h0])
  obtain⟨u0,v0⟩:=h0;go_enter Tryz.func153,Tryz.ntmps153;go_wp2_with (first | (go_at_call 178;(first | refine(af _ _ _ _ (by omega)).mono ?_ | refine(ag _ _ _ _ (by omega)).mono ?_);rintro e w1 ⟨rfl,hw1⟩;obtain rfl:=hw1.symm;clear hw1))
  go_ret;exact⟨by rw[HV.out];rfl,rfl⟩
 by_cases h1:r=11
 ·subst h1
  have HV:=hid (show aG 11=1 by decide)
  clear h0;go_enter Tryz.func153,Tryz.ntmps153;go_wp2_with (first | (go_at_call 178;(first | refine(af _ _ _ _ (by omega)).mono ?_ | refine(ag _ _ _ _ (by omega)).mono ?_);rintro e w1 ⟨rfl,hw1⟩;obtain rfl:=hw1.symm;clear hw1))
  go_ret;exact⟨by rw[HV.out];rfl,rfl⟩
 by_cases h2:r=12
 ·subst h2
  have HV:=hid (show aG 12=1 by decide)
  clear h0 h1;go_enter Tryz.func153,Tryz.ntmps153;go_wp2_with (first | (go_at_call 178;(first | refine(af _ _ _ _ (by omega)).mono ?_ | refine(ag _ _ _ _ (by omega)).mono ?_);rintro e w1 ⟨rfl,hw1⟩;obtain rfl:=hw1.symm;clear hw1))
  go_ret;exact⟨by rw[HV.out];rfl,rfl⟩
 by_cases h3:r=13
 ·subst h3
  have HV:=hid (show aG 13=2 by decide)
  clear h0 h1 h2;go_enter Tryz.func153,Tryz.ntmps153;go_wp2_with (first | (go_at_call 178;(first | refine(af _ _ _ _ (by omega)).mono ?_ | refine(ag _ _ _ _ (by omega)).mono ?_);rintro e w1 ⟨rfl,hw1⟩;obtain rfl:=hw1.symm;clear hw1))
  go_ret;exact⟨by rw[HV.out];rfl,rfl⟩
 by_cases h4:r=10
 ·subst h4
  have HV:=hid (show aG 10=3 by decide)
  clear h0 h1 h2 h3;go_enter Tryz.func153,Tryz.ntmps153;go_wp2_with (first | (go_at_call 178;(first | refine(af _ _ _ _ (by omega)).mono ?_ | refine(ag _ _ _ _ (by omega)).mono ?_);rintro e w1 ⟨rfl,hw1⟩;obtain rfl:=hw1.symm;clear hw1))
  go_ret;exact⟨by rw[HV.out];rfl,rfl⟩
 by_cases h5:r=32
 ·subst h5
  have HV:=hid (show aG 32=4 by decide)
  clear h0 h1 h2 h3 h4;go_enter Tryz.func153,Tryz.ntmps153;go_wp2_with (first | (go_at_call 178;(first | refine(af _ _ _ _ (by omega)).mono ?_ | refine(ag _ _ _ _ (by omega)).mono ?_);rintro e w1 ⟨rfl,hw1⟩;obtain rfl:=hw1.symm;clear hw1))
  go_ret;exact⟨by rw[HV.out];rfl,rfl⟩
 by_cases h6:r=9
 ·subst h6
  have HV:=hid (show aG 9=17 by decide)
  clear h0 h1 h2 h3 h4 h5;go_enter Tryz.func153,Tryz.ntmps153;go_wp2_with (first | (go_at_call 178;(first | refine(af _ _ _ _ (by omega)).mono ?_ | refine(ag _ _ _ _ (by omega)).mono ?_);rintro e w1 ⟨rfl,hw1⟩;obtain rfl:=hw1.symm;clear hw1))
  go_ret;exact⟨by rw[HV.out];rfl,rfl⟩
 by_cases h7:r=40
 ·subst h7
  have HV:=hid (show aG 40=9 by decide)
  clear h0 h1 h2 h3 h4 h5 h6;go_enter Tryz.func153,Tryz.ntmps153;go_wp2_with (first | (go_at_call 178;(first | refine(af _ _ _ _ (by omega)).mono ?_ | refine(ag _ _ _ _ (by omega)).mono ?_);rintro e w1 ⟨rfl,hw1⟩;obtain rfl:=hw1.symm;clear hw1))
  go_ret;exact⟨by rw[HV.out];rfl,rfl⟩
 by_cases h8:r=91
 ·subst h8
  have HV:=hid (show aG 91=9 by decide)
  clear h0 h1 h2 h3 h4 h5 h6 h7;go_enter Tryz.func153,Tryz.ntmps153;go_wp2_with (first | (go_at_call 178;(first | refine(af _ _ _ _ (by omega)).mono ?_ | refine(ag _ _ _ _ (by omega)).mono ?_);rintro e w1 ⟨rfl,hw1⟩;obtain rfl:=hw1.symm;clear hw1))
  go_ret;exact⟨by rw[HV.out];rfl,rfl⟩
 by_cases h9:r=123
 ·subst h9
  have HV:=hid (show aG 123=9 by decide)
  clear h0 h1 h2 h3 h4 h5 h6 h7 h8;go_enter Tryz.func153,Tryz.ntmps153;go_wp2_with (first | (go_at_call 178;(first | refine(af _ _ _ _ (by omega)).mono ?_ | refine(ag _ _ _ _ (by omega)).mono ?_);rintro e w1 ⟨rfl,hw1⟩;obtain rfl:=hw1.symm;clear hw1))
  go_ret;exact⟨by rw[HV.out];rfl,rfl⟩
 by_cases h10:r=41
 ·subst h10
  have HV:=hid (show aG 41=10 by decide)
  clear h0 h1 h2 h3 h4 h5 h6 h7 h8 h9;go_enter Tryz.func153,Tryz.ntmps153;go_wp2_with (first | (go_at_call 178;(first | refine(af _ _ _ _ (by omega)).mono ?_ | refine(ag _ _ _ _ (by omega)).mono ?_);rintro e w1 ⟨rfl,hw1⟩;obtain rfl:=hw1.symm;clear hw1))
  go_ret;exact⟨by rw[HV.out];rfl,rfl⟩
 by_cases h11:r=93
 ·subst h11
  have HV:=hid (show aG 93=10 by decide)
  clear h0 h1 h2 h3 h4 h5 h6 h7 h8 h9 h10;go_enter Tryz.func153,Tryz.ntmps153;go_wp2_with (first | (go_at_call 178;(first | refine(af _ _ _ _ (by omega)).mono ?_ | refine(ag _ _ _ _ (by omega)).mono ?_);rintro e w1 ⟨rfl,hw1⟩;obtain rfl:=hw1.symm;clear hw1))
  go_ret;exact⟨by rw[HV.out];rfl,rfl⟩
 by_cases h12:r=125
 ·subst h12
  have HV:=hid (show aG 125=11 by decide)
  clear h0 h1 h2 h3 h4 h5 h6 h7 h8 h9 h10 h11;go_enter Tryz.func153,Tryz.ntmps153;go_wp2_with (first | (go_at_call 178;(first | refine(af _ _ _ _ (by omega)).mono ?_ | refine(ag _ _ _ _ (by omega)).mono ?_);rintro e w1 ⟨rfl,hw1⟩;obtain rfl:=hw1.symm;clear hw1))
  go_ret;exact⟨by rw[HV.out];rfl,rfl⟩
 by_cases h13:r=34
 ·subst h13
  have HV:=hid (show aG 34=12 by decide)
  clear h0 h1 h2 h3 h4 h5 h6 h7 h8 h9 h10 h11 h12;go_enter Tryz.func153,Tryz.ntmps153;go_wp2_with (first | (go_at_call 178;(first | refine(af _ _ _ _ (by omega)).mono ?_ | refine(ag _ _ _ _ (by omega)).mono ?_);rintro e w1 ⟨rfl,hw1⟩;obtain rfl:=hw1.symm;clear hw1))
  go_ret;exact⟨by rw[HV.out];rfl,rfl⟩
 by_cases h14:r=39
 ·subst h14
  have HV:=hid (show aG 39=12 by decide)
  clear h0 h1 h2 h3 h4 h5 h6 h7 h8 h9 h10 h11 h12 h13;go_enter Tryz.func153,Tryz.ntmps153;go_wp2_with (first | (go_at_call 178;(first | refine(af _ _ _ _ (by omega)).mono ?_ | refine(ag _ _ _ _ (by omega)).mono ?_);rintro e w1 ⟨rfl,hw1⟩;obtain rfl:=hw1.symm;clear hw1))
  go_ret;exact⟨by rw[HV.out];rfl,rfl⟩
 by_cases h15:r=33
 ·subst h15
  have HV:=hid (show aG 33=13 by decide)
  clear h0 h1 h2 h3 h4 h5 h6 h7 h8 h9 h10 h11 h12 h13 h14;go_enter Tryz.func153,Tryz.ntmps153;go_wp2_with (first | (go_at_call 178;(first | refine(af _ _ _ _ (by omega)).mono ?_ | refine(ag _ _ _ _ (by omega)).mono ?_);rintro e w1 ⟨rfl,hw1⟩;obtain rfl:=hw1.symm;clear hw1))
  go_ret;exact⟨by rw[HV.out];rfl,rfl⟩
 by_cases h16:r=63
 ·subst h16
  have HV:=hid (show aG 63=13 by decide)
  clear h0 h1 h2 h3 h4 h5 h6 h7 h8 h9 h10 h11 h12 h13 h14 h15;go_enter Tryz.func153,Tryz.ntmps153;go_wp2_with (first | (go_at_call 178;(first | refine(af _ _ _ _ (by omega)).mono ?_ | refine(ag _ _ _ _ (by omega)).mono ?_);rintro e w1 ⟨rfl,hw1⟩;obtain rfl:=hw1.symm;clear hw1))
  go_ret;exact⟨by rw[HV.out];rfl,rfl⟩
 by_cases h17:r=44
 ·subst h17
  have HV:=hid (show aG 44=14 by decide)
  clear h0 h1 h2 h3 h4 h5 h6 h7 h8 h9 h10 h11 h12 h13 h14 h15 h16;go_enter Tryz.func153,Tryz.ntmps153;go_wp2_with (first | (go_at_call 178;(first | refine(af _ _ _ _ (by omega)).mono ?_ | refine(ag _ _ _ _ (by omega)).mono ?_);rintro e w1 ⟨rfl,hw1⟩;obtain rfl:=hw1.symm;clear hw1))
  go_ret;exact⟨by rw[HV.out];rfl,rfl⟩
 by_cases h18:r=46
 ·subst h18
  have HV:=hid (show aG 46=14 by decide)
  clear h0 h1 h2 h3 h4 h5 h6 h7 h8 h9 h10 h11 h12 h13 h14 h15 h16 h17;go_enter Tryz.func153,Tryz.ntmps153;go_wp2_with (first | (go_at_call 178;(first | refine(af _ _ _ _ (by omega)).mono ?_ | refine(ag _ _ _ _ (by omega)).mono ?_);rintro e w1 ⟨rfl,hw1⟩;obtain rfl:=hw1.symm;clear hw1))
  go_ret;exact⟨by rw[HV.out];rfl,rfl⟩
 by_cases h19:r=58
 ·subst h19
  have HV:=hid (show aG 58=14 by decide)
  clear h0 h1 h2 h3 h4 h5 h6 h7 h8 h9 h10 h11 h12 h13 h14 h15 h16 h17 h18;go_enter Tryz.func153,Tryz.ntmps153;go_wp2_with (first | (go_at_call 178;(first | refine(af _ _ _ _ (by omega)).mono ?_ | refine(ag _ _ _ _ (by omega)).mono ?_);rintro e w1 ⟨rfl,hw1⟩;obtain rfl:=hw1.symm;clear hw1))
  go_ret;exact⟨by rw[HV.out];rfl,rfl⟩
 by_cases h20:r=59
 ·subst h20
  have HV:=hid (show aG 59=14 by decide)
  clear h0 h1 h2 h3 h4 h5 h6 h7 h8 h9 h10 h11 h12 h13 h14 h15 h16 h17 h18 h19;go_enter Tryz.func153,Tryz.ntmps153;go_wp2_with (first | (go_at_call 178;(first | refine(af _ _ _ _ (by omega)).mono ?_ | refine(ag _ _ _ _ (by omega)).mono ?_);rintro e w1 ⟨rfl,hw1⟩;obtain rfl:=hw1.symm;clear hw1))
  go_ret;exact⟨by rw[HV.out];rfl,rfl⟩
 by_cases h21:r=47
 ·subst h21
  have HV:=hid (show aG 47=15 by decide)
  clear h0 h1 h2 h3 h4 h5 h6 h7 h8 h9 h10 h11 h12 h13 h14 h15 h16 h17 h18 h19 h20;go_enter Tryz.func153,Tryz.ntmps153;go_wp2_with (first | (go_at_call 178;(first | refine(af _ _ _ _ (by omega)).mono ?_ | refine(ag _ _ _ _ (by omega)).mono ?_);rintro e w1 ⟨rfl,hw1⟩;obtain rfl:=hw1.symm;clear hw1))
  go_ret;exact⟨by rw[HV.out];rfl,rfl⟩
 by_cases h22:r=45
 ·subst h22
  have HV:=hid (show aG 45=16 by decide)
  clear h0 h1 h2 h3 h4 h5 h6 h7 h8 h9 h10 h11 h12 h13 h14 h15 h16 h17 h18 h19 h20 h21;go_enter Tryz.func153,Tryz.ntmps153;go_wp2_with (first | (go_at_call 178;(first | refine(af _ _ _ _ (by omega)).mono ?_ | refine(ag _ _ _ _ (by omega)).mono ?_);rintro e w1 ⟨rfl,hw1⟩;obtain rfl:=hw1.symm;clear hw1))
  go_ret;exact⟨by rw[HV.out];rfl,rfl⟩
 by_cases h23:r=37
 ·subst h23
  have HV:=hid (show aG 37=21 by decide)
  clear h0 h1 h2 h3 h4 h5 h6 h7 h8 h9 h10 h11 h12 h13 h14 h15 h16 h17 h18 h19 h20 h21 h22;go_enter Tryz.func153,Tryz.ntmps153;go_wp2_with (first | (go_at_call 178;(first | refine(af _ _ _ _ (by omega)).mono ?_ | refine(ag _ _ _ _ (by omega)).mono ?_);rintro e w1 ⟨rfl,hw1⟩;obtain rfl:=hw1.symm;clear hw1))
  go_ret;exact⟨by rw[HV.out];rfl,rfl⟩
 by_cases h24:r=36
 ·subst h24
  have HV:=hid (show aG 36=22 by decide)
  clear h0 h1 h2 h3 h4 h5 h6 h7 h8 h9 h10 h11 h12 h13 h14 h15 h16 h17 h18 h19 h20 h21 h22 h23;go_enter Tryz.func153,Tryz.ntmps153;go_wp2_with (first | (go_at_call 178;(first | refine(af _ _ _ _ (by omega)).mono ?_ | refine(ag _ _ _ _ (by omega)).mono ?_);rintro e w1 ⟨rfl,hw1⟩;obtain rfl:=hw1.symm;clear hw1))
  go_ret;exact⟨by rw[HV.out];rfl,rfl⟩
 by_cases h25:r=43
 ·subst h25
  have HV:=hid (show aG 43=22 by decide)
  clear h0 h1 h2 h3 h4 h5 h6 h7 h8 h9 h10 h11 h12 h13 h14 h15 h16 h17 h18 h19 h20 h21 h22 h23 h24;go_enter Tryz.func153,Tryz.ntmps153;go_wp2_with (first | (go_at_call 178;(first | refine(af _ _ _ _ (by omega)).mono ?_ | refine(ag _ _ _ _ (by omega)).mono ?_);rintro e w1 ⟨rfl,hw1⟩;obtain rfl:=hw1.symm;clear hw1))
  go_ret;exact⟨by rw[HV.out];rfl,rfl⟩
 by_cases h26:r=92
 ·subst h26
  have HV:=hid (show aG 92=22 by decide)
  clear h0 h1 h2 h3 h4 h5 h6 h7 h8 h9 h10 h11 h12 h13 h14 h15 h16 h17 h18 h19 h20 h21 h22 h23 h24 h25;go_enter Tryz.func153,Tryz.ntmps153;go_wp2_with (first | (go_at_call 178;(first | refine(af _ _ _ _ (by omega)).mono ?_ | refine(ag _ _ _ _ (by omega)).mono ?_);rintro e w1 ⟨rfl,hw1⟩;obtain rfl:=hw1.symm;clear hw1))
  go_ret;exact⟨by rw[HV.out];rfl,rfl⟩
 have HV:=hid (show aG r=0 by unfold aG;rw[if_neg h0,if_neg h1,if_neg h2,if_neg h3,if_neg h4,if_neg h5,if_neg h6,if_neg h7,if_neg h8,if_neg h9,if_neg h10,if_neg h11,if_neg h12,if_neg h13,if_neg h14,if_neg h15,if_neg h16,if_neg h17,if_neg h18,if_neg h19,if_neg h20,if_neg h21,if_neg h22,if_neg h23,if_neg h24,if_neg h25,if_neg h26])
 have b1:(r==11)=false:=beq_eq_false_iff_ne.2 h1;have b2:(r==12)=false:=beq_eq_false_iff_ne.2 h2;have b3:(r==13)=false:=beq_eq_false_iff_ne.2 h3;have b4:(r==10)=false:=beq_eq_false_iff_ne.2 h4;have b5:(r==32)=false:=beq_eq_false_iff_ne.2 h5;have b6:(r==9)=false:=beq_eq_false_iff_ne.2 h6;have b7:(r==40)=false:=beq_eq_false_iff_ne.2 h7;have b8:(r==91)=false:=beq_eq_false_iff_ne.2 h8;have b9:(r==123)=false:=beq_eq_false_iff_ne.2 h9;have b10:(r==41)=false:=beq_eq_false_iff_ne.2 h10;have b11:(r==93)=false:=beq_eq_false_iff_ne.2 h11;have b12:(r==125)=false:=beq_eq_false_iff_ne.2 h12;have b13:(r==34)=false:=beq_eq_false_iff_ne.2 h13;have b14:(r==39)=false:=beq_eq_false_iff_ne.2 h14;have b15:(r==33)=false:=beq_eq_false_iff_ne.2 h15;have b16:(r==63)=false:=beq_eq_false_iff_ne.2 h16;have b17:(r==44)=false:=beq_eq_false_iff_ne.2 h17;have b18:(r==46)=false:=beq_eq_false_iff_ne.2 h18;have b19:(r==58)=false:=beq_eq_false_iff_ne.2 h19;have b20:(r==59)=false:=beq_eq_false_iff_ne.2 h20;have b21:(r==47)=false:=beq_eq_false_iff_ne.2 h21;have b22:(r==45)=false:=beq_eq_false_iff_ne.2 h22;have b23:(r==37)=false:=beq_eq_false_iff_ne.2 h23;have b24:(r==36)=false:=beq_eq_false_iff_ne.2 h24;have b25:(r==43)=false:=beq_eq_false_iff_ne.2 h25;have b26:(r==92)=false:=beq_eq_false_iff_ne.2 h26;go_enter Tryz.func153,Tryz.ntmps153;go_wp2_with (first | (go_at_call 178;(first | refine(af _ _ _ _ (by omega)).mono ?_ | refine(ag _ _ _ _ (by omega)).mono ?_);rintro e w1 ⟨rfl,hw1⟩;obtain rfl:=hw1.symm;clear hw1))
 go_ret;exact⟨by rw[HV.out];rfl,rfl⟩
def bh (r:Int):Int:=
 if r=133 then 1 else if r=160 then 7 else if r=161 then 9 else if r=191 then 9 else if r=162 then 21 else if r=176 then 21 else if r=163 then 22 else if r=164 then 22 else if r=165 then 22 else if r=177 then 22 else if r=171 then 12 else if r=187 then 12 else if r=173 then 17 else 0
theorem zcX (r:Int) (w:sE):sH Tryz.prog 154 #[.int .i32 r] w fun e w'=>e= .returned (.int .i64 (bh r))/\w'=w:=by
 by_cases h0:r=133
 ·subst h0
  have HV:=hid (show bh 133=1 by decide)
  skip
  go_enter Tryz.func154,Tryz.ntmps154;go_wp2_with (first | (go_at_call 178;(first | refine(af _ _ _ _ (by omega)).mono ?_ | refine(ag _ _ _ _ (by omega)).mono ?_);rintro e w1 ⟨rfl,hw1⟩;obtain rfl:=hw1.symm;clear hw1))
  go_ret;exact⟨by rw[HV.out];rfl,rfl⟩
 by_cases h1:r=160
 ·subst h1
  have HV:=hid (show bh 160=7 by decide)
  clear h0;go_enter Tryz.func154,Tryz.ntmps154;go_wp2_with (first | (go_at_call 178;(first | refine(af _ _ _ _ (by omega)).mono ?_ | refine(ag _ _ _ _ (by omega)).mono ?_);rintro e w1 ⟨rfl,hw1⟩;obtain rfl:=hw1.symm;clear hw1))
  go_ret;exact⟨by rw[HV.out];rfl,rfl⟩
 by_cases h2:r=161
 ·subst h2
  have HV:=hid (show bh 161=9 by decide)
  clear h0 h1;go_enter Tryz.func154,Tryz.ntmps154;go_wp2_with (first | (go_at_call 178;(first | refine(af _ _ _ _ (by omega)).mono ?_ | refine(ag _ _ _ _ (by omega)).mono ?_);rintro e w1 ⟨rfl,hw1⟩;obtain rfl:=hw1.symm;clear hw1))
  go_ret;exact⟨by rw[HV.out];rfl,rfl⟩
 by_cases h3:r=191
 ·subst h3
  have HV:=hid (show bh 191=9 by decide)
  clear h0 h1 h2;go_enter Tryz.func154,Tryz.ntmps154;go_wp2_with (first | (go_at_call 178;(first | refine(af _ _ _ _ (by omega)).mono ?_ | refine(ag _ _ _ _ (by omega)).mono ?_);rintro e w1 ⟨rfl,hw1⟩;obtain rfl:=hw1.symm;clear hw1))
  go_ret;exact⟨by rw[HV.out];rfl,rfl⟩
 by_cases h4:r=162
 ·subst h4
  have HV:=hid (show bh 162=21 by decide)
  clear h0 h1 h2 h3;go_enter Tryz.func154,Tryz.ntmps154;go_wp2_with (first | (go_at_call 178;(first | refine(af _ _ _ _ (by omega)).mono ?_ | refine(ag _ _ _ _ (by omega)).mono ?_);rintro e w1 ⟨rfl,hw1⟩;obtain rfl:=hw1.symm;clear hw1))
  go_ret;exact⟨by rw[HV.out];rfl,rfl⟩
 by_cases h5:r=176
 ·subst h5
  have HV:=hid (show bh 176=21 by decide)
  clear h0 h1 h2 h3 h4;go_enter Tryz.func154,Tryz.ntmps154;go_wp2_with (first | (go_at_call 178;(first | refine(af _ _ _ _ (by omega)).mono ?_ | refine(ag _ _ _ _ (by omega)).mono ?_);rintro e w1 ⟨rfl,hw1⟩;obtain rfl:=hw1.symm;clear hw1))
  go_ret;exact⟨by rw[HV.out];rfl,rfl⟩
 by_cases h6:r=163
 ·subst h6
  have HV:=hid (show bh 163=22 by decide)
  clear h0 h1 h2 h3 h4 h5;go_enter Tryz.func154,Tryz.ntmps154;go_wp2_with (first | (go_at_call 178;(first | refine(af _ _ _ _ (by omega)).mono ?_ | refine(ag _ _ _ _ (by omega)).mono ?_);rintro e w1 ⟨rfl,hw1⟩;obtain rfl:=hw1.symm;clear hw1))
  go_ret;exact⟨by rw[HV.out];rfl,rfl⟩
 by_cases h7:r=164
 ·subst h7
  have HV:=hid (show bh 164=22 by decide)
  clear h0 h1 h2 h3 h4 h5 h6;go_enter Tryz.func154,Tryz.ntmps154;go_wp2_with (first | (go_at_call 178;(first | refine(af _ _ _ _ (by omega)).mono ?_ | refine(ag _ _ _ _ (by omega)).mono ?_);rintro e w1 ⟨rfl,hw1⟩;obtain rfl:=hw1.symm;clear hw1))
  go_ret;exact⟨by rw[HV.out];rfl,rfl⟩
 by_cases h8:r=165
 ·subst h8
  have HV:=hid (show bh 165=22 by decide)
  clear h0 h1 h2 h3 h4 h5 h6 h7;go_enter Tryz.func154,Tryz.ntmps154;go_wp2_with (first | (go_at_call 178;(first | refine(af _ _ _ _ (by omega)).mono ?_ | refine(ag _ _ _ _ (by omega)).mono ?_);rintro e w1 ⟨rfl,hw1⟩;obtain rfl:=hw1.symm;clear hw1))
  go_ret;exact⟨by rw[HV.out];rfl,rfl⟩
 by_cases h9:r=177
 ·subst h9
  have HV:=hid (show bh 177=22 by decide)
  clear h0 h1 h2 h3 h4 h5 h6 h7 h8;go_enter Tryz.func154,Tryz.ntmps154;go_wp2_with (first | (go_at_call 178;(first | refine(af _ _ _ _ (by omega)).mono ?_ | refine(ag _ _ _ _ (by omega)).mono ?_);rintro e w1 ⟨rfl,hw1⟩;obtain rfl:=hw1.symm;clear hw1))
  go_ret;exact⟨by rw[HV.out];rfl,rfl⟩
 by_cases h10:r=171
 ·subst h10
  have HV:=hid (show bh 171=12 by decide)
  clear h0 h1 h2 h3 h4 h5 h6 h7 h8 h9;go_enter Tryz.func154,Tryz.ntmps154;go_wp2_with (first | (go_at_call 178;(first | refine(af _ _ _ _ (by omega)).mono ?_ | refine(ag _ _ _ _ (by omega)).mono ?_);rintro e w1 ⟨rfl,hw1⟩;obtain rfl:=hw1.symm;clear hw1))
  go_ret;exact⟨by rw[HV.out];rfl,rfl⟩
 by_cases h11:r=187
 ·subst h11
  have HV:=hid (show bh 187=12 by decide)
  clear h0 h1 h2 h3 h4 h5 h6 h7 h8 h9 h10;go_enter Tryz.func154,Tryz.ntmps154;go_wp2_with (first | (go_at_call 178;(first | refine(af _ _ _ _ (by omega)).mono ?_ | refine(ag _ _ _ _ (by omega)).mono ?_);rintro e w1 ⟨rfl,hw1⟩;obtain rfl:=hw1.symm;clear hw1))
  go_ret;exact⟨by rw[HV.out];rfl,rfl⟩
 by_cases h12:r=173
 ·subst h12
  have HV:=hid (show bh 173=17 by decide)
  clear h0 h1 h2 h3 h4 h5 h6 h7 h8 h9 h10 h11;go_enter Tryz.func154,Tryz.ntmps154;go_wp2_with (first | (go_at_call 178;(first | refine(af _ _ _ _ (by omega)).mono ?_ | refine(ag _ _ _ _ (by omega)).mono ?_);rintro e w1 ⟨rfl,hw1⟩;obtain rfl:=hw1.symm;clear hw1))
  go_ret;exact⟨by rw[HV.out];rfl,rfl⟩
 have HV:=hid (show bh r=0 by unfold bh;rw[if_neg h0,if_neg h1,if_neg h2,if_neg h3,if_neg h4,if_neg h5,if_neg h6,if_neg h7,if_neg h8,if_neg h9,if_neg h10,if_neg h11,if_neg h12])
 have b0:(r==133)=false:=beq_eq_false_iff_ne.2 h0;have b1:(r==160)=false:=beq_eq_false_iff_ne.2 h1;have b2:(r==161)=false:=beq_eq_false_iff_ne.2 h2;have b3:(r==191)=false:=beq_eq_false_iff_ne.2 h3;have b4:(r==162)=false:=beq_eq_false_iff_ne.2 h4;have b5:(r==176)=false:=beq_eq_false_iff_ne.2 h5;have b6:(r==163)=false:=beq_eq_false_iff_ne.2 h6;have b7:(r==164)=false:=beq_eq_false_iff_ne.2 h7;have b8:(r==165)=false:=beq_eq_false_iff_ne.2 h8;have b9:(r==177)=false:=beq_eq_false_iff_ne.2 h9;have b10:(r==171)=false:=beq_eq_false_iff_ne.2 h10;have b11:(r==187)=false:=beq_eq_false_iff_ne.2 h11;have b12:(r==173)=false:=beq_eq_false_iff_ne.2 h12;go_enter Tryz.func154,Tryz.ntmps154;go_wp2_with (first | (go_at_call 178;(first | refine(af _ _ _ _ (by omega)).mono ?_ | refine(ag _ _ _ _ (by omega)).mono ?_);rintro e w1 ⟨rfl,hw1⟩;obtain rfl:=hw1.symm;clear hw1))
 go_ret;exact⟨by rw[HV.out];rfl,rfl⟩
def br (r:Int):Int:=
 if r<=879 then 8 else if 1425<=r/\r<=1469 then 8 else if 1632<=r/\r<=1641 then 20 else 0
theorem qn (r:Int) (w:sE):sH Tryz.prog 155 #[.int .i32 r] w fun e w'=>e= .returned (.int .i64 (br r))/\w'=w:=by
 by_cases h0:r<=879
 ·have HV:=hid (show br r=8 by unfold br;rw[if_pos h0])
  go_enter Tryz.func155,Tryz.ntmps155;go_wp2_with (first | (go_at_call 178;(first | refine(af _ _ _ _ (by omega)).mono ?_ | refine(ag _ _ _ _ (by omega)).mono ?_);rintro e w1 ⟨rfl,hw1⟩;obtain rfl:=hw1.symm;clear hw1))
  go_ret;exact⟨by rw[HV.out];rfl,rfl⟩
 by_cases h1:1425<=r/\r<=1469
 ·have HV:=hid (show br r=8 by unfold br;rw[if_neg h0,if_pos h1])
  obtain⟨u1,v1⟩:=h1;go_enter Tryz.func155,Tryz.ntmps155;go_wp2_with (first | (go_at_call 178;(first | refine(af _ _ _ _ (by omega)).mono ?_ | refine(ag _ _ _ _ (by omega)).mono ?_);rintro e w1 ⟨rfl,hw1⟩;obtain rfl:=hw1.symm;clear hw1))
  go_ret;exact⟨by rw[HV.out];rfl,rfl⟩
 by_cases h2:1632<=r/\r<=1641
 ·have HV:=hid (show br r=20 by unfold br;rw[if_neg h0,if_neg h1,if_pos h2])
  obtain⟨u2,v2⟩:=h2;go_enter Tryz.func155,Tryz.ntmps155;go_wp2_with (first | (go_at_call 178;(first | refine(af _ _ _ _ (by omega)).mono ?_ | refine(ag _ _ _ _ (by omega)).mono ?_);rintro e w1 ⟨rfl,hw1⟩;obtain rfl:=hw1.symm;clear hw1))
  go_ret;exact⟨by rw[HV.out];rfl,rfl⟩
 have HV:=hid (show br r=0 by unfold br;rw[if_neg h0,if_neg h1,if_neg h2])
 go_enter Tryz.func155,Tryz.ntmps155;go_wp2_with (first | (go_at_call 178;(first | refine(af _ _ _ _ (by omega)).mono ?_ | refine(ag _ _ _ _ (by omega)).mono ?_);rintro e w1 ⟨rfl,hw1⟩;obtain rfl:=hw1.symm;clear hw1))
 go_ret;exact⟨by rw[HV.out];rfl,rfl⟩
def aR (r:Int):Int:=
 if r=8199 then 7 else if r=8239 then 7 else if r=8203 then 5 else if r=8204 then 8 else if r=8205 then 8 else if r=8208 then 17 else if r=8211 then 17 else if r=8212 then 18 else if r=8216 then 12 else if r=8217 then 12 else if r=8220 then 12 else if r=8221 then 12 else if r=8218 then 9 else if r=8230 then 19 else if r=8232 then 1 else if r=8233 then 1 else if r=8240 then 21 else if r=8288 then 6 else if r=8364 then 22 else 0
theorem zcT (r:Int) (w:sE):sH Tryz.prog 156 #[.int .i32 r] w fun e w'=>e= .returned (.int .i64 (aR r))/\w'=w:=by
 by_cases h0:r=8199
 ·subst h0
  have HV:=hid (show aR 8199=7 by decide)
  skip
  go_enter Tryz.func156,Tryz.ntmps156;go_wp2_with (first | (go_at_call 178;(first | refine(af _ _ _ _ (by omega)).mono ?_ | refine(ag _ _ _ _ (by omega)).mono ?_);rintro e w1 ⟨rfl,hw1⟩;obtain rfl:=hw1.symm;clear hw1))
  go_ret;exact⟨by rw[HV.out];rfl,rfl⟩
 by_cases h1:r=8239
 ·subst h1
  have HV:=hid (show aR 8239=7 by decide)
  clear h0;go_enter Tryz.func156,Tryz.ntmps156;go_wp2_with (first | (go_at_call 178;(first | refine(af _ _ _ _ (by omega)).mono ?_ | refine(ag _ _ _ _ (by omega)).mono ?_);rintro e w1 ⟨rfl,hw1⟩;obtain rfl:=hw1.symm;clear hw1))
  go_ret;exact⟨by rw[HV.out];rfl,rfl⟩
 by_cases h2:r=8203
 ·subst h2
  have HV:=hid (show aR 8203=5 by decide)
  clear h0 h1;go_enter Tryz.func156,Tryz.ntmps156;go_wp2_with (first | (go_at_call 178;(first | refine(af _ _ _ _ (by omega)).mono ?_ | refine(ag _ _ _ _ (by omega)).mono ?_);rintro e w1 ⟨rfl,hw1⟩;obtain rfl:=hw1.symm;clear hw1))
  go_ret;exact⟨by rw[HV.out];rfl,rfl⟩
 by_cases h3:r=8204
 ·subst h3
  have HV:=hid (show aR 8204=8 by decide)
  clear h0 h1 h2;go_enter Tryz.func156,Tryz.ntmps156;go_wp2_with (first | (go_at_call 178;(first | refine(af _ _ _ _ (by omega)).mono ?_ | refine(ag _ _ _ _ (by omega)).mono ?_);rintro e w1 ⟨rfl,hw1⟩;obtain rfl:=hw1.symm;clear hw1))
  go_ret;exact⟨by rw[HV.out];rfl,rfl⟩
 by_cases h4:r=8205
 ·subst h4
  have HV:=hid (show aR 8205=8 by decide)
  clear h0 h1 h2 h3;go_enter Tryz.func156,Tryz.ntmps156;go_wp2_with (first | (go_at_call 178;(first | refine(af _ _ _ _ (by omega)).mono ?_ | refine(ag _ _ _ _ (by omega)).mono ?_);rintro e w1 ⟨rfl,hw1⟩;obtain rfl:=hw1.symm;clear hw1))
  go_ret;exact⟨by rw[HV.out];rfl,rfl⟩
 by_cases h5:r=8208
 ·subst h5
  have HV:=hid (show aR 8208=17 by decide)
  clear h0 h1 h2 h3 h4;go_enter Tryz.func156,Tryz.ntmps156;go_wp2_with (first | (go_at_call 178;(first | refine(af _ _ _ _ (by omega)).mono ?_ | refine(ag _ _ _ _ (by omega)).mono ?_);rintro e w1 ⟨rfl,hw1⟩;obtain rfl:=hw1.symm;clear hw1))
  go_ret;exact⟨by rw[HV.out];rfl,rfl⟩
 by_cases h6:r=8211
 ·subst h6
  have HV:=hid (show aR 8211=17 by decide)
  clear h0 h1 h2 h3 h4 h5;go_enter Tryz.func156,Tryz.ntmps156;go_wp2_with (first | (go_at_call 178;(first | refine(af _ _ _ _ (by omega)).mono ?_ | refine(ag _ _ _ _ (by omega)).mono ?_);rintro e w1 ⟨rfl,hw1⟩;obtain rfl:=hw1.symm;clear hw1))
  go_ret;exact⟨by rw[HV.out];rfl,rfl⟩
 by_cases h7:r=8212
 ·subst h7
  have HV:=hid (show aR 8212=18 by decide)
  clear h0 h1 h2 h3 h4 h5 h6;go_enter Tryz.func156,Tryz.ntmps156;go_wp2_with (first | (go_at_call 178;(first | refine(af _ _ _ _ (by omega)).mono ?_ | refine(ag _ _ _ _ (by omega)).mono ?_);rintro e w1 ⟨rfl,hw1⟩;obtain rfl:=hw1.symm;clear hw1))
  go_ret;exact⟨by rw[HV.out];rfl,rfl⟩
 by_cases h8:r=8216
 ·subst h8
  have HV:=hid (show aR 8216=12 by decide)
  clear h0 h1 h2 h3 h4 h5 h6 h7;go_enter Tryz.func156,Tryz.ntmps156;go_wp2_with (first | (go_at_call 178;(first | refine(af _ _ _ _ (by omega)).mono ?_ | refine(ag _ _ _ _ (by omega)).mono ?_);rintro e w1 ⟨rfl,hw1⟩;obtain rfl:=hw1.symm;clear hw1))
  go_ret;exact⟨by rw[HV.out];rfl,rfl⟩
 by_cases h9:r=8217
 ·subst h9
  have HV:=hid (show aR 8217=12 by decide)
  clear h0 h1 h2 h3 h4 h5 h6 h7 h8;go_enter Tryz.func156,Tryz.ntmps156;go_wp2_with (first | (go_at_call 178;(first | refine(af _ _ _ _ (by omega)).mono ?_ | refine(ag _ _ _ _ (by omega)).mono ?_);rintro e w1 ⟨rfl,hw1⟩;obtain rfl:=hw1.symm;clear hw1))
  go_ret;exact⟨by rw[HV.out];rfl,rfl⟩
 by_cases h10:r=8220
 ·subst h10
  have HV:=hid (show aR 8220=12 by decide)
  clear h0 h1 h2 h3 h4 h5 h6 h7 h8 h9;go_enter Tryz.func156,Tryz.ntmps156;go_wp2_with (first | (go_at_call 178;(first | refine(af _ _ _ _ (by omega)).mono ?_ | refine(ag _ _ _ _ (by omega)).mono ?_);rintro e w1 ⟨rfl,hw1⟩;obtain rfl:=hw1.symm;clear hw1))
  go_ret;exact⟨by rw[HV.out];rfl,rfl⟩
 by_cases h11:r=8221
 ·subst h11
  have HV:=hid (show aR 8221=12 by decide)
  clear h0 h1 h2 h3 h4 h5 h6 h7 h8 h9 h10;go_enter Tryz.func156,Tryz.ntmps156;go_wp2_with (first | (go_at_call 178;(first | refine(af _ _ _ _ (by omega)).mono ?_ | refine(ag _ _ _ _ (by omega)).mono ?_);rintro e w1 ⟨rfl,hw1⟩;obtain rfl:=hw1.symm;clear hw1))
  go_ret;exact⟨by rw[HV.out];rfl,rfl⟩
 by_cases h12:r=8218
 ·subst h12
  have HV:=hid (show aR 8218=9 by decide)
  clear h0 h1 h2 h3 h4 h5 h6 h7 h8 h9 h10 h11;go_enter Tryz.func156,Tryz.ntmps156;go_wp2_with (first | (go_at_call 178;(first | refine(af _ _ _ _ (by omega)).mono ?_ | refine(ag _ _ _ _ (by omega)).mono ?_);rintro e w1 ⟨rfl,hw1⟩;obtain rfl:=hw1.symm;clear hw1))
  go_ret;exact⟨by rw[HV.out];rfl,rfl⟩
 by_cases h13:r=8230
 ·subst h13
  have HV:=hid (show aR 8230=19 by decide)
  clear h0 h1 h2 h3 h4 h5 h6 h7 h8 h9 h10 h11 h12;go_enter Tryz.func156,Tryz.ntmps156;go_wp2_with (first | (go_at_call 178;(first | refine(af _ _ _ _ (by omega)).mono ?_ | refine(ag _ _ _ _ (by omega)).mono ?_);rintro e w1 ⟨rfl,hw1⟩;obtain rfl:=hw1.symm;clear hw1))
  go_ret;exact⟨by rw[HV.out];rfl,rfl⟩
 by_cases h14:r=8232
 ·subst h14
  have HV:=hid (show aR 8232=1 by decide)
  clear h0 h1 h2 h3 h4 h5 h6 h7 h8 h9 h10 h11 h12 h13;go_enter Tryz.func156,Tryz.ntmps156;go_wp2_with (first | (go_at_call 178;(first | refine(af _ _ _ _ (by omega)).mono ?_ | refine(ag _ _ _ _ (by omega)).mono ?_);rintro e w1 ⟨rfl,hw1⟩;obtain rfl:=hw1.symm;clear hw1))
  go_ret;exact⟨by rw[HV.out];rfl,rfl⟩
 by_cases h15:r=8233
 ·subst h15
  have HV:=hid (show aR 8233=1 by decide)
  clear h0 h1 h2 h3 h4 h5 h6 h7 h8 h9 h10 h11 h12 h13 h14;go_enter Tryz.func156,Tryz.ntmps156;go_wp2_with (first | (go_at_call 178;(first | refine(af _ _ _ _ (by omega)).mono ?_ | refine(ag _ _ _ _ (by omega)).mono ?_);rintro e w1 ⟨rfl,hw1⟩;obtain rfl:=hw1.symm;clear hw1))
  go_ret;exact⟨by rw[HV.out];rfl,rfl⟩
 by_cases h16:r=8240
 ·subst h16
  have HV:=hid (show aR 8240=21 by decide)
  clear h0 h1 h2 h3 h4 h5 h6 h7 h8 h9 h10 h11 h12 h13 h14 h15;go_enter Tryz.func156,Tryz.ntmps156;go_wp2_with (first | (go_at_call 178;(first | refine(af _ _ _ _ (by omega)).mono ?_ | refine(ag _ _ _ _ (by omega)).mono ?_);rintro e w1 ⟨rfl,hw1⟩;obtain rfl:=hw1.symm;clear hw1))
  go_ret;exact⟨by rw[HV.out];rfl,rfl⟩
 by_cases h17:r=8288
 ·subst h17
  have HV:=hid (show aR 8288=6 by decide)
  clear h0 h1 h2 h3 h4 h5 h6 h7 h8 h9 h10 h11 h12 h13 h14 h15 h16;go_enter Tryz.func156,Tryz.ntmps156;go_wp2_with (first | (go_at_call 178;(first | refine(af _ _ _ _ (by omega)).mono ?_ | refine(ag _ _ _ _ (by omega)).mono ?_);rintro e w1 ⟨rfl,hw1⟩;obtain rfl:=hw1.symm;clear hw1))
  go_ret;exact⟨by rw[HV.out];rfl,rfl⟩
 by_cases h18:r=8364
 ·subst h18
  have HV:=hid (show aR 8364=22 by decide)
  clear h0 h1 h2 h3 h4 h5 h6 h7 h8 h9 h10 h11 h12 h13 h14 h15 h16 h17;go_enter Tryz.func156,Tryz.ntmps156;go_wp2_with (first | (go_at_call 178;(first | refine(af _ _ _ _ (by omega)).mono ?_ | refine(ag _ _ _ _ (by omega)).mono ?_);rintro e w1 ⟨rfl,hw1⟩;obtain rfl:=hw1.symm;clear hw1))
  go_ret;exact⟨by rw[HV.out];rfl,rfl⟩
 have HV:=hid (show aR r=0 by unfold aR;rw[if_neg h0,if_neg h1,if_neg h2,if_neg h3,if_neg h4,if_neg h5,if_neg h6,if_neg h7,if_neg h8,if_neg h9,if_neg h10,if_neg h11,if_neg h12,if_neg h13,if_neg h14,if_neg h15,if_neg h16,if_neg h17,if_neg h18])
 have b0:(r==8199)=false:=beq_eq_false_iff_ne.2 h0;have b1:(r==8239)=false:=beq_eq_false_iff_ne.2 h1;have b2:(r==8203)=false:=beq_eq_false_iff_ne.2 h2;have b3:(r==8204)=false:=beq_eq_false_iff_ne.2 h3;have b4:(r==8205)=false:=beq_eq_false_iff_ne.2 h4;have b5:(r==8208)=false:=beq_eq_false_iff_ne.2 h5;have b6:(r==8211)=false:=beq_eq_false_iff_ne.2 h6;have b7:(r==8212)=false:=beq_eq_false_iff_ne.2 h7;have b8:(r==8216)=false:=beq_eq_false_iff_ne.2 h8;have b9:(r==8217)=false:=beq_eq_false_iff_ne.2 h9;have b10:(r==8220)=false:=beq_eq_false_iff_ne.2 h10;have b11:(r==8221)=false:=beq_eq_false_iff_ne.2 h11;have b12:(r==8218)=false:=beq_eq_false_iff_ne.2 h12;have b13:(r==8230)=false:=beq_eq_false_iff_ne.2 h13;have b14:(r==8232)=false:=beq_eq_false_iff_ne.2 h14;have b15:(r==8233)=false:=beq_eq_false_iff_ne.2 h15;have b16:(r==8240)=false:=beq_eq_false_iff_ne.2 h16;have b17:(r==8288)=false:=beq_eq_false_iff_ne.2 h17;have b18:(r==8364)=false:=beq_eq_false_iff_ne.2 h18;go_enter Tryz.func156,Tryz.ntmps156;go_wp2_with (first | (go_at_call 178;(first | refine(af _ _ _ _ (by omega)).mono ?_ | refine(ag _ _ _ _ (by omega)).mono ?_);rintro e w1 ⟨rfl,hw1⟩;obtain rfl:=hw1.symm;clear hw1))
 go_ret;exact⟨by rw[HV.out];rfl,rfl⟩
def aZ (r:Int):Int:=
 if 12353<=r/\r<=12438 then 23 else if 12449<=r/\r<=12538 then 23 else if r=12289 then 11 else if r=12290 then 11 else if r=12297 then 11 else if r=12299 then 11 else if r=12301 then 11 else if r=12296 then 9 else if r=12298 then 9 else if r=12300 then 9 else if r=12293 then 24 else if r=12316 then 24 else if 12443<=r/\r<=12446 then 24 else if 12539<=r/\r<=12542 then 24 else if r=12441 then 8 else if r=12442 then 8 else 0
theorem zfW (r:Int) (w:sE):sH Tryz.prog 157 #[.int .i32 r] w fun e w'=>e= .returned (.int .i64 (aZ r))/\w'=w:=by
 by_cases h0:12353<=r/\r<=12438
 ·have HV:=hid (show aZ r=23 by unfold aZ;rw[if_pos h0])
  obtain⟨u0,v0⟩:=h0;go_enter Tryz.func157,Tryz.ntmps157;go_wp2_with (first | (go_at_call 178;(first | refine(af _ _ _ _ (by omega)).mono ?_ | refine(ag _ _ _ _ (by omega)).mono ?_);rintro e w1 ⟨rfl,hw1⟩;obtain rfl:=hw1.symm;clear hw1))
  go_ret;exact⟨by rw[HV.out];rfl,rfl⟩
 by_cases h1:12449<=r/\r<=12538
 ·have HV:=hid (show aZ r=23 by unfold aZ;rw[if_neg h0,if_pos h1])
  obtain⟨u1,v1⟩:=h1;go_enter Tryz.func157,Tryz.ntmps157;go_wp2_with (first | (go_at_call 178;(first | refine(af _ _ _ _ (by omega)).mono ?_ | refine(ag _ _ _ _ (by omega)).mono ?_);rintro e w1 ⟨rfl,hw1⟩;obtain rfl:=hw1.symm;clear hw1))
  go_ret;exact⟨by rw[HV.out];rfl,rfl⟩
 by_cases h2:r=12289
 ·subst h2
  have HV:=hid (show aZ 12289=11 by decide)
  clear h0 h1;go_enter Tryz.func157,Tryz.ntmps157;go_wp2_with (first | (go_at_call 178;(first | refine(af _ _ _ _ (by omega)).mono ?_ | refine(ag _ _ _ _ (by omega)).mono ?_);rintro e w1 ⟨rfl,hw1⟩;obtain rfl:=hw1.symm;clear hw1))
  go_ret;exact⟨by rw[HV.out];rfl,rfl⟩
 by_cases h3:r=12290
 ·subst h3
  have HV:=hid (show aZ 12290=11 by decide)
  clear h0 h1 h2;go_enter Tryz.func157,Tryz.ntmps157;go_wp2_with (first | (go_at_call 178;(first | refine(af _ _ _ _ (by omega)).mono ?_ | refine(ag _ _ _ _ (by omega)).mono ?_);rintro e w1 ⟨rfl,hw1⟩;obtain rfl:=hw1.symm;clear hw1))
  go_ret;exact⟨by rw[HV.out];rfl,rfl⟩
 by_cases h4:r=12297
 ·subst h4
  have HV:=hid (show aZ 12297=11 by decide)
  clear h0 h1 h2 h3;go_enter Tryz.func157,Tryz.ntmps157;go_wp2_with (first | (go_at_call 178;(first | refine(af _ _ _ _ (by omega)).mono ?_ | refine(ag _ _ _ _ (by omega)).mono ?_);rintro e w1 ⟨rfl,hw1⟩;obtain rfl:=hw1.symm;clear hw1))
  go_ret;exact⟨by rw[HV.out];rfl,rfl⟩
 by_cases h5:r=12299
 ·subst h5
  have HV:=hid (show aZ 12299=11 by decide)
  clear h0 h1 h2 h3 h4;go_enter Tryz.func157,Tryz.ntmps157;go_wp2_with (first | (go_at_call 178;(first | refine(af _ _ _ _ (by omega)).mono ?_ | refine(ag _ _ _ _ (by omega)).mono ?_);rintro e w1 ⟨rfl,hw1⟩;obtain rfl:=hw1.symm;clear hw1))
  go_ret;exact⟨by rw[HV.out];rfl,rfl⟩
 by_cases h6:r=12301
 ·subst h6
  have HV:=hid (show aZ 12301=11 by decide)
  clear h0 h1 h2 h3 h4 h5;go_enter Tryz.func157,Tryz.ntmps157;go_wp2_with (first | (go_at_call 178;(first | refine(af _ _ _ _ (by omega)).mono ?_ | refine(ag _ _ _ _ (by omega)).mono ?_);rintro e w1 ⟨rfl,hw1⟩;obtain rfl:=hw1.symm;clear hw1))
  go_ret;exact⟨by rw[HV.out];rfl,rfl⟩
 by_cases h7:r=12296
 ·subst h7
  have HV:=hid (show aZ 12296=9 by decide)
  clear h0 h1 h2 h3 h4 h5 h6;go_enter Tryz.func157,Tryz.ntmps157;go_wp2_with (first | (go_at_call 178;(first | refine(af _ _ _ _ (by omega)).mono ?_ | refine(ag _ _ _ _ (by omega)).mono ?_);rintro e w1 ⟨rfl,hw1⟩;obtain rfl:=hw1.symm;clear hw1))
  go_ret;exact⟨by rw[HV.out];rfl,rfl⟩
 by_cases h8:r=12298
 ·subst h8
  have HV:=hid (show aZ 12298=9 by decide)
  clear h0 h1 h2 h3 h4 h5 h6 h7;go_enter Tryz.func157,Tryz.ntmps157;go_wp2_with (first | (go_at_call 178;(first | refine(af _ _ _ _ (by omega)).mono ?_ | refine(ag _ _ _ _ (by omega)).mono ?_);rintro e w1 ⟨rfl,hw1⟩;obtain rfl:=hw1.symm;clear hw1))
  go_ret;exact⟨by rw[HV.out];rfl,rfl⟩
 by_cases h9:r=12300
 ·subst h9
  have HV:=hid (show aZ 12300=9 by decide)
  clear h0 h1 h2 h3 h4 h5 h6 h7 h8;go_enter Tryz.func157,Tryz.ntmps157;go_wp2_with (first | (go_at_call 178;(first | refine(af _ _ _ _ (by omega)).mono ?_ | refine(ag _ _ _ _ (by omega)).mono ?_);rintro e w1 ⟨rfl,hw1⟩;obtain rfl:=hw1.symm;clear hw1))
  go_ret;exact⟨by rw[HV.out];rfl,rfl⟩
 by_cases h10:r=12293
 ·subst h10
  have HV:=hid (show aZ 12293=24 by decide)
  clear h0 h1 h2 h3 h4 h5 h6 h7 h8 h9;go_enter Tryz.func157,Tryz.ntmps157;go_wp2_with (first | (go_at_call 178;(first | refine(af _ _ _ _ (by omega)).mono ?_ | refine(ag _ _ _ _ (by omega)).mono ?_);rintro e w1 ⟨rfl,hw1⟩;obtain rfl:=hw1.symm;clear hw1))
  go_ret;exact⟨by rw[HV.out];rfl,rfl⟩
 by_cases h11:r=12316
 ·subst h11
  have HV:=hid (show aZ 12316=24 by decide)
  clear h0 h1 h2 h3 h4 h5 h6 h7 h8 h9 h10;go_enter Tryz.func157,Tryz.ntmps157;go_wp2_with (first | (go_at_call 178;(first | refine(af _ _ _ _ (by omega)).mono ?_ | refine(ag _ _ _ _ (by omega)).mono ?_);rintro e w1 ⟨rfl,hw1⟩;obtain rfl:=hw1.symm;clear hw1))
  go_ret;exact⟨by rw[HV.out];rfl,rfl⟩
 by_cases h12:12443<=r/\r<=12446
 ·have HV:=hid (show aZ r=24 by unfold aZ;rw[if_neg h0,if_neg h1,if_neg h2,if_neg h3,if_neg h4,if_neg h5,if_neg h6,if_neg h7,if_neg h8,if_neg h9,if_neg h10,if_neg h11,if_pos h12])
  have b2:(r==12289)=false:=beq_eq_false_iff_ne.2 h2;have b3:(r==12290)=false:=beq_eq_false_iff_ne.2 h3;have b4:(r==12297)=false:=beq_eq_false_iff_ne.2 h4;have b5:(r==12299)=false:=beq_eq_false_iff_ne.2 h5;have b6:(r==12301)=false:=beq_eq_false_iff_ne.2 h6;have b7:(r==12296)=false:=beq_eq_false_iff_ne.2 h7;have b8:(r==12298)=false:=beq_eq_false_iff_ne.2 h8;have b9:(r==12300)=false:=beq_eq_false_iff_ne.2 h9;have b10:(r==12293)=false:=beq_eq_false_iff_ne.2 h10;have b11:(r==12316)=false:=beq_eq_false_iff_ne.2 h11;obtain⟨u12,v12⟩:=h12;go_enter Tryz.func157,Tryz.ntmps157;go_wp2_with (first | (go_at_call 178;(first | refine(af _ _ _ _ (by omega)).mono ?_ | refine(ag _ _ _ _ (by omega)).mono ?_);rintro e w1 ⟨rfl,hw1⟩;obtain rfl:=hw1.symm;clear hw1))
  go_ret;exact⟨by rw[HV.out];rfl,rfl⟩
 by_cases h13:12539<=r/\r<=12542
 ·have HV:=hid (show aZ r=24 by unfold aZ;rw[if_neg h0,if_neg h1,if_neg h2,if_neg h3,if_neg h4,if_neg h5,if_neg h6,if_neg h7,if_neg h8,if_neg h9,if_neg h10,if_neg h11,if_neg h12,if_pos h13])
  have b2:(r==12289)=false:=beq_eq_false_iff_ne.2 h2;have b3:(r==12290)=false:=beq_eq_false_iff_ne.2 h3;have b4:(r==12297)=false:=beq_eq_false_iff_ne.2 h4;have b5:(r==12299)=false:=beq_eq_false_iff_ne.2 h5;have b6:(r==12301)=false:=beq_eq_false_iff_ne.2 h6;have b7:(r==12296)=false:=beq_eq_false_iff_ne.2 h7;have b8:(r==12298)=false:=beq_eq_false_iff_ne.2 h8;have b9:(r==12300)=false:=beq_eq_false_iff_ne.2 h9;have b10:(r==12293)=false:=beq_eq_false_iff_ne.2 h10;have b11:(r==12316)=false:=beq_eq_false_iff_ne.2 h11;obtain⟨u13,v13⟩:=h13;go_enter Tryz.func157,Tryz.ntmps157;go_wp2_with (first | (go_at_call 178;(first | refine(af _ _ _ _ (by omega)).mono ?_ | refine(ag _ _ _ _ (by omega)).mono ?_);rintro e w1 ⟨rfl,hw1⟩;obtain rfl:=hw1.symm;clear hw1))
  go_ret;exact⟨by rw[HV.out];rfl,rfl⟩
 by_cases h14:r=12441
 ·subst h14
  have HV:=hid (show aZ 12441=8 by decide)
  clear h0 h1 h2 h3 h4 h5 h6 h7 h8 h9 h10 h11 h12 h13;go_enter Tryz.func157,Tryz.ntmps157;go_wp2_with (first | (go_at_call 178;(first | refine(af _ _ _ _ (by omega)).mono ?_ | refine(ag _ _ _ _ (by omega)).mono ?_);rintro e w1 ⟨rfl,hw1⟩;obtain rfl:=hw1.symm;clear hw1))
  go_ret;exact⟨by rw[HV.out];rfl,rfl⟩
 by_cases h15:r=12442
 ·subst h15
  have HV:=hid (show aZ 12442=8 by decide)
  clear h0 h1 h2 h3 h4 h5 h6 h7 h8 h9 h10 h11 h12 h13 h14;go_enter Tryz.func157,Tryz.ntmps157;go_wp2_with (first | (go_at_call 178;(first | refine(af _ _ _ _ (by omega)).mono ?_ | refine(ag _ _ _ _ (by omega)).mono ?_);rintro e w1 ⟨rfl,hw1⟩;obtain rfl:=hw1.symm;clear hw1))
  go_ret;exact⟨by rw[HV.out];rfl,rfl⟩
 have HV:=hid (show aZ r=0 by unfold aZ;rw[if_neg h0,if_neg h1,if_neg h2,if_neg h3,if_neg h4,if_neg h5,if_neg h6,if_neg h7,if_neg h8,if_neg h9,if_neg h10,if_neg h11,if_neg h12,if_neg h13,if_neg h14,if_neg h15])
 have b2:(r==12289)=false:=beq_eq_false_iff_ne.2 h2;have b3:(r==12290)=false:=beq_eq_false_iff_ne.2 h3;have b4:(r==12297)=false:=beq_eq_false_iff_ne.2 h4;have b5:(r==12299)=false:=beq_eq_false_iff_ne.2 h5;have b6:(r==12301)=false:=beq_eq_false_iff_ne.2 h6;have b7:(r==12296)=false:=beq_eq_false_iff_ne.2 h7;have b8:(r==12298)=false:=beq_eq_false_iff_ne.2 h8;have b9:(r==12300)=false:=beq_eq_false_iff_ne.2 h9;have b10:(r==12293)=false:=beq_eq_false_iff_ne.2 h10;have b11:(r==12316)=false:=beq_eq_false_iff_ne.2 h11;have b14:(r==12441)=false:=beq_eq_false_iff_ne.2 h14;have b15:(r==12442)=false:=beq_eq_false_iff_ne.2 h15;go_enter Tryz.func157,Tryz.ntmps157;go_wp2_with (first | (go_at_call 178;(first | refine(af _ _ _ _ (by omega)).mono ?_ | refine(ag _ _ _ _ (by omega)).mono ?_);rintro e w1 ⟨rfl,hw1⟩;obtain rfl:=hw1.symm;clear hw1))
 go_ret;exact⟨by rw[HV.out];rfl,rfl⟩
def bC (r:Int):Int:=
 if 13312<=r/\r<=19903 then 23 else if 19968<=r/\r<=40959 then 23 else if 127744<=r/\r<=127994 then 23 else if 128000<=r/\r<=128591 then 23 else if 65024<=r/\r<=65039 then 8 else if 127995<=r/\r<=127999 then 8 else if r=65279 then 6 else if 127462<=r/\r<=127487 then 25 else 0
theorem zfY (r:Int) (w:sE):sH Tryz.prog 158 #[.int .i32 r] w fun e w'=>e= .returned (.int .i64 (bC r))/\w'=w:=by
 by_cases h0:13312<=r/\r<=19903
 ·have HV:=hid (show bC r=23 by unfold bC;rw[if_pos h0])
  obtain⟨u0,v0⟩:=h0;go_enter Tryz.func158,Tryz.ntmps158;go_wp2_with (first | (go_at_call 178;(first | refine(af _ _ _ _ (by omega)).mono ?_ | refine(ag _ _ _ _ (by omega)).mono ?_);rintro e w1 ⟨rfl,hw1⟩;obtain rfl:=hw1.symm;clear hw1))
  go_ret;exact⟨by rw[HV.out];rfl,rfl⟩
 by_cases h1:19968<=r/\r<=40959
 ·have HV:=hid (show bC r=23 by unfold bC;rw[if_neg h0,if_pos h1])
  obtain⟨u1,v1⟩:=h1;go_enter Tryz.func158,Tryz.ntmps158;go_wp2_with (first | (go_at_call 178;(first | refine(af _ _ _ _ (by omega)).mono ?_ | refine(ag _ _ _ _ (by omega)).mono ?_);rintro e w1 ⟨rfl,hw1⟩;obtain rfl:=hw1.symm;clear hw1))
  go_ret;exact⟨by rw[HV.out];rfl,rfl⟩
 by_cases h2:127744<=r/\r<=127994
 ·have HV:=hid (show bC r=23 by unfold bC;rw[if_neg h0,if_neg h1,if_pos h2])
  obtain⟨u2,v2⟩:=h2;go_enter Tryz.func158,Tryz.ntmps158;go_wp2_with (first | (go_at_call 178;(first | refine(af _ _ _ _ (by omega)).mono ?_ | refine(ag _ _ _ _ (by omega)).mono ?_);rintro e w1 ⟨rfl,hw1⟩;obtain rfl:=hw1.symm;clear hw1))
  go_ret;exact⟨by rw[HV.out];rfl,rfl⟩
 by_cases h3:128000<=r/\r<=128591
 ·have HV:=hid (show bC r=23 by unfold bC;rw[if_neg h0,if_neg h1,if_neg h2,if_pos h3])
  obtain⟨u3,v3⟩:=h3;go_enter Tryz.func158,Tryz.ntmps158;go_wp2_with (first | (go_at_call 178;(first | refine(af _ _ _ _ (by omega)).mono ?_ | refine(ag _ _ _ _ (by omega)).mono ?_);rintro e w1 ⟨rfl,hw1⟩;obtain rfl:=hw1.symm;clear hw1))
  go_ret;exact⟨by rw[HV.out];rfl,rfl⟩
 by_cases h4:65024<=r/\r<=65039
 ·have HV:=hid (show bC r=8 by unfold bC;rw[if_neg h0,if_neg h1,if_neg h2,if_neg h3,if_pos h4])
  obtain⟨u4,v4⟩:=h4;go_enter Tryz.func158,Tryz.ntmps158;go_wp2_with (first | (go_at_call 178;(first | refine(af _ _ _ _ (by omega)).mono ?_ | refine(ag _ _ _ _ (by omega)).mono ?_);rintro e w1 ⟨rfl,hw1⟩;obtain rfl:=hw1.symm;clear hw1))
  go_ret;exact⟨by rw[HV.out];rfl,rfl⟩
 by_cases h5:127995<=r/\r<=127999
 ·have HV:=hid (show bC r=8 by unfold bC;rw[if_neg h0,if_neg h1,if_neg h2,if_neg h3,if_neg h4,if_pos h5])
  obtain⟨u5,v5⟩:=h5;go_enter Tryz.func158,Tryz.ntmps158;go_wp2_with (first | (go_at_call 178;(first | refine(af _ _ _ _ (by omega)).mono ?_ | refine(ag _ _ _ _ (by omega)).mono ?_);rintro e w1 ⟨rfl,hw1⟩;obtain rfl:=hw1.symm;clear hw1))
  go_ret;exact⟨by rw[HV.out];rfl,rfl⟩
 by_cases h6:r=65279
 ·subst h6
  have HV:=hid (show bC 65279=6 by decide)
  clear h0 h1 h2 h3 h4 h5;go_enter Tryz.func158,Tryz.ntmps158;go_wp2_with (first | (go_at_call 178;(first | refine(af _ _ _ _ (by omega)).mono ?_ | refine(ag _ _ _ _ (by omega)).mono ?_);rintro e w1 ⟨rfl,hw1⟩;obtain rfl:=hw1.symm;clear hw1))
  go_ret;exact⟨by rw[HV.out];rfl,rfl⟩
 by_cases h7:127462<=r/\r<=127487
 ·have HV:=hid (show bC r=25 by unfold bC;rw[if_neg h0,if_neg h1,if_neg h2,if_neg h3,if_neg h4,if_neg h5,if_neg h6,if_pos h7])
  have b6:(r==65279)=false:=beq_eq_false_iff_ne.2 h6;obtain⟨u7,v7⟩:=h7;go_enter Tryz.func158,Tryz.ntmps158;go_wp2_with (first | (go_at_call 178;(first | refine(af _ _ _ _ (by omega)).mono ?_ | refine(ag _ _ _ _ (by omega)).mono ?_);rintro e w1 ⟨rfl,hw1⟩;obtain rfl:=hw1.symm;clear hw1))
  go_ret;exact⟨by rw[HV.out];rfl,rfl⟩
 have HV:=hid (show bC r=0 by unfold bC;rw[if_neg h0,if_neg h1,if_neg h2,if_neg h3,if_neg h4,if_neg h5,if_neg h6,if_neg h7])
 have b6:(r==65279)=false:=beq_eq_false_iff_ne.2 h6;go_enter Tryz.func158,Tryz.ntmps158;go_wp2_with (first | (go_at_call 178;(first | refine(af _ _ _ _ (by omega)).mono ?_ | refine(ag _ _ _ _ (by omega)).mono ?_);rintro e w1 ⟨rfl,hw1⟩;obtain rfl:=hw1.symm;clear hw1))
 go_ret;exact⟨by rw[HV.out];rfl,rfl⟩
def bE (r:Int):Int:=
 if r<128 then aG r else if r<768 then bh r else if r<8192 then br r else if r<8448 then aR r else if r<12544 then aZ r else bC r
theorem ri (r:Int) (w:sE):sH Tryz.prog 127 #[.int .i32 r] w fun e w'=>e= .returned (.int .i64 (bE r))/\w'=w:=by
 by_cases h0:r<128
 ·have HV:=hid (show bE r=aG r by unfold bE;rw[if_pos h0])
  go_enter Tryz.func127,Tryz.ntmps127;go_wp2_with fail;refine(zcZ r w).mono ?_;rintro e w1 ⟨rfl,hw1⟩;obtain rfl:=hw1.symm;clear hw1;go_wp2;go_ret;exact⟨by rw[HV.out];rfl,rfl⟩
 by_cases h1:r<768
 ·have HV:=hid (show bE r=bh r by unfold bE;rw[if_neg h0,if_pos h1])
  go_enter Tryz.func127,Tryz.ntmps127;go_wp2_with fail;refine(zcX r w).mono ?_;rintro e w1 ⟨rfl,hw1⟩;obtain rfl:=hw1.symm;clear hw1;go_wp2;go_ret;exact⟨by rw[HV.out];rfl,rfl⟩
 by_cases h2:r<8192
 ·have HV:=hid (show bE r=br r by unfold bE;rw[if_neg h0,if_neg h1,if_pos h2])
  go_enter Tryz.func127,Tryz.ntmps127;go_wp2_with fail;refine(qn r w).mono ?_;rintro e w1 ⟨rfl,hw1⟩;obtain rfl:=hw1.symm;clear hw1;go_wp2;go_ret;exact⟨by rw[HV.out];rfl,rfl⟩
 by_cases h3:r<8448
 ·have HV:=hid (show bE r=aR r by unfold bE;rw[if_neg h0,if_neg h1,if_neg h2,if_pos h3])
  go_enter Tryz.func127,Tryz.ntmps127;go_wp2_with fail;refine(zcT r w).mono ?_;rintro e w1 ⟨rfl,hw1⟩;obtain rfl:=hw1.symm;clear hw1;go_wp2;go_ret;exact⟨by rw[HV.out];rfl,rfl⟩
 by_cases h4:r<12544
 ·have HV:=hid (show bE r=aZ r by unfold bE;rw[if_neg h0,if_neg h1,if_neg h2,if_neg h3,if_pos h4])
  go_enter Tryz.func127,Tryz.ntmps127;go_wp2_with fail;refine(zfW r w).mono ?_;rintro e w1 ⟨rfl,hw1⟩;obtain rfl:=hw1.symm;clear hw1;go_wp2;go_ret;exact⟨by rw[HV.out];rfl,rfl⟩
 have HV:=hid (show bE r=bC r by unfold bE;rw[if_neg h0,if_neg h1,if_neg h2,if_neg h3,if_neg h4])
 go_enter Tryz.func127,Tryz.ntmps127;go_wp2_with fail;refine(zfY r w).mono ?_;rintro e w1 ⟨rfl,hw1⟩;obtain rfl:=hw1.symm;clear hw1;go_wp2;go_ret;exact⟨by rw[HV.out];rfl,rfl⟩
end
namespace Ln
def bW (K:List Int) (c:Int):Bool:=K.contains c
theorem cD (x:Int) (K:List Int) (c:Int):bW (x::K) c=((c==x) || bW K c):=by unfold bW;rw[List.contains_cons]
def aS (l:List UInt8):Int:=if l=[] then -1 else bE (aV l).1
def aT (l:List UInt8):Int:=if l=[] then -1 else bE (dec l).1
def wth (K:List Int):Nat->List UInt8->List UInt8
 | 0,l=>l
 | f+1,l=>if l=[] then l else if bW K (aS l) then wth K f (qm l) else l
def dy (K:List Int) (l:List UInt8):List UInt8:=wth K l.length l
def aM (l:List UInt8):Int:=aS (dy [8] l)
def dm (K:List Int) (l:List UInt8):List UInt8:=if bW K (aS (dy [8] l)) then qm (dy [8] l) else l
def mF (l:List UInt8):Bool:=aM (dm [14,15] (dm [11,10] l))==20
def cP:Nat->List UInt8->Bool->Bool
 | 0,_,o=>o
 | f+1,l,o=>if aM l=25 then cP f (dm [25] l) (!o) else o
def dp (c:Int):Bool:=bW [1,2,3] c
def bg (a b:Int):Bool:=
 if bW [6,11,10,13,14,15] b then true else if a=9 then true else if a=12 then b==9 else if a=11 then b==24 else if a=10 then b==24 else if a=18 then b==18 else false
def cT (a b:Int):Bool:=bW [6,7] a || (b==7&& !bW [4,17,16] a)
def bM (a b:Int):Bool:=
 if a=12 then true else if a=0 then bW [0,20,9,21,22] b else if a=20 then bW [0,20,9,21,22] b else if a=14 then bW [0,20] b else if a=10 then bW [0,20] b else if a=21 then bW [0,20] b else if a=22 then bW [0,20,23] b else if a=16 then b==20 else if a=15 then b==20 else if a=23 then b==21 else false
def eQ (s:List UInt8) (fr at':Nat):Bool:=
 if cT (aM (s.take at')) (aT (s.drop at')) then true else if bW [12,17,16,24,19] (aT (s.drop at')) then true else if bM (aM (s.take at')) (aT (s.drop at')) then true else
 if bW [21,22] (aT (s.drop at')) then mF (s.take at') else
 if bW [21,22] (aM (s.take at'))&&aT (s.drop at')==9 then aT (s.drop (at'+(dec (s.drop at')).2))==20 else
 if aM (s.take at')=25/\aT (s.drop at')=25 then cP ((s.take at').drop fr).length ((s.take at').drop fr) false else false
def iq (s:List UInt8) (fr at':Nat):Bool:=
 if aS (s.take at')=2/\aT (s.drop at')=3 then false else if dp (aS (s.take at')) then true else
 if dp (aT (s.drop at')) then false else if bW [4,5] (aT (s.drop at')) then false else
 if aS (dy [4] (s.take at'))=5 then true else
 if aS (s.take at')=4 then !bg (aM (dy [4] (s.take at'))) (aT (s.drop at')) else
 !(aT (s.drop at')==8)&& !bg (aM (dy [4] (s.take at'))) (aT (s.drop at'))&& !eQ s fr at'
theorem zaM (l:List UInt8) (h:l≠ []):1<=(aV l).2/\(aV l).2<=l.length:=by
 obtain⟨e,n,c,h1,h2,h3,_⟩:=zkk l h;rw[h1];exact⟨h2,by show n<=_;omega⟩
theorem lY (l:List UInt8) (h:l≠ []):(qm l).length<l.length:=by
 have:=zaM l h;have:0<l.length:=List.length_pos_iff.2 h;unfold qm;rw[sL];omega
theorem zta (l:List UInt8):(qm l).length<=l.length:=by unfold qm;rw[sL];omega
theorem sg (K:List Int):∀(f g:Nat) (l:List UInt8),l.length<=f->l.length<=g->wth K f l=wth K g l
 | 0,g,l,hf,hg=>by
  have:l=[]:=sG.1 (by omega)
  subst this
  cases g<;>simp[wth]
 | f+1,0,l,hf,hg=>by
  have:l=[]:=sG.1 (by omega)
  subst this
  simp[wth]
 | f+1,g+1,l,hf,hg=>by
  unfold wth
  by_cases h:l=[]
  ·rw[if_pos h,if_pos h]
  ·have:=lY l h
   rw[if_neg h,if_neg h,sg K f g (qm l) (by omega) (by omega)]
theorem og (K:List Int) (l:List UInt8) (h:l≠ []) (hk:bW K (aS l)=true):dy K l=dy K (qm l):=by
 have h1:=lY l h;unfold dy;rw[sg K l.length (l.length - 1+1) l (by omega) (by omega)]
 conv=>lhs;unfold wth
 rw[if_neg h,if_pos hk];exact sg K _ _ _ (by omega) (by omega)
theorem sh (K:List Int) (l:List UInt8) (hk:bW K (aS l)=false):dy K l=l:=by
 unfold dy
 cases l.length with
 | zero=>rfl
 | succ n=>
  unfold wth
  by_cases h:l=[]
  ·rw[if_pos h]
  ·rw[if_neg h,hk];rfl
theorem iL (K:List Int):∀(n:Nat) (l:List UInt8),l.length<=n->(dy K l).length<=l.length
 | 0,l,hl=>by
  have:l=[]:=sG.1 (by omega)
  subst this;exact sJ _
 | n+1,l,hl=>by
  by_cases h:l=[]
  ·subst h;exact sJ _
  ·cases hk:bW K (aS l) with
   | true=>
    have h1:=lY l h;rw[og K l h hk];exact sQ (iL K n (qm l) (by omega)) (Nat.le_of_lt h1)
   | false=>rw[sh K l hk];exact sJ _
theorem rh {l:List UInt8} {K:List Int} (hK:bW K (-1)=false) (h:bW K (aS l)=true):l≠ []:=fun e=>by
 subst e;rw[show aS []= -1 from rfl,hK] at h
 cases h
theorem zcU (K:List Int) (l:List UInt8):(dm K l).length<=l.length:=by
 unfold dm
 split
 ·exact sQ (zta _) (iL _ _ l (sJ _))
 ·exact sJ _
theorem kP (K:List Int) (l:List UInt8) (hK:bW K (-1)=false) (h:bW K (aM l)=true):(dm K l).length<l.length:=by
 have h':bW K (aS (dy [8] l))=true:=h;unfold dm;rw[if_pos h'];exact sP (lY _ (rh hK h')) (iL _ _ l (sJ _))
theorem lZ:∀(f g:Nat) (l:List UInt8) (o:Bool),l.length<=f->l.length<=g->cP f l o=cP g l o
 | 0,g,l,o,hf,hg=>by
  have:l=[]:=sG.1 (by omega)
  subst this
  cases g with
  | zero=>rfl
  | succ g=>unfold cP;rw[if_neg (show ¬aM []=25 by decide)]
 | f+1,0,l,o,hf,hg=>by
  have:l=[]:=sG.1 (by omega)
  subst this;unfold cP;rw[if_neg (show ¬aM []=25 by decide)]
 | f+1,g+1,l,o,hf,hg=>by
  unfold cP
  by_cases h:aM l=25
  ·have h1:=kP [25] l (by decide) (by rw[h];decide)
   rw[if_pos h,if_pos h,lZ f g _ _ (by omega) (by omega)]
  ·rw[if_neg h,if_neg h]
theorem rf (l:List UInt8) (o:Bool) (h:aM l=25):cP l.length l o=cP (dm [25] l).length (dm [25] l) (!o):=by
 have h1:=kP [25] l (by decide) (by rw[h];decide)
 rw[lZ l.length (l.length - 1+1) l o (by omega) (by omega)]
 conv=>lhs;unfold cP
 rw[if_pos h];exact lZ _ _ _ _ (by omega) (by omega)
theorem zcV (l:List UInt8) (o:Bool) (h:¬aM l=25):cP l.length l o=o:=by
 cases l.length with
 | zero=>rfl
 | succ n=>unfold cP;rw[if_neg h]
end Ln
namespace Ln
open Go.RowKit
structure Tb (w:sE):Prop where
 tabs:sI 0 1 w
 two:2<=w.heap.size
theorem Tb.below {w w':sE} (h:Tb w) (hb:sK w.heap.size w w'):Tb w':=⟨ot h.tabs h.two hb,sQ h.two hb.size⟩
theorem below_box {w:sE} {o:Obj}:sK w.heap.size w (w.alloc o):=(sD _ _).alloc (sJ _) _
def RdI (w:sE) (ao:Option Addr) (l:List Int):Prop:=
 ∀(k:Nat) (z:Int),l[k]? =some z->∃a:Addr,ao=some a/\a.block<w.heap.size/\w.cell? (a.add k)=some (.int .i64 z)
theorem RdI.below {w w':sE} {ao:Option Addr} {l:List Int} (h:RdI w ao l) (hb:sK w.heap.size w w'):RdI w' ao l:=fun k z hk=>by
 obtain⟨a,h1,h2,h3⟩:=h k z hk;exact⟨a,h1,sP h2 hb.size,(hb.cell (p:=a.add k) (by rw[add_blk];exact h2)).trans h3⟩
theorem zak (w:sE) (K:List Int) (T:TypeId):RdI (w.alloc (.cells (K.map fun z=>sM .i64 z).toArray T)) (some ⟨w.heap.size,0,none⟩) K:=fun k z hk=>by
 refine⟨_,rfl,by simp,?_⟩
 rw[Addr.add_lit,Nat.zero_add,cell_of_row _ _ _ _ T (0,0) (heap_alloc_new w _)]
 simp[hk]
theorem mf (c:Int) (ao:Option Addr) (n cap:Nat) (K:List Int) (w:sE) (h:RdI w ao K) (hn:n=K.length) (hl:n<=1000):
  sH Tryz.prog 95 #[.int .i64 c,.slice ao n cap] w fun e w'=>e= .returned (.bool (bW K c))/\w'=w:=by
 have HR:=hid h;have HN:=hid hn;clear h hn;go_enter Tryz.func95,Tryz.ntmps95;go_wp2;go_loopw [9] (fun fr wr=>∃k:Nat,fr= .int .i64 k/\k<=n/\Hid (bW K c=bW (K.drop k) c)/\wr=w) (fun fr _=>n - (intOf fr).toNat)
 case atStart=>exact⟨0,rfl,Nat.zero_le _,by simp[Hid],rfl⟩
 case round=>
  obtain⟨k,rfl,hk,HK,hwr⟩:=hrel;obtain rfl:=hwr.symm;clear hwr
  by_cases hkn:k<n
  ·have hk':k<K.length:=by have:=HN.out;omega
   obtain⟨a,rfl,_,hc⟩:=HR.out k K[k] (List.getElem?_eq_getElem hk');have hi:(k:Int)<(n:Int):=by omega
   obtain⟨x,hx⟩:∃x,x=K[k]:=⟨_,rfl⟩;rw[<- hx] at hc;have HD:=hid (show K.drop k=x::K.drop (k+1) by rw[hx];exact List.drop_eq_getElem_cons hk')
   clear hx
   by_cases hcx:c=x
   ·subst hcx
    have hcc:(c==c)=true:=beq_self_eq_true c;go_wp2;go_ret;exact⟨by rw[HK.out,HD.out,cD,hcc];rfl,rfl⟩
   ·have hcc:(c==x)=false:=beq_eq_false_iff_ne.2 hcx
    go_wp2;go_roundw
    case rel=>exact⟨k+1,by simp,by omega,by show _=_;rw[HK.out,HD.out,cD,hcc,Bool.false_or],trivial⟩
    case measure=>simp[intOf];omega
  ·have hi:¬(k:Int)<(n:Int):=by omega
   have HE:=hid (show bW K c=false by rw[HK.out,List.drop_of_length_le (by have:=HN.out;omega)];rfl)
   go_wp2;go_ret;exact⟨by rw[HE.out];rfl,rfl⟩
theorem bi (c:Int) (K:List Int) (w:sE) (hK:K.length<=1000):
  sH Tryz.prog 95 #[.int .i64 c,.slice (some ⟨w.heap.size,0,none⟩) K.length K.length] (w.alloc (.cells (K.map fun z=>sM .i64 z).toArray 3)) fun e w'=>e= .returned (.bool (bW K c))/\sK w.heap.size w w':=
 (mf c _ _ _ K _ (zak w K 3) rfl hK).mono fun e w' ⟨h1,h2⟩=>⟨h1,by rw[h2];exact below_box⟩
theorem d8 (c:Int) (w:sE):sH Tryz.prog 93 #[.int .i64 c] w fun e w'=>e= .returned (.bool (dp c))/\sK w.heap.size w w':=by
 go_enter Tryz.func93,Tryz.ntmps93;go_wp2_with fail;refine(bi c [1,2,3] w (by decide)).mono ?_
 rintro e w1 ⟨rfl,be⟩;go_wp2;go_ret;exact⟨by unfold dp;rfl,be⟩
theorem first_any (l:List UInt8) (w:sE) (ht:Tb w):
  sH Tryz.prog 94 #[.string ⟨l.toArray⟩] w fun e w'=>e= .returned (.tuple #[.int .i64 (aT l),.int .i64 (dec l).2])/\sK w.heap.size w w':=by
 by_cases h:l=[]
 ·subst h
  go_enter Tryz.func94,Tryz.ntmps94;go_wp2;go_ret2;exact⟨rfl,sD _ _⟩
 ·have HV:=hid (show aT l=bE (dec l).1 from if_neg h)
  have he:l.isEmpty=false:=by simpa using h
  have HT:=hid ht;clear h ht;go_enter Tryz.func94,Tryz.ntmps94;go_wp2_with fail;refine(pL l w HT.out.tabs).mono ?_;rintro e w1 ⟨rfl,be⟩;have HB:=hid be;clear be;obtain⟨r,hr⟩:∃r:Int,r=((dec l).1:Int):=⟨_,rfl⟩;obtain⟨n,hn⟩:∃n:Nat,n=(dec l).2:=⟨_,rfl⟩;have HN:=hid hn;rw[<- hr] at HV;rw[<- hr,<- hn];clear hr hn;go_wp2_with fail;refine(ri r w1).mono ?_;rintro e w2 ⟨rfl,hw2⟩;obtain rfl:=hw2.symm;clear hw2;go_wp2;go_ret2;exact⟨by rw[HV.out,<- HN.out];rfl,HB.out⟩
theorem d9 (l:List UInt8) (w:sE) (ht:Tb w) (hl:l.length<=1000000000):
  sH Tryz.prog 92 #[.string ⟨l.toArray⟩] w fun e w'=>e= .returned (.tuple #[.int .i64 (aS l),.int .i64 (aV l).2])/\sK w.heap.size w w':=by
 by_cases h:l=[]
 ·subst h
  go_enter Tryz.func92,Tryz.ntmps92;go_wp2;go_ret2;exact⟨rfl,sD _ _⟩
 ·have HV:=hid (show aS l=bE (aV l).1 from if_neg h)
  have he:l.isEmpty=false:=by simpa using h
  have HT:=hid ht;clear h ht;go_enter Tryz.func92,Tryz.ntmps92;go_wp2_with fail;refine(znC l w (by omega) HT.out.tabs).mono ?_
  rintro e w1 ⟨rfl,be⟩;have HB:=hid be;clear be;obtain⟨r,hr⟩:∃r:Int,r=((aV l).1:Int):=⟨_,rfl⟩;obtain⟨n,hn⟩:∃n:Nat,n=(aV l).2:=⟨_,rfl⟩;have HN:=hid hn;rw[<- hr] at HV;rw[<- hr,<- hn];clear hr hn;go_wp2_with fail;refine(ri r w1).mono ?_;rintro e w2 ⟨rfl,hw2⟩;obtain rfl:=hw2.symm;clear hw2;go_wp2;go_ret2;exact⟨by rw[HV.out,<- HN.out];rfl,HB.out⟩
end Ln
namespace Ln
open Go.RowKit
theorem ext_take (l:List UInt8) (t:Nat):(⟨l.toArray⟩:ByteArray).extract 0 t=⟨(l.take t).toArray⟩:=by
 apply sT
 simp[sO]
def zla:Value->Nat
 | .string s=>s.size
 | _=>0
theorem zbK (l:List UInt8) (ao:Option Addr) (n cap:Nat) (K:List Int) (w:sE) (ht:Tb w) (hl:l.length<=1000000000) (h:RdI w ao K) (hn:n=K.length) (hnl:n<=1000) (hK:bW K (-1)=false):
  sH Tryz.prog 90 #[.string ⟨l.toArray⟩,.slice ao n cap] w fun e w'=>e= .returned (.string ⟨(dy K l).toArray⟩)/\sK w.heap.size w w':=by
 have HT:=hid ht;have HR:=hid h;have HN:=hid hn;have HK:=hid hK;clear ht h hn hK;go_enter Tryz.func90,Tryz.ntmps90;go_wp2;go_step3;go_wp2;go_step3;go_wp2;go_loopw [0] (fun fr wr=>∃l':List UInt8,fr= .string ⟨l'.toArray⟩/\l'.length<=1000000000/\Hid (dy K l=dy K l')/\sK w.heap.size w wr) (fun fr _=>zla fr)
 case atStart=>exact⟨l,rfl,hl,rfl,sD _ _⟩
 case round=>
  obtain⟨l',rfl,hl',HW,hB⟩:=hrel;have HB:=hid hB;clear hB
  by_cases he:l'=[]
  ·subst he
   have HE:=hid (show dy K l=[] by rw[HW.out];rfl)
   go_wp2;rw[Exit.noGoto_ret];go_ret;exact⟨by rw[HE.out];rfl,HB.out⟩
  ·have he':l'.isEmpty=false:=by simpa using he
   obtain⟨hb1,hb2⟩:=zaM l' he;have HNE:=hid he;clear he;go_wp2_with fail;refine(d9 l' wr (HT.out.below HB.out) hl').mono ?_;rintro e w1 ⟨rfl,be1⟩;have HB1:=hid (HB.out.trans (be1.mono HB.out.size));obtain⟨c,hc⟩:∃c:Int,c=aS l':=⟨_,rfl⟩;obtain⟨m,hm⟩:∃m:Nat,m=(aV l').2:=⟨_,rfl⟩;have HC:=hid hc;have HM:=hid hm;rw[<- hm] at hb1 hb2;rw[<- hc,<- hm];clear hc hm be1 HB;go_wp2_with fail;refine(mf c ao n cap K w1 (HR.out.below HB1.out) HN.out hnl).mono ?_;rintro e w2 ⟨rfl,hw2⟩;obtain rfl:=hw2.symm;clear hw2;obtain⟨b,hb⟩:∃b,b=bW K c:=⟨_,rfl⟩;have HBB:=hid hb;rw[<- hb];clear hb
   cases b with
   | true=>
    have HY:=hid (show dy K l=dy K (qm l') from HW.out.trans (og K l' HNE.out (by rw[<- HC.out,<- HBB.out])))
    have HLT:=hid (lY l' HNE.out);have HLE:=hid (show qm l'=l'.take (l'.length - m) by unfold qm;rw[HM.out])
    go_wp2;rw[ext_take,<- HLE.out];exact⟨⟨qm l',rfl,by have:=HLT.out;omega,HY.out,HB1.out⟩,by have:=HLT.out;show(qm l').toArray.size<l'.toArray.size;simpa using this⟩
   | false=>
    have HY:=hid (show dy K l=l' from HW.out.trans (sh K l' (by rw[<- HC.out,<- HBB.out])))
    go_wp2;rw[Exit.noGoto_ret];go_ret;exact⟨by rw[HY.out];rfl,HB1.out⟩
theorem gV (l:List UInt8) (K:List Int) (w:sE) (ht:Tb w) (hl:l.length<=1000000000) (hK:K.length<=1000) (hn:bW K (-1)=false):
  sH Tryz.prog 90 #[.string ⟨l.toArray⟩,.slice (some ⟨w.heap.size,0,none⟩) K.length K.length] (w.alloc (.cells (K.map fun z=>sM .i64 z).toArray 3)) fun e w'=>e= .returned (.string ⟨(dy K l).toArray⟩)/\sK w.heap.size w w':=
 (zbK l _ _ _ K _ (ht.below below_box) hl (zak w K 3) rfl hK hn).mono fun _ _ ⟨h1,h2⟩=>⟨h1,below_box.trans (h2.mono below_box.size)⟩
theorem iK (l:List UInt8) (w:sE) (ht:Tb w) (hl:l.length<=1000000000):
  sH Tryz.prog 97 #[.string ⟨l.toArray⟩] w fun e w'=>e= .returned (.int .i64 (aM l))/\sK w.heap.size w w':=by
 have HT:=hid ht;clear ht;go_enter Tryz.func97,Tryz.ntmps97;go_wp2_with fail;refine(gV l [8] w HT.out hl (by decide) (by decide)).mono ?_
 rintro e w1 ⟨rfl,be⟩;have HB:=hid be;have hle:=iL [8] _ l (sJ _);obtain⟨b,hb⟩:∃b,b=dy [8] l:=⟨_,rfl⟩;have HV:=hid (show aM l=aS b by rw[hb];rfl)
 rw[<- hb] at hle;rw[<- hb];clear hb be;go_wp2_with fail;refine(d9 b w1 (HT.out.below HB.out) (by omega)).mono ?_
 rintro e w2 ⟨rfl,be⟩;have HB2:=hid (HB.out.trans (be.mono HB.out.size));obtain⟨c,hc⟩:∃c:Int,c=aS b:=⟨_,rfl⟩;have HC:=hid hc;obtain⟨m,hm⟩:∃m:Nat,m=(aV b).2:=⟨_,rfl⟩;rw[<- hc,<- hm];clear hc be hm;go_wp2;go_ret;exact⟨by rw[HV.out,<- HC.out];rfl,HB2.out⟩
theorem eu (l:List UInt8) (K:List Int) (w:sE) (ht:Tb w) (hl:l.length<=1000000000) (hK:K.length<=1000) (hn:bW K (-1)=false):
  sH Tryz.prog 159 #[.string ⟨l.toArray⟩,.slice (some ⟨w.heap.size,0,none⟩) K.length K.length] (w.alloc (.cells (K.map fun z=>sM .i64 z).toArray 3)) fun e w'=>e= .returned (.string ⟨(dm K l).toArray⟩)/\sK w.heap.size w w':=by
 obtain⟨W,hW⟩:∃W,W=w.alloc (.cells (K.map fun z=>sM .i64 z).toArray 3):=⟨_,rfl⟩
 have hR:=zak w K 3;have hB0:=below_box (w:=w) (o:=.cells (K.map fun z=>sM .i64 z).toArray 3)
 rw[<- hW] at hR hB0;rw[<- hW];have HT:=hid (ht.below hB0);have HR:=hid hR;have HB0:=hid hB0;have HN:=hid hn;obtain⟨ao,hao⟩:∃ao:Option Addr,ao=some ⟨w.heap.size,0,none⟩:=⟨_,rfl⟩;obtain⟨n,hnn⟩:∃n,n=K.length:=⟨_,rfl⟩;have HNN:=hid hnn;rw[<- hao] at HR;rw[<- hao,<- hnn];rw[<- hnn] at hK;clear hW hR hB0 hao hnn ht hn;go_enter Tryz.func159,Tryz.ntmps159;go_wp2_with fail;refine(gV l [8] W HT.out hl (by decide) (by decide)).mono ?_
 rintro e w1 ⟨rfl,be⟩;have HB:=hid be;have hle:=iL [8] _ l (sJ _);obtain⟨b,hb⟩:∃b,b=dy [8] l:=⟨_,rfl⟩;have HV:=hid (show dm K l=if bW K (aS b) then qm b else l by rw[hb];rfl)
 rw[<- hb] at hle;rw[<- hb];clear hb be;go_wp2_with fail;refine(d9 b w1 (HT.out.below HB.out) (by omega)).mono ?_
 rintro e w2 ⟨rfl,be⟩;have HB2:=hid (HB.out.trans (be.mono HB.out.size));obtain⟨c,hc⟩:∃c:Int,c=aS b:=⟨_,rfl⟩;obtain⟨m,hm⟩:∃m:Nat,m=(aV b).2:=⟨_,rfl⟩;have HC:=hid hc;have HM:=hid hm;rw[<- hc,<- hm];clear hc hm be;go_wp2_with fail;refine(mf c ao n n K w2 (HR.out.below HB2.out) HNN.out hK).mono ?_;rintro e w3 ⟨rfl,hw3⟩;obtain rfl:=hw3.symm;clear hw3;obtain⟨q,hq⟩:∃q,q=bW K c:=⟨_,rfl⟩;have HQ:=hid hq;have HBW:=hid (HB0.out.trans (HB2.out.mono HB0.out.size));rw[<- hq];clear hq
 cases q with
 | true=>
  have hne:b≠ []:=rh HN.out (by rw[<- HC.out,<- HQ.out])
  have HLE:=hid (show dm K l=b.take (b.length - m) by rw[HV.out,<- HC.out,<- HQ.out,if_pos rfl];unfold qm;rw[HM.out])
  obtain⟨hb1,hb2⟩:=zaM b hne;rw[<- HM.out] at hb1 hb2;clear hne;go_wp2;go_ret;exact⟨by rw[HLE.out,<- ext_take];rfl,HBW.out⟩
 | false=>
  have HLE:=hid (show dm K l=l by rw[HV.out,<- HC.out,<- HQ.out];rfl)
  go_wp2;go_ret;exact⟨by rw[HLE.out];rfl,HBW.out⟩
end Ln
namespace Ln
open Go.RowKit
theorem zeC (a b:Int) (w:sE):sH Tryz.prog 96 #[.int .i64 a,.int .i64 b] w fun e w'=>e= .returned (.bool (bg a b))/\sK w.heap.size w w':=by
 have HB0:=hid (sD w.heap.size w);go_enter Tryz.func96,Tryz.ntmps96;go_wp2_with fail;refine(bi b [6,11,10,13,14,15] w (by decide)).mono ?_
 rintro e w1 ⟨rfl,be⟩;have HB1:=hid (HB0.out.trans (be.mono HB0.out.size));obtain⟨q1,hq1⟩:∃q,q=bW [6,11,10,13,14,15] b:=⟨_,rfl⟩;have HQ1:=hid hq1;rw[<- hq1];clear hq1 be
 cases q1 with
 | true=>
  have HV:=hid (show bg a b=true by unfold bg;rw[<- HQ1.out];rfl)
  go_wp2;go_ret;exact⟨by rw[HV.out];rfl,HB1.out⟩
 | false=>
  by_cases h0:a=9
  ·subst h0
   have HV:=hid (show bg 9 b=true by unfold bg;rw[<- HQ1.out];rfl)
   clear HQ1;go_wp2;go_ret;exact⟨by rw[HV.out];rfl,HB1.out⟩
  by_cases h1:a=12
  ·subst h1
   have HV:=hid (show bg 12 b=(b==9) by unfold bg;rw[<- HQ1.out];rfl)
   clear HQ1 h0;go_wp2;go_ret;exact⟨by rw[HV.out];rfl,HB1.out⟩
  by_cases h2:a=11
  ·subst h2
   have HV:=hid (show bg 11 b=(b==24) by unfold bg;rw[<- HQ1.out];rfl)
   clear HQ1 h0 h1;go_wp2;go_ret;exact⟨by rw[HV.out];rfl,HB1.out⟩
  by_cases h3:a=10
  ·subst h3
   have HV:=hid (show bg 10 b=(b==24) by unfold bg;rw[<- HQ1.out];rfl)
   clear HQ1 h0 h1 h2;go_wp2;go_ret;exact⟨by rw[HV.out];rfl,HB1.out⟩
  by_cases h4:a=18
  ·subst h4
   have HV:=hid (show bg 18 b=(b==18) by unfold bg;rw[<- HQ1.out];rfl)
   clear HQ1 h0 h1 h2 h3;go_wp2;go_ret;exact⟨by rw[HV.out];rfl,HB1.out⟩
  have HV:=hid (show bg a b=false by unfold bg;rw[<- HQ1.out,if_neg (by decide),if_neg h0,if_neg h1,if_neg h2,if_neg h3,if_neg h4])
  have b0:(a==9)=false:=beq_eq_false_iff_ne.2 h0;have b1:(a==12)=false:=beq_eq_false_iff_ne.2 h1;have b2:(a==11)=false:=beq_eq_false_iff_ne.2 h2;have b3:(a==10)=false:=beq_eq_false_iff_ne.2 h3;have b4:(a==18)=false:=beq_eq_false_iff_ne.2 h4;go_wp2;go_ret;exact⟨by rw[HV.out];rfl,HB1.out⟩
theorem sr (a b:Int) (w:sE):sH Tryz.prog 129 #[.int .i64 a,.int .i64 b] w fun e w'=>e= .returned (.bool (bM a b))/\sK w.heap.size w w':=by
 have HB0:=hid (sD w.heap.size w)
 by_cases h0:a=12
 ·subst h0
  have HV:=hid (show bM 12 b=true by unfold bM;rfl)
  go_enter Tryz.func129,Tryz.ntmps129;go_wp2;go_ret;exact⟨by rw[HV.out];rfl,HB0.out⟩
 by_cases h1:a=0
 ·subst h1
  clear h0;have HV:=hid (show bM 0 b=bW [0,20,9,21,22] b by unfold bM;rfl)
  go_enter Tryz.func129,Tryz.ntmps129;go_wp2_with fail;refine(bi b [0,20,9,21,22] w (by decide)).mono ?_
  rintro e w1 ⟨rfl,be⟩;have HB1:=hid (HB0.out.trans (be.mono HB0.out.size));obtain⟨q1,hq1⟩:∃q,q=bW [0,20,9,21,22] b:=⟨_,rfl⟩;have HQ1:=hid hq1;rw[<- hq1];clear hq1 be;go_wp2;go_ret;exact⟨by rw[HV.out,<- HQ1.out];rfl,HB1.out⟩
 by_cases h2:a=20
 ·subst h2
  clear h0 h1;have HV:=hid (show bM 20 b=bW [0,20,9,21,22] b by unfold bM;rfl)
  go_enter Tryz.func129,Tryz.ntmps129;go_wp2_with fail;refine(bi b [0,20,9,21,22] w (by decide)).mono ?_
  rintro e w1 ⟨rfl,be⟩;have HB1:=hid (HB0.out.trans (be.mono HB0.out.size));obtain⟨q1,hq1⟩:∃q,q=bW [0,20,9,21,22] b:=⟨_,rfl⟩;have HQ1:=hid hq1;rw[<- hq1];clear hq1 be;go_wp2;go_ret;exact⟨by rw[HV.out,<- HQ1.out];rfl,HB1.out⟩
 by_cases h3:a=14
 ·subst h3
  clear h0 h1 h2;have HV:=hid (show bM 14 b=bW [0,20] b by unfold bM;rfl)
  go_enter Tryz.func129,Tryz.ntmps129;go_wp2_with fail;refine(bi b [0,20] w (by decide)).mono ?_
  rintro e w1 ⟨rfl,be⟩;have HB1:=hid (HB0.out.trans (be.mono HB0.out.size));obtain⟨q1,hq1⟩:∃q,q=bW [0,20] b:=⟨_,rfl⟩;have HQ1:=hid hq1;rw[<- hq1];clear hq1 be;go_wp2;go_ret;exact⟨by rw[HV.out,<- HQ1.out];rfl,HB1.out⟩
 by_cases h4:a=10
 ·subst h4
  clear h0 h1 h2 h3;have HV:=hid (show bM 10 b=bW [0,20] b by unfold bM;rfl)
  go_enter Tryz.func129,Tryz.ntmps129;go_wp2_with fail;refine(bi b [0,20] w (by decide)).mono ?_
  rintro e w1 ⟨rfl,be⟩;have HB1:=hid (HB0.out.trans (be.mono HB0.out.size));obtain⟨q1,hq1⟩:∃q,q=bW [0,20] b:=⟨_,rfl⟩;have HQ1:=hid hq1;rw[<- hq1];clear hq1 be;go_wp2;go_ret;exact⟨by rw[HV.out,<- HQ1.out];rfl,HB1.out⟩
 by_cases h5:a=21
 ·subst h5
  clear h0 h1 h2 h3 h4;have HV:=hid (show bM 21 b=bW [0,20] b by unfold bM;rfl)
  go_enter Tryz.func129,Tryz.ntmps129;go_wp2_with fail;refine(bi b [0,20] w (by decide)).mono ?_
  rintro e w1 ⟨rfl,be⟩;have HB1:=hid (HB0.out.trans (be.mono HB0.out.size));obtain⟨q1,hq1⟩:∃q,q=bW [0,20] b:=⟨_,rfl⟩;have HQ1:=hid hq1;rw[<- hq1];clear hq1 be;go_wp2;go_ret;exact⟨by rw[HV.out,<- HQ1.out];rfl,HB1.out⟩
 by_cases h6:a=22
 ·subst h6
  clear h0 h1 h2 h3 h4 h5;have HV:=hid (show bM 22 b=bW [0,20,23] b by unfold bM;rfl)
  go_enter Tryz.func129,Tryz.ntmps129;go_wp2_with fail;refine(bi b [0,20,23] w (by decide)).mono ?_
  rintro e w1 ⟨rfl,be⟩;have HB1:=hid (HB0.out.trans (be.mono HB0.out.size));obtain⟨q1,hq1⟩:∃q,q=bW [0,20,23] b:=⟨_,rfl⟩;have HQ1:=hid hq1;rw[<- hq1];clear hq1 be;go_wp2;go_ret;exact⟨by rw[HV.out,<- HQ1.out];rfl,HB1.out⟩
 by_cases h7:a=16
 ·subst h7
  clear h0 h1 h2 h3 h4 h5 h6;have HV:=hid (show bM 16 b=(b==20) by unfold bM;rfl)
  go_enter Tryz.func129,Tryz.ntmps129;go_wp2;go_ret;exact⟨by rw[HV.out];rfl,HB0.out⟩
 by_cases h8:a=15
 ·subst h8
  clear h0 h1 h2 h3 h4 h5 h6 h7;have HV:=hid (show bM 15 b=(b==20) by unfold bM;rfl)
  go_enter Tryz.func129,Tryz.ntmps129;go_wp2;go_ret;exact⟨by rw[HV.out];rfl,HB0.out⟩
 by_cases h9:a=23
 ·subst h9
  clear h0 h1 h2 h3 h4 h5 h6 h7 h8;have HV:=hid (show bM 23 b=(b==21) by unfold bM;rfl)
  go_enter Tryz.func129,Tryz.ntmps129;go_wp2;go_ret;exact⟨by rw[HV.out];rfl,HB0.out⟩
 have HV:=hid (show bM a b=false by unfold bM;rw[if_neg h0,if_neg h1,if_neg h2,if_neg h3,if_neg h4,if_neg h5,if_neg h6,if_neg h7,if_neg h8,if_neg h9])
 have b0:(a==12)=false:=beq_eq_false_iff_ne.2 h0;have b1:(a==0)=false:=beq_eq_false_iff_ne.2 h1;have b2:(a==20)=false:=beq_eq_false_iff_ne.2 h2;have b3:(a==14)=false:=beq_eq_false_iff_ne.2 h3;have b4:(a==10)=false:=beq_eq_false_iff_ne.2 h4;have b5:(a==21)=false:=beq_eq_false_iff_ne.2 h5;have b6:(a==22)=false:=beq_eq_false_iff_ne.2 h6;have b7:(a==16)=false:=beq_eq_false_iff_ne.2 h7;have b8:(a==15)=false:=beq_eq_false_iff_ne.2 h8;have b9:(a==23)=false:=beq_eq_false_iff_ne.2 h9;go_enter Tryz.func129,Tryz.ntmps129;go_wp2;go_ret;exact⟨by rw[HV.out];rfl,HB0.out⟩
theorem zko (a b:Int) (w:sE):sH Tryz.prog 128 #[.int .i64 a,.int .i64 b] w fun e w'=>e= .returned (.bool (cT a b))/\sK w.heap.size w w':=by
 have HB0:=hid (sD w.heap.size w);go_enter Tryz.func128,Tryz.ntmps128;go_wp2_with fail;refine(bi a [6,7] w (by decide)).mono ?_
 rintro e w1 ⟨rfl,be⟩;have HB1:=hid (HB0.out.trans (be.mono HB0.out.size));obtain⟨q1,hq1⟩:∃q,q=bW [6,7] a:=⟨_,rfl⟩;have HQ1:=hid hq1;rw[<- hq1];clear hq1 be
 cases q1 with
 | true=>
  have HV:=hid (show cT a b=true by unfold cT;rw[<- HQ1.out];rfl)
  go_wp2;go_ret;exact⟨by rw[HV.out];rfl,HB1.out⟩
 | false=>
  by_cases h7:b=7
  ·subst h7
   go_wp2_with fail;refine(bi a [4,17,16] w1 (by decide)).mono ?_
   rintro e w2 ⟨rfl,be⟩;have HB2:=hid (HB1.out.trans (be.mono HB1.out.size));obtain⟨q2,hq2⟩:∃q,q=bW [4,17,16] a:=⟨_,rfl⟩;have HQ2:=hid hq2;rw[<- hq2];clear hq2 be;have HV:=hid (show cT a 7= !q2 by unfold cT;rw[<- HQ1.out,<- HQ2.out];rfl)
   go_wp2;go_ret;exact⟨by rw[HV.out];rfl,HB2.out⟩
  ·have b7:(b==7)=false:=beq_eq_false_iff_ne.2 h7
   have HV:=hid (show cT a b=false by unfold cT;rw[<- HQ1.out,b7];rfl)
   go_wp2;go_ret;exact⟨by rw[HV.out];rfl,HB1.out⟩
theorem zfJ (l:List UInt8) (w:sE) (ht:Tb w) (hl:l.length<=1000000000):
  sH Tryz.prog 130 #[.string ⟨l.toArray⟩] w fun e w'=>e= .returned (.bool (mF l))/\sK w.heap.size w w':=by
 have HT:=hid ht;clear ht;go_enter Tryz.func130,Tryz.ntmps130;go_wp2_with fail;refine(eu l [11,10] w HT.out hl (by decide) (by decide)).mono ?_
 rintro e w1 ⟨rfl,be⟩;have HB1:=hid be;have hle:=zcU [11,10] l;obtain⟨l1,h1⟩:∃l1,l1=dm [11,10] l:=⟨_,rfl⟩;have H1:=hid h1;rw[<- h1] at hle;rw[<- h1];clear h1 be;go_wp2_with fail;refine(eu l1 [14,15] w1 (HT.out.below HB1.out) (by omega) (by decide) (by decide)).mono ?_
 rintro e w2 ⟨rfl,be⟩;have HB2:=hid (HB1.out.trans (be.mono HB1.out.size));have hle2:=zcU [14,15] l1;obtain⟨l2,h2⟩:∃l2,l2=dm [14,15] l1:=⟨_,rfl⟩;have HV:=hid (show mF l=(aM l2==20) by rw[h2,H1.out];rfl)
 rw[<- h2] at hle2;rw[<- h2];clear h2 be;go_wp2_with fail;refine(iK l2 w2 (HT.out.below HB2.out) (by omega)).mono ?_
 rintro e w3 ⟨rfl,be⟩;have HB3:=hid (HB2.out.trans (be.mono HB2.out.size));clear be;obtain⟨c,hc⟩:∃c,c=aM l2:=⟨_,rfl⟩;rw[<- hc] at HV;rw[<- hc];clear hc;go_wp2;go_ret;exact⟨by rw[HV.out];rfl,HB3.out⟩
theorem zhG (l:List UInt8) (w:sE) (ht:Tb w) (hl:l.length<=1000000000):
  sH Tryz.prog 131 #[.string ⟨l.toArray⟩] w fun e w'=>e= .returned (.bool (cP l.length l false))/\sK w.heap.size w w':=by
 have HT:=hid ht;clear ht;go_enter Tryz.func131,Tryz.ntmps131;go_wp2;go_loopw [0,3] (fun fs fo wr=>∃(l':List UInt8) (o:Bool),fs= .string ⟨l'.toArray⟩/\fo= .bool o/\l'.length<=1000000000/\Hid (cP l.length l false=cP l'.length l' o)/\sK w.heap.size w wr) (fun fs _ _=>zla fs)
 case atStart=>exact⟨l,false,rfl,rfl,hl,rfl,sD _ _⟩
 case round=>
  obtain⟨l',o,rfl,rfl,hl',HW,hB⟩:=hrel;have HB:=hid hB;clear hB;go_wp2_with fail;refine(iK l' wr (HT.out.below HB.out) hl').mono ?_;rintro e w1 ⟨rfl,be⟩;have HB1:=hid (HB.out.trans (be.mono HB.out.size));clear be
  by_cases h25:aM l'=25
  ·have HL:=hid (kP [25] l' (by decide) (by rw[h25];decide))
   have HY:=hid (HW.out.trans (rf l' o h25));rw[h25];clear h25;go_wp2_with fail;refine(eu l' [25] w1 (HT.out.below HB1.out) hl' (by decide) (by decide)).mono ?_
   rintro e w2 ⟨rfl,be⟩;have HB2:=hid (HB1.out.trans (be.mono HB1.out.size));clear be;obtain⟨l2,h2⟩:∃l2,l2=dm [25] l':=⟨_,rfl⟩;rw[<- h2] at HL HY;rw[<- h2];clear h2;go_wp2;exact⟨⟨l2, !o,rfl,rfl,by have:=HL.out;omega,HY.out,HB2.out⟩,by have:=HL.out;show l2.toArray.size<l'.toArray.size;simpa using this⟩
  ·have HY:=hid (HW.out.trans (zcV l' o h25))
   obtain⟨c,hc⟩:∃c,c=aM l':=⟨_,rfl⟩;rw[<- hc] at h25;rw[<- hc];have b25:(c==25)=false:=beq_eq_false_iff_ne.2 h25;clear hc h25;go_wp2;go_ret;exact⟨by rw[HY.out];rfl,HB1.out⟩
end Ln
namespace Ln
open Go.RowKit
theorem ext_mid (l:List UInt8) (a b:Nat):(⟨l.toArray⟩:ByteArray).extract a b=⟨((l.take b).drop a).toArray⟩:=by
 apply sT
 simp[sO,List.drop_take]
theorem zqX (l:List UInt8):(dec l).2<=l.length:=by
 by_cases h:l=[]
 ·subst h;exact sJ _
 ·exact dec_le l h
theorem zgn (s:List UInt8) (fr p:Nat) (w:sE) (ht:Tb w) (hl:s.length<=1000000000) (hp:p<=s.length) (hf:fr<=p):
  sH Tryz.prog 98 #[.string ⟨s.toArray⟩,.int .i64 fr,.int .i64 p] w fun e w'=>e= .returned (.bool (eQ s fr p))/\sK w.heap.size w w':=by
 have HT:=hid ht;have HW:=hid (zqX (s.drop p));have hdl:(s.drop p).length=s.length - p:=sN;have htl:(s.take p).length=p:=by rw[sL];omega
 have HDL:=hid hdl;have HTL:=hid htl;clear ht hdl htl;go_enter Tryz.func98,Tryz.ntmps98;go_wp2_with fail;rw[ext_take];refine(iK (s.take p) w HT.out (by have:=HTL.out;omega)).mono ?_
 rintro e w1 ⟨rfl,be⟩;have HB1:=hid be;obtain⟨a,ha⟩:∃a,a=aM (s.take p):=⟨_,rfl⟩;have HA:=hid ha;rw[<- ha];clear be ha;go_wp2_with fail;rw[ext_drop];refine(first_any (s.drop p) w1 (HT.out.below HB1.out)).mono ?_;rintro e w2 ⟨rfl,be⟩;have HB2:=hid (HB1.out.trans (be.mono HB1.out.size));obtain⟨b,hb⟩:∃b,b=aT (s.drop p):=⟨_,rfl⟩;obtain⟨n,hn⟩:∃n,n=(dec (s.drop p)).2:=⟨_,rfl⟩;have HBE:=hid hb;have HN:=hid hn;have hpn:p+n<=s.length:=by have:=HW.out;have:=HDL.out;omega
 rw[<- hb,<- hn];clear be hb hn;have HJ:=hid (show eQ s fr p=if cT a b then true else if bW [12,17,16,24,19] b then true else if bM a b then true else if bW [21,22] b then mF (s.take p) else if bW [21,22] a&&b==9 then aT (s.drop (p+n))==20 else if a=25/\b=25 then cP ((s.take p).drop fr).length ((s.take p).drop fr) false else false by rw[HA.out,HBE.out,HN.out];rfl)
 clear HA HBE HN HW;go_wp2_with fail;refine(zko a b w2).mono ?_;rintro e w3 ⟨rfl,be⟩;have HB3:=hid (HB2.out.trans (be.mono HB2.out.size));obtain⟨q3,hq3⟩:∃q,q=cT a b:=⟨_,rfl⟩;rw[<- hq3] at HJ;rw[<- hq3];clear hq3 be
 cases q3 with
 | true=>
  go_wp2;go_ret;exact⟨by rw[HJ.out];rfl,HB3.out⟩
 | false=>
  go_wp2_with fail;refine(bi b [12,17,16,24,19] w3 (by decide)).mono ?_
  rintro e w4 ⟨rfl,be⟩;have HB4:=hid (HB3.out.trans (be.mono HB3.out.size));obtain⟨q4,hq4⟩:∃q,q=bW [12,17,16,24,19] b:=⟨_,rfl⟩;rw[<- hq4] at HJ;rw[<- hq4];clear hq4 be
  cases q4 with
  | true=>
   go_wp2;go_ret;exact⟨by rw[HJ.out];rfl,HB4.out⟩
  | false=>
   go_wp2_with fail;refine(sr a b w4).mono ?_;rintro e w5 ⟨rfl,be⟩;have HB5:=hid (HB4.out.trans (be.mono HB4.out.size));obtain⟨q5,hq5⟩:∃q,q=bM a b:=⟨_,rfl⟩;rw[<- hq5] at HJ;rw[<- hq5];clear hq5 be
   cases q5 with
   | true=>
    go_wp2;go_ret;exact⟨by rw[HJ.out];rfl,HB5.out⟩
   | false=>
    go_wp2_with fail;refine(bi b [21,22] w5 (by decide)).mono ?_
    rintro e w6 ⟨rfl,be⟩;have HB6:=hid (HB5.out.trans (be.mono HB5.out.size));obtain⟨q6,hq6⟩:∃q,q=bW [21,22] b:=⟨_,rfl⟩;rw[<- hq6] at HJ;rw[<- hq6];clear hq6 be
    cases q6 with
    | true=>
     go_wp2_with fail;rw[ext_take];refine(zfJ (s.take p) w6 (HT.out.below HB6.out) (by have:=HTL.out;omega)).mono ?_
     rintro e w7 ⟨rfl,be⟩;have HB7:=hid (HB6.out.trans (be.mono HB6.out.size));clear be;obtain⟨v,hv⟩:∃v,v=mF (s.take p):=⟨_,rfl⟩;rw[<- hv] at HJ;rw[<- hv];clear hv;go_wp2;go_ret;exact⟨by rw[HJ.out];rfl,HB7.out⟩
    | false=>
     go_wp2_with fail;refine(bi a [21,22] w6 (by decide)).mono ?_
     rintro e w7 ⟨rfl,be⟩;have HB7:=hid (HB6.out.trans (be.mono HB6.out.size));obtain⟨q7,hq7⟩:∃q,q=bW [21,22] a:=⟨_,rfl⟩;rw[<- hq7] at HJ;rw[<- hq7];clear hq7 be;have tail:¬(q7=true/\b=9)->Hid (eQ s fr p=if a=25/\b=25 then cP ((s.take p).drop fr).length ((s.take p).drop fr) false else false):=fun hne=>by
      show _=_
      rw[HJ.out];have e:(q7&&b==9)=false:=by
       cases q7
       ·rfl
       ·rw[Bool.true_and];exact beq_eq_false_iff_ne.2 (fun h=>hne ⟨rfl,h⟩)
      rw[e];rfl
     have TAIL:=hid tail;clear tail
     by_cases h9:q7=true/\b=9
     ·obtain⟨rfl,rfl⟩:=h9
      go_wp2_with fail;rw[ext_drop];refine(first_any (s.drop (p+n)) w7 (HT.out.below HB7.out)).mono ?_;rintro e w8 ⟨rfl,be⟩;have HB8:=hid (HB7.out.trans (be.mono HB7.out.size));obtain⟨x,hx⟩:∃x,x=aT (s.drop (p+n)):=⟨_,rfl⟩;obtain⟨m,hm⟩:∃m,m=(dec (s.drop (p+n))).2:=⟨_,rfl⟩;rw[<- hx] at HJ;rw[<- hx,<- hm];clear be hx hm TAIL;go_wp2;go_ret;exact⟨by rw[HJ.out];rfl,HB8.out⟩
     ·have HJ2:=hid (TAIL.out h9).out
      have hg:q7=true->(b==9)=false:=fun h=>beq_eq_false_iff_ne.2 (fun h'=>h9 ⟨h,h'⟩)
      have HG:=hid hg;clear TAIL HJ hg h9
      by_cases h25:a=25
      ·by_cases k25:b=25
       ·subst h25 k25
        cases q7 with
        | true=>
         go_wp2_with fail;rw[ext_mid];refine(zhG ((s.take p).drop fr) w7 (HT.out.below HB7.out) (by have:=HTL.out;rw[sN];omega)).mono ?_
         rintro e w8 ⟨rfl,be⟩;have HB8:=hid (HB7.out.trans (be.mono HB7.out.size));obtain⟨v,hv⟩:∃v,v=cP ((s.take p).drop fr).length ((s.take p).drop fr) false:=⟨_,rfl⟩;rw[<- hv] at HJ2;rw[<- hv];clear be hv;go_wp2;go_ret;exact⟨by rw[HJ2.out];rfl,HB8.out⟩
        | false=>
         go_wp2_with fail;rw[ext_mid];refine(zhG ((s.take p).drop fr) w7 (HT.out.below HB7.out) (by have:=HTL.out;rw[sN];omega)).mono ?_
         rintro e w8 ⟨rfl,be⟩;have HB8:=hid (HB7.out.trans (be.mono HB7.out.size));obtain⟨v,hv⟩:∃v,v=cP ((s.take p).drop fr).length ((s.take p).drop fr) false:=⟨_,rfl⟩;rw[<- hv] at HJ2;rw[<- hv];clear be hv;go_wp2;go_ret;exact⟨by rw[HJ2.out];rfl,HB8.out⟩
       ·have HJ3:=hid (show eQ s fr p=false by rw[HJ2.out,if_neg (fun h=>k25 h.2)])
        have b25:(b==25)=false:=beq_eq_false_iff_ne.2 k25;subst h25;clear HJ2 k25
        cases q7 with
        | true=>
         have g9:=HG.out rfl;go_wp2;go_ret;exact⟨by rw[HJ3.out];rfl,HB7.out⟩
        | false=>
         go_wp2;go_ret;exact⟨by rw[HJ3.out];rfl,HB7.out⟩
      ·have HJ3:=hid (show eQ s fr p=false by rw[HJ2.out,if_neg (fun h=>h25 h.1)])
       have a25:(a==25)=false:=beq_eq_false_iff_ne.2 h25;clear HJ2 h25
       cases q7 with
       | true=>
        have g9:=HG.out rfl;go_wp2;go_ret;exact⟨by rw[HJ3.out];rfl,HB7.out⟩
       | false=>
        go_wp2;go_ret;exact⟨by rw[HJ3.out];rfl,HB7.out⟩
end Ln
namespace Ln
open Go.RowKit
def cy (s:List UInt8) (p:Nat):Bool:=decide (p=s.length) || dp (aS (s.take p))
theorem gI (s:List UInt8) (p:Nat) (w:sE) (ht:Tb w) (hl:s.length<=1000000000) (hp:p<=s.length):
  sH Tryz.prog 63 #[.string ⟨s.toArray⟩,.int .i64 p] w fun e w'=>e= .returned (.bool (cy s p))/\sK w.heap.size w w':=by
 have HT:=hid ht;have HTL:=hid (show(s.take p).length=p by rw[sL];omega)
 clear ht;go_enter Tryz.func63,Tryz.ntmps63;go_wp2_with fail;rw[ext_take];refine(d9 (s.take p) w HT.out (by have:=HTL.out;omega)).mono ?_
 rintro e w1 ⟨rfl,be⟩;have HB1:=hid be;obtain⟨a,ha⟩:∃a,a=aS (s.take p):=⟨_,rfl⟩;obtain⟨m,hm⟩:∃m:Nat,m=(aV (s.take p)).2:=⟨_,rfl⟩;have HA:=hid ha;rw[<- ha,<- hm];clear be ha hm
 by_cases hps:p=s.length
 ·have HV:=hid (show cy s p=true by unfold cy;rw[hps];simp)
  have b1:((p:Int)==(s.length:Int))=true:=by rw[hps];exact beq_self_eq_true _
  have HP:=hid hps;clear hps;go_wp2;go_ret;exact⟨by rw[HV.out];rfl,HB1.out⟩
 ·have b1:((p:Int)==(s.length:Int))=false:=beq_eq_false_iff_ne.2 (by omega)
  have HV:=hid (show cy s p=dp a by unfold cy;rw[HA.out,decide_eq_false hps,Bool.false_or])
  go_wp2_with fail;refine(d8 a w1).mono ?_;rintro e w2 ⟨rfl,be⟩;have HB2:=hid (HB1.out.trans (be.mono HB1.out.size));obtain⟨v,hv⟩:∃v,v=dp a:=⟨_,rfl⟩;rw[<- hv] at HV;rw[<- hv];clear be hv;go_wp2;go_ret;exact⟨by rw[HV.out];rfl,HB2.out⟩
theorem zbi (s:List UInt8) (fr p:Nat) (w:sE) (ht:Tb w) (hl:s.length<=1000000000) (hp:p<=s.length) (hf:fr<=p):
  sH Tryz.prog 64 #[.string ⟨s.toArray⟩,.int .i64 fr,.int .i64 p] w fun e w'=>e= .returned (.bool (iq s fr p))/\sK w.heap.size w w':=by
 have HT:=hid ht;have HTL:=hid (show(s.take p).length=p by rw[sL];omega)
 have HWL:=hid (iL [4] _ (s.take p) (sJ _));clear ht;go_enter Tryz.func64,Tryz.ntmps64;go_wp2_with fail;rw[ext_take];refine(d9 (s.take p) w HT.out (by have:=HTL.out;omega)).mono ?_
 rintro e w1 ⟨rfl,be⟩;have HB1:=hid be;obtain⟨a,ha⟩:∃a,a=aS (s.take p):=⟨_,rfl⟩;obtain⟨m,hm⟩:∃m:Nat,m=(aV (s.take p)).2:=⟨_,rfl⟩;have HA:=hid ha;rw[<- ha,<- hm];clear be ha hm;go_wp2_with fail;rw[ext_drop];refine(first_any (s.drop p) w1 (HT.out.below HB1.out)).mono ?_;rintro e w2 ⟨rfl,be⟩;have HB2:=hid (HB1.out.trans (be.mono HB1.out.size));obtain⟨b,hb⟩:∃b,b=aT (s.drop p):=⟨_,rfl⟩;obtain⟨n,hn⟩:∃n,n=(dec (s.drop p)).2:=⟨_,rfl⟩;have HBE:=hid hb;rw[<- hb,<- hn];clear be hb hn;obtain⟨t,htt⟩:∃t,t=dy [4] (s.take p):=⟨_,rfl⟩;have HTT:=hid htt;rw[<- htt] at HWL;have HV:=hid (show iq s fr p=if a=2/\b=3 then false else if dp a then true else if dp b then false else if bW [4,5] b then false else if aS t=5 then true else if a=4 then !bg (aM t) b else !(b==8)&& !bg (aM t) b&& !eQ s fr p by rw[HA.out,HBE.out,htt];rfl)
 clear HA HBE htt
 by_cases h23:a=2/\b=3
 ·obtain⟨rfl,rfl⟩:=h23
  go_wp2;go_ret;exact⟨by rw[HV.out];rfl,HB2.out⟩
 have H23:=hid h23
 replace HV:=hid (HV.out.trans (if_neg h23))
 have g2:a=2->(b==3)=false:=fun h=>beq_eq_false_iff_ne.2 (fun h'=>h23 ⟨h,h'⟩)
 have G2:=hid g2;clear h23 g2;have step:∀(X:Prop),(a=2->(b==3)=false->X)->((a==2)=false->X)->X:=fun X h1 h2=>by
  by_cases h:a=2
  ·exact h1 h (G2.out h)
  ·exact h2 (beq_eq_false_iff_ne.2 h)
 have STEP:=hid step;clear step;refine STEP.out _ (fun e2 b3=>?_) (fun n2=>?_)
 ·subst e2
  have HV2:=hid (show iq s fr p=true by rw[HV.out];rfl)
  clear HV;go_wp2_with fail;refine(d8 2 w2).mono ?_;rintro e w3 ⟨rfl,be⟩;have HB3:=hid (HB2.out.trans (be.mono HB2.out.size));rw[show dp 2=true by decide];clear be;go_wp2;go_ret;exact⟨by rw[HV2.out];rfl,HB3.out⟩
 ·go_wp2_with fail
  refine(d8 a w2).mono ?_;rintro e w3 ⟨rfl,be⟩;have HB3:=hid (HB2.out.trans (be.mono HB2.out.size));obtain⟨q3,hq3⟩:∃q,q=dp a:=⟨_,rfl⟩;rw[<- hq3] at HV;rw[<- hq3];clear be hq3 STEP G2 H23
  cases q3 with
  | true=>
   go_wp2;go_ret;exact⟨by rw[HV.out];rfl,HB3.out⟩
  | false=>
   go_wp2_with fail;refine(d8 b w3).mono ?_;rintro e w4 ⟨rfl,be⟩;have HB4:=hid (HB3.out.trans (be.mono HB3.out.size));obtain⟨q4,hq4⟩:∃q,q=dp b:=⟨_,rfl⟩;rw[<- hq4] at HV;rw[<- hq4];clear be hq4
   cases q4 with
   | true=>
    go_wp2;go_ret;exact⟨by rw[HV.out];rfl,HB4.out⟩
   | false=>
    go_wp2_with fail;refine(bi b [4,5] w4 (by decide)).mono ?_
    rintro e w5 ⟨rfl,be⟩;have HB5:=hid (HB4.out.trans (be.mono HB4.out.size));obtain⟨q5,hq5⟩:∃q,q=bW [4,5] b:=⟨_,rfl⟩;rw[<- hq5] at HV;rw[<- hq5];clear be hq5
    cases q5 with
    | true=>
     go_wp2;go_ret;exact⟨by rw[HV.out];rfl,HB5.out⟩
    | false=>
     have HV:=hid (show iq s fr p=if aS t=5 then true else if a=4 then !bg (aM t) b else !(b==8)&& !bg (aM t) b&& !eQ s fr p from HV.out)
     go_wp2_with fail;rw[ext_take];refine(gV (s.take p) [4] w5 (HT.out.below HB5.out) (by have:=HTL.out;omega) (by decide) (by decide)).mono ?_
     rintro e w6 ⟨rfl,be⟩;have HB6:=hid (HB5.out.trans (be.mono HB5.out.size));rw[<- HTT.out];clear be HTT;have htl:t.length<=1000000000:=by have:=HWL.out;have:=HTL.out;omega
     go_wp2_with fail;refine(d9 t w6 (HT.out.below HB6.out) htl).mono ?_;rintro e w7 ⟨rfl,be⟩;have HB7:=hid (HB6.out.trans (be.mono HB6.out.size));obtain⟨x,hx⟩:∃x,x=aS t:=⟨_,rfl⟩;obtain⟨y,hy⟩:∃y:Nat,y=(aV t).2:=⟨_,rfl⟩;rw[<- hx] at HV;rw[<- hx,<- hy];clear be hx hy
     by_cases h5:x=5
     ·subst h5
      go_wp2;go_ret;exact⟨by rw[HV.out];rfl,HB7.out⟩
     ·have b5:(x==5)=false:=beq_eq_false_iff_ne.2 h5
      have HV:=hid (HV.out.trans (if_neg h5));clear h5
      by_cases h4:a=4
      ·subst h4
       have HV:=hid (HV.out.trans (if_pos rfl));go_wp2_with fail;refine(iK t w7 (HT.out.below HB7.out) htl).mono ?_;rintro e w8 ⟨rfl,be⟩;have HB8:=hid (HB7.out.trans (be.mono HB7.out.size));obtain⟨z,hz⟩:∃z,z=aM t:=⟨_,rfl⟩;rw[<- hz] at HV;rw[<- hz];clear be hz;go_wp2_with fail;refine(zeC z b w8).mono ?_;rintro e w9 ⟨rfl,be⟩;have HB9:=hid (HB8.out.trans (be.mono HB8.out.size));obtain⟨v,hv⟩:∃v,v=bg z b:=⟨_,rfl⟩;rw[<- hv] at HV;rw[<- hv];clear be hv;go_wp2;go_ret;exact⟨by rw[HV.out];rfl,HB9.out⟩
      ·have b4:(a==4)=false:=beq_eq_false_iff_ne.2 h4
       have HV:=hid (HV.out.trans (if_neg h4));clear h4
       by_cases h8:b=8
       ·subst h8
        go_wp2;go_ret;exact⟨by rw[HV.out];rfl,HB7.out⟩
       ·have b8:(b==8)=false:=beq_eq_false_iff_ne.2 h8
        have HV:=hid (show iq s fr p=(!bg (aM t) b&& !eQ s fr p) by rw[HV.out,b8];rfl)
        have n8:(b != 8)=true:=by simp[h8]
        clear h8;go_wp2_with fail;refine(iK t w7 (HT.out.below HB7.out) htl).mono ?_;rintro e w8 ⟨rfl,be⟩;have HB8:=hid (HB7.out.trans (be.mono HB7.out.size));obtain⟨z,hz⟩:∃z,z=aM t:=⟨_,rfl⟩;rw[<- hz] at HV;rw[<- hz];clear be hz;go_wp2_with fail;refine(zeC z b w8).mono ?_;rintro e w9 ⟨rfl,be⟩;have HB9:=hid (HB8.out.trans (be.mono HB8.out.size));obtain⟨v,hv⟩:∃v,v=bg z b:=⟨_,rfl⟩;rw[<- hv] at HV;rw[<- hv];clear be hv
        cases v with
        | true=>
         go_wp2;go_ret;exact⟨by rw[HV.out];rfl,HB9.out⟩
        | false=>
         go_wp2_with fail;refine(zgn s fr p w9 (HT.out.below HB9.out) hl hp hf).mono ?_;rintro e w10 ⟨rfl,be⟩;have HB10:=hid (HB9.out.trans (be.mono HB9.out.size));obtain⟨u,hu⟩:∃u,u=eQ s fr p:=⟨_,rfl⟩;rw[<- hu] at HV;rw[<- hu];clear be hu;go_wp2;go_ret;exact⟨by rw[HV.out];rfl,HB10.out⟩
end Ln
section
open Go.RowKit
theorem ou (b q:Int) (w:sE) (hb:b=q) (h0:0<=q) (h1:q<256):
  sH Tryz.prog 115 #[.int .u8 b] w fun e w'=>e= .returned (.bool (sU q))/\w'=w:=by
 subst hb;exact Tryz.utf8_RuneStart b w h0 h1
set_option maxRecDepth 100000 in
theorem rO (l:List UInt8) (p:Nat) (w:sE) (hp:p<l.length) (hl:l.length<=1000000000000) (hT:sI 0 1 w) (h2:2<=w.heap.size):
  sH Tryz.prog 77 #[.string ⟨l.toArray⟩,.int .i64 p] w fun e w'=>e= .returned (.int .i64 (pW l p 4))/\sK w.heap.size w w':=by
 have HT:=hid hT;clear hT;go_enter Tryz.func77,Tryz.ntmps77;go_wp2;go_loopw [5] (fun fr wr=>∃(f:Nat) (z:Int),fr= .int .i64 z/\z=(p:Int) - (4 - f)/\f<=4/\ -1<=z/\Hid (pW l p f=pW l p 4)/\sK w.heap.size w wr) (fun fr _=>(intOf fr+1).toNat)
 case atStart=>exact⟨4,_,rfl,by omega,by omega,by omega,rfl,sD _ _⟩
 case round=>
  obtain⟨f,z,rfl,hz,hf4,hz1,HF,hB⟩:=hrel
  by_cases hf:p<4 - f
  ·have HR:=hid (HF.out.symm.trans (ziH l p f hf))
   obtain rfl:z= -1:=by omega
   clear hz;go_wp2;go_ret;exact⟨by rw[HR.out];rfl,hB⟩
  cases f with
  | zero=>
   have HR:=hid (HF.out.symm);have hz':z=(p:Int) - 4:=by omega
   have HZ:=hid hz';have c1:¬(p:Int) - 4<z:=by omega
   clear hz hz'
   by_cases c2:0<=z
   all_goals
    go_wp2;go_ret;exact⟨by rw[HR.out];rfl,hB⟩
  | succ f=>
   obtain⟨t,ht⟩:∃t:Nat,t+(3 - f)=p:=⟨p - (3 - f),by omega⟩
   obtain rfl:z=t:=by omega
   have hlt:t<l.length:=by omega
   have c1:(p:Int) - 4<t:=by omega
   have htp:t<=p:=by omega
   have hsz:t<(⟨l.toArray⟩:ByteArray).size:=by show t<l.toArray.size;simpa using hlt
   have HZ:=hid hz;have HTP:=hid ht;obtain⟨b0,b1⟩:=zvJ l t;have HT1:=hid (ot HT.out h2 hB);have hw2:2<=wr.heap.size:=by have:=hB.size;omega
   clear hz ht hf
   cases hr:sU (byt l t) with
   | false=>
    have HM:=hid (dv l p f t HTP.out hr);go_wp2_with (go_at_call 115;refine(ou _ (byt l t) _ (zgH l t hsz) b0 b1).mono ?_;rintro e w' ⟨rfl,rfl⟩);go_roundw
    case rel=>exact⟨f,_,rfl,by have:=HZ.out;omega,by omega,by omega,(HM.out.symm.trans HF.out),hB⟩
    case measure=>simp[intOf]
   | true=>
    have h4:=dec_le4 (l.drop t)
    by_cases hn:p<t+(dec (l.drop t)).2
    ·have HR:=hid (HF.out.symm.trans (pV l p f t HTP.out hr hn))
     go_wp2_with (go_at_call 115;refine(ou _ (byt l t) _ (zgH l t hsz) b0 b1).mono ?_;rintro e w' ⟨rfl,rfl⟩);refine(rJ _ (l.drop t) _ (ext_drop l t) (by exact HT1.out)).mono ?_
     rintro e w1 ⟨rfl,hb⟩
     generalize (dec (l.drop t)).1=rr at *
     generalize (dec (l.drop t)).2=nn at *
     clear hr HT1 HT HF HZ HTP b0 b1 hsz;go_wp2;go_ret;exact⟨by rw[HR.out];rfl,hB.trans (hb.mono hB.size)⟩
    ·have HR:=hid (HF.out.symm.trans (ziI l p f t HTP.out hr hn))
     go_wp2_with (go_at_call 115;refine(ou _ (byt l t) _ (zgH l t hsz) b0 b1).mono ?_;rintro e w' ⟨rfl,rfl⟩);refine(rJ _ (l.drop t) _ (ext_drop l t) (by exact HT1.out)).mono ?_
     rintro e w1 ⟨rfl,hb⟩
     generalize (dec (l.drop t)).1=rr at *
     generalize (dec (l.drop t)).2=nn at *
     clear hr HT1 HT HF HZ HTP b0 b1 hsz;go_wp2;go_ret;exact⟨by rw[HR.out];rfl,hB.trans (hb.mono hB.size)⟩
theorem zaO (l:List UInt8) (p:Int) (w:sE) (hl:l.length<=1000000000000) (hT:sI 0 1 w) (h2:2<=w.heap.size):
  sH Tryz.prog 48 #[.string ⟨l.toArray⟩,.int .i64 p] w fun e w'=>e= .returned (.bool (isE l p))/\sK w.heap.size w w':=by
 have HT:=hid hT;clear hT
 by_cases c1:p<=0
 ·have HI:=hid (show isE l p=(p==0) from if_pos c1)
  by_cases c0:p=0
  ·subst c0
   go_enter Tryz.func48,Tryz.ntmps48;go_wp2;go_ret;exact⟨by rw[HI.out];rfl,sD _ _⟩
  ·have c3:(p==0)=false:=beq_eq_false_iff_ne.2 c0
   have c4:(p==(l.length:Int))=false:=beq_eq_false_iff_ne.2 (by omega)
   go_enter Tryz.func48,Tryz.ntmps48;go_wp2;go_ret;exact⟨by rw[HI.out,c3];rfl,sD _ _⟩
 by_cases c2:(l.length:Int)<=p
 ·have HI:=hid (show isE l p=(p==l.length) from(if_neg c1).trans (if_pos c2))
  have c3:(p==0)=false:=beq_eq_false_iff_ne.2 (by omega)
  by_cases c0:p=l.length
  ·have c4:(p==(l.length:Int))=true:=beq_iff_eq.2 c0
   clear c0;go_enter Tryz.func48,Tryz.ntmps48;go_wp2;go_ret;exact⟨by rw[HI.out,c4];rfl,sD _ _⟩
  ·have c4:(p==(l.length:Int))=false:=beq_eq_false_iff_ne.2 c0
   clear c0;go_enter Tryz.func48,Tryz.ntmps48;go_wp2;go_ret;exact⟨by rw[HI.out,c4];rfl,sD _ _⟩
 ·obtain⟨q,rfl⟩:∃q:Nat,p=q:=⟨p.toNat,by omega⟩
  have hq:q<l.length:=by omega
  have HI:=hid (show isE l q=(pW l q 4==q) from(if_neg c1).trans (if_neg c2))
  go_enter Tryz.func48,Tryz.ntmps48;go_wp2_with (go_at_call 77;refine(rO l q _ hq hl (by exact HT.out) (by exact h2)).mono ?_;rintro e w1 ⟨rfl,hb⟩)
  go_ret;exact⟨by rw[HI.out];exact congrArg (fun b=>Ending.returned (Value.bool b)) (zrk (pW l q 4) q),hb⟩
end
namespace Wt
open Go.RowKit
theorem zoO (l:List UInt8) (p:Nat) (z:Int) (w:sE) (hz:z=p) (hp:p<l.length) (hl:l.length<=1000000000000) (hT:sI 0 1 w) (h2:2<=w.heap.size):
  sH Tryz.prog 77 #[.string ⟨l.toArray⟩,.int .i64 z] w fun e w'=>e= .returned (.int .i64 (pW l p 4))/\sK w.heap.size w w':=by
 subst hz;exact rO l p w hp hl hT h2
theorem ly (l:List UInt8) (p:Int) (w:sE) (hl:l.length<=1000000000000) (hT:sI 0 1 w) (h2:2<=w.heap.size):
  sH Tryz.prog 50 #[.string ⟨l.toArray⟩,.int .i64 p] w fun e w'=>e= .returned (.int .i64 (f7 l p))/\sK w.heap.size w w':=by
 have HT:=hid hT;clear hT
 by_cases h1:p<=0
 ·have HR:=hid (show f7 l p=0 from if_pos h1)
  go_enter Tryz.func50,Tryz.ntmps50;go_wp2;go_ret;exact⟨by rw[HR.out];rfl,sD _ _⟩
 by_cases h3:(l.length:Int)<p
 ·have HR:=hid (show f7 l p=l.length from(if_neg h1).trans (if_pos h3))
  go_enter Tryz.func50,Tryz.ntmps50;go_wp2;go_ret;exact⟨by rw[HR.out];rfl,sD _ _⟩
 ·have HR:=hid (show f7 l p=pW l (p.toNat - 1) 4 from(if_neg h1).trans (if_neg h3))
  go_enter Tryz.func50,Tryz.ntmps50;go_wp2_with (go_at_call 77;refine(zoO l (p.toNat - 1) _ _ (by omega) (by omega) hl (by exact HT.out) (by exact h2)).mono ?_;rintro e w1 ⟨rfl,hb⟩)
  go_ret;exact⟨by rw[HR.out];rfl,hb⟩
end Wt
end Go.Proofs.YtbbapnpdfcgjnaaGreatDoor
