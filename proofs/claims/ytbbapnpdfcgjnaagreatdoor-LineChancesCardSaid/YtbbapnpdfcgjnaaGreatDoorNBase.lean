/- Base, LnCls, LnDef, LnFun1, LnFun2, LnFun3, LnFun4, LnFun5: parts of the proof, joined. -/
import Derived.Deep.AppendLies
import Derived.WalkSpells
import Derived.WalkLawsBesides
import Derived.BigQuiet
import Derived.Test.YtbbapnpdfcgjnaaGreatDoorNUMath
import Derived.Test.YtbbapnpdfcgjnaaGreatDoorNShelf
open Go renaming World->sH, Calls->sK
open List renaming length_eq_zero_iff->sI, length_take->sN, length_drop->sQ
open Nat renaming le_refl->sJ, lt_of_lt_of_le->sS, le_trans->sT
open Go.RowKit.Below renaming refl->sL
open Go.RowKit renaming Below->sM
open Go.Lib renaming Utf8Tabs->sO
open Go.Value renaming int->sP
open ByteArray renaming data_extract->sR, ext->sW
set_option maxHeartbeats 64000000
namespace Go.Proofs.YtbbapnpdfcgjnaaGreatDoor
section
open Go.RowKit
theorem hid {p:Prop} (h:p):Hid p:=h
theorem add_blk (a:Addr) (k:Nat):(a.add k).block=a.block:=by unfold Addr.add;split<;>rfl
theorem zeU {w w':sH} (h:sO 0 1 w) (hs:2<=w.heap.size) (hb:sM w.heap.size w w'):sO 0 1 w':=
 ⟨fun c hc=>(hb.cell (p:=⟨0,c,none⟩) (by show 0<w.heap.size;omega)).trans (h.1 c hc),fun i hi=>⟨(hb.cell (p:=⟨1,2 * i,none⟩) (by show 1<w.heap.size;omega)).trans (h.2 i hi).1,(hb.cell (p:=⟨1,2 * i+1,none⟩) (by show 1<w.heap.size;omega)).trans (h.2 i hi).2⟩⟩
theorem zgg (l:List UInt8) (w:sH) (hT:sO 0 1 w):
  sK Tryz.prog 89 #[.string ⟨l.toArray⟩] w fun e w'=>e= .returned (.tuple #[.int .i32 (dec l).1,.int .i64 (dec l).2])/\sM w.heap.size w w':=by
 by_cases h:l=[]
 ·subst h
  go_enter Tryz.func89,Tryz.ntmps89;go_wp2;go_ret2;exact⟨rfl,sL _ _⟩
 ·have hd:dec l=Lib.decodeGo ⟨l.toArray⟩:=if_neg h
  rw[hd];have he:l.isEmpty=false:=by simpa using h
  clear hd h;have HT:=hid hT;clear hT;go_enter Tryz.func89,Tryz.ntmps89;go_wp2_with (go_at_call 125;refine(Tryz.utf8_DecodeRuneInString _ _ (by exact HT.out)).mono ?_;rintro e w1 ⟨rfl,hb⟩)
  go_ret2;exact⟨rfl,hb⟩
theorem zne (l:List UInt8) (w:sH) (hl:l.length<=9223372036854775807) (hT:sO 0 1 w):
  sK Tryz.prog 116 #[.string ⟨l.toArray⟩] w fun e w'=>e= .returned (.tuple #[.int .i32 (aU l).1,.int .i64 (aU l).2])/\sM w.heap.size w w':=by
 by_cases h:l=[]
 ·subst h
  go_enter Tryz.func116,Tryz.ntmps116;go_wp2;go_ret2;exact⟨rfl,sL _ _⟩
 ·have hd:aU l=Lib.decodeLastL l:=if_neg h
  rw[hd];have he:l.isEmpty=false:=by simpa using h
  clear hd h;have HT:=hid hT;have hs':(⟨l.toArray⟩:ByteArray).size<=9223372036854775807:=by show l.toArray.size<=_;simpa using hl
  have HS:=hid hs';clear hT hs';go_enter Tryz.func116,Tryz.ntmps116;go_wp2_with (go_at_call 151;refine(Tryz.utf8_DecodeLastRuneInString ⟨l.toArray⟩ _ HS.out (by exact HT.out)).mono ?_;rintro e w1 ⟨rfl,hb⟩)
  go_ret2;exact⟨rfl,hb⟩
end
section
open Go.RowKit
theorem af (r lo hi:Int) (w:sH) (h:lo<=r/\r<=hi):sK Tryz.prog 178 #[.int .i32 r,.int .i32 lo,.int .i32 hi] w fun e w'=>e= .returned (.bool true)/\w'=w:=by
 obtain⟨h1,h2⟩:=h;go_enter Tryz.func178,Tryz.ntmps178;go_wp2;go_ret;exact⟨rfl,rfl⟩
theorem ag (r lo hi:Int) (w:sH) (h:¬(lo<=r/\r<=hi)):sK Tryz.prog 178 #[.int .i32 r,.int .i32 lo,.int .i32 hi] w fun e w'=>e= .returned (.bool false)/\w'=w:=by
 by_cases h1:lo<=r
 ·have h2:¬r<=hi:=fun h2=>h ⟨h1,h2⟩
  clear h;go_enter Tryz.func178,Tryz.ntmps178;go_wp2;go_ret;exact⟨rfl,rfl⟩
 ·clear h
  go_enter Tryz.func178,Tryz.ntmps178;go_wp2;go_ret;exact⟨rfl,rfl⟩
def aF (r:Int):Int:=
 if 48<=r/\r<=57 then 20 else if r=11 then 1 else if r=12 then 1 else if r=13 then 2 else if r=10 then 3 else if r=32 then 4 else if r=9 then 17 else if r=40 then 9 else if r=91 then 9 else if r=123 then 9 else if r=41 then 10 else if r=93 then 10 else if r=125 then 11 else if r=34 then 12 else if r=39 then 12 else if r=33 then 13 else if r=63 then 13 else if r=44 then 14 else if r=46 then 14 else if r=58 then 14 else if r=59 then 14 else if r=47 then 15 else if r=45 then 16 else if r=37 then 21 else if r=36 then 22 else if r=43 then 22 else if r=92 then 22 else 0
theorem zcC (r:Int) (w:sH):sK Tryz.prog 153 #[.int .i32 r] w fun e w'=>e= .returned (.int .i64 (aF r))/\w'=w:=by
 by_cases h0:48<=r/\r<=57
 ·have HV:=hid (show aF r=20 by unfold aF;rw[if_pos h0])
  obtain⟨u0,v0⟩:=h0;go_enter Tryz.func153,Tryz.ntmps153;go_wp2_with (first | (go_at_call 178;(first | refine(af _ _ _ _ (by omega)).mono ?_ | refine(ag _ _ _ _ (by omega)).mono ?_);rintro e w1 ⟨rfl,hw1⟩;obtain rfl:=hw1.symm;clear hw1))
  go_ret;exact⟨by rw[HV.out];rfl,rfl⟩
 by_cases h1:r=11
 ·subst h1
  have HV:=hid (show aF 11=1 by decide)
  clear h0;go_enter Tryz.func153,Tryz.ntmps153;go_wp2_with (first | (go_at_call 178;(first | refine(af _ _ _ _ (by omega)).mono ?_ | refine(ag _ _ _ _ (by omega)).mono ?_);rintro e w1 ⟨rfl,hw1⟩;obtain rfl:=hw1.symm;clear hw1))
  go_ret;exact⟨by rw[HV.out];rfl,rfl⟩
 by_cases h2:r=12
 ·subst h2
  have HV:=hid (show aF 12=1 by decide)
  clear h0 h1;go_enter Tryz.func153,Tryz.ntmps153;go_wp2_with (first | (go_at_call 178;(first | refine(af _ _ _ _ (by omega)).mono ?_ | refine(ag _ _ _ _ (by omega)).mono ?_);rintro e w1 ⟨rfl,hw1⟩;obtain rfl:=hw1.symm;clear hw1))
  go_ret;exact⟨by rw[HV.out];rfl,rfl⟩
 by_cases h3:r=13
 ·subst h3
  have HV:=hid (show aF 13=2 by decide)
  clear h0 h1 h2;go_enter Tryz.func153,Tryz.ntmps153;go_wp2_with (first | (go_at_call 178;(first | refine(af _ _ _ _ (by omega)).mono ?_ | refine(ag _ _ _ _ (by omega)).mono ?_);rintro e w1 ⟨rfl,hw1⟩;obtain rfl:=hw1.symm;clear hw1))
  go_ret;exact⟨by rw[HV.out];rfl,rfl⟩
 by_cases h4:r=10
 ·subst h4
  have HV:=hid (show aF 10=3 by decide)
  clear h0 h1 h2 h3;go_enter Tryz.func153,Tryz.ntmps153;go_wp2_with (first | (go_at_call 178;(first | refine(af _ _ _ _ (by omega)).mono ?_ | refine(ag _ _ _ _ (by omega)).mono ?_);rintro e w1 ⟨rfl,hw1⟩;obtain rfl:=hw1.symm;clear hw1))
  go_ret;exact⟨by rw[HV.out];rfl,rfl⟩
 by_cases h5:r=32
 ·subst h5
  have HV:=hid (show aF 32=4 by decide)
  clear h0 h1 h2 h3 h4;go_enter Tryz.func153,Tryz.ntmps153;go_wp2_with (first | (go_at_call 178;(first | refine(af _ _ _ _ (by omega)).mono ?_ | refine(ag _ _ _ _ (by omega)).mono ?_);rintro e w1 ⟨rfl,hw1⟩;obtain rfl:=hw1.symm;clear hw1))
  go_ret;exact⟨by rw[HV.out];rfl,rfl⟩
 by_cases h6:r=9
 ·subst h6
  have HV:=hid (show aF 9=17 by decide)
  clear h0 h1 h2 h3 h4 h5;go_enter Tryz.func153,Tryz.ntmps153;go_wp2_with (first | (go_at_call 178;(first | refine(af _ _ _ _ (by omega)).mono ?_ | refine(ag _ _ _ _ (by omega)).mono ?_);rintro e w1 ⟨rfl,hw1⟩;obtain rfl:=hw1.symm;clear hw1))
  go_ret;exact⟨by rw[HV.out];rfl,rfl⟩
 by_cases h7:r=40
 ·subst h7
  have HV:=hid (show aF 40=9 by decide)
  clear h0 h1 h2 h3 h4 h5 h6;go_enter Tryz.func153,Tryz.ntmps153;go_wp2_with (first | (go_at_call 178;(first | refine(af _ _ _ _ (by omega)).mono ?_ | refine(ag _ _ _ _ (by omega)).mono ?_);rintro e w1 ⟨rfl,hw1⟩;obtain rfl:=hw1.symm;clear hw1))
  go_ret;exact⟨by rw[HV.out];rfl,rfl⟩
 by_cases h8:r=91
 ·subst h8
  have HV:=hid (show aF 91=9 by decide)
  clear h0 h1 h2 h3 h4 h5 h6 h7;go_enter Tryz.func153,Tryz.ntmps153;go_wp2_with (first | (go_at_call 178;(first | refine(af _ _ _ _ (by omega)).mono ?_ | refine(ag _ _ _ _ (by omega)).mono ?_);rintro e w1 ⟨rfl,hw1⟩;obtain rfl:=hw1.symm;clear hw1))
  go_ret;exact⟨by rw[HV.out];rfl,rfl⟩
 by_cases h9:r=123
 ·subst h9
  have HV:=hid (show aF 123=9 by decide)
  clear h0 h1 h2 h3 h4 h5 h6 h7 h8;go_enter Tryz.func153,Tryz.ntmps153;go_wp2_with (first | (go_at_call 178;(first | refine(af _ _ _ _ (by omega)).mono ?_ | refine(ag _ _ _ _ (by omega)).mono ?_);rintro e w1 ⟨rfl,hw1⟩;obtain rfl:=hw1.symm;clear hw1))
  go_ret;exact⟨by rw[HV.out];rfl,rfl⟩
 by_cases h10:r=41
 ·subst h10
  have HV:=hid (show aF 41=10 by decide)
  clear h0 h1 h2 h3 h4 h5 h6 h7 h8 h9;go_enter Tryz.func153,Tryz.ntmps153;go_wp2_with (first | (go_at_call 178;(first | refine(af _ _ _ _ (by omega)).mono ?_ | refine(ag _ _ _ _ (by omega)).mono ?_);rintro e w1 ⟨rfl,hw1⟩;obtain rfl:=hw1.symm;clear hw1))
  go_ret;exact⟨by rw[HV.out];rfl,rfl⟩
 by_cases h11:r=93
 ·subst h11
  have HV:=hid (show aF 93=10 by decide)
  clear h0 h1 h2 h3 h4 h5 h6 h7 h8 h9 h10;go_enter Tryz.func153,Tryz.ntmps153;go_wp2_with (first | (go_at_call 178;(first | refine(af _ _ _ _ (by omega)).mono ?_ | refine(ag _ _ _ _ (by omega)).mono ?_);rintro e w1 ⟨rfl,hw1⟩;obtain rfl:=hw1.symm;clear hw1))
  go_ret;exact⟨by rw[HV.out];rfl,rfl⟩
 by_cases h12:r=125
 ·subst h12
  have HV:=hid (show aF 125=11 by decide)
  clear h0 h1 h2 h3 h4 h5 h6 h7 h8 h9 h10 h11;go_enter Tryz.func153,Tryz.ntmps153;go_wp2_with (first | (go_at_call 178;(first | refine(af _ _ _ _ (by omega)).mono ?_ | refine(ag _ _ _ _ (by omega)).mono ?_);rintro e w1 ⟨rfl,hw1⟩;obtain rfl:=hw1.symm;clear hw1))
  go_ret;exact⟨by rw[HV.out];rfl,rfl⟩
 by_cases h13:r=34
 ·subst h13
  have HV:=hid (show aF 34=12 by decide)
  clear h0 h1 h2 h3 h4 h5 h6 h7 h8 h9 h10 h11 h12;go_enter Tryz.func153,Tryz.ntmps153;go_wp2_with (first | (go_at_call 178;(first | refine(af _ _ _ _ (by omega)).mono ?_ | refine(ag _ _ _ _ (by omega)).mono ?_);rintro e w1 ⟨rfl,hw1⟩;obtain rfl:=hw1.symm;clear hw1))
  go_ret;exact⟨by rw[HV.out];rfl,rfl⟩
 by_cases h14:r=39
 ·subst h14
  have HV:=hid (show aF 39=12 by decide)
  clear h0 h1 h2 h3 h4 h5 h6 h7 h8 h9 h10 h11 h12 h13;go_enter Tryz.func153,Tryz.ntmps153;go_wp2_with (first | (go_at_call 178;(first | refine(af _ _ _ _ (by omega)).mono ?_ | refine(ag _ _ _ _ (by omega)).mono ?_);rintro e w1 ⟨rfl,hw1⟩;obtain rfl:=hw1.symm;clear hw1))
  go_ret;exact⟨by rw[HV.out];rfl,rfl⟩
 by_cases h15:r=33
 ·subst h15
  have HV:=hid (show aF 33=13 by decide)
  clear h0 h1 h2 h3 h4 h5 h6 h7 h8 h9 h10 h11 h12 h13 h14;go_enter Tryz.func153,Tryz.ntmps153;go_wp2_with (first | (go_at_call 178;(first | refine(af _ _ _ _ (by omega)).mono ?_ | refine(ag _ _ _ _ (by omega)).mono ?_);rintro e w1 ⟨rfl,hw1⟩;obtain rfl:=hw1.symm;clear hw1))
  go_ret;exact⟨by rw[HV.out];rfl,rfl⟩
 by_cases h16:r=63
 ·subst h16
  have HV:=hid (show aF 63=13 by decide)
  clear h0 h1 h2 h3 h4 h5 h6 h7 h8 h9 h10 h11 h12 h13 h14 h15;go_enter Tryz.func153,Tryz.ntmps153;go_wp2_with (first | (go_at_call 178;(first | refine(af _ _ _ _ (by omega)).mono ?_ | refine(ag _ _ _ _ (by omega)).mono ?_);rintro e w1 ⟨rfl,hw1⟩;obtain rfl:=hw1.symm;clear hw1))
  go_ret;exact⟨by rw[HV.out];rfl,rfl⟩
 by_cases h17:r=44
 ·subst h17
  have HV:=hid (show aF 44=14 by decide)
  clear h0 h1 h2 h3 h4 h5 h6 h7 h8 h9 h10 h11 h12 h13 h14 h15 h16;go_enter Tryz.func153,Tryz.ntmps153;go_wp2_with (first | (go_at_call 178;(first | refine(af _ _ _ _ (by omega)).mono ?_ | refine(ag _ _ _ _ (by omega)).mono ?_);rintro e w1 ⟨rfl,hw1⟩;obtain rfl:=hw1.symm;clear hw1))
  go_ret;exact⟨by rw[HV.out];rfl,rfl⟩
 by_cases h18:r=46
 ·subst h18
  have HV:=hid (show aF 46=14 by decide)
  clear h0 h1 h2 h3 h4 h5 h6 h7 h8 h9 h10 h11 h12 h13 h14 h15 h16 h17;go_enter Tryz.func153,Tryz.ntmps153;go_wp2_with (first | (go_at_call 178;(first | refine(af _ _ _ _ (by omega)).mono ?_ | refine(ag _ _ _ _ (by omega)).mono ?_);rintro e w1 ⟨rfl,hw1⟩;obtain rfl:=hw1.symm;clear hw1))
  go_ret;exact⟨by rw[HV.out];rfl,rfl⟩
 by_cases h19:r=58
 ·subst h19
  have HV:=hid (show aF 58=14 by decide)
  clear h0 h1 h2 h3 h4 h5 h6 h7 h8 h9 h10 h11 h12 h13 h14 h15 h16 h17 h18;go_enter Tryz.func153,Tryz.ntmps153;go_wp2_with (first | (go_at_call 178;(first | refine(af _ _ _ _ (by omega)).mono ?_ | refine(ag _ _ _ _ (by omega)).mono ?_);rintro e w1 ⟨rfl,hw1⟩;obtain rfl:=hw1.symm;clear hw1))
  go_ret;exact⟨by rw[HV.out];rfl,rfl⟩
 by_cases h20:r=59
 ·subst h20
  have HV:=hid (show aF 59=14 by decide)
  clear h0 h1 h2 h3 h4 h5 h6 h7 h8 h9 h10 h11 h12 h13 h14 h15 h16 h17 h18 h19;go_enter Tryz.func153,Tryz.ntmps153;go_wp2_with (first | (go_at_call 178;(first | refine(af _ _ _ _ (by omega)).mono ?_ | refine(ag _ _ _ _ (by omega)).mono ?_);rintro e w1 ⟨rfl,hw1⟩;obtain rfl:=hw1.symm;clear hw1))
  go_ret;exact⟨by rw[HV.out];rfl,rfl⟩
 by_cases h21:r=47
 ·subst h21
  have HV:=hid (show aF 47=15 by decide)
  clear h0 h1 h2 h3 h4 h5 h6 h7 h8 h9 h10 h11 h12 h13 h14 h15 h16 h17 h18 h19 h20;go_enter Tryz.func153,Tryz.ntmps153;go_wp2_with (first | (go_at_call 178;(first | refine(af _ _ _ _ (by omega)).mono ?_ | refine(ag _ _ _ _ (by omega)).mono ?_);rintro e w1 ⟨rfl,hw1⟩;obtain rfl:=hw1.symm;clear hw1))
  go_ret;exact⟨by rw[HV.out];rfl,rfl⟩
 by_cases h22:r=45
 ·subst h22
  have HV:=hid (show aF 45=16 by decide)
  clear h0 h1 h2 h3 h4 h5 h6 h7 h8 h9 h10 h11 h12 h13 h14 h15 h16 h17 h18 h19 h20 h21;go_enter Tryz.func153,Tryz.ntmps153;go_wp2_with (first | (go_at_call 178;(first | refine(af _ _ _ _ (by omega)).mono ?_ | refine(ag _ _ _ _ (by omega)).mono ?_);rintro e w1 ⟨rfl,hw1⟩;obtain rfl:=hw1.symm;clear hw1))
  go_ret;exact⟨by rw[HV.out];rfl,rfl⟩
 by_cases h23:r=37
 ·subst h23
  have HV:=hid (show aF 37=21 by decide)
  clear h0 h1 h2 h3 h4 h5 h6 h7 h8 h9 h10 h11 h12 h13 h14 h15 h16 h17 h18 h19 h20 h21 h22;go_enter Tryz.func153,Tryz.ntmps153;go_wp2_with (first | (go_at_call 178;(first | refine(af _ _ _ _ (by omega)).mono ?_ | refine(ag _ _ _ _ (by omega)).mono ?_);rintro e w1 ⟨rfl,hw1⟩;obtain rfl:=hw1.symm;clear hw1))
  go_ret;exact⟨by rw[HV.out];rfl,rfl⟩
 by_cases h24:r=36
 ·subst h24
  have HV:=hid (show aF 36=22 by decide)
  clear h0 h1 h2 h3 h4 h5 h6 h7 h8 h9 h10 h11 h12 h13 h14 h15 h16 h17 h18 h19 h20 h21 h22 h23;go_enter Tryz.func153,Tryz.ntmps153;go_wp2_with (first | (go_at_call 178;(first | refine(af _ _ _ _ (by omega)).mono ?_ | refine(ag _ _ _ _ (by omega)).mono ?_);rintro e w1 ⟨rfl,hw1⟩;obtain rfl:=hw1.symm;clear hw1))
  go_ret;exact⟨by rw[HV.out];rfl,rfl⟩
 by_cases h25:r=43
 ·subst h25
  have HV:=hid (show aF 43=22 by decide)
  clear h0 h1 h2 h3 h4 h5 h6 h7 h8 h9 h10 h11 h12 h13 h14 h15 h16 h17 h18 h19 h20 h21 h22 h23 h24;go_enter Tryz.func153,Tryz.ntmps153;go_wp2_with (first | (go_at_call 178;(first | refine(af _ _ _ _ (by omega)).mono ?_ | refine(ag _ _ _ _ (by omega)).mono ?_);rintro e w1 ⟨rfl,hw1⟩;obtain rfl:=hw1.symm;clear hw1))
  go_ret;exact⟨by rw[HV.out];rfl,rfl⟩
 by_cases h26:r=92
 ·subst h26
  have HV:=hid (show aF 92=22 by decide)
  clear h0 h1 h2 h3 h4 h5 h6 h7 h8 h9 h10 h11 h12 h13 h14 h15 h16 h17 h18 h19 h20 h21 h22 h23 h24 h25;go_enter Tryz.func153,Tryz.ntmps153;go_wp2_with (first | (go_at_call 178;(first | refine(af _ _ _ _ (by omega)).mono ?_ | refine(ag _ _ _ _ (by omega)).mono ?_);rintro e w1 ⟨rfl,hw1⟩;obtain rfl:=hw1.symm;clear hw1))
  go_ret;exact⟨by rw[HV.out];rfl,rfl⟩
 have HV:=hid (show aF r=0 by unfold aF;rw[if_neg h0,if_neg h1,if_neg h2,if_neg h3,if_neg h4,if_neg h5,if_neg h6,if_neg h7,if_neg h8,if_neg h9,if_neg h10,if_neg h11,if_neg h12,if_neg h13,if_neg h14,if_neg h15,if_neg h16,if_neg h17,if_neg h18,if_neg h19,if_neg h20,if_neg h21,if_neg h22,if_neg h23,if_neg h24,if_neg h25,if_neg h26])
 have b1:(r==11)=false:=beq_eq_false_iff_ne.2 h1;have b2:(r==12)=false:=beq_eq_false_iff_ne.2 h2;have b3:(r==13)=false:=beq_eq_false_iff_ne.2 h3;have b4:(r==10)=false:=beq_eq_false_iff_ne.2 h4;have b5:(r==32)=false:=beq_eq_false_iff_ne.2 h5;have b6:(r==9)=false:=beq_eq_false_iff_ne.2 h6;have b7:(r==40)=false:=beq_eq_false_iff_ne.2 h7;have b8:(r==91)=false:=beq_eq_false_iff_ne.2 h8;have b9:(r==123)=false:=beq_eq_false_iff_ne.2 h9;have b10:(r==41)=false:=beq_eq_false_iff_ne.2 h10;have b11:(r==93)=false:=beq_eq_false_iff_ne.2 h11;have b12:(r==125)=false:=beq_eq_false_iff_ne.2 h12;have b13:(r==34)=false:=beq_eq_false_iff_ne.2 h13;have b14:(r==39)=false:=beq_eq_false_iff_ne.2 h14;have b15:(r==33)=false:=beq_eq_false_iff_ne.2 h15;have b16:(r==63)=false:=beq_eq_false_iff_ne.2 h16;have b17:(r==44)=false:=beq_eq_false_iff_ne.2 h17;have b18:(r==46)=false:=beq_eq_false_iff_ne.2 h18;have b19:(r==58)=false:=beq_eq_false_iff_ne.2 h19;have b20:(r==59)=false:=beq_eq_false_iff_ne.2 h20;have b21:(r==47)=false:=beq_eq_false_iff_ne.2 h21;have b22:(r==45)=false:=beq_eq_false_iff_ne.2 h22;have b23:(r==37)=false:=beq_eq_false_iff_ne.2 h23;have b24:(r==36)=false:=beq_eq_false_iff_ne.2 h24;have b25:(r==43)=false:=beq_eq_false_iff_ne.2 h25;have b26:(r==92)=false:=beq_eq_false_iff_ne.2 h26;go_enter Tryz.func153,Tryz.ntmps153;go_wp2_with (first | (go_at_call 178;(first | refine(af _ _ _ _ (by omega)).mono ?_ | refine(ag _ _ _ _ (by omega)).mono ?_);rintro e w1 ⟨rfl,hw1⟩;obtain rfl:=hw1.symm;clear hw1))
 go_ret;exact⟨by rw[HV.out];rfl,rfl⟩
def bg (r:Int):Int:=
 if r=133 then 1 else if r=160 then 7 else if r=161 then 9 else if r=191 then 9 else if r=162 then 21 else if r=176 then 21 else if r=163 then 22 else if r=164 then 22 else if r=165 then 22 else if r=177 then 22 else if r=171 then 12 else if r=187 then 12 else if r=173 then 17 else 0
theorem zcA (r:Int) (w:sH):sK Tryz.prog 154 #[.int .i32 r] w fun e w'=>e= .returned (.int .i64 (bg r))/\w'=w:=by
 by_cases h0:r=133
 ·subst h0
  have HV:=hid (show bg 133=1 by decide)
  skip
  go_enter Tryz.func154,Tryz.ntmps154;go_wp2_with (first | (go_at_call 178;(first | refine(af _ _ _ _ (by omega)).mono ?_ | refine(ag _ _ _ _ (by omega)).mono ?_);rintro e w1 ⟨rfl,hw1⟩;obtain rfl:=hw1.symm;clear hw1))
  go_ret;exact⟨by rw[HV.out];rfl,rfl⟩
 by_cases h1:r=160
 ·subst h1
  have HV:=hid (show bg 160=7 by decide)
  clear h0;go_enter Tryz.func154,Tryz.ntmps154;go_wp2_with (first | (go_at_call 178;(first | refine(af _ _ _ _ (by omega)).mono ?_ | refine(ag _ _ _ _ (by omega)).mono ?_);rintro e w1 ⟨rfl,hw1⟩;obtain rfl:=hw1.symm;clear hw1))
  go_ret;exact⟨by rw[HV.out];rfl,rfl⟩
 by_cases h2:r=161
 ·subst h2
  have HV:=hid (show bg 161=9 by decide)
  clear h0 h1;go_enter Tryz.func154,Tryz.ntmps154;go_wp2_with (first | (go_at_call 178;(first | refine(af _ _ _ _ (by omega)).mono ?_ | refine(ag _ _ _ _ (by omega)).mono ?_);rintro e w1 ⟨rfl,hw1⟩;obtain rfl:=hw1.symm;clear hw1))
  go_ret;exact⟨by rw[HV.out];rfl,rfl⟩
 by_cases h3:r=191
 ·subst h3
  have HV:=hid (show bg 191=9 by decide)
  clear h0 h1 h2;go_enter Tryz.func154,Tryz.ntmps154;go_wp2_with (first | (go_at_call 178;(first | refine(af _ _ _ _ (by omega)).mono ?_ | refine(ag _ _ _ _ (by omega)).mono ?_);rintro e w1 ⟨rfl,hw1⟩;obtain rfl:=hw1.symm;clear hw1))
  go_ret;exact⟨by rw[HV.out];rfl,rfl⟩
 by_cases h4:r=162
 ·subst h4
  have HV:=hid (show bg 162=21 by decide)
  clear h0 h1 h2 h3;go_enter Tryz.func154,Tryz.ntmps154;go_wp2_with (first | (go_at_call 178;(first | refine(af _ _ _ _ (by omega)).mono ?_ | refine(ag _ _ _ _ (by omega)).mono ?_);rintro e w1 ⟨rfl,hw1⟩;obtain rfl:=hw1.symm;clear hw1))
  go_ret;exact⟨by rw[HV.out];rfl,rfl⟩
 by_cases h5:r=176
 ·subst h5
  have HV:=hid (show bg 176=21 by decide)
  clear h0 h1 h2 h3 h4;go_enter Tryz.func154,Tryz.ntmps154;go_wp2_with (first | (go_at_call 178;(first | refine(af _ _ _ _ (by omega)).mono ?_ | refine(ag _ _ _ _ (by omega)).mono ?_);rintro e w1 ⟨rfl,hw1⟩;obtain rfl:=hw1.symm;clear hw1))
  go_ret;exact⟨by rw[HV.out];rfl,rfl⟩
 by_cases h6:r=163
 ·subst h6
  have HV:=hid (show bg 163=22 by decide)
  clear h0 h1 h2 h3 h4 h5;go_enter Tryz.func154,Tryz.ntmps154;go_wp2_with (first | (go_at_call 178;(first | refine(af _ _ _ _ (by omega)).mono ?_ | refine(ag _ _ _ _ (by omega)).mono ?_);rintro e w1 ⟨rfl,hw1⟩;obtain rfl:=hw1.symm;clear hw1))
  go_ret;exact⟨by rw[HV.out];rfl,rfl⟩
 by_cases h7:r=164
 ·subst h7
  have HV:=hid (show bg 164=22 by decide)
  clear h0 h1 h2 h3 h4 h5 h6;go_enter Tryz.func154,Tryz.ntmps154;go_wp2_with (first | (go_at_call 178;(first | refine(af _ _ _ _ (by omega)).mono ?_ | refine(ag _ _ _ _ (by omega)).mono ?_);rintro e w1 ⟨rfl,hw1⟩;obtain rfl:=hw1.symm;clear hw1))
  go_ret;exact⟨by rw[HV.out];rfl,rfl⟩
 by_cases h8:r=165
 ·subst h8
  have HV:=hid (show bg 165=22 by decide)
  clear h0 h1 h2 h3 h4 h5 h6 h7;go_enter Tryz.func154,Tryz.ntmps154;go_wp2_with (first | (go_at_call 178;(first | refine(af _ _ _ _ (by omega)).mono ?_ | refine(ag _ _ _ _ (by omega)).mono ?_);rintro e w1 ⟨rfl,hw1⟩;obtain rfl:=hw1.symm;clear hw1))
  go_ret;exact⟨by rw[HV.out];rfl,rfl⟩
 by_cases h9:r=177
 ·subst h9
  have HV:=hid (show bg 177=22 by decide)
  clear h0 h1 h2 h3 h4 h5 h6 h7 h8;go_enter Tryz.func154,Tryz.ntmps154;go_wp2_with (first | (go_at_call 178;(first | refine(af _ _ _ _ (by omega)).mono ?_ | refine(ag _ _ _ _ (by omega)).mono ?_);rintro e w1 ⟨rfl,hw1⟩;obtain rfl:=hw1.symm;clear hw1))
  go_ret;exact⟨by rw[HV.out];rfl,rfl⟩
 by_cases h10:r=171
 ·subst h10
  have HV:=hid (show bg 171=12 by decide)
  clear h0 h1 h2 h3 h4 h5 h6 h7 h8 h9;go_enter Tryz.func154,Tryz.ntmps154;go_wp2_with (first | (go_at_call 178;(first | refine(af _ _ _ _ (by omega)).mono ?_ | refine(ag _ _ _ _ (by omega)).mono ?_);rintro e w1 ⟨rfl,hw1⟩;obtain rfl:=hw1.symm;clear hw1))
  go_ret;exact⟨by rw[HV.out];rfl,rfl⟩
 by_cases h11:r=187
 ·subst h11
  have HV:=hid (show bg 187=12 by decide)
  clear h0 h1 h2 h3 h4 h5 h6 h7 h8 h9 h10;go_enter Tryz.func154,Tryz.ntmps154;go_wp2_with (first | (go_at_call 178;(first | refine(af _ _ _ _ (by omega)).mono ?_ | refine(ag _ _ _ _ (by omega)).mono ?_);rintro e w1 ⟨rfl,hw1⟩;obtain rfl:=hw1.symm;clear hw1))
  go_ret;exact⟨by rw[HV.out];rfl,rfl⟩
 by_cases h12:r=173
 ·subst h12
  have HV:=hid (show bg 173=17 by decide)
  clear h0 h1 h2 h3 h4 h5 h6 h7 h8 h9 h10 h11;go_enter Tryz.func154,Tryz.ntmps154;go_wp2_with (first | (go_at_call 178;(first | refine(af _ _ _ _ (by omega)).mono ?_ | refine(ag _ _ _ _ (by omega)).mono ?_);rintro e w1 ⟨rfl,hw1⟩;obtain rfl:=hw1.symm;clear hw1))
  go_ret;exact⟨by rw[HV.out];rfl,rfl⟩
 have HV:=hid (show bg r=0 by unfold bg;rw[if_neg h0,if_neg h1,if_neg h2,if_neg h3,if_neg h4,if_neg h5,if_neg h6,if_neg h7,if_neg h8,if_neg h9,if_neg h10,if_neg h11,if_neg h12])
 have b0:(r==133)=false:=beq_eq_false_iff_ne.2 h0;have b1:(r==160)=false:=beq_eq_false_iff_ne.2 h1;have b2:(r==161)=false:=beq_eq_false_iff_ne.2 h2;have b3:(r==191)=false:=beq_eq_false_iff_ne.2 h3;have b4:(r==162)=false:=beq_eq_false_iff_ne.2 h4;have b5:(r==176)=false:=beq_eq_false_iff_ne.2 h5;have b6:(r==163)=false:=beq_eq_false_iff_ne.2 h6;have b7:(r==164)=false:=beq_eq_false_iff_ne.2 h7;have b8:(r==165)=false:=beq_eq_false_iff_ne.2 h8;have b9:(r==177)=false:=beq_eq_false_iff_ne.2 h9;have b10:(r==171)=false:=beq_eq_false_iff_ne.2 h10;have b11:(r==187)=false:=beq_eq_false_iff_ne.2 h11;have b12:(r==173)=false:=beq_eq_false_iff_ne.2 h12;go_enter Tryz.func154,Tryz.ntmps154;go_wp2_with (first | (go_at_call 178;(first | refine(af _ _ _ _ (by omega)).mono ?_ | refine(ag _ _ _ _ (by omega)).mono ?_);rintro e w1 ⟨rfl,hw1⟩;obtain rfl:=hw1.symm;clear hw1))
 go_ret;exact⟨by rw[HV.out];rfl,rfl⟩
def bp (r:Int):Int:=
 if r<=879 then 8 else if 1425<=r/\r<=1469 then 8 else if 1632<=r/\r<=1641 then 20 else 0
theorem p9 (r:Int) (w:sH):sK Tryz.prog 155 #[.int .i32 r] w fun e w'=>e= .returned (.int .i64 (bp r))/\w'=w:=by
 by_cases h0:r<=879
 ·have HV:=hid (show bp r=8 by unfold bp;rw[if_pos h0])
  go_enter Tryz.func155,Tryz.ntmps155;go_wp2_with (first | (go_at_call 178;(first | refine(af _ _ _ _ (by omega)).mono ?_ | refine(ag _ _ _ _ (by omega)).mono ?_);rintro e w1 ⟨rfl,hw1⟩;obtain rfl:=hw1.symm;clear hw1))
  go_ret;exact⟨by rw[HV.out];rfl,rfl⟩
 by_cases h1:1425<=r/\r<=1469
 ·have HV:=hid (show bp r=8 by unfold bp;rw[if_neg h0,if_pos h1])
  obtain⟨u1,v1⟩:=h1;go_enter Tryz.func155,Tryz.ntmps155;go_wp2_with (first | (go_at_call 178;(first | refine(af _ _ _ _ (by omega)).mono ?_ | refine(ag _ _ _ _ (by omega)).mono ?_);rintro e w1 ⟨rfl,hw1⟩;obtain rfl:=hw1.symm;clear hw1))
  go_ret;exact⟨by rw[HV.out];rfl,rfl⟩
 by_cases h2:1632<=r/\r<=1641
 ·have HV:=hid (show bp r=20 by unfold bp;rw[if_neg h0,if_neg h1,if_pos h2])
  obtain⟨u2,v2⟩:=h2;go_enter Tryz.func155,Tryz.ntmps155;go_wp2_with (first | (go_at_call 178;(first | refine(af _ _ _ _ (by omega)).mono ?_ | refine(ag _ _ _ _ (by omega)).mono ?_);rintro e w1 ⟨rfl,hw1⟩;obtain rfl:=hw1.symm;clear hw1))
  go_ret;exact⟨by rw[HV.out];rfl,rfl⟩
 have HV:=hid (show bp r=0 by unfold bp;rw[if_neg h0,if_neg h1,if_neg h2])
 go_enter Tryz.func155,Tryz.ntmps155;go_wp2_with (first | (go_at_call 178;(first | refine(af _ _ _ _ (by omega)).mono ?_ | refine(ag _ _ _ _ (by omega)).mono ?_);rintro e w1 ⟨rfl,hw1⟩;obtain rfl:=hw1.symm;clear hw1))
 go_ret;exact⟨by rw[HV.out];rfl,rfl⟩
def aQ (r:Int):Int:=
 if r=8199 then 7 else if r=8239 then 7 else if r=8203 then 5 else if r=8204 then 8 else if r=8205 then 8 else if r=8208 then 17 else if r=8211 then 17 else if r=8212 then 18 else if r=8216 then 12 else if r=8217 then 12 else if r=8220 then 12 else if r=8221 then 12 else if r=8218 then 9 else if r=8230 then 19 else if r=8232 then 1 else if r=8233 then 1 else if r=8240 then 21 else if r=8288 then 6 else if r=8364 then 22 else 0
theorem zcw (r:Int) (w:sH):sK Tryz.prog 156 #[.int .i32 r] w fun e w'=>e= .returned (.int .i64 (aQ r))/\w'=w:=by
 by_cases h0:r=8199
 ·subst h0
  have HV:=hid (show aQ 8199=7 by decide)
  skip
  go_enter Tryz.func156,Tryz.ntmps156;go_wp2_with (first | (go_at_call 178;(first | refine(af _ _ _ _ (by omega)).mono ?_ | refine(ag _ _ _ _ (by omega)).mono ?_);rintro e w1 ⟨rfl,hw1⟩;obtain rfl:=hw1.symm;clear hw1))
  go_ret;exact⟨by rw[HV.out];rfl,rfl⟩
 by_cases h1:r=8239
 ·subst h1
  have HV:=hid (show aQ 8239=7 by decide)
  clear h0;go_enter Tryz.func156,Tryz.ntmps156;go_wp2_with (first | (go_at_call 178;(first | refine(af _ _ _ _ (by omega)).mono ?_ | refine(ag _ _ _ _ (by omega)).mono ?_);rintro e w1 ⟨rfl,hw1⟩;obtain rfl:=hw1.symm;clear hw1))
  go_ret;exact⟨by rw[HV.out];rfl,rfl⟩
 by_cases h2:r=8203
 ·subst h2
  have HV:=hid (show aQ 8203=5 by decide)
  clear h0 h1;go_enter Tryz.func156,Tryz.ntmps156;go_wp2_with (first | (go_at_call 178;(first | refine(af _ _ _ _ (by omega)).mono ?_ | refine(ag _ _ _ _ (by omega)).mono ?_);rintro e w1 ⟨rfl,hw1⟩;obtain rfl:=hw1.symm;clear hw1))
  go_ret;exact⟨by rw[HV.out];rfl,rfl⟩
 by_cases h3:r=8204
 ·subst h3
  have HV:=hid (show aQ 8204=8 by decide)
  clear h0 h1 h2;go_enter Tryz.func156,Tryz.ntmps156;go_wp2_with (first | (go_at_call 178;(first | refine(af _ _ _ _ (by omega)).mono ?_ | refine(ag _ _ _ _ (by omega)).mono ?_);rintro e w1 ⟨rfl,hw1⟩;obtain rfl:=hw1.symm;clear hw1))
  go_ret;exact⟨by rw[HV.out];rfl,rfl⟩
 by_cases h4:r=8205
 ·subst h4
  have HV:=hid (show aQ 8205=8 by decide)
  clear h0 h1 h2 h3;go_enter Tryz.func156,Tryz.ntmps156;go_wp2_with (first | (go_at_call 178;(first | refine(af _ _ _ _ (by omega)).mono ?_ | refine(ag _ _ _ _ (by omega)).mono ?_);rintro e w1 ⟨rfl,hw1⟩;obtain rfl:=hw1.symm;clear hw1))
  go_ret;exact⟨by rw[HV.out];rfl,rfl⟩
 by_cases h5:r=8208
 ·subst h5
  have HV:=hid (show aQ 8208=17 by decide)
  clear h0 h1 h2 h3 h4;go_enter Tryz.func156,Tryz.ntmps156;go_wp2_with (first | (go_at_call 178;(first | refine(af _ _ _ _ (by omega)).mono ?_ | refine(ag _ _ _ _ (by omega)).mono ?_);rintro e w1 ⟨rfl,hw1⟩;obtain rfl:=hw1.symm;clear hw1))
  go_ret;exact⟨by rw[HV.out];rfl,rfl⟩
 by_cases h6:r=8211
 ·subst h6
  have HV:=hid (show aQ 8211=17 by decide)
  clear h0 h1 h2 h3 h4 h5;go_enter Tryz.func156,Tryz.ntmps156;go_wp2_with (first | (go_at_call 178;(first | refine(af _ _ _ _ (by omega)).mono ?_ | refine(ag _ _ _ _ (by omega)).mono ?_);rintro e w1 ⟨rfl,hw1⟩;obtain rfl:=hw1.symm;clear hw1))
  go_ret;exact⟨by rw[HV.out];rfl,rfl⟩
 by_cases h7:r=8212
 ·subst h7
  have HV:=hid (show aQ 8212=18 by decide)
  clear h0 h1 h2 h3 h4 h5 h6;go_enter Tryz.func156,Tryz.ntmps156;go_wp2_with (first | (go_at_call 178;(first | refine(af _ _ _ _ (by omega)).mono ?_ | refine(ag _ _ _ _ (by omega)).mono ?_);rintro e w1 ⟨rfl,hw1⟩;obtain rfl:=hw1.symm;clear hw1))
  go_ret;exact⟨by rw[HV.out];rfl,rfl⟩
 by_cases h8:r=8216
 ·subst h8
  have HV:=hid (show aQ 8216=12 by decide)
  clear h0 h1 h2 h3 h4 h5 h6 h7;go_enter Tryz.func156,Tryz.ntmps156;go_wp2_with (first | (go_at_call 178;(first | refine(af _ _ _ _ (by omega)).mono ?_ | refine(ag _ _ _ _ (by omega)).mono ?_);rintro e w1 ⟨rfl,hw1⟩;obtain rfl:=hw1.symm;clear hw1))
  go_ret;exact⟨by rw[HV.out];rfl,rfl⟩
 by_cases h9:r=8217
 ·subst h9
  have HV:=hid (show aQ 8217=12 by decide)
  clear h0 h1 h2 h3 h4 h5 h6 h7 h8;go_enter Tryz.func156,Tryz.ntmps156;go_wp2_with (first | (go_at_call 178;(first | refine(af _ _ _ _ (by omega)).mono ?_ | refine(ag _ _ _ _ (by omega)).mono ?_);rintro e w1 ⟨rfl,hw1⟩;obtain rfl:=hw1.symm;clear hw1))
  go_ret;exact⟨by rw[HV.out];rfl,rfl⟩
 by_cases h10:r=8220
 ·subst h10
  have HV:=hid (show aQ 8220=12 by decide)
  clear h0 h1 h2 h3 h4 h5 h6 h7 h8 h9;go_enter Tryz.func156,Tryz.ntmps156;go_wp2_with (first | (go_at_call 178;(first | refine(af _ _ _ _ (by omega)).mono ?_ | refine(ag _ _ _ _ (by omega)).mono ?_);rintro e w1 ⟨rfl,hw1⟩;obtain rfl:=hw1.symm;clear hw1))
  go_ret;exact⟨by rw[HV.out];rfl,rfl⟩
 by_cases h11:r=8221
 ·subst h11
  have HV:=hid (show aQ 8221=12 by decide)
  clear h0 h1 h2 h3 h4 h5 h6 h7 h8 h9 h10;go_enter Tryz.func156,Tryz.ntmps156;go_wp2_with (first | (go_at_call 178;(first | refine(af _ _ _ _ (by omega)).mono ?_ | refine(ag _ _ _ _ (by omega)).mono ?_);rintro e w1 ⟨rfl,hw1⟩;obtain rfl:=hw1.symm;clear hw1))
  go_ret;exact⟨by rw[HV.out];rfl,rfl⟩
 by_cases h12:r=8218
 ·subst h12
  have HV:=hid (show aQ 8218=9 by decide)
  clear h0 h1 h2 h3 h4 h5 h6 h7 h8 h9 h10 h11;go_enter Tryz.func156,Tryz.ntmps156;go_wp2_with (first | (go_at_call 178;(first | refine(af _ _ _ _ (by omega)).mono ?_ | refine(ag _ _ _ _ (by omega)).mono ?_);rintro e w1 ⟨rfl,hw1⟩;obtain rfl:=hw1.symm;clear hw1))
  go_ret;exact⟨by rw[HV.out];rfl,rfl⟩
 by_cases h13:r=8230
 ·subst h13
  have HV:=hid (show aQ 8230=19 by decide)
  clear h0 h1 h2 h3 h4 h5 h6 h7 h8 h9 h10 h11 h12;go_enter Tryz.func156,Tryz.ntmps156;go_wp2_with (first | (go_at_call 178;(first | refine(af _ _ _ _ (by omega)).mono ?_ | refine(ag _ _ _ _ (by omega)).mono ?_);rintro e w1 ⟨rfl,hw1⟩;obtain rfl:=hw1.symm;clear hw1))
  go_ret;exact⟨by rw[HV.out];rfl,rfl⟩
 by_cases h14:r=8232
 ·subst h14
  have HV:=hid (show aQ 8232=1 by decide)
  clear h0 h1 h2 h3 h4 h5 h6 h7 h8 h9 h10 h11 h12 h13;go_enter Tryz.func156,Tryz.ntmps156;go_wp2_with (first | (go_at_call 178;(first | refine(af _ _ _ _ (by omega)).mono ?_ | refine(ag _ _ _ _ (by omega)).mono ?_);rintro e w1 ⟨rfl,hw1⟩;obtain rfl:=hw1.symm;clear hw1))
  go_ret;exact⟨by rw[HV.out];rfl,rfl⟩
 by_cases h15:r=8233
 ·subst h15
  have HV:=hid (show aQ 8233=1 by decide)
  clear h0 h1 h2 h3 h4 h5 h6 h7 h8 h9 h10 h11 h12 h13 h14;go_enter Tryz.func156,Tryz.ntmps156;go_wp2_with (first | (go_at_call 178;(first | refine(af _ _ _ _ (by omega)).mono ?_ | refine(ag _ _ _ _ (by omega)).mono ?_);rintro e w1 ⟨rfl,hw1⟩;obtain rfl:=hw1.symm;clear hw1))
  go_ret;exact⟨by rw[HV.out];rfl,rfl⟩
 by_cases h16:r=8240
 ·subst h16
  have HV:=hid (show aQ 8240=21 by decide)
  clear h0 h1 h2 h3 h4 h5 h6 h7 h8 h9 h10 h11 h12 h13 h14 h15;go_enter Tryz.func156,Tryz.ntmps156;go_wp2_with (first | (go_at_call 178;(first | refine(af _ _ _ _ (by omega)).mono ?_ | refine(ag _ _ _ _ (by omega)).mono ?_);rintro e w1 ⟨rfl,hw1⟩;obtain rfl:=hw1.symm;clear hw1))
  go_ret;exact⟨by rw[HV.out];rfl,rfl⟩
 by_cases h17:r=8288
 ·subst h17
  have HV:=hid (show aQ 8288=6 by decide)
  clear h0 h1 h2 h3 h4 h5 h6 h7 h8 h9 h10 h11 h12 h13 h14 h15 h16;go_enter Tryz.func156,Tryz.ntmps156;go_wp2_with (first | (go_at_call 178;(first | refine(af _ _ _ _ (by omega)).mono ?_ | refine(ag _ _ _ _ (by omega)).mono ?_);rintro e w1 ⟨rfl,hw1⟩;obtain rfl:=hw1.symm;clear hw1))
  go_ret;exact⟨by rw[HV.out];rfl,rfl⟩
 by_cases h18:r=8364
 ·subst h18
  have HV:=hid (show aQ 8364=22 by decide)
  clear h0 h1 h2 h3 h4 h5 h6 h7 h8 h9 h10 h11 h12 h13 h14 h15 h16 h17;go_enter Tryz.func156,Tryz.ntmps156;go_wp2_with (first | (go_at_call 178;(first | refine(af _ _ _ _ (by omega)).mono ?_ | refine(ag _ _ _ _ (by omega)).mono ?_);rintro e w1 ⟨rfl,hw1⟩;obtain rfl:=hw1.symm;clear hw1))
  go_ret;exact⟨by rw[HV.out];rfl,rfl⟩
 have HV:=hid (show aQ r=0 by unfold aQ;rw[if_neg h0,if_neg h1,if_neg h2,if_neg h3,if_neg h4,if_neg h5,if_neg h6,if_neg h7,if_neg h8,if_neg h9,if_neg h10,if_neg h11,if_neg h12,if_neg h13,if_neg h14,if_neg h15,if_neg h16,if_neg h17,if_neg h18])
 have b0:(r==8199)=false:=beq_eq_false_iff_ne.2 h0;have b1:(r==8239)=false:=beq_eq_false_iff_ne.2 h1;have b2:(r==8203)=false:=beq_eq_false_iff_ne.2 h2;have b3:(r==8204)=false:=beq_eq_false_iff_ne.2 h3;have b4:(r==8205)=false:=beq_eq_false_iff_ne.2 h4;have b5:(r==8208)=false:=beq_eq_false_iff_ne.2 h5;have b6:(r==8211)=false:=beq_eq_false_iff_ne.2 h6;have b7:(r==8212)=false:=beq_eq_false_iff_ne.2 h7;have b8:(r==8216)=false:=beq_eq_false_iff_ne.2 h8;have b9:(r==8217)=false:=beq_eq_false_iff_ne.2 h9;have b10:(r==8220)=false:=beq_eq_false_iff_ne.2 h10;have b11:(r==8221)=false:=beq_eq_false_iff_ne.2 h11;have b12:(r==8218)=false:=beq_eq_false_iff_ne.2 h12;have b13:(r==8230)=false:=beq_eq_false_iff_ne.2 h13;have b14:(r==8232)=false:=beq_eq_false_iff_ne.2 h14;have b15:(r==8233)=false:=beq_eq_false_iff_ne.2 h15;have b16:(r==8240)=false:=beq_eq_false_iff_ne.2 h16;have b17:(r==8288)=false:=beq_eq_false_iff_ne.2 h17;have b18:(r==8364)=false:=beq_eq_false_iff_ne.2 h18;go_enter Tryz.func156,Tryz.ntmps156;go_wp2_with (first | (go_at_call 178;(first | refine(af _ _ _ _ (by omega)).mono ?_ | refine(ag _ _ _ _ (by omega)).mono ?_);rintro e w1 ⟨rfl,hw1⟩;obtain rfl:=hw1.symm;clear hw1))
 go_ret;exact⟨by rw[HV.out];rfl,rfl⟩
def aY (r:Int):Int:=
 if 12353<=r/\r<=12438 then 23 else if 12449<=r/\r<=12538 then 23 else if r=12289 then 11 else if r=12290 then 11 else if r=12297 then 11 else if r=12299 then 11 else if r=12301 then 11 else if r=12296 then 9 else if r=12298 then 9 else if r=12300 then 9 else if r=12293 then 24 else if r=12316 then 24 else if 12443<=r/\r<=12446 then 24 else if 12539<=r/\r<=12542 then 24 else if r=12441 then 8 else if r=12442 then 8 else 0
theorem zfA (r:Int) (w:sH):sK Tryz.prog 157 #[.int .i32 r] w fun e w'=>e= .returned (.int .i64 (aY r))/\w'=w:=by
 by_cases h0:12353<=r/\r<=12438
 ·have HV:=hid (show aY r=23 by unfold aY;rw[if_pos h0])
  obtain⟨u0,v0⟩:=h0;go_enter Tryz.func157,Tryz.ntmps157;go_wp2_with (first | (go_at_call 178;(first | refine(af _ _ _ _ (by omega)).mono ?_ | refine(ag _ _ _ _ (by omega)).mono ?_);rintro e w1 ⟨rfl,hw1⟩;obtain rfl:=hw1.symm;clear hw1))
  go_ret;exact⟨by rw[HV.out];rfl,rfl⟩
 by_cases h1:12449<=r/\r<=12538
 ·have HV:=hid (show aY r=23 by unfold aY;rw[if_neg h0,if_pos h1])
  obtain⟨u1,v1⟩:=h1;go_enter Tryz.func157,Tryz.ntmps157;go_wp2_with (first | (go_at_call 178;(first | refine(af _ _ _ _ (by omega)).mono ?_ | refine(ag _ _ _ _ (by omega)).mono ?_);rintro e w1 ⟨rfl,hw1⟩;obtain rfl:=hw1.symm;clear hw1))
  go_ret;exact⟨by rw[HV.out];rfl,rfl⟩
 by_cases h2:r=12289
 ·subst h2
  have HV:=hid (show aY 12289=11 by decide)
  clear h0 h1;go_enter Tryz.func157,Tryz.ntmps157;go_wp2_with (first | (go_at_call 178;(first | refine(af _ _ _ _ (by omega)).mono ?_ | refine(ag _ _ _ _ (by omega)).mono ?_);rintro e w1 ⟨rfl,hw1⟩;obtain rfl:=hw1.symm;clear hw1))
  go_ret;exact⟨by rw[HV.out];rfl,rfl⟩
 by_cases h3:r=12290
 ·subst h3
  have HV:=hid (show aY 12290=11 by decide)
  clear h0 h1 h2;go_enter Tryz.func157,Tryz.ntmps157;go_wp2_with (first | (go_at_call 178;(first | refine(af _ _ _ _ (by omega)).mono ?_ | refine(ag _ _ _ _ (by omega)).mono ?_);rintro e w1 ⟨rfl,hw1⟩;obtain rfl:=hw1.symm;clear hw1))
  go_ret;exact⟨by rw[HV.out];rfl,rfl⟩
 by_cases h4:r=12297
 ·subst h4
  have HV:=hid (show aY 12297=11 by decide)
  clear h0 h1 h2 h3;go_enter Tryz.func157,Tryz.ntmps157;go_wp2_with (first | (go_at_call 178;(first | refine(af _ _ _ _ (by omega)).mono ?_ | refine(ag _ _ _ _ (by omega)).mono ?_);rintro e w1 ⟨rfl,hw1⟩;obtain rfl:=hw1.symm;clear hw1))
  go_ret;exact⟨by rw[HV.out];rfl,rfl⟩
 by_cases h5:r=12299
 ·subst h5
  have HV:=hid (show aY 12299=11 by decide)
  clear h0 h1 h2 h3 h4;go_enter Tryz.func157,Tryz.ntmps157;go_wp2_with (first | (go_at_call 178;(first | refine(af _ _ _ _ (by omega)).mono ?_ | refine(ag _ _ _ _ (by omega)).mono ?_);rintro e w1 ⟨rfl,hw1⟩;obtain rfl:=hw1.symm;clear hw1))
  go_ret;exact⟨by rw[HV.out];rfl,rfl⟩
 by_cases h6:r=12301
 ·subst h6
  have HV:=hid (show aY 12301=11 by decide)
  clear h0 h1 h2 h3 h4 h5;go_enter Tryz.func157,Tryz.ntmps157;go_wp2_with (first | (go_at_call 178;(first | refine(af _ _ _ _ (by omega)).mono ?_ | refine(ag _ _ _ _ (by omega)).mono ?_);rintro e w1 ⟨rfl,hw1⟩;obtain rfl:=hw1.symm;clear hw1))
  go_ret;exact⟨by rw[HV.out];rfl,rfl⟩
 by_cases h7:r=12296
 ·subst h7
  have HV:=hid (show aY 12296=9 by decide)
  clear h0 h1 h2 h3 h4 h5 h6;go_enter Tryz.func157,Tryz.ntmps157;go_wp2_with (first | (go_at_call 178;(first | refine(af _ _ _ _ (by omega)).mono ?_ | refine(ag _ _ _ _ (by omega)).mono ?_);rintro e w1 ⟨rfl,hw1⟩;obtain rfl:=hw1.symm;clear hw1))
  go_ret;exact⟨by rw[HV.out];rfl,rfl⟩
 by_cases h8:r=12298
 ·subst h8
  have HV:=hid (show aY 12298=9 by decide)
  clear h0 h1 h2 h3 h4 h5 h6 h7;go_enter Tryz.func157,Tryz.ntmps157;go_wp2_with (first | (go_at_call 178;(first | refine(af _ _ _ _ (by omega)).mono ?_ | refine(ag _ _ _ _ (by omega)).mono ?_);rintro e w1 ⟨rfl,hw1⟩;obtain rfl:=hw1.symm;clear hw1))
  go_ret;exact⟨by rw[HV.out];rfl,rfl⟩
 by_cases h9:r=12300
 ·subst h9
  have HV:=hid (show aY 12300=9 by decide)
  clear h0 h1 h2 h3 h4 h5 h6 h7 h8;go_enter Tryz.func157,Tryz.ntmps157;go_wp2_with (first | (go_at_call 178;(first | refine(af _ _ _ _ (by omega)).mono ?_ | refine(ag _ _ _ _ (by omega)).mono ?_);rintro e w1 ⟨rfl,hw1⟩;obtain rfl:=hw1.symm;clear hw1))
  go_ret;exact⟨by rw[HV.out];rfl,rfl⟩
 by_cases h10:r=12293
 ·subst h10
  have HV:=hid (show aY 12293=24 by decide)
  clear h0 h1 h2 h3 h4 h5 h6 h7 h8 h9;go_enter Tryz.func157,Tryz.ntmps157;go_wp2_with (first | (go_at_call 178;(first | refine(af _ _ _ _ (by omega)).mono ?_ | refine(ag _ _ _ _ (by omega)).mono ?_);rintro e w1 ⟨rfl,hw1⟩;obtain rfl:=hw1.symm;clear hw1))
  go_ret;exact⟨by rw[HV.out];rfl,rfl⟩
 by_cases h11:r=12316
 ·subst h11
  have HV:=hid (show aY 12316=24 by decide)
  clear h0 h1 h2 h3 h4 h5 h6 h7 h8 h9 h10;go_enter Tryz.func157,Tryz.ntmps157;go_wp2_with (first | (go_at_call 178;(first | refine(af _ _ _ _ (by omega)).mono ?_ | refine(ag _ _ _ _ (by omega)).mono ?_);rintro e w1 ⟨rfl,hw1⟩;obtain rfl:=hw1.symm;clear hw1))
  go_ret;exact⟨by rw[HV.out];rfl,rfl⟩
 by_cases h12:12443<=r/\r<=12446
 ·have HV:=hid (show aY r=24 by unfold aY;rw[if_neg h0,if_neg h1,if_neg h2,if_neg h3,if_neg h4,if_neg h5,if_neg h6,if_neg h7,if_neg h8,if_neg h9,if_neg h10,if_neg h11,if_pos h12])
  have b2:(r==12289)=false:=beq_eq_false_iff_ne.2 h2;have b3:(r==12290)=false:=beq_eq_false_iff_ne.2 h3;have b4:(r==12297)=false:=beq_eq_false_iff_ne.2 h4;have b5:(r==12299)=false:=beq_eq_false_iff_ne.2 h5;have b6:(r==12301)=false:=beq_eq_false_iff_ne.2 h6;have b7:(r==12296)=false:=beq_eq_false_iff_ne.2 h7;have b8:(r==12298)=false:=beq_eq_false_iff_ne.2 h8;have b9:(r==12300)=false:=beq_eq_false_iff_ne.2 h9;have b10:(r==12293)=false:=beq_eq_false_iff_ne.2 h10;have b11:(r==12316)=false:=beq_eq_false_iff_ne.2 h11;obtain⟨u12,v12⟩:=h12;go_enter Tryz.func157,Tryz.ntmps157;go_wp2_with (first | (go_at_call 178;(first | refine(af _ _ _ _ (by omega)).mono ?_ | refine(ag _ _ _ _ (by omega)).mono ?_);rintro e w1 ⟨rfl,hw1⟩;obtain rfl:=hw1.symm;clear hw1))
  go_ret;exact⟨by rw[HV.out];rfl,rfl⟩
 by_cases h13:12539<=r/\r<=12542
 ·have HV:=hid (show aY r=24 by unfold aY;rw[if_neg h0,if_neg h1,if_neg h2,if_neg h3,if_neg h4,if_neg h5,if_neg h6,if_neg h7,if_neg h8,if_neg h9,if_neg h10,if_neg h11,if_neg h12,if_pos h13])
  have b2:(r==12289)=false:=beq_eq_false_iff_ne.2 h2;have b3:(r==12290)=false:=beq_eq_false_iff_ne.2 h3;have b4:(r==12297)=false:=beq_eq_false_iff_ne.2 h4;have b5:(r==12299)=false:=beq_eq_false_iff_ne.2 h5;have b6:(r==12301)=false:=beq_eq_false_iff_ne.2 h6;have b7:(r==12296)=false:=beq_eq_false_iff_ne.2 h7;have b8:(r==12298)=false:=beq_eq_false_iff_ne.2 h8;have b9:(r==12300)=false:=beq_eq_false_iff_ne.2 h9;have b10:(r==12293)=false:=beq_eq_false_iff_ne.2 h10;have b11:(r==12316)=false:=beq_eq_false_iff_ne.2 h11;obtain⟨u13,v13⟩:=h13;go_enter Tryz.func157,Tryz.ntmps157;go_wp2_with (first | (go_at_call 178;(first | refine(af _ _ _ _ (by omega)).mono ?_ | refine(ag _ _ _ _ (by omega)).mono ?_);rintro e w1 ⟨rfl,hw1⟩;obtain rfl:=hw1.symm;clear hw1))
  go_ret;exact⟨by rw[HV.out];rfl,rfl⟩
 by_cases h14:r=12441
 ·subst h14
  have HV:=hid (show aY 12441=8 by decide)
  clear h0 h1 h2 h3 h4 h5 h6 h7 h8 h9 h10 h11 h12 h13;go_enter Tryz.func157,Tryz.ntmps157;go_wp2_with (first | (go_at_call 178;(first | refine(af _ _ _ _ (by omega)).mono ?_ | refine(ag _ _ _ _ (by omega)).mono ?_);rintro e w1 ⟨rfl,hw1⟩;obtain rfl:=hw1.symm;clear hw1))
  go_ret;exact⟨by rw[HV.out];rfl,rfl⟩
 by_cases h15:r=12442
 ·subst h15
  have HV:=hid (show aY 12442=8 by decide)
  clear h0 h1 h2 h3 h4 h5 h6 h7 h8 h9 h10 h11 h12 h13 h14;go_enter Tryz.func157,Tryz.ntmps157;go_wp2_with (first | (go_at_call 178;(first | refine(af _ _ _ _ (by omega)).mono ?_ | refine(ag _ _ _ _ (by omega)).mono ?_);rintro e w1 ⟨rfl,hw1⟩;obtain rfl:=hw1.symm;clear hw1))
  go_ret;exact⟨by rw[HV.out];rfl,rfl⟩
 have HV:=hid (show aY r=0 by unfold aY;rw[if_neg h0,if_neg h1,if_neg h2,if_neg h3,if_neg h4,if_neg h5,if_neg h6,if_neg h7,if_neg h8,if_neg h9,if_neg h10,if_neg h11,if_neg h12,if_neg h13,if_neg h14,if_neg h15])
 have b2:(r==12289)=false:=beq_eq_false_iff_ne.2 h2;have b3:(r==12290)=false:=beq_eq_false_iff_ne.2 h3;have b4:(r==12297)=false:=beq_eq_false_iff_ne.2 h4;have b5:(r==12299)=false:=beq_eq_false_iff_ne.2 h5;have b6:(r==12301)=false:=beq_eq_false_iff_ne.2 h6;have b7:(r==12296)=false:=beq_eq_false_iff_ne.2 h7;have b8:(r==12298)=false:=beq_eq_false_iff_ne.2 h8;have b9:(r==12300)=false:=beq_eq_false_iff_ne.2 h9;have b10:(r==12293)=false:=beq_eq_false_iff_ne.2 h10;have b11:(r==12316)=false:=beq_eq_false_iff_ne.2 h11;have b14:(r==12441)=false:=beq_eq_false_iff_ne.2 h14;have b15:(r==12442)=false:=beq_eq_false_iff_ne.2 h15;go_enter Tryz.func157,Tryz.ntmps157;go_wp2_with (first | (go_at_call 178;(first | refine(af _ _ _ _ (by omega)).mono ?_ | refine(ag _ _ _ _ (by omega)).mono ?_);rintro e w1 ⟨rfl,hw1⟩;obtain rfl:=hw1.symm;clear hw1))
 go_ret;exact⟨by rw[HV.out];rfl,rfl⟩
def bC (r:Int):Int:=
 if 13312<=r/\r<=19903 then 23 else if 19968<=r/\r<=40959 then 23 else if 127744<=r/\r<=127994 then 23 else if 128000<=r/\r<=128591 then 23 else if 65024<=r/\r<=65039 then 8 else if 127995<=r/\r<=127999 then 8 else if r=65279 then 6 else if 127462<=r/\r<=127487 then 25 else 0
theorem zfC (r:Int) (w:sH):sK Tryz.prog 158 #[.int .i32 r] w fun e w'=>e= .returned (.int .i64 (bC r))/\w'=w:=by
 by_cases h0:13312<=r/\r<=19903
 ·have HV:=hid (show bC r=23 by unfold bC;rw[if_pos h0])
  obtain⟨u0,v0⟩:=h0;go_enter Tryz.func158,Tryz.ntmps158;go_wp2_with (first | (go_at_call 178;(first | refine(af _ _ _ _ (by omega)).mono ?_ | refine(ag _ _ _ _ (by omega)).mono ?_);rintro e w1 ⟨rfl,hw1⟩;obtain rfl:=hw1.symm;clear hw1))
  go_ret;exact⟨by rw[HV.out];rfl,rfl⟩
 by_cases h1:19968<=r/\r<=40959
 ·have HV:=hid (show bC r=23 by unfold bC;rw[if_neg h0,if_pos h1])
  obtain⟨u1,v1⟩:=h1;go_enter Tryz.func158,Tryz.ntmps158;go_wp2_with (first | (go_at_call 178;(first | refine(af _ _ _ _ (by omega)).mono ?_ | refine(ag _ _ _ _ (by omega)).mono ?_);rintro e w1 ⟨rfl,hw1⟩;obtain rfl:=hw1.symm;clear hw1))
  go_ret;exact⟨by rw[HV.out];rfl,rfl⟩
 by_cases h2:127744<=r/\r<=127994
 ·have HV:=hid (show bC r=23 by unfold bC;rw[if_neg h0,if_neg h1,if_pos h2])
  obtain⟨u2,v2⟩:=h2;go_enter Tryz.func158,Tryz.ntmps158;go_wp2_with (first | (go_at_call 178;(first | refine(af _ _ _ _ (by omega)).mono ?_ | refine(ag _ _ _ _ (by omega)).mono ?_);rintro e w1 ⟨rfl,hw1⟩;obtain rfl:=hw1.symm;clear hw1))
  go_ret;exact⟨by rw[HV.out];rfl,rfl⟩
 by_cases h3:128000<=r/\r<=128591
 ·have HV:=hid (show bC r=23 by unfold bC;rw[if_neg h0,if_neg h1,if_neg h2,if_pos h3])
  obtain⟨u3,v3⟩:=h3;go_enter Tryz.func158,Tryz.ntmps158;go_wp2_with (first | (go_at_call 178;(first | refine(af _ _ _ _ (by omega)).mono ?_ | refine(ag _ _ _ _ (by omega)).mono ?_);rintro e w1 ⟨rfl,hw1⟩;obtain rfl:=hw1.symm;clear hw1))
  go_ret;exact⟨by rw[HV.out];rfl,rfl⟩
 by_cases h4:65024<=r/\r<=65039
 ·have HV:=hid (show bC r=8 by unfold bC;rw[if_neg h0,if_neg h1,if_neg h2,if_neg h3,if_pos h4])
  obtain⟨u4,v4⟩:=h4;go_enter Tryz.func158,Tryz.ntmps158;go_wp2_with (first | (go_at_call 178;(first | refine(af _ _ _ _ (by omega)).mono ?_ | refine(ag _ _ _ _ (by omega)).mono ?_);rintro e w1 ⟨rfl,hw1⟩;obtain rfl:=hw1.symm;clear hw1))
  go_ret;exact⟨by rw[HV.out];rfl,rfl⟩
 by_cases h5:127995<=r/\r<=127999
 ·have HV:=hid (show bC r=8 by unfold bC;rw[if_neg h0,if_neg h1,if_neg h2,if_neg h3,if_neg h4,if_pos h5])
  obtain⟨u5,v5⟩:=h5;go_enter Tryz.func158,Tryz.ntmps158;go_wp2_with (first | (go_at_call 178;(first | refine(af _ _ _ _ (by omega)).mono ?_ | refine(ag _ _ _ _ (by omega)).mono ?_);rintro e w1 ⟨rfl,hw1⟩;obtain rfl:=hw1.symm;clear hw1))
  go_ret;exact⟨by rw[HV.out];rfl,rfl⟩
 by_cases h6:r=65279
 ·subst h6
  have HV:=hid (show bC 65279=6 by decide)
  clear h0 h1 h2 h3 h4 h5;go_enter Tryz.func158,Tryz.ntmps158;go_wp2_with (first | (go_at_call 178;(first | refine(af _ _ _ _ (by omega)).mono ?_ | refine(ag _ _ _ _ (by omega)).mono ?_);rintro e w1 ⟨rfl,hw1⟩;obtain rfl:=hw1.symm;clear hw1))
  go_ret;exact⟨by rw[HV.out];rfl,rfl⟩
 by_cases h7:127462<=r/\r<=127487
 ·have HV:=hid (show bC r=25 by unfold bC;rw[if_neg h0,if_neg h1,if_neg h2,if_neg h3,if_neg h4,if_neg h5,if_neg h6,if_pos h7])
  have b6:(r==65279)=false:=beq_eq_false_iff_ne.2 h6;obtain⟨u7,v7⟩:=h7;go_enter Tryz.func158,Tryz.ntmps158;go_wp2_with (first | (go_at_call 178;(first | refine(af _ _ _ _ (by omega)).mono ?_ | refine(ag _ _ _ _ (by omega)).mono ?_);rintro e w1 ⟨rfl,hw1⟩;obtain rfl:=hw1.symm;clear hw1))
  go_ret;exact⟨by rw[HV.out];rfl,rfl⟩
 have HV:=hid (show bC r=0 by unfold bC;rw[if_neg h0,if_neg h1,if_neg h2,if_neg h3,if_neg h4,if_neg h5,if_neg h6,if_neg h7])
 have b6:(r==65279)=false:=beq_eq_false_iff_ne.2 h6;go_enter Tryz.func158,Tryz.ntmps158;go_wp2_with (first | (go_at_call 178;(first | refine(af _ _ _ _ (by omega)).mono ?_ | refine(ag _ _ _ _ (by omega)).mono ?_);rintro e w1 ⟨rfl,hw1⟩;obtain rfl:=hw1.symm;clear hw1))
 go_ret;exact⟨by rw[HV.out];rfl,rfl⟩
def bE (r:Int):Int:=
 if r<128 then aF r else if r<768 then bg r else if r<8192 then bp r else if r<8448 then aQ r else if r<12544 then aY r else bC r
theorem qS (r:Int) (w:sH):sK Tryz.prog 127 #[.int .i32 r] w fun e w'=>e= .returned (.int .i64 (bE r))/\w'=w:=by
 by_cases h0:r<128
 ·have HV:=hid (show bE r=aF r by unfold bE;rw[if_pos h0])
  go_enter Tryz.func127,Tryz.ntmps127;go_wp2_with fail;refine(zcC r w).mono ?_;rintro e w1 ⟨rfl,hw1⟩;obtain rfl:=hw1.symm;clear hw1;go_wp2;go_ret;exact⟨by rw[HV.out];rfl,rfl⟩
 by_cases h1:r<768
 ·have HV:=hid (show bE r=bg r by unfold bE;rw[if_neg h0,if_pos h1])
  go_enter Tryz.func127,Tryz.ntmps127;go_wp2_with fail;refine(zcA r w).mono ?_;rintro e w1 ⟨rfl,hw1⟩;obtain rfl:=hw1.symm;clear hw1;go_wp2;go_ret;exact⟨by rw[HV.out];rfl,rfl⟩
 by_cases h2:r<8192
 ·have HV:=hid (show bE r=bp r by unfold bE;rw[if_neg h0,if_neg h1,if_pos h2])
  go_enter Tryz.func127,Tryz.ntmps127;go_wp2_with fail;refine(p9 r w).mono ?_;rintro e w1 ⟨rfl,hw1⟩;obtain rfl:=hw1.symm;clear hw1;go_wp2;go_ret;exact⟨by rw[HV.out];rfl,rfl⟩
 by_cases h3:r<8448
 ·have HV:=hid (show bE r=aQ r by unfold bE;rw[if_neg h0,if_neg h1,if_neg h2,if_pos h3])
  go_enter Tryz.func127,Tryz.ntmps127;go_wp2_with fail;refine(zcw r w).mono ?_;rintro e w1 ⟨rfl,hw1⟩;obtain rfl:=hw1.symm;clear hw1;go_wp2;go_ret;exact⟨by rw[HV.out];rfl,rfl⟩
 by_cases h4:r<12544
 ·have HV:=hid (show bE r=aY r by unfold bE;rw[if_neg h0,if_neg h1,if_neg h2,if_neg h3,if_pos h4])
  go_enter Tryz.func127,Tryz.ntmps127;go_wp2_with fail;refine(zfA r w).mono ?_;rintro e w1 ⟨rfl,hw1⟩;obtain rfl:=hw1.symm;clear hw1;go_wp2;go_ret;exact⟨by rw[HV.out];rfl,rfl⟩
 have HV:=hid (show bE r=bC r by unfold bE;rw[if_neg h0,if_neg h1,if_neg h2,if_neg h3,if_neg h4])
 go_enter Tryz.func127,Tryz.ntmps127;go_wp2_with fail;refine(zfC r w).mono ?_;rintro e w1 ⟨rfl,hw1⟩;obtain rfl:=hw1.symm;clear hw1;go_wp2;go_ret;exact⟨by rw[HV.out];rfl,rfl⟩
end
namespace Ln
def bX (K:List Int) (c:Int):Bool:=K.contains c
theorem cy (x:Int) (K:List Int) (c:Int):bX (x::K) c=((c==x) || bX K c):=by unfold bX;rw[List.contains_cons]
def aR (l:List UInt8):Int:=if l=[] then -1 else bE (aU l).1
def aS (l:List UInt8):Int:=if l=[] then -1 else bE (dec l).1
def wth (K:List Int):Nat->List UInt8->List UInt8
 | 0,l=>l
 | f+1,l=>if l=[] then l else if bX K (aR l) then wth K f (p8 l) else l
def dt (K:List Int) (l:List UInt8):List UInt8:=wth K l.length l
def aL (l:List UInt8):Int:=aR (dt [8] l)
def di (K:List Int) (l:List UInt8):List UInt8:=if bX K (aR (dt [8] l)) then p8 (dt [8] l) else l
def mw (l:List UInt8):Bool:=aL (di [14,15] (di [11,10] l))==20
def cM:Nat->List UInt8->Bool->Bool
 | 0,_,o=>o
 | f+1,l,o=>if aL l=25 then cM f (di [25] l) (!o) else o
def dj (c:Int):Bool:=bX [1,2,3] c
def bf (a b:Int):Bool:=
 if bX [6,11,10,13,14,15] b then true else if a=9 then true else if a=12 then b==9 else if a=11 then b==24 else if a=10 then b==24 else if a=18 then b==18 else false
def cQ (a b:Int):Bool:=bX [6,7] a || (b==7&& !bX [4,17,16] a)
def bN (a b:Int):Bool:=
 if a=12 then true else if a=0 then bX [0,20,9,21,22] b else if a=20 then bX [0,20,9,21,22] b else if a=14 then bX [0,20] b else if a=10 then bX [0,20] b else if a=21 then bX [0,20] b else if a=22 then bX [0,20,23] b else if a=16 then b==20 else if a=15 then b==20 else if a=23 then b==21 else false
def eK (s:List UInt8) (fr at':Nat):Bool:=
 if cQ (aL (s.take at')) (aS (s.drop at')) then true else if bX [12,17,16,24,19] (aS (s.drop at')) then true else if bN (aL (s.take at')) (aS (s.drop at')) then true else
 if bX [21,22] (aS (s.drop at')) then mw (s.take at') else
 if bX [21,22] (aL (s.take at'))&&aS (s.drop at')==9 then aS (s.drop (at'+(dec (s.drop at')).2))==20 else
 if aL (s.take at')=25/\aS (s.drop at')=25 then cM ((s.take at').drop fr).length ((s.take at').drop fr) false else false
def gH (s:List UInt8) (fr at':Nat):Bool:=
 if aR (s.take at')=2/\aS (s.drop at')=3 then false else if dj (aR (s.take at')) then true else
 if dj (aS (s.drop at')) then false else if bX [4,5] (aS (s.drop at')) then false else
 if aR (dt [4] (s.take at'))=5 then true else
 if aR (s.take at')=4 then !bf (aL (dt [4] (s.take at'))) (aS (s.drop at')) else
 !(aS (s.drop at')==8)&& !bf (aL (dt [4] (s.take at'))) (aS (s.drop at'))&& !eK s fr at'
theorem zax (l:List UInt8) (h:l≠ []):1<=(aU l).2/\(aU l).2<=l.length:=by
 obtain⟨e,n,c,h1,h2,h3,_⟩:=zjK l h;rw[h1];exact⟨h2,by show n<=_;omega⟩
theorem lR (l:List UInt8) (h:l≠ []):(p8 l).length<l.length:=by
 have:=zax l h;have:0<l.length:=List.length_pos_iff.2 h;unfold p8;rw[sN];omega
theorem zsF (l:List UInt8):(p8 l).length<=l.length:=by unfold p8;rw[sN];omega
theorem rI (K:List Int):∀(f g:Nat) (l:List UInt8),l.length<=f->l.length<=g->wth K f l=wth K g l
 | 0,g,l,hf,hg=>by
  have:l=[]:=sI.1 (by omega)
  subst this
  cases g<;>simp[wth]
 | f+1,0,l,hf,hg=>by
  have:l=[]:=sI.1 (by omega)
  subst this
  simp[wth]
 | f+1,g+1,l,hf,hg=>by
  unfold wth
  by_cases h:l=[]
  ·rw[if_pos h,if_pos h]
  ·have:=lR l h
   rw[if_neg h,if_neg h,rI K f g (p8 l) (by omega) (by omega)]
theorem nW (K:List Int) (l:List UInt8) (h:l≠ []) (hk:bX K (aR l)=true):dt K l=dt K (p8 l):=by
 have h1:=lR l h;unfold dt;rw[rI K l.length (l.length - 1+1) l (by omega) (by omega)]
 conv=>lhs;unfold wth
 rw[if_neg h,if_pos hk];exact rI K _ _ _ (by omega) (by omega)
theorem rJ (K:List Int) (l:List UInt8) (hk:bX K (aR l)=false):dt K l=l:=by
 unfold dt
 cases l.length with
 | zero=>rfl
 | succ n=>
  unfold wth
  by_cases h:l=[]
  ·rw[if_pos h]
  ·rw[if_neg h,hk];rfl
theorem iD (K:List Int):∀(n:Nat) (l:List UInt8),l.length<=n->(dt K l).length<=l.length
 | 0,l,hl=>by
  have:l=[]:=sI.1 (by omega)
  subst this;exact sJ _
 | n+1,l,hl=>by
  by_cases h:l=[]
  ·subst h;exact sJ _
  ·cases hk:bX K (aR l) with
   | true=>
    have h1:=lR l h;rw[nW K l h hk];exact sT (iD K n (p8 l) (by omega)) (Nat.le_of_lt h1)
   | false=>rw[rJ K l hk];exact sJ _
theorem qR {l:List UInt8} {K:List Int} (hK:bX K (-1)=false) (h:bX K (aR l)=true):l≠ []:=fun e=>by
 subst e;rw[show aR []= -1 from rfl,hK] at h
 cases h
theorem zcx (K:List Int) (l:List UInt8):(di K l).length<=l.length:=by
 unfold di
 split
 ·exact sT (zsF _) (iD _ _ l (sJ _))
 ·exact sJ _
theorem kG (K:List Int) (l:List UInt8) (hK:bX K (-1)=false) (h:bX K (aL l)=true):(di K l).length<l.length:=by
 have h':bX K (aR (dt [8] l))=true:=h;unfold di;rw[if_pos h'];exact sS (lR _ (qR hK h')) (iD _ _ l (sJ _))
theorem lS:∀(f g:Nat) (l:List UInt8) (o:Bool),l.length<=f->l.length<=g->cM f l o=cM g l o
 | 0,g,l,o,hf,hg=>by
  have:l=[]:=sI.1 (by omega)
  subst this
  cases g with
  | zero=>rfl
  | succ g=>unfold cM;rw[if_neg (show ¬aL []=25 by decide)]
 | f+1,0,l,o,hf,hg=>by
  have:l=[]:=sI.1 (by omega)
  subst this;unfold cM;rw[if_neg (show ¬aL []=25 by decide)]
 | f+1,g+1,l,o,hf,hg=>by
  unfold cM
  by_cases h:aL l=25
  ·have h1:=kG [25] l (by decide) (by rw[h];decide)
   rw[if_pos h,if_pos h,lS f g _ _ (by omega) (by omega)]
  ·rw[if_neg h,if_neg h]
theorem qQ (l:List UInt8) (o:Bool) (h:aL l=25):cM l.length l o=cM (di [25] l).length (di [25] l) (!o):=by
 have h1:=kG [25] l (by decide) (by rw[h];decide)
 rw[lS l.length (l.length - 1+1) l o (by omega) (by omega)]
 conv=>lhs;unfold cM
 rw[if_pos h];exact lS _ _ _ _ (by omega) (by omega)
theorem zcy (l:List UInt8) (o:Bool) (h:¬aL l=25):cM l.length l o=o:=by
 cases l.length with
 | zero=>rfl
 | succ n=>unfold cM;rw[if_neg h]
end Ln
namespace Ln
open Go.RowKit
structure Tb (w:sH):Prop where
 tabs:sO 0 1 w
 two:2<=w.heap.size
theorem Tb.below {w w':sH} (h:Tb w) (hb:sM w.heap.size w w'):Tb w':=⟨zeU h.tabs h.two hb,sT h.two hb.size⟩
theorem below_box {w:sH} {o:Obj}:sM w.heap.size w (w.alloc o):=(sL _ _).alloc (sJ _) _
def RdI (w:sH) (ao:Option Addr) (l:List Int):Prop:=
 ∀(k:Nat) (z:Int),l[k]? =some z->∃a:Addr,ao=some a/\a.block<w.heap.size/\w.cell? (a.add k)=some (.int .i64 z)
theorem RdI.below {w w':sH} {ao:Option Addr} {l:List Int} (h:RdI w ao l) (hb:sM w.heap.size w w'):RdI w' ao l:=fun k z hk=>by
 obtain⟨a,h1,h2,h3⟩:=h k z hk;exact⟨a,h1,sS h2 hb.size,(hb.cell (p:=a.add k) (by rw[add_blk];exact h2)).trans h3⟩
theorem sy (w:sH) (K:List Int) (T:TypeId):RdI (w.alloc (.cells (K.map fun z=>sP .i64 z).toArray T)) (some ⟨w.heap.size,0,none⟩) K:=fun k z hk=>by
 refine⟨_,rfl,by simp,?_⟩
 rw[Addr.add_lit,Nat.zero_add,cell_of_row _ _ _ _ T (0,0) (heap_alloc_new w _)]
 simp[hk]
theorem lX (c:Int) (ao:Option Addr) (n cap:Nat) (K:List Int) (w:sH) (h:RdI w ao K) (hn:n=K.length) (hl:n<=1000):
  sK Tryz.prog 95 #[.int .i64 c,.slice ao n cap] w fun e w'=>e= .returned (.bool (bX K c))/\w'=w:=by
 have HR:=hid h;have HN:=hid hn;clear h hn;go_enter Tryz.func95,Tryz.ntmps95;go_wp2;go_loopw [9] (fun fr wr=>∃k:Nat,fr= .int .i64 k/\k<=n/\Hid (bX K c=bX (K.drop k) c)/\wr=w) (fun fr _=>n - (intOf fr).toNat)
 case atStart=>exact⟨0,rfl,Nat.zero_le _,by simp[Hid],rfl⟩
 case round=>
  obtain⟨k,rfl,hk,HK,hwr⟩:=hrel;obtain rfl:=hwr.symm;clear hwr
  by_cases hkn:k<n
  ·have hk':k<K.length:=by have:=HN.out;omega
   obtain⟨a,rfl,_,hc⟩:=HR.out k K[k] (List.getElem?_eq_getElem hk');have hi:(k:Int)<(n:Int):=by omega
   obtain⟨x,hx⟩:∃x,x=K[k]:=⟨_,rfl⟩;rw[<- hx] at hc;have HD:=hid (show K.drop k=x::K.drop (k+1) by rw[hx];exact List.drop_eq_getElem_cons hk')
   clear hx
   by_cases hcx:c=x
   ·subst hcx
    have hcc:(c==c)=true:=beq_self_eq_true c;go_wp2;go_ret;exact⟨by rw[HK.out,HD.out,cy,hcc];rfl,rfl⟩
   ·have hcc:(c==x)=false:=beq_eq_false_iff_ne.2 hcx
    go_wp2;go_roundw
    case rel=>exact⟨k+1,by simp,by omega,by show _=_;rw[HK.out,HD.out,cy,hcc,Bool.false_or],trivial⟩
    case measure=>simp[intOf];omega
  ·have hi:¬(k:Int)<(n:Int):=by omega
   have HE:=hid (show bX K c=false by rw[HK.out,List.drop_of_length_le (by have:=HN.out;omega)];rfl)
   go_wp2;go_ret;exact⟨by rw[HE.out];rfl,rfl⟩
theorem bh (c:Int) (K:List Int) (w:sH) (hK:K.length<=1000):
  sK Tryz.prog 95 #[.int .i64 c,.slice (some ⟨w.heap.size,0,none⟩) K.length K.length] (w.alloc (.cells (K.map fun z=>sP .i64 z).toArray 3)) fun e w'=>e= .returned (.bool (bX K c))/\sM w.heap.size w w':=
 (lX c _ _ _ K _ (sy w K 3) rfl hK).mono fun e w' ⟨h1,h2⟩=>⟨h1,by rw[h2];exact below_box⟩
theorem dX (c:Int) (w:sH):sK Tryz.prog 93 #[.int .i64 c] w fun e w'=>e= .returned (.bool (dj c))/\sM w.heap.size w w':=by
 go_enter Tryz.func93,Tryz.ntmps93;go_wp2_with fail;refine(bh c [1,2,3] w (by decide)).mono ?_
 rintro e w1 ⟨rfl,be⟩;go_wp2;go_ret;exact⟨by unfold dj;rfl,be⟩
theorem first_any (l:List UInt8) (w:sH) (ht:Tb w):
  sK Tryz.prog 94 #[.string ⟨l.toArray⟩] w fun e w'=>e= .returned (.tuple #[.int .i64 (aS l),.int .i64 (dec l).2])/\sM w.heap.size w w':=by
 by_cases h:l=[]
 ·subst h
  go_enter Tryz.func94,Tryz.ntmps94;go_wp2;go_ret2;exact⟨rfl,sL _ _⟩
 ·have HV:=hid (show aS l=bE (dec l).1 from if_neg h)
  have he:l.isEmpty=false:=by simpa using h
  have HT:=hid ht;clear h ht;go_enter Tryz.func94,Tryz.ntmps94;go_wp2_with fail;refine(zgg l w HT.out.tabs).mono ?_;rintro e w1 ⟨rfl,be⟩;have HB:=hid be;clear be;obtain⟨r,hr⟩:∃r:Int,r=((dec l).1:Int):=⟨_,rfl⟩;obtain⟨n,hn⟩:∃n:Nat,n=(dec l).2:=⟨_,rfl⟩;have HN:=hid hn;rw[<- hr] at HV;rw[<- hr,<- hn];clear hr hn;go_wp2_with fail;refine(qS r w1).mono ?_;rintro e w2 ⟨rfl,hw2⟩;obtain rfl:=hw2.symm;clear hw2;go_wp2;go_ret2;exact⟨by rw[HV.out,<- HN.out];rfl,HB.out⟩
theorem d7 (l:List UInt8) (w:sH) (ht:Tb w) (hl:l.length<=1000000000):
  sK Tryz.prog 92 #[.string ⟨l.toArray⟩] w fun e w'=>e= .returned (.tuple #[.int .i64 (aR l),.int .i64 (aU l).2])/\sM w.heap.size w w':=by
 by_cases h:l=[]
 ·subst h
  go_enter Tryz.func92,Tryz.ntmps92;go_wp2;go_ret2;exact⟨rfl,sL _ _⟩
 ·have HV:=hid (show aR l=bE (aU l).1 from if_neg h)
  have he:l.isEmpty=false:=by simpa using h
  have HT:=hid ht;clear h ht;go_enter Tryz.func92,Tryz.ntmps92;go_wp2_with fail;refine(zne l w (by omega) HT.out.tabs).mono ?_
  rintro e w1 ⟨rfl,be⟩;have HB:=hid be;clear be;obtain⟨r,hr⟩:∃r:Int,r=((aU l).1:Int):=⟨_,rfl⟩;obtain⟨n,hn⟩:∃n:Nat,n=(aU l).2:=⟨_,rfl⟩;have HN:=hid hn;rw[<- hr] at HV;rw[<- hr,<- hn];clear hr hn;go_wp2_with fail;refine(qS r w1).mono ?_;rintro e w2 ⟨rfl,hw2⟩;obtain rfl:=hw2.symm;clear hw2;go_wp2;go_ret2;exact⟨by rw[HV.out,<- HN.out];rfl,HB.out⟩
end Ln
namespace Ln
open Go.RowKit
theorem ext_take (l:List UInt8) (t:Nat):(⟨l.toArray⟩:ByteArray).extract 0 t=⟨(l.take t).toArray⟩:=by
 apply sW
 simp[sR]
def zkC:Value->Nat
 | .string s=>s.size
 | _=>0
theorem zbs (l:List UInt8) (ao:Option Addr) (n cap:Nat) (K:List Int) (w:sH) (ht:Tb w) (hl:l.length<=1000000000) (h:RdI w ao K) (hn:n=K.length) (hnl:n<=1000) (hK:bX K (-1)=false):
  sK Tryz.prog 90 #[.string ⟨l.toArray⟩,.slice ao n cap] w fun e w'=>e= .returned (.string ⟨(dt K l).toArray⟩)/\sM w.heap.size w w':=by
 have HT:=hid ht;have HR:=hid h;have HN:=hid hn;have HK:=hid hK;clear ht h hn hK;go_enter Tryz.func90,Tryz.ntmps90;go_wp2;go_step3;go_wp2;go_step3;go_wp2;go_loopw [0] (fun fr wr=>∃l':List UInt8,fr= .string ⟨l'.toArray⟩/\l'.length<=1000000000/\Hid (dt K l=dt K l')/\sM w.heap.size w wr) (fun fr _=>zkC fr)
 case atStart=>exact⟨l,rfl,hl,rfl,sL _ _⟩
 case round=>
  obtain⟨l',rfl,hl',HW,hB⟩:=hrel;have HB:=hid hB;clear hB
  by_cases he:l'=[]
  ·subst he
   have HE:=hid (show dt K l=[] by rw[HW.out];rfl)
   go_wp2;rw[Exit.noGoto_ret];go_ret;exact⟨by rw[HE.out];rfl,HB.out⟩
  ·have he':l'.isEmpty=false:=by simpa using he
   obtain⟨hb1,hb2⟩:=zax l' he;have HNE:=hid he;clear he;go_wp2_with fail;refine(d7 l' wr (HT.out.below HB.out) hl').mono ?_;rintro e w1 ⟨rfl,be1⟩;have HB1:=hid (HB.out.trans (be1.mono HB.out.size));obtain⟨c,hc⟩:∃c:Int,c=aR l':=⟨_,rfl⟩;obtain⟨m,hm⟩:∃m:Nat,m=(aU l').2:=⟨_,rfl⟩;have HC:=hid hc;have HM:=hid hm;rw[<- hm] at hb1 hb2;rw[<- hc,<- hm];clear hc hm be1 HB;go_wp2_with fail;refine(lX c ao n cap K w1 (HR.out.below HB1.out) HN.out hnl).mono ?_;rintro e w2 ⟨rfl,hw2⟩;obtain rfl:=hw2.symm;clear hw2;obtain⟨b,hb⟩:∃b,b=bX K c:=⟨_,rfl⟩;have HBB:=hid hb;rw[<- hb];clear hb
   cases b with
   | true=>
    have HY:=hid (show dt K l=dt K (p8 l') from HW.out.trans (nW K l' HNE.out (by rw[<- HC.out,<- HBB.out])))
    have HLT:=hid (lR l' HNE.out);have HLE:=hid (show p8 l'=l'.take (l'.length - m) by unfold p8;rw[HM.out])
    go_wp2;rw[ext_take,<- HLE.out];exact⟨⟨p8 l',rfl,by have:=HLT.out;omega,HY.out,HB1.out⟩,by have:=HLT.out;show(p8 l').toArray.size<l'.toArray.size;simpa using this⟩
   | false=>
    have HY:=hid (show dt K l=l' from HW.out.trans (rJ K l' (by rw[<- HC.out,<- HBB.out])))
    go_wp2;rw[Exit.noGoto_ret];go_ret;exact⟨by rw[HY.out];rfl,HB1.out⟩
theorem gO (l:List UInt8) (K:List Int) (w:sH) (ht:Tb w) (hl:l.length<=1000000000) (hK:K.length<=1000) (hn:bX K (-1)=false):
  sK Tryz.prog 90 #[.string ⟨l.toArray⟩,.slice (some ⟨w.heap.size,0,none⟩) K.length K.length] (w.alloc (.cells (K.map fun z=>sP .i64 z).toArray 3)) fun e w'=>e= .returned (.string ⟨(dt K l).toArray⟩)/\sM w.heap.size w w':=
 (zbs l _ _ _ K _ (ht.below below_box) hl (sy w K 3) rfl hK hn).mono fun _ _ ⟨h1,h2⟩=>⟨h1,below_box.trans (h2.mono below_box.size)⟩
theorem iC (l:List UInt8) (w:sH) (ht:Tb w) (hl:l.length<=1000000000):
  sK Tryz.prog 97 #[.string ⟨l.toArray⟩] w fun e w'=>e= .returned (.int .i64 (aL l))/\sM w.heap.size w w':=by
 have HT:=hid ht;clear ht;go_enter Tryz.func97,Tryz.ntmps97;go_wp2_with fail;refine(gO l [8] w HT.out hl (by decide) (by decide)).mono ?_
 rintro e w1 ⟨rfl,be⟩;have HB:=hid be;have hle:=iD [8] _ l (sJ _);obtain⟨b,hb⟩:∃b,b=dt [8] l:=⟨_,rfl⟩;have HV:=hid (show aL l=aR b by rw[hb];rfl)
 rw[<- hb] at hle;rw[<- hb];clear hb be;go_wp2_with fail;refine(d7 b w1 (HT.out.below HB.out) (by omega)).mono ?_
 rintro e w2 ⟨rfl,be⟩;have HB2:=hid (HB.out.trans (be.mono HB.out.size));obtain⟨c,hc⟩:∃c:Int,c=aR b:=⟨_,rfl⟩;have HC:=hid hc;obtain⟨m,hm⟩:∃m:Nat,m=(aU b).2:=⟨_,rfl⟩;rw[<- hc,<- hm];clear hc be hm;go_wp2;go_ret;exact⟨by rw[HV.out,<- HC.out];rfl,HB2.out⟩
theorem eh (l:List UInt8) (K:List Int) (w:sH) (ht:Tb w) (hl:l.length<=1000000000) (hK:K.length<=1000) (hn:bX K (-1)=false):
  sK Tryz.prog 159 #[.string ⟨l.toArray⟩,.slice (some ⟨w.heap.size,0,none⟩) K.length K.length] (w.alloc (.cells (K.map fun z=>sP .i64 z).toArray 3)) fun e w'=>e= .returned (.string ⟨(di K l).toArray⟩)/\sM w.heap.size w w':=by
 obtain⟨W,hW⟩:∃W,W=w.alloc (.cells (K.map fun z=>sP .i64 z).toArray 3):=⟨_,rfl⟩
 have hR:=sy w K 3;have hB0:=below_box (w:=w) (o:=.cells (K.map fun z=>sP .i64 z).toArray 3)
 rw[<- hW] at hR hB0;rw[<- hW];have HT:=hid (ht.below hB0);have HR:=hid hR;have HB0:=hid hB0;have HN:=hid hn;obtain⟨ao,hao⟩:∃ao:Option Addr,ao=some ⟨w.heap.size,0,none⟩:=⟨_,rfl⟩;obtain⟨n,hnn⟩:∃n,n=K.length:=⟨_,rfl⟩;have HNN:=hid hnn;rw[<- hao] at HR;rw[<- hao,<- hnn];rw[<- hnn] at hK;clear hW hR hB0 hao hnn ht hn;go_enter Tryz.func159,Tryz.ntmps159;go_wp2_with fail;refine(gO l [8] W HT.out hl (by decide) (by decide)).mono ?_
 rintro e w1 ⟨rfl,be⟩;have HB:=hid be;have hle:=iD [8] _ l (sJ _);obtain⟨b,hb⟩:∃b,b=dt [8] l:=⟨_,rfl⟩;have HV:=hid (show di K l=if bX K (aR b) then p8 b else l by rw[hb];rfl)
 rw[<- hb] at hle;rw[<- hb];clear hb be;go_wp2_with fail;refine(d7 b w1 (HT.out.below HB.out) (by omega)).mono ?_
 rintro e w2 ⟨rfl,be⟩;have HB2:=hid (HB.out.trans (be.mono HB.out.size));obtain⟨c,hc⟩:∃c:Int,c=aR b:=⟨_,rfl⟩;obtain⟨m,hm⟩:∃m:Nat,m=(aU b).2:=⟨_,rfl⟩;have HC:=hid hc;have HM:=hid hm;rw[<- hc,<- hm];clear hc hm be;go_wp2_with fail;refine(lX c ao n n K w2 (HR.out.below HB2.out) HNN.out hK).mono ?_;rintro e w3 ⟨rfl,hw3⟩;obtain rfl:=hw3.symm;clear hw3;obtain⟨q,hq⟩:∃q,q=bX K c:=⟨_,rfl⟩;have HQ:=hid hq;have HBW:=hid (HB0.out.trans (HB2.out.mono HB0.out.size));rw[<- hq];clear hq
 cases q with
 | true=>
  have hne:b≠ []:=qR HN.out (by rw[<- HC.out,<- HQ.out])
  have HLE:=hid (show di K l=b.take (b.length - m) by rw[HV.out,<- HC.out,<- HQ.out,if_pos rfl];unfold p8;rw[HM.out])
  obtain⟨hb1,hb2⟩:=zax b hne;rw[<- HM.out] at hb1 hb2;clear hne;go_wp2;go_ret;exact⟨by rw[HLE.out,<- ext_take];rfl,HBW.out⟩
 | false=>
  have HLE:=hid (show di K l=l by rw[HV.out,<- HC.out,<- HQ.out];rfl)
  go_wp2;go_ret;exact⟨by rw[HLE.out];rfl,HBW.out⟩
end Ln
namespace Ln
open Go.RowKit
theorem zeg (a b:Int) (w:sH):sK Tryz.prog 96 #[.int .i64 a,.int .i64 b] w fun e w'=>e= .returned (.bool (bf a b))/\sM w.heap.size w w':=by
 have HB0:=hid (sL w.heap.size w);go_enter Tryz.func96,Tryz.ntmps96;go_wp2_with fail;refine(bh b [6,11,10,13,14,15] w (by decide)).mono ?_
 rintro e w1 ⟨rfl,be⟩;have HB1:=hid (HB0.out.trans (be.mono HB0.out.size));obtain⟨q1,hq1⟩:∃q,q=bX [6,11,10,13,14,15] b:=⟨_,rfl⟩;have HQ1:=hid hq1;rw[<- hq1];clear hq1 be
 cases q1 with
 | true=>
  have HV:=hid (show bf a b=true by unfold bf;rw[<- HQ1.out];rfl)
  go_wp2;go_ret;exact⟨by rw[HV.out];rfl,HB1.out⟩
 | false=>
  by_cases h0:a=9
  ·subst h0
   have HV:=hid (show bf 9 b=true by unfold bf;rw[<- HQ1.out];rfl)
   clear HQ1;go_wp2;go_ret;exact⟨by rw[HV.out];rfl,HB1.out⟩
  by_cases h1:a=12
  ·subst h1
   have HV:=hid (show bf 12 b=(b==9) by unfold bf;rw[<- HQ1.out];rfl)
   clear HQ1 h0;go_wp2;go_ret;exact⟨by rw[HV.out];rfl,HB1.out⟩
  by_cases h2:a=11
  ·subst h2
   have HV:=hid (show bf 11 b=(b==24) by unfold bf;rw[<- HQ1.out];rfl)
   clear HQ1 h0 h1;go_wp2;go_ret;exact⟨by rw[HV.out];rfl,HB1.out⟩
  by_cases h3:a=10
  ·subst h3
   have HV:=hid (show bf 10 b=(b==24) by unfold bf;rw[<- HQ1.out];rfl)
   clear HQ1 h0 h1 h2;go_wp2;go_ret;exact⟨by rw[HV.out];rfl,HB1.out⟩
  by_cases h4:a=18
  ·subst h4
   have HV:=hid (show bf 18 b=(b==18) by unfold bf;rw[<- HQ1.out];rfl)
   clear HQ1 h0 h1 h2 h3;go_wp2;go_ret;exact⟨by rw[HV.out];rfl,HB1.out⟩
  have HV:=hid (show bf a b=false by unfold bf;rw[<- HQ1.out,if_neg (by decide),if_neg h0,if_neg h1,if_neg h2,if_neg h3,if_neg h4])
  have b0:(a==9)=false:=beq_eq_false_iff_ne.2 h0;have b1:(a==12)=false:=beq_eq_false_iff_ne.2 h1;have b2:(a==11)=false:=beq_eq_false_iff_ne.2 h2;have b3:(a==10)=false:=beq_eq_false_iff_ne.2 h3;have b4:(a==18)=false:=beq_eq_false_iff_ne.2 h4;go_wp2;go_ret;exact⟨by rw[HV.out];rfl,HB1.out⟩
theorem rP (a b:Int) (w:sH):sK Tryz.prog 129 #[.int .i64 a,.int .i64 b] w fun e w'=>e= .returned (.bool (bN a b))/\sM w.heap.size w w':=by
 have HB0:=hid (sL w.heap.size w)
 by_cases h0:a=12
 ·subst h0
  have HV:=hid (show bN 12 b=true by unfold bN;rfl)
  go_enter Tryz.func129,Tryz.ntmps129;go_wp2;go_ret;exact⟨by rw[HV.out];rfl,HB0.out⟩
 by_cases h1:a=0
 ·subst h1
  clear h0;have HV:=hid (show bN 0 b=bX [0,20,9,21,22] b by unfold bN;rfl)
  go_enter Tryz.func129,Tryz.ntmps129;go_wp2_with fail;refine(bh b [0,20,9,21,22] w (by decide)).mono ?_
  rintro e w1 ⟨rfl,be⟩;have HB1:=hid (HB0.out.trans (be.mono HB0.out.size));obtain⟨q1,hq1⟩:∃q,q=bX [0,20,9,21,22] b:=⟨_,rfl⟩;have HQ1:=hid hq1;rw[<- hq1];clear hq1 be;go_wp2;go_ret;exact⟨by rw[HV.out,<- HQ1.out];rfl,HB1.out⟩
 by_cases h2:a=20
 ·subst h2
  clear h0 h1;have HV:=hid (show bN 20 b=bX [0,20,9,21,22] b by unfold bN;rfl)
  go_enter Tryz.func129,Tryz.ntmps129;go_wp2_with fail;refine(bh b [0,20,9,21,22] w (by decide)).mono ?_
  rintro e w1 ⟨rfl,be⟩;have HB1:=hid (HB0.out.trans (be.mono HB0.out.size));obtain⟨q1,hq1⟩:∃q,q=bX [0,20,9,21,22] b:=⟨_,rfl⟩;have HQ1:=hid hq1;rw[<- hq1];clear hq1 be;go_wp2;go_ret;exact⟨by rw[HV.out,<- HQ1.out];rfl,HB1.out⟩
 by_cases h3:a=14
 ·subst h3
  clear h0 h1 h2;have HV:=hid (show bN 14 b=bX [0,20] b by unfold bN;rfl)
  go_enter Tryz.func129,Tryz.ntmps129;go_wp2_with fail;refine(bh b [0,20] w (by decide)).mono ?_
  rintro e w1 ⟨rfl,be⟩;have HB1:=hid (HB0.out.trans (be.mono HB0.out.size));obtain⟨q1,hq1⟩:∃q,q=bX [0,20] b:=⟨_,rfl⟩;have HQ1:=hid hq1;rw[<- hq1];clear hq1 be;go_wp2;go_ret;exact⟨by rw[HV.out,<- HQ1.out];rfl,HB1.out⟩
 by_cases h4:a=10
 ·subst h4
  clear h0 h1 h2 h3;have HV:=hid (show bN 10 b=bX [0,20] b by unfold bN;rfl)
  go_enter Tryz.func129,Tryz.ntmps129;go_wp2_with fail;refine(bh b [0,20] w (by decide)).mono ?_
  rintro e w1 ⟨rfl,be⟩;have HB1:=hid (HB0.out.trans (be.mono HB0.out.size));obtain⟨q1,hq1⟩:∃q,q=bX [0,20] b:=⟨_,rfl⟩;have HQ1:=hid hq1;rw[<- hq1];clear hq1 be;go_wp2;go_ret;exact⟨by rw[HV.out,<- HQ1.out];rfl,HB1.out⟩
 by_cases h5:a=21
 ·subst h5
  clear h0 h1 h2 h3 h4;have HV:=hid (show bN 21 b=bX [0,20] b by unfold bN;rfl)
  go_enter Tryz.func129,Tryz.ntmps129;go_wp2_with fail;refine(bh b [0,20] w (by decide)).mono ?_
  rintro e w1 ⟨rfl,be⟩;have HB1:=hid (HB0.out.trans (be.mono HB0.out.size));obtain⟨q1,hq1⟩:∃q,q=bX [0,20] b:=⟨_,rfl⟩;have HQ1:=hid hq1;rw[<- hq1];clear hq1 be;go_wp2;go_ret;exact⟨by rw[HV.out,<- HQ1.out];rfl,HB1.out⟩
 by_cases h6:a=22
 ·subst h6
  clear h0 h1 h2 h3 h4 h5;have HV:=hid (show bN 22 b=bX [0,20,23] b by unfold bN;rfl)
  go_enter Tryz.func129,Tryz.ntmps129;go_wp2_with fail;refine(bh b [0,20,23] w (by decide)).mono ?_
  rintro e w1 ⟨rfl,be⟩;have HB1:=hid (HB0.out.trans (be.mono HB0.out.size));obtain⟨q1,hq1⟩:∃q,q=bX [0,20,23] b:=⟨_,rfl⟩;have HQ1:=hid hq1;rw[<- hq1];clear hq1 be;go_wp2;go_ret;exact⟨by rw[HV.out,<- HQ1.out];rfl,HB1.out⟩
 by_cases h7:a=16
 ·subst h7
  clear h0 h1 h2 h3 h4 h5 h6;have HV:=hid (show bN 16 b=(b==20) by unfold bN;rfl)
  go_enter Tryz.func129,Tryz.ntmps129;go_wp2;go_ret;exact⟨by rw[HV.out];rfl,HB0.out⟩
 by_cases h8:a=15
 ·subst h8
  clear h0 h1 h2 h3 h4 h5 h6 h7;have HV:=hid (show bN 15 b=(b==20) by unfold bN;rfl)
  go_enter Tryz.func129,Tryz.ntmps129;go_wp2;go_ret;exact⟨by rw[HV.out];rfl,HB0.out⟩
 by_cases h9:a=23
 ·subst h9
  clear h0 h1 h2 h3 h4 h5 h6 h7 h8;have HV:=hid (show bN 23 b=(b==21) by unfold bN;rfl)
  go_enter Tryz.func129,Tryz.ntmps129;go_wp2;go_ret;exact⟨by rw[HV.out];rfl,HB0.out⟩
 have HV:=hid (show bN a b=false by unfold bN;rw[if_neg h0,if_neg h1,if_neg h2,if_neg h3,if_neg h4,if_neg h5,if_neg h6,if_neg h7,if_neg h8,if_neg h9])
 have b0:(a==12)=false:=beq_eq_false_iff_ne.2 h0;have b1:(a==0)=false:=beq_eq_false_iff_ne.2 h1;have b2:(a==20)=false:=beq_eq_false_iff_ne.2 h2;have b3:(a==14)=false:=beq_eq_false_iff_ne.2 h3;have b4:(a==10)=false:=beq_eq_false_iff_ne.2 h4;have b5:(a==21)=false:=beq_eq_false_iff_ne.2 h5;have b6:(a==22)=false:=beq_eq_false_iff_ne.2 h6;have b7:(a==16)=false:=beq_eq_false_iff_ne.2 h7;have b8:(a==15)=false:=beq_eq_false_iff_ne.2 h8;have b9:(a==23)=false:=beq_eq_false_iff_ne.2 h9;go_enter Tryz.func129,Tryz.ntmps129;go_wp2;go_ret;exact⟨by rw[HV.out];rfl,HB0.out⟩
theorem zjP (a b:Int) (w:sH):sK Tryz.prog 128 #[.int .i64 a,.int .i64 b] w fun e w'=>e= .returned (.bool (cQ a b))/\sM w.heap.size w w':=by
 have HB0:=hid (sL w.heap.size w);go_enter Tryz.func128,Tryz.ntmps128;go_wp2_with fail;refine(bh a [6,7] w (by decide)).mono ?_
 rintro e w1 ⟨rfl,be⟩;have HB1:=hid (HB0.out.trans (be.mono HB0.out.size));obtain⟨q1,hq1⟩:∃q,q=bX [6,7] a:=⟨_,rfl⟩;have HQ1:=hid hq1;rw[<- hq1];clear hq1 be
 cases q1 with
 | true=>
  have HV:=hid (show cQ a b=true by unfold cQ;rw[<- HQ1.out];rfl)
  go_wp2;go_ret;exact⟨by rw[HV.out];rfl,HB1.out⟩
 | false=>
  by_cases h7:b=7
  ·subst h7
   go_wp2_with fail;refine(bh a [4,17,16] w1 (by decide)).mono ?_
   rintro e w2 ⟨rfl,be⟩;have HB2:=hid (HB1.out.trans (be.mono HB1.out.size));obtain⟨q2,hq2⟩:∃q,q=bX [4,17,16] a:=⟨_,rfl⟩;have HQ2:=hid hq2;rw[<- hq2];clear hq2 be;have HV:=hid (show cQ a 7= !q2 by unfold cQ;rw[<- HQ1.out,<- HQ2.out];rfl)
   go_wp2;go_ret;exact⟨by rw[HV.out];rfl,HB2.out⟩
  ·have b7:(b==7)=false:=beq_eq_false_iff_ne.2 h7
   have HV:=hid (show cQ a b=false by unfold cQ;rw[<- HQ1.out,b7];rfl)
   go_wp2;go_ret;exact⟨by rw[HV.out];rfl,HB1.out⟩
theorem zfn (l:List UInt8) (w:sH) (ht:Tb w) (hl:l.length<=1000000000):
  sK Tryz.prog 130 #[.string ⟨l.toArray⟩] w fun e w'=>e= .returned (.bool (mw l))/\sM w.heap.size w w':=by
 have HT:=hid ht;clear ht;go_enter Tryz.func130,Tryz.ntmps130;go_wp2_with fail;refine(eh l [11,10] w HT.out hl (by decide) (by decide)).mono ?_
 rintro e w1 ⟨rfl,be⟩;have HB1:=hid be;have hle:=zcx [11,10] l;obtain⟨l1,h1⟩:∃l1,l1=di [11,10] l:=⟨_,rfl⟩;have H1:=hid h1;rw[<- h1] at hle;rw[<- h1];clear h1 be;go_wp2_with fail;refine(eh l1 [14,15] w1 (HT.out.below HB1.out) (by omega) (by decide) (by decide)).mono ?_
 rintro e w2 ⟨rfl,be⟩;have HB2:=hid (HB1.out.trans (be.mono HB1.out.size));have hle2:=zcx [14,15] l1;obtain⟨l2,h2⟩:∃l2,l2=di [14,15] l1:=⟨_,rfl⟩;have HV:=hid (show mw l=(aL l2==20) by rw[h2,H1.out];rfl)
 rw[<- h2] at hle2;rw[<- h2];clear h2 be;go_wp2_with fail;refine(iC l2 w2 (HT.out.below HB2.out) (by omega)).mono ?_
 rintro e w3 ⟨rfl,be⟩;have HB3:=hid (HB2.out.trans (be.mono HB2.out.size));clear be;obtain⟨c,hc⟩:∃c,c=aL l2:=⟨_,rfl⟩;rw[<- hc] at HV;rw[<- hc];clear hc;go_wp2;go_ret;exact⟨by rw[HV.out];rfl,HB3.out⟩
theorem zhm (l:List UInt8) (w:sH) (ht:Tb w) (hl:l.length<=1000000000):
  sK Tryz.prog 131 #[.string ⟨l.toArray⟩] w fun e w'=>e= .returned (.bool (cM l.length l false))/\sM w.heap.size w w':=by
 have HT:=hid ht;clear ht;go_enter Tryz.func131,Tryz.ntmps131;go_wp2;go_loopw [0,3] (fun fs fo wr=>∃(l':List UInt8) (o:Bool),fs= .string ⟨l'.toArray⟩/\fo= .bool o/\l'.length<=1000000000/\Hid (cM l.length l false=cM l'.length l' o)/\sM w.heap.size w wr) (fun fs _ _=>zkC fs)
 case atStart=>exact⟨l,false,rfl,rfl,hl,rfl,sL _ _⟩
 case round=>
  obtain⟨l',o,rfl,rfl,hl',HW,hB⟩:=hrel;have HB:=hid hB;clear hB;go_wp2_with fail;refine(iC l' wr (HT.out.below HB.out) hl').mono ?_;rintro e w1 ⟨rfl,be⟩;have HB1:=hid (HB.out.trans (be.mono HB.out.size));clear be
  by_cases h25:aL l'=25
  ·have HL:=hid (kG [25] l' (by decide) (by rw[h25];decide))
   have HY:=hid (HW.out.trans (qQ l' o h25));rw[h25];clear h25;go_wp2_with fail;refine(eh l' [25] w1 (HT.out.below HB1.out) hl' (by decide) (by decide)).mono ?_
   rintro e w2 ⟨rfl,be⟩;have HB2:=hid (HB1.out.trans (be.mono HB1.out.size));clear be;obtain⟨l2,h2⟩:∃l2,l2=di [25] l':=⟨_,rfl⟩;rw[<- h2] at HL HY;rw[<- h2];clear h2;go_wp2;exact⟨⟨l2, !o,rfl,rfl,by have:=HL.out;omega,HY.out,HB2.out⟩,by have:=HL.out;show l2.toArray.size<l'.toArray.size;simpa using this⟩
  ·have HY:=hid (HW.out.trans (zcy l' o h25))
   obtain⟨c,hc⟩:∃c,c=aL l':=⟨_,rfl⟩;rw[<- hc] at h25;rw[<- hc];have b25:(c==25)=false:=beq_eq_false_iff_ne.2 h25;clear hc h25;go_wp2;go_ret;exact⟨by rw[HY.out];rfl,HB1.out⟩
end Ln
namespace Ln
open Go.RowKit
theorem ext_mid (l:List UInt8) (a b:Nat):(⟨l.toArray⟩:ByteArray).extract a b=⟨((l.take b).drop a).toArray⟩:=by
 apply sW
 simp[sR,List.drop_take]
theorem zaQ (l:List UInt8):(dec l).2<=l.length:=by
 by_cases h:l=[]
 ·subst h;exact sJ _
 ·exact dec_le l h
theorem zfR (s:List UInt8) (fr p:Nat) (w:sH) (ht:Tb w) (hl:s.length<=1000000000) (hp:p<=s.length) (hf:fr<=p):
  sK Tryz.prog 98 #[.string ⟨s.toArray⟩,.int .i64 fr,.int .i64 p] w fun e w'=>e= .returned (.bool (eK s fr p))/\sM w.heap.size w w':=by
 have HT:=hid ht;have HW:=hid (zaQ (s.drop p));have hdl:(s.drop p).length=s.length - p:=sQ;have htl:(s.take p).length=p:=by rw[sN];omega
 have HDL:=hid hdl;have HTL:=hid htl;clear ht hdl htl;go_enter Tryz.func98,Tryz.ntmps98;go_wp2_with fail;rw[ext_take];refine(iC (s.take p) w HT.out (by have:=HTL.out;omega)).mono ?_
 rintro e w1 ⟨rfl,be⟩;have HB1:=hid be;obtain⟨a,ha⟩:∃a,a=aL (s.take p):=⟨_,rfl⟩;have HA:=hid ha;rw[<- ha];clear be ha;go_wp2_with fail;rw[ext_drop];refine(first_any (s.drop p) w1 (HT.out.below HB1.out)).mono ?_;rintro e w2 ⟨rfl,be⟩;have HB2:=hid (HB1.out.trans (be.mono HB1.out.size));obtain⟨b,hb⟩:∃b,b=aS (s.drop p):=⟨_,rfl⟩;obtain⟨n,hn⟩:∃n,n=(dec (s.drop p)).2:=⟨_,rfl⟩;have HBE:=hid hb;have HN:=hid hn;have hpn:p+n<=s.length:=by have:=HW.out;have:=HDL.out;omega
 rw[<- hb,<- hn];clear be hb hn;have HJ:=hid (show eK s fr p=if cQ a b then true else if bX [12,17,16,24,19] b then true else if bN a b then true else if bX [21,22] b then mw (s.take p) else if bX [21,22] a&&b==9 then aS (s.drop (p+n))==20 else if a=25/\b=25 then cM ((s.take p).drop fr).length ((s.take p).drop fr) false else false by rw[HA.out,HBE.out,HN.out];rfl)
 clear HA HBE HN HW;go_wp2_with fail;refine(zjP a b w2).mono ?_;rintro e w3 ⟨rfl,be⟩;have HB3:=hid (HB2.out.trans (be.mono HB2.out.size));obtain⟨q3,hq3⟩:∃q,q=cQ a b:=⟨_,rfl⟩;rw[<- hq3] at HJ;rw[<- hq3];clear hq3 be
 cases q3 with
 | true=>
  go_wp2;go_ret;exact⟨by rw[HJ.out];rfl,HB3.out⟩
 | false=>
  go_wp2_with fail;refine(bh b [12,17,16,24,19] w3 (by decide)).mono ?_
  rintro e w4 ⟨rfl,be⟩;have HB4:=hid (HB3.out.trans (be.mono HB3.out.size));obtain⟨q4,hq4⟩:∃q,q=bX [12,17,16,24,19] b:=⟨_,rfl⟩;rw[<- hq4] at HJ;rw[<- hq4];clear hq4 be
  cases q4 with
  | true=>
   go_wp2;go_ret;exact⟨by rw[HJ.out];rfl,HB4.out⟩
  | false=>
   go_wp2_with fail;refine(rP a b w4).mono ?_;rintro e w5 ⟨rfl,be⟩;have HB5:=hid (HB4.out.trans (be.mono HB4.out.size));obtain⟨q5,hq5⟩:∃q,q=bN a b:=⟨_,rfl⟩;rw[<- hq5] at HJ;rw[<- hq5];clear hq5 be
   cases q5 with
   | true=>
    go_wp2;go_ret;exact⟨by rw[HJ.out];rfl,HB5.out⟩
   | false=>
    go_wp2_with fail;refine(bh b [21,22] w5 (by decide)).mono ?_
    rintro e w6 ⟨rfl,be⟩;have HB6:=hid (HB5.out.trans (be.mono HB5.out.size));obtain⟨q6,hq6⟩:∃q,q=bX [21,22] b:=⟨_,rfl⟩;rw[<- hq6] at HJ;rw[<- hq6];clear hq6 be
    cases q6 with
    | true=>
     go_wp2_with fail;rw[ext_take];refine(zfn (s.take p) w6 (HT.out.below HB6.out) (by have:=HTL.out;omega)).mono ?_
     rintro e w7 ⟨rfl,be⟩;have HB7:=hid (HB6.out.trans (be.mono HB6.out.size));clear be;obtain⟨v,hv⟩:∃v,v=mw (s.take p):=⟨_,rfl⟩;rw[<- hv] at HJ;rw[<- hv];clear hv;go_wp2;go_ret;exact⟨by rw[HJ.out];rfl,HB7.out⟩
    | false=>
     go_wp2_with fail;refine(bh a [21,22] w6 (by decide)).mono ?_
     rintro e w7 ⟨rfl,be⟩;have HB7:=hid (HB6.out.trans (be.mono HB6.out.size));obtain⟨q7,hq7⟩:∃q,q=bX [21,22] a:=⟨_,rfl⟩;rw[<- hq7] at HJ;rw[<- hq7];clear hq7 be;have tail:¬(q7=true/\b=9)->Hid (eK s fr p=if a=25/\b=25 then cM ((s.take p).drop fr).length ((s.take p).drop fr) false else false):=fun hne=>by
      show _=_
      rw[HJ.out];have e:(q7&&b==9)=false:=by
       cases q7
       ·rfl
       ·rw[Bool.true_and];exact beq_eq_false_iff_ne.2 (fun h=>hne ⟨rfl,h⟩)
      rw[e];rfl
     have TAIL:=hid tail;clear tail
     by_cases h9:q7=true/\b=9
     ·obtain⟨rfl,rfl⟩:=h9
      go_wp2_with fail;rw[ext_drop];refine(first_any (s.drop (p+n)) w7 (HT.out.below HB7.out)).mono ?_;rintro e w8 ⟨rfl,be⟩;have HB8:=hid (HB7.out.trans (be.mono HB7.out.size));obtain⟨x,hx⟩:∃x,x=aS (s.drop (p+n)):=⟨_,rfl⟩;obtain⟨m,hm⟩:∃m,m=(dec (s.drop (p+n))).2:=⟨_,rfl⟩;rw[<- hx] at HJ;rw[<- hx,<- hm];clear be hx hm TAIL;go_wp2;go_ret;exact⟨by rw[HJ.out];rfl,HB8.out⟩
     ·have HJ2:=hid (TAIL.out h9).out
      have hg:q7=true->(b==9)=false:=fun h=>beq_eq_false_iff_ne.2 (fun h'=>h9 ⟨h,h'⟩)
      have HG:=hid hg;clear TAIL HJ hg h9
      by_cases h25:a=25
      ·by_cases k25:b=25
       ·subst h25 k25
        cases q7 with
        | true=>
         go_wp2_with fail;rw[ext_mid];refine(zhm ((s.take p).drop fr) w7 (HT.out.below HB7.out) (by have:=HTL.out;rw[sQ];omega)).mono ?_
         rintro e w8 ⟨rfl,be⟩;have HB8:=hid (HB7.out.trans (be.mono HB7.out.size));obtain⟨v,hv⟩:∃v,v=cM ((s.take p).drop fr).length ((s.take p).drop fr) false:=⟨_,rfl⟩;rw[<- hv] at HJ2;rw[<- hv];clear be hv;go_wp2;go_ret;exact⟨by rw[HJ2.out];rfl,HB8.out⟩
        | false=>
         go_wp2_with fail;rw[ext_mid];refine(zhm ((s.take p).drop fr) w7 (HT.out.below HB7.out) (by have:=HTL.out;rw[sQ];omega)).mono ?_
         rintro e w8 ⟨rfl,be⟩;have HB8:=hid (HB7.out.trans (be.mono HB7.out.size));obtain⟨v,hv⟩:∃v,v=cM ((s.take p).drop fr).length ((s.take p).drop fr) false:=⟨_,rfl⟩;rw[<- hv] at HJ2;rw[<- hv];clear be hv;go_wp2;go_ret;exact⟨by rw[HJ2.out];rfl,HB8.out⟩
       ·have HJ3:=hid (show eK s fr p=false by rw[HJ2.out,if_neg (fun h=>k25 h.2)])
        have b25:(b==25)=false:=beq_eq_false_iff_ne.2 k25;subst h25;clear HJ2 k25
        cases q7 with
        | true=>
         have g9:=HG.out rfl;go_wp2;go_ret;exact⟨by rw[HJ3.out];rfl,HB7.out⟩
        | false=>
         go_wp2;go_ret;exact⟨by rw[HJ3.out];rfl,HB7.out⟩
      ·have HJ3:=hid (show eK s fr p=false by rw[HJ2.out,if_neg (fun h=>h25 h.1)])
       have a25:(a==25)=false:=beq_eq_false_iff_ne.2 h25;clear HJ2 h25
       cases q7 with
       | true=>
        have g9:=HG.out rfl;go_wp2;go_ret;exact⟨by rw[HJ3.out];rfl,HB7.out⟩
       | false=>
        go_wp2;go_ret;exact⟨by rw[HJ3.out];rfl,HB7.out⟩
end Ln
namespace Ln
open Go.RowKit
def eJ (s:List UInt8) (p:Nat):Bool:=decide (p=s.length) || dj (aR (s.take p))
theorem zfU (s:List UInt8) (p:Nat) (w:sH) (ht:Tb w) (hl:s.length<=1000000000) (hp:p<=s.length):
  sK Tryz.prog 63 #[.string ⟨s.toArray⟩,.int .i64 p] w fun e w'=>e= .returned (.bool (eJ s p))/\sM w.heap.size w w':=by
 have HT:=hid ht;have HTL:=hid (show(s.take p).length=p by rw[sN];omega)
 clear ht;go_enter Tryz.func63,Tryz.ntmps63;go_wp2_with fail;rw[ext_take];refine(d7 (s.take p) w HT.out (by have:=HTL.out;omega)).mono ?_
 rintro e w1 ⟨rfl,be⟩;have HB1:=hid be;obtain⟨a,ha⟩:∃a,a=aR (s.take p):=⟨_,rfl⟩;obtain⟨m,hm⟩:∃m:Nat,m=(aU (s.take p)).2:=⟨_,rfl⟩;have HA:=hid ha;rw[<- ha,<- hm];clear be ha hm
 by_cases hps:p=s.length
 ·have HV:=hid (show eJ s p=true by unfold eJ;rw[hps];simp)
  have b1:((p:Int)==(s.length:Int))=true:=by rw[hps];exact beq_self_eq_true _
  have HP:=hid hps;clear hps;go_wp2;go_ret;exact⟨by rw[HV.out];rfl,HB1.out⟩
 ·have b1:((p:Int)==(s.length:Int))=false:=beq_eq_false_iff_ne.2 (by omega)
  have HV:=hid (show eJ s p=dj a by unfold eJ;rw[HA.out,decide_eq_false hps,Bool.false_or])
  go_wp2_with fail;refine(dX a w1).mono ?_;rintro e w2 ⟨rfl,be⟩;have HB2:=hid (HB1.out.trans (be.mono HB1.out.size));obtain⟨v,hv⟩:∃v,v=dj a:=⟨_,rfl⟩;rw[<- hv] at HV;rw[<- hv];clear be hv;go_wp2;go_ret;exact⟨by rw[HV.out];rfl,HB2.out⟩
theorem zqF (s:List UInt8) (fr p:Nat) (w:sH) (ht:Tb w) (hl:s.length<=1000000000) (hp:p<=s.length) (hf:fr<=p):
  sK Tryz.prog 64 #[.string ⟨s.toArray⟩,.int .i64 fr,.int .i64 p] w fun e w'=>e= .returned (.bool (gH s fr p))/\sM w.heap.size w w':=by
 have HT:=hid ht;have HTL:=hid (show(s.take p).length=p by rw[sN];omega)
 have HWL:=hid (iD [4] _ (s.take p) (sJ _));clear ht;go_enter Tryz.func64,Tryz.ntmps64;go_wp2_with fail;rw[ext_take];refine(d7 (s.take p) w HT.out (by have:=HTL.out;omega)).mono ?_
 rintro e w1 ⟨rfl,be⟩;have HB1:=hid be;obtain⟨a,ha⟩:∃a,a=aR (s.take p):=⟨_,rfl⟩;obtain⟨m,hm⟩:∃m:Nat,m=(aU (s.take p)).2:=⟨_,rfl⟩;have HA:=hid ha;rw[<- ha,<- hm];clear be ha hm;go_wp2_with fail;rw[ext_drop];refine(first_any (s.drop p) w1 (HT.out.below HB1.out)).mono ?_;rintro e w2 ⟨rfl,be⟩;have HB2:=hid (HB1.out.trans (be.mono HB1.out.size));obtain⟨b,hb⟩:∃b,b=aS (s.drop p):=⟨_,rfl⟩;obtain⟨n,hn⟩:∃n,n=(dec (s.drop p)).2:=⟨_,rfl⟩;have HBE:=hid hb;rw[<- hb,<- hn];clear be hb hn;obtain⟨t,htt⟩:∃t,t=dt [4] (s.take p):=⟨_,rfl⟩;have HTT:=hid htt;rw[<- htt] at HWL;have HV:=hid (show gH s fr p=if a=2/\b=3 then false else if dj a then true else if dj b then false else if bX [4,5] b then false else if aR t=5 then true else if a=4 then !bf (aL t) b else !(b==8)&& !bf (aL t) b&& !eK s fr p by rw[HA.out,HBE.out,htt];rfl)
 clear HA HBE htt
 by_cases h23:a=2/\b=3
 ·obtain⟨rfl,rfl⟩:=h23
  go_wp2;go_ret;exact⟨by rw[HV.out];rfl,HB2.out⟩
 have H23:=hid h23
 replace HV:=hid (HV.out.trans (if_neg h23))
 have g2:a=2->(b==3)=false:=fun h=>beq_eq_false_iff_ne.2 (fun h'=>h23 ⟨h,h'⟩)
 have G2:=hid g2;clear h23 g2;have step:∀(X:Prop),(a=2->(b==3)=false->X)->((a==2)=false->X)->X:=fun X h1 h2=>by
  by_cases h:a=2
  ·exact h1 h (G2.out h)
  ·exact h2 (beq_eq_false_iff_ne.2 h)
 have STEP:=hid step;clear step;refine STEP.out _ (fun e2 b3=>?_) (fun n2=>?_)
 ·subst e2
  have HV2:=hid (show gH s fr p=true by rw[HV.out];rfl)
  clear HV;go_wp2_with fail;refine(dX 2 w2).mono ?_;rintro e w3 ⟨rfl,be⟩;have HB3:=hid (HB2.out.trans (be.mono HB2.out.size));rw[show dj 2=true by decide];clear be;go_wp2;go_ret;exact⟨by rw[HV2.out];rfl,HB3.out⟩
 ·go_wp2_with fail
  refine(dX a w2).mono ?_;rintro e w3 ⟨rfl,be⟩;have HB3:=hid (HB2.out.trans (be.mono HB2.out.size));obtain⟨q3,hq3⟩:∃q,q=dj a:=⟨_,rfl⟩;rw[<- hq3] at HV;rw[<- hq3];clear be hq3 STEP G2 H23
  cases q3 with
  | true=>
   go_wp2;go_ret;exact⟨by rw[HV.out];rfl,HB3.out⟩
  | false=>
   go_wp2_with fail;refine(dX b w3).mono ?_;rintro e w4 ⟨rfl,be⟩;have HB4:=hid (HB3.out.trans (be.mono HB3.out.size));obtain⟨q4,hq4⟩:∃q,q=dj b:=⟨_,rfl⟩;rw[<- hq4] at HV;rw[<- hq4];clear be hq4
   cases q4 with
   | true=>
    go_wp2;go_ret;exact⟨by rw[HV.out];rfl,HB4.out⟩
   | false=>
    go_wp2_with fail;refine(bh b [4,5] w4 (by decide)).mono ?_
    rintro e w5 ⟨rfl,be⟩;have HB5:=hid (HB4.out.trans (be.mono HB4.out.size));obtain⟨q5,hq5⟩:∃q,q=bX [4,5] b:=⟨_,rfl⟩;rw[<- hq5] at HV;rw[<- hq5];clear be hq5
    cases q5 with
    | true=>
     go_wp2;go_ret;exact⟨by rw[HV.out];rfl,HB5.out⟩
    | false=>
     have HV:=hid (show gH s fr p=if aR t=5 then true else if a=4 then !bf (aL t) b else !(b==8)&& !bf (aL t) b&& !eK s fr p from HV.out)
     go_wp2_with fail;rw[ext_take];refine(gO (s.take p) [4] w5 (HT.out.below HB5.out) (by have:=HTL.out;omega) (by decide) (by decide)).mono ?_
     rintro e w6 ⟨rfl,be⟩;have HB6:=hid (HB5.out.trans (be.mono HB5.out.size));rw[<- HTT.out];clear be HTT;have htl:t.length<=1000000000:=by have:=HWL.out;have:=HTL.out;omega
     go_wp2_with fail;refine(d7 t w6 (HT.out.below HB6.out) htl).mono ?_;rintro e w7 ⟨rfl,be⟩;have HB7:=hid (HB6.out.trans (be.mono HB6.out.size));obtain⟨x,hx⟩:∃x,x=aR t:=⟨_,rfl⟩;obtain⟨y,hy⟩:∃y:Nat,y=(aU t).2:=⟨_,rfl⟩;rw[<- hx] at HV;rw[<- hx,<- hy];clear be hx hy
     by_cases h5:x=5
     ·subst h5
      go_wp2;go_ret;exact⟨by rw[HV.out];rfl,HB7.out⟩
     ·have b5:(x==5)=false:=beq_eq_false_iff_ne.2 h5
      have HV:=hid (HV.out.trans (if_neg h5));clear h5
      by_cases h4:a=4
      ·subst h4
       have HV:=hid (HV.out.trans (if_pos rfl));go_wp2_with fail;refine(iC t w7 (HT.out.below HB7.out) htl).mono ?_;rintro e w8 ⟨rfl,be⟩;have HB8:=hid (HB7.out.trans (be.mono HB7.out.size));obtain⟨z,hz⟩:∃z,z=aL t:=⟨_,rfl⟩;rw[<- hz] at HV;rw[<- hz];clear be hz;go_wp2_with fail;refine(zeg z b w8).mono ?_;rintro e w9 ⟨rfl,be⟩;have HB9:=hid (HB8.out.trans (be.mono HB8.out.size));obtain⟨v,hv⟩:∃v,v=bf z b:=⟨_,rfl⟩;rw[<- hv] at HV;rw[<- hv];clear be hv;go_wp2;go_ret;exact⟨by rw[HV.out];rfl,HB9.out⟩
      ·have b4:(a==4)=false:=beq_eq_false_iff_ne.2 h4
       have HV:=hid (HV.out.trans (if_neg h4));clear h4
       by_cases h8:b=8
       ·subst h8
        go_wp2;go_ret;exact⟨by rw[HV.out];rfl,HB7.out⟩
       ·have b8:(b==8)=false:=beq_eq_false_iff_ne.2 h8
        have HV:=hid (show gH s fr p=(!bf (aL t) b&& !eK s fr p) by rw[HV.out,b8];rfl)
        have n8:(b != 8)=true:=by simp[h8]
        clear h8;go_wp2_with fail;refine(iC t w7 (HT.out.below HB7.out) htl).mono ?_;rintro e w8 ⟨rfl,be⟩;have HB8:=hid (HB7.out.trans (be.mono HB7.out.size));obtain⟨z,hz⟩:∃z,z=aL t:=⟨_,rfl⟩;rw[<- hz] at HV;rw[<- hz];clear be hz;go_wp2_with fail;refine(zeg z b w8).mono ?_;rintro e w9 ⟨rfl,be⟩;have HB9:=hid (HB8.out.trans (be.mono HB8.out.size));obtain⟨v,hv⟩:∃v,v=bf z b:=⟨_,rfl⟩;rw[<- hv] at HV;rw[<- hv];clear be hv
        cases v with
        | true=>
         go_wp2;go_ret;exact⟨by rw[HV.out];rfl,HB9.out⟩
        | false=>
         go_wp2_with fail;refine(zfR s fr p w9 (HT.out.below HB9.out) hl hp hf).mono ?_;rintro e w10 ⟨rfl,be⟩;have HB10:=hid (HB9.out.trans (be.mono HB9.out.size));obtain⟨u,hu⟩:∃u,u=eK s fr p:=⟨_,rfl⟩;rw[<- hu] at HV;rw[<- hu];clear be hu;go_wp2;go_ret;exact⟨by rw[HV.out];rfl,HB10.out⟩
end Ln
end Go.Proofs.YtbbapnpdfcgjnaaGreatDoor
