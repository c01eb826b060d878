/- Base, LnCls, LnDef, LnFun1, LnFun2, LnFun3: parts of the proof, joined. -/
import Derived.Deep.AppendLies
import Derived.WalkSpells
import Derived.WalkLawsBesides
import Derived.BigQuiet
import Derived.Test.YtbbapnpdfcgjnaaGreatDoorLUMath
import Derived.Test.YtbbapnpdfcgjnaaGreatDoorLShelf
open List renaming length_eq_zero_iff->xa, length_take->xf
open Nat renaming le_refl->xb, lt_of_lt_of_le->xd, le_trans->xe
set_option maxHeartbeats 64000000
namespace Go.Proofs.YtbbapnpdfcgjnaaGreatDoor
section
open Go.RowKit
theorem hid {p:Prop} (h:p):Hid p:=h
theorem add_blk (a:Addr) (k:Nat):(a.add k).block=a.block:=by unfold Addr.add;split<;>rfl
theorem zpz {w w':World} (h:Lib.Utf8Tabs 0 1 w) (hs:2<=w.heap.size) (hb:Below w.heap.size w w'):Lib.Utf8Tabs 0 1 w':=
 ⟨fun c hc=>(hb.cell (p:=⟨0,c,none⟩) (by show 0<w.heap.size;omega)).trans (h.1 c hc),fun i hi=>⟨(hb.cell (p:=⟨1,2 * i,none⟩) (by show 1<w.heap.size;omega)).trans (h.2 i hi).1,(hb.cell (p:=⟨1,2 * i+1,none⟩) (by show 1<w.heap.size;omega)).trans (h.2 i hi).2⟩⟩
theorem zqx (l:List UInt8) (w:World) (hT:Lib.Utf8Tabs 0 1 w):
  Calls Tryz.prog 89 #[.string ⟨l.toArray⟩] w fun e w'=>e= .returned (.tuple #[.int .i32 (dec l).1,.int .i64 (dec l).2])/\Below w.heap.size w w':=by
 by_cases h:l=[]
 ·subst h
  go_enter Tryz.func89,Tryz.ntmps89;go_wp2;go_ret2;exact⟨rfl,Below.refl _ _⟩
 ·have hd:dec l=Lib.decodeGo ⟨l.toArray⟩:=if_neg h
  rw[hd];have he:l.isEmpty=false:=by simpa using h
  clear hd h;have HT:=hid hT;clear hT;go_enter Tryz.func89,Tryz.ntmps89;go_wp2_with (go_at_call 125;refine(Tryz.utf8_DecodeRuneInString _ _ (by exact HT.out)).mono ?_;rintro e w1 ⟨rfl,hb⟩)
  go_ret2;exact⟨rfl,hb⟩
theorem zwX (l:List UInt8) (w:World) (hl:l.length<=9223372036854775807) (hT:Lib.Utf8Tabs 0 1 w):
  Calls Tryz.prog 116 #[.string ⟨l.toArray⟩] w fun e w'=>e= .returned (.tuple #[.int .i32 (zaH l).1,.int .i64 (zaH l).2])/\Below w.heap.size w w':=by
 by_cases h:l=[]
 ·subst h
  go_enter Tryz.func116,Tryz.ntmps116;go_wp2;go_ret2;exact⟨rfl,Below.refl _ _⟩
 ·have hd:zaH l=Lib.decodeLastL l:=if_neg h
  rw[hd];have he:l.isEmpty=false:=by simpa using h
  clear hd h;have HT:=hid hT;have hs':(⟨l.toArray⟩:ByteArray).size<=9223372036854775807:=by show l.toArray.size<=_;simpa using hl
  have HS:=hid hs';clear hT hs';go_enter Tryz.func116,Tryz.ntmps116;go_wp2_with (go_at_call 151;refine(Tryz.utf8_DecodeLastRuneInString ⟨l.toArray⟩ _ HS.out (by exact HT.out)).mono ?_;rintro e w1 ⟨rfl,hb⟩)
  go_ret2;exact⟨rfl,hb⟩
end
section
open Go.RowKit
theorem zac (r lo hi:Int) (w:World) (h:lo<=r/\r<=hi):Calls Tryz.prog 178 #[.int .i32 r,.int .i32 lo,.int .i32 hi] w fun e w'=>e= .returned (.bool true)/\w'=w:=by
 obtain⟨h1,h2⟩:=h;go_enter Tryz.func178,Tryz.ntmps178;go_wp2;go_ret;exact⟨rfl,rfl⟩
theorem zad (r lo hi:Int) (w:World) (h:¬(lo<=r/\r<=hi)):Calls Tryz.prog 178 #[.int .i32 r,.int .i32 lo,.int .i32 hi] w fun e w'=>e= .returned (.bool false)/\w'=w:=by
 by_cases h1:lo<=r
 ·have h2:¬r<=hi:=fun h2=>h ⟨h1,h2⟩
  clear h;go_enter Tryz.func178,Tryz.ntmps178;go_wp2;go_ret;exact⟨rfl,rfl⟩
 ·clear h
  go_enter Tryz.func178,Tryz.ntmps178;go_wp2;go_ret;exact⟨rfl,rfl⟩
def zat (r:Int):Int:=
 if 48<=r/\r<=57 then 20 else if r=11 then 1 else if r=12 then 1 else if r=13 then 2 else if r=10 then 3 else if r=32 then 4 else if r=9 then 17 else if r=40 then 9 else if r=91 then 9 else if r=123 then 9 else if r=41 then 10 else if r=93 then 10 else if r=125 then 11 else if r=34 then 12 else if r=39 then 12 else if r=33 then 13 else if r=63 then 13 else if r=44 then 14 else if r=46 then 14 else if r=58 then 14 else if r=59 then 14 else if r=47 then 15 else if r=45 then 16 else if r=37 then 21 else if r=36 then 22 else if r=43 then 22 else if r=92 then 22 else 0
theorem zmd (r:Int) (w:World):Calls Tryz.prog 153 #[.int .i32 r] w fun e w'=>e= .returned (.int .i64 (zat r))/\w'=w:=by
 by_cases h0:48<=r/\r<=57
 ·have HV:=hid (show zat r=20 by unfold zat;rw[if_pos h0])
  obtain⟨u0,v0⟩:=h0;go_enter Tryz.func153,Tryz.ntmps153;go_wp2_with (first | (go_at_call 178;(first | refine(zac _ _ _ _ (by omega)).mono ?_ | refine(zad _ _ _ _ (by omega)).mono ?_);rintro e w1 ⟨rfl,hw1⟩;obtain rfl:=hw1.symm;clear hw1))
  go_ret;exact⟨by rw[HV.out];rfl,rfl⟩
 by_cases h1:r=11
 ·subst h1
  have HV:=hid (show zat 11=1 by decide)
  clear h0;go_enter Tryz.func153,Tryz.ntmps153;go_wp2_with (first | (go_at_call 178;(first | refine(zac _ _ _ _ (by omega)).mono ?_ | refine(zad _ _ _ _ (by omega)).mono ?_);rintro e w1 ⟨rfl,hw1⟩;obtain rfl:=hw1.symm;clear hw1))
  go_ret;exact⟨by rw[HV.out];rfl,rfl⟩
 by_cases h2:r=12
 ·subst h2
  have HV:=hid (show zat 12=1 by decide)
  clear h0 h1;go_enter Tryz.func153,Tryz.ntmps153;go_wp2_with (first | (go_at_call 178;(first | refine(zac _ _ _ _ (by omega)).mono ?_ | refine(zad _ _ _ _ (by omega)).mono ?_);rintro e w1 ⟨rfl,hw1⟩;obtain rfl:=hw1.symm;clear hw1))
  go_ret;exact⟨by rw[HV.out];rfl,rfl⟩
 by_cases h3:r=13
 ·subst h3
  have HV:=hid (show zat 13=2 by decide)
  clear h0 h1 h2;go_enter Tryz.func153,Tryz.ntmps153;go_wp2_with (first | (go_at_call 178;(first | refine(zac _ _ _ _ (by omega)).mono ?_ | refine(zad _ _ _ _ (by omega)).mono ?_);rintro e w1 ⟨rfl,hw1⟩;obtain rfl:=hw1.symm;clear hw1))
  go_ret;exact⟨by rw[HV.out];rfl,rfl⟩
 by_cases h4:r=10
 ·subst h4
  have HV:=hid (show zat 10=3 by decide)
  clear h0 h1 h2 h3;go_enter Tryz.func153,Tryz.ntmps153;go_wp2_with (first | (go_at_call 178;(first | refine(zac _ _ _ _ (by omega)).mono ?_ | refine(zad _ _ _ _ (by omega)).mono ?_);rintro e w1 ⟨rfl,hw1⟩;obtain rfl:=hw1.symm;clear hw1))
  go_ret;exact⟨by rw[HV.out];rfl,rfl⟩
 by_cases h5:r=32
 ·subst h5
  have HV:=hid (show zat 32=4 by decide)
  clear h0 h1 h2 h3 h4;go_enter Tryz.func153,Tryz.ntmps153;go_wp2_with (first | (go_at_call 178;(first | refine(zac _ _ _ _ (by omega)).mono ?_ | refine(zad _ _ _ _ (by omega)).mono ?_);rintro e w1 ⟨rfl,hw1⟩;obtain rfl:=hw1.symm;clear hw1))
  go_ret;exact⟨by rw[HV.out];rfl,rfl⟩
 by_cases h6:r=9
 ·subst h6
  have HV:=hid (show zat 9=17 by decide)
  clear h0 h1 h2 h3 h4 h5;go_enter Tryz.func153,Tryz.ntmps153;go_wp2_with (first | (go_at_call 178;(first | refine(zac _ _ _ _ (by omega)).mono ?_ | refine(zad _ _ _ _ (by omega)).mono ?_);rintro e w1 ⟨rfl,hw1⟩;obtain rfl:=hw1.symm;clear hw1))
  go_ret;exact⟨by rw[HV.out];rfl,rfl⟩
 by_cases h7:r=40
 ·subst h7
  have HV:=hid (show zat 40=9 by decide)
  clear h0 h1 h2 h3 h4 h5 h6;go_enter Tryz.func153,Tryz.ntmps153;go_wp2_with (first | (go_at_call 178;(first | refine(zac _ _ _ _ (by omega)).mono ?_ | refine(zad _ _ _ _ (by omega)).mono ?_);rintro e w1 ⟨rfl,hw1⟩;obtain rfl:=hw1.symm;clear hw1))
  go_ret;exact⟨by rw[HV.out];rfl,rfl⟩
 by_cases h8:r=91
 ·subst h8
  have HV:=hid (show zat 91=9 by decide)
  clear h0 h1 h2 h3 h4 h5 h6 h7;go_enter Tryz.func153,Tryz.ntmps153;go_wp2_with (first | (go_at_call 178;(first | refine(zac _ _ _ _ (by omega)).mono ?_ | refine(zad _ _ _ _ (by omega)).mono ?_);rintro e w1 ⟨rfl,hw1⟩;obtain rfl:=hw1.symm;clear hw1))
  go_ret;exact⟨by rw[HV.out];rfl,rfl⟩
 by_cases h9:r=123
 ·subst h9
  have HV:=hid (show zat 123=9 by decide)
  clear h0 h1 h2 h3 h4 h5 h6 h7 h8;go_enter Tryz.func153,Tryz.ntmps153;go_wp2_with (first | (go_at_call 178;(first | refine(zac _ _ _ _ (by omega)).mono ?_ | refine(zad _ _ _ _ (by omega)).mono ?_);rintro e w1 ⟨rfl,hw1⟩;obtain rfl:=hw1.symm;clear hw1))
  go_ret;exact⟨by rw[HV.out];rfl,rfl⟩
 by_cases h10:r=41
 ·subst h10
  have HV:=hid (show zat 41=10 by decide)
  clear h0 h1 h2 h3 h4 h5 h6 h7 h8 h9;go_enter Tryz.func153,Tryz.ntmps153;go_wp2_with (first | (go_at_call 178;(first | refine(zac _ _ _ _ (by omega)).mono ?_ | refine(zad _ _ _ _ (by omega)).mono ?_);rintro e w1 ⟨rfl,hw1⟩;obtain rfl:=hw1.symm;clear hw1))
  go_ret;exact⟨by rw[HV.out];rfl,rfl⟩
 by_cases h11:r=93
 ·subst h11
  have HV:=hid (show zat 93=10 by decide)
  clear h0 h1 h2 h3 h4 h5 h6 h7 h8 h9 h10;go_enter Tryz.func153,Tryz.ntmps153;go_wp2_with (first | (go_at_call 178;(first | refine(zac _ _ _ _ (by omega)).mono ?_ | refine(zad _ _ _ _ (by omega)).mono ?_);rintro e w1 ⟨rfl,hw1⟩;obtain rfl:=hw1.symm;clear hw1))
  go_ret;exact⟨by rw[HV.out];rfl,rfl⟩
 by_cases h12:r=125
 ·subst h12
  have HV:=hid (show zat 125=11 by decide)
  clear h0 h1 h2 h3 h4 h5 h6 h7 h8 h9 h10 h11;go_enter Tryz.func153,Tryz.ntmps153;go_wp2_with (first | (go_at_call 178;(first | refine(zac _ _ _ _ (by omega)).mono ?_ | refine(zad _ _ _ _ (by omega)).mono ?_);rintro e w1 ⟨rfl,hw1⟩;obtain rfl:=hw1.symm;clear hw1))
  go_ret;exact⟨by rw[HV.out];rfl,rfl⟩
 by_cases h13:r=34
 ·subst h13
  have HV:=hid (show zat 34=12 by decide)
  clear h0 h1 h2 h3 h4 h5 h6 h7 h8 h9 h10 h11 h12;go_enter Tryz.func153,Tryz.ntmps153;go_wp2_with (first | (go_at_call 178;(first | refine(zac _ _ _ _ (by omega)).mono ?_ | refine(zad _ _ _ _ (by omega)).mono ?_);rintro e w1 ⟨rfl,hw1⟩;obtain rfl:=hw1.symm;clear hw1))
  go_ret;exact⟨by rw[HV.out];rfl,rfl⟩
 by_cases h14:r=39
 ·subst h14
  have HV:=hid (show zat 39=12 by decide)
  clear h0 h1 h2 h3 h4 h5 h6 h7 h8 h9 h10 h11 h12 h13;go_enter Tryz.func153,Tryz.ntmps153;go_wp2_with (first | (go_at_call 178;(first | refine(zac _ _ _ _ (by omega)).mono ?_ | refine(zad _ _ _ _ (by omega)).mono ?_);rintro e w1 ⟨rfl,hw1⟩;obtain rfl:=hw1.symm;clear hw1))
  go_ret;exact⟨by rw[HV.out];rfl,rfl⟩
 by_cases h15:r=33
 ·subst h15
  have HV:=hid (show zat 33=13 by decide)
  clear h0 h1 h2 h3 h4 h5 h6 h7 h8 h9 h10 h11 h12 h13 h14;go_enter Tryz.func153,Tryz.ntmps153;go_wp2_with (first | (go_at_call 178;(first | refine(zac _ _ _ _ (by omega)).mono ?_ | refine(zad _ _ _ _ (by omega)).mono ?_);rintro e w1 ⟨rfl,hw1⟩;obtain rfl:=hw1.symm;clear hw1))
  go_ret;exact⟨by rw[HV.out];rfl,rfl⟩
 by_cases h16:r=63
 ·subst h16
  have HV:=hid (show zat 63=13 by decide)
  clear h0 h1 h2 h3 h4 h5 h6 h7 h8 h9 h10 h11 h12 h13 h14 h15;go_enter Tryz.func153,Tryz.ntmps153;go_wp2_with (first | (go_at_call 178;(first | refine(zac _ _ _ _ (by omega)).mono ?_ | refine(zad _ _ _ _ (by omega)).mono ?_);rintro e w1 ⟨rfl,hw1⟩;obtain rfl:=hw1.symm;clear hw1))
  go_ret;exact⟨by rw[HV.out];rfl,rfl⟩
 by_cases h17:r=44
 ·subst h17
  have HV:=hid (show zat 44=14 by decide)
  clear h0 h1 h2 h3 h4 h5 h6 h7 h8 h9 h10 h11 h12 h13 h14 h15 h16;go_enter Tryz.func153,Tryz.ntmps153;go_wp2_with (first | (go_at_call 178;(first | refine(zac _ _ _ _ (by omega)).mono ?_ | refine(zad _ _ _ _ (by omega)).mono ?_);rintro e w1 ⟨rfl,hw1⟩;obtain rfl:=hw1.symm;clear hw1))
  go_ret;exact⟨by rw[HV.out];rfl,rfl⟩
 by_cases h18:r=46
 ·subst h18
  have HV:=hid (show zat 46=14 by decide)
  clear h0 h1 h2 h3 h4 h5 h6 h7 h8 h9 h10 h11 h12 h13 h14 h15 h16 h17;go_enter Tryz.func153,Tryz.ntmps153;go_wp2_with (first | (go_at_call 178;(first | refine(zac _ _ _ _ (by omega)).mono ?_ | refine(zad _ _ _ _ (by omega)).mono ?_);rintro e w1 ⟨rfl,hw1⟩;obtain rfl:=hw1.symm;clear hw1))
  go_ret;exact⟨by rw[HV.out];rfl,rfl⟩
 by_cases h19:r=58
 ·subst h19
  have HV:=hid (show zat 58=14 by decide)
  clear h0 h1 h2 h3 h4 h5 h6 h7 h8 h9 h10 h11 h12 h13 h14 h15 h16 h17 h18;go_enter Tryz.func153,Tryz.ntmps153;go_wp2_with (first | (go_at_call 178;(first | refine(zac _ _ _ _ (by omega)).mono ?_ | refine(zad _ _ _ _ (by omega)).mono ?_);rintro e w1 ⟨rfl,hw1⟩;obtain rfl:=hw1.symm;clear hw1))
  go_ret;exact⟨by rw[HV.out];rfl,rfl⟩
 by_cases h20:r=59
 ·subst h20
  have HV:=hid (show zat 59=14 by decide)
  clear h0 h1 h2 h3 h4 h5 h6 h7 h8 h9 h10 h11 h12 h13 h14 h15 h16 h17 h18 h19;go_enter Tryz.func153,Tryz.ntmps153;go_wp2_with (first | (go_at_call 178;(first | refine(zac _ _ _ _ (by omega)).mono ?_ | refine(zad _ _ _ _ (by omega)).mono ?_);rintro e w1 ⟨rfl,hw1⟩;obtain rfl:=hw1.symm;clear hw1))
  go_ret;exact⟨by rw[HV.out];rfl,rfl⟩
 by_cases h21:r=47
 ·subst h21
  have HV:=hid (show zat 47=15 by decide)
  clear h0 h1 h2 h3 h4 h5 h6 h7 h8 h9 h10 h11 h12 h13 h14 h15 h16 h17 h18 h19 h20;go_enter Tryz.func153,Tryz.ntmps153;go_wp2_with (first | (go_at_call 178;(first | refine(zac _ _ _ _ (by omega)).mono ?_ | refine(zad _ _ _ _ (by omega)).mono ?_);rintro e w1 ⟨rfl,hw1⟩;obtain rfl:=hw1.symm;clear hw1))
  go_ret;exact⟨by rw[HV.out];rfl,rfl⟩
 by_cases h22:r=45
 ·subst h22
  have HV:=hid (show zat 45=16 by decide)
  clear h0 h1 h2 h3 h4 h5 h6 h7 h8 h9 h10 h11 h12 h13 h14 h15 h16 h17 h18 h19 h20 h21;go_enter Tryz.func153,Tryz.ntmps153;go_wp2_with (first | (go_at_call 178;(first | refine(zac _ _ _ _ (by omega)).mono ?_ | refine(zad _ _ _ _ (by omega)).mono ?_);rintro e w1 ⟨rfl,hw1⟩;obtain rfl:=hw1.symm;clear hw1))
  go_ret;exact⟨by rw[HV.out];rfl,rfl⟩
 by_cases h23:r=37
 ·subst h23
  have HV:=hid (show zat 37=21 by decide)
  clear h0 h1 h2 h3 h4 h5 h6 h7 h8 h9 h10 h11 h12 h13 h14 h15 h16 h17 h18 h19 h20 h21 h22;go_enter Tryz.func153,Tryz.ntmps153;go_wp2_with (first | (go_at_call 178;(first | refine(zac _ _ _ _ (by omega)).mono ?_ | refine(zad _ _ _ _ (by omega)).mono ?_);rintro e w1 ⟨rfl,hw1⟩;obtain rfl:=hw1.symm;clear hw1))
  go_ret;exact⟨by rw[HV.out];rfl,rfl⟩
 by_cases h24:r=36
 ·subst h24
  have HV:=hid (show zat 36=22 by decide)
  clear h0 h1 h2 h3 h4 h5 h6 h7 h8 h9 h10 h11 h12 h13 h14 h15 h16 h17 h18 h19 h20 h21 h22 h23;go_enter Tryz.func153,Tryz.ntmps153;go_wp2_with (first | (go_at_call 178;(first | refine(zac _ _ _ _ (by omega)).mono ?_ | refine(zad _ _ _ _ (by omega)).mono ?_);rintro e w1 ⟨rfl,hw1⟩;obtain rfl:=hw1.symm;clear hw1))
  go_ret;exact⟨by rw[HV.out];rfl,rfl⟩
 by_cases h25:r=43
 ·subst h25
  have HV:=hid (show zat 43=22 by decide)
  clear h0 h1 h2 h3 h4 h5 h6 h7 h8 h9 h10 h11 h12 h13 h14 h15 h16 h17 h18 h19 h20 h21 h22 h23 h24;go_enter Tryz.func153,Tryz.ntmps153;go_wp2_with (first | (go_at_call 178;(first | refine(zac _ _ _ _ (by omega)).mono ?_ | refine(zad _ _ _ _ (by omega)).mono ?_);rintro e w1 ⟨rfl,hw1⟩;obtain rfl:=hw1.symm;clear hw1))
  go_ret;exact⟨by rw[HV.out];rfl,rfl⟩
 by_cases h26:r=92
 ·subst h26
  have HV:=hid (show zat 92=22 by decide)
  clear h0 h1 h2 h3 h4 h5 h6 h7 h8 h9 h10 h11 h12 h13 h14 h15 h16 h17 h18 h19 h20 h21 h22 h23 h24 h25;go_enter Tryz.func153,Tryz.ntmps153;go_wp2_with (first | (go_at_call 178;(first | refine(zac _ _ _ _ (by omega)).mono ?_ | refine(zad _ _ _ _ (by omega)).mono ?_);rintro e w1 ⟨rfl,hw1⟩;obtain rfl:=hw1.symm;clear hw1))
  go_ret;exact⟨by rw[HV.out];rfl,rfl⟩
 have HV:=hid (show zat r=0 by unfold zat;rw[if_neg h0,if_neg h1,if_neg h2,if_neg h3,if_neg h4,if_neg h5,if_neg h6,if_neg h7,if_neg h8,if_neg h9,if_neg h10,if_neg h11,if_neg h12,if_neg h13,if_neg h14,if_neg h15,if_neg h16,if_neg h17,if_neg h18,if_neg h19,if_neg h20,if_neg h21,if_neg h22,if_neg h23,if_neg h24,if_neg h25,if_neg h26])
 have b1:(r==11)=false:=beq_eq_false_iff_ne.2 h1;have b2:(r==12)=false:=beq_eq_false_iff_ne.2 h2;have b3:(r==13)=false:=beq_eq_false_iff_ne.2 h3;have b4:(r==10)=false:=beq_eq_false_iff_ne.2 h4;have b5:(r==32)=false:=beq_eq_false_iff_ne.2 h5;have b6:(r==9)=false:=beq_eq_false_iff_ne.2 h6;have b7:(r==40)=false:=beq_eq_false_iff_ne.2 h7;have b8:(r==91)=false:=beq_eq_false_iff_ne.2 h8;have b9:(r==123)=false:=beq_eq_false_iff_ne.2 h9;have b10:(r==41)=false:=beq_eq_false_iff_ne.2 h10;have b11:(r==93)=false:=beq_eq_false_iff_ne.2 h11;have b12:(r==125)=false:=beq_eq_false_iff_ne.2 h12;have b13:(r==34)=false:=beq_eq_false_iff_ne.2 h13;have b14:(r==39)=false:=beq_eq_false_iff_ne.2 h14;have b15:(r==33)=false:=beq_eq_false_iff_ne.2 h15;have b16:(r==63)=false:=beq_eq_false_iff_ne.2 h16;have b17:(r==44)=false:=beq_eq_false_iff_ne.2 h17;have b18:(r==46)=false:=beq_eq_false_iff_ne.2 h18;have b19:(r==58)=false:=beq_eq_false_iff_ne.2 h19;have b20:(r==59)=false:=beq_eq_false_iff_ne.2 h20;have b21:(r==47)=false:=beq_eq_false_iff_ne.2 h21;have b22:(r==45)=false:=beq_eq_false_iff_ne.2 h22;have b23:(r==37)=false:=beq_eq_false_iff_ne.2 h23;have b24:(r==36)=false:=beq_eq_false_iff_ne.2 h24;have b25:(r==43)=false:=beq_eq_false_iff_ne.2 h25;have b26:(r==92)=false:=beq_eq_false_iff_ne.2 h26;go_enter Tryz.func153,Tryz.ntmps153;go_wp2_with (first | (go_at_call 178;(first | refine(zac _ _ _ _ (by omega)).mono ?_ | refine(zad _ _ _ _ (by omega)).mono ?_);rintro e w1 ⟨rfl,hw1⟩;obtain rfl:=hw1.symm;clear hw1))
 go_ret;exact⟨by rw[HV.out];rfl,rfl⟩
def zaL (r:Int):Int:=
 if r=133 then 1 else if r=160 then 7 else if r=161 then 9 else if r=191 then 9 else if r=162 then 21 else if r=176 then 21 else if r=163 then 22 else if r=164 then 22 else if r=165 then 22 else if r=177 then 22 else if r=171 then 12 else if r=187 then 12 else if r=173 then 17 else 0
theorem zmb (r:Int) (w:World):Calls Tryz.prog 154 #[.int .i32 r] w fun e w'=>e= .returned (.int .i64 (zaL r))/\w'=w:=by
 by_cases h0:r=133
 ·subst h0
  have HV:=hid (show zaL 133=1 by decide)
  skip
  go_enter Tryz.func154,Tryz.ntmps154;go_wp2_with (first | (go_at_call 178;(first | refine(zac _ _ _ _ (by omega)).mono ?_ | refine(zad _ _ _ _ (by omega)).mono ?_);rintro e w1 ⟨rfl,hw1⟩;obtain rfl:=hw1.symm;clear hw1))
  go_ret;exact⟨by rw[HV.out];rfl,rfl⟩
 by_cases h1:r=160
 ·subst h1
  have HV:=hid (show zaL 160=7 by decide)
  clear h0;go_enter Tryz.func154,Tryz.ntmps154;go_wp2_with (first | (go_at_call 178;(first | refine(zac _ _ _ _ (by omega)).mono ?_ | refine(zad _ _ _ _ (by omega)).mono ?_);rintro e w1 ⟨rfl,hw1⟩;obtain rfl:=hw1.symm;clear hw1))
  go_ret;exact⟨by rw[HV.out];rfl,rfl⟩
 by_cases h2:r=161
 ·subst h2
  have HV:=hid (show zaL 161=9 by decide)
  clear h0 h1;go_enter Tryz.func154,Tryz.ntmps154;go_wp2_with (first | (go_at_call 178;(first | refine(zac _ _ _ _ (by omega)).mono ?_ | refine(zad _ _ _ _ (by omega)).mono ?_);rintro e w1 ⟨rfl,hw1⟩;obtain rfl:=hw1.symm;clear hw1))
  go_ret;exact⟨by rw[HV.out];rfl,rfl⟩
 by_cases h3:r=191
 ·subst h3
  have HV:=hid (show zaL 191=9 by decide)
  clear h0 h1 h2;go_enter Tryz.func154,Tryz.ntmps154;go_wp2_with (first | (go_at_call 178;(first | refine(zac _ _ _ _ (by omega)).mono ?_ | refine(zad _ _ _ _ (by omega)).mono ?_);rintro e w1 ⟨rfl,hw1⟩;obtain rfl:=hw1.symm;clear hw1))
  go_ret;exact⟨by rw[HV.out];rfl,rfl⟩
 by_cases h4:r=162
 ·subst h4
  have HV:=hid (show zaL 162=21 by decide)
  clear h0 h1 h2 h3;go_enter Tryz.func154,Tryz.ntmps154;go_wp2_with (first | (go_at_call 178;(first | refine(zac _ _ _ _ (by omega)).mono ?_ | refine(zad _ _ _ _ (by omega)).mono ?_);rintro e w1 ⟨rfl,hw1⟩;obtain rfl:=hw1.symm;clear hw1))
  go_ret;exact⟨by rw[HV.out];rfl,rfl⟩
 by_cases h5:r=176
 ·subst h5
  have HV:=hid (show zaL 176=21 by decide)
  clear h0 h1 h2 h3 h4;go_enter Tryz.func154,Tryz.ntmps154;go_wp2_with (first | (go_at_call 178;(first | refine(zac _ _ _ _ (by omega)).mono ?_ | refine(zad _ _ _ _ (by omega)).mono ?_);rintro e w1 ⟨rfl,hw1⟩;obtain rfl:=hw1.symm;clear hw1))
  go_ret;exact⟨by rw[HV.out];rfl,rfl⟩
 by_cases h6:r=163
 ·subst h6
  have HV:=hid (show zaL 163=22 by decide)
  clear h0 h1 h2 h3 h4 h5;go_enter Tryz.func154,Tryz.ntmps154;go_wp2_with (first | (go_at_call 178;(first | refine(zac _ _ _ _ (by omega)).mono ?_ | refine(zad _ _ _ _ (by omega)).mono ?_);rintro e w1 ⟨rfl,hw1⟩;obtain rfl:=hw1.symm;clear hw1))
  go_ret;exact⟨by rw[HV.out];rfl,rfl⟩
 by_cases h7:r=164
 ·subst h7
  have HV:=hid (show zaL 164=22 by decide)
  clear h0 h1 h2 h3 h4 h5 h6;go_enter Tryz.func154,Tryz.ntmps154;go_wp2_with (first | (go_at_call 178;(first | refine(zac _ _ _ _ (by omega)).mono ?_ | refine(zad _ _ _ _ (by omega)).mono ?_);rintro e w1 ⟨rfl,hw1⟩;obtain rfl:=hw1.symm;clear hw1))
  go_ret;exact⟨by rw[HV.out];rfl,rfl⟩
 by_cases h8:r=165
 ·subst h8
  have HV:=hid (show zaL 165=22 by decide)
  clear h0 h1 h2 h3 h4 h5 h6 h7;go_enter Tryz.func154,Tryz.ntmps154;go_wp2_with (first | (go_at_call 178;(first | refine(zac _ _ _ _ (by omega)).mono ?_ | refine(zad _ _ _ _ (by omega)).mono ?_);rintro e w1 ⟨rfl,hw1⟩;obtain rfl:=hw1.symm;clear hw1))
  go_ret;exact⟨by rw[HV.out];rfl,rfl⟩
 by_cases h9:r=177
 ·subst h9
  have HV:=hid (show zaL 177=22 by decide)
  clear h0 h1 h2 h3 h4 h5 h6 h7 h8;go_enter Tryz.func154,Tryz.ntmps154;go_wp2_with (first | (go_at_call 178;(first | refine(zac _ _ _ _ (by omega)).mono ?_ | refine(zad _ _ _ _ (by omega)).mono ?_);rintro e w1 ⟨rfl,hw1⟩;obtain rfl:=hw1.symm;clear hw1))
  go_ret;exact⟨by rw[HV.out];rfl,rfl⟩
 by_cases h10:r=171
 ·subst h10
  have HV:=hid (show zaL 171=12 by decide)
  clear h0 h1 h2 h3 h4 h5 h6 h7 h8 h9;go_enter Tryz.func154,Tryz.ntmps154;go_wp2_with (first | (go_at_call 178;(first | refine(zac _ _ _ _ (by omega)).mono ?_ | refine(zad _ _ _ _ (by omega)).mono ?_);rintro e w1 ⟨rfl,hw1⟩;obtain rfl:=hw1.symm;clear hw1))
  go_ret;exact⟨by rw[HV.out];rfl,rfl⟩
 by_cases h11:r=187
 ·subst h11
  have HV:=hid (show zaL 187=12 by decide)
  clear h0 h1 h2 h3 h4 h5 h6 h7 h8 h9 h10;go_enter Tryz.func154,Tryz.ntmps154;go_wp2_with (first | (go_at_call 178;(first | refine(zac _ _ _ _ (by omega)).mono ?_ | refine(zad _ _ _ _ (by omega)).mono ?_);rintro e w1 ⟨rfl,hw1⟩;obtain rfl:=hw1.symm;clear hw1))
  go_ret;exact⟨by rw[HV.out];rfl,rfl⟩
 by_cases h12:r=173
 ·subst h12
  have HV:=hid (show zaL 173=17 by decide)
  clear h0 h1 h2 h3 h4 h5 h6 h7 h8 h9 h10 h11;go_enter Tryz.func154,Tryz.ntmps154;go_wp2_with (first | (go_at_call 178;(first | refine(zac _ _ _ _ (by omega)).mono ?_ | refine(zad _ _ _ _ (by omega)).mono ?_);rintro e w1 ⟨rfl,hw1⟩;obtain rfl:=hw1.symm;clear hw1))
  go_ret;exact⟨by rw[HV.out];rfl,rfl⟩
 have HV:=hid (show zaL r=0 by unfold zaL;rw[if_neg h0,if_neg h1,if_neg h2,if_neg h3,if_neg h4,if_neg h5,if_neg h6,if_neg h7,if_neg h8,if_neg h9,if_neg h10,if_neg h11,if_neg h12])
 have b0:(r==133)=false:=beq_eq_false_iff_ne.2 h0;have b1:(r==160)=false:=beq_eq_false_iff_ne.2 h1;have b2:(r==161)=false:=beq_eq_false_iff_ne.2 h2;have b3:(r==191)=false:=beq_eq_false_iff_ne.2 h3;have b4:(r==162)=false:=beq_eq_false_iff_ne.2 h4;have b5:(r==176)=false:=beq_eq_false_iff_ne.2 h5;have b6:(r==163)=false:=beq_eq_false_iff_ne.2 h6;have b7:(r==164)=false:=beq_eq_false_iff_ne.2 h7;have b8:(r==165)=false:=beq_eq_false_iff_ne.2 h8;have b9:(r==177)=false:=beq_eq_false_iff_ne.2 h9;have b10:(r==171)=false:=beq_eq_false_iff_ne.2 h10;have b11:(r==187)=false:=beq_eq_false_iff_ne.2 h11;have b12:(r==173)=false:=beq_eq_false_iff_ne.2 h12;go_enter Tryz.func154,Tryz.ntmps154;go_wp2_with (first | (go_at_call 178;(first | refine(zac _ _ _ _ (by omega)).mono ?_ | refine(zad _ _ _ _ (by omega)).mono ?_);rintro e w1 ⟨rfl,hw1⟩;obtain rfl:=hw1.symm;clear hw1))
 go_ret;exact⟨by rw[HV.out];rfl,rfl⟩
def zaK (r:Int):Int:=
 if r<=879 then 8 else if 1425<=r/\r<=1469 then 8 else if 1632<=r/\r<=1641 then 20 else 0
theorem ziE (r:Int) (w:World):Calls Tryz.prog 155 #[.int .i32 r] w fun e w'=>e= .returned (.int .i64 (zaK r))/\w'=w:=by
 by_cases h0:r<=879
 ·have HV:=hid (show zaK r=8 by unfold zaK;rw[if_pos h0])
  go_enter Tryz.func155,Tryz.ntmps155;go_wp2_with (first | (go_at_call 178;(first | refine(zac _ _ _ _ (by omega)).mono ?_ | refine(zad _ _ _ _ (by omega)).mono ?_);rintro e w1 ⟨rfl,hw1⟩;obtain rfl:=hw1.symm;clear hw1))
  go_ret;exact⟨by rw[HV.out];rfl,rfl⟩
 by_cases h1:1425<=r/\r<=1469
 ·have HV:=hid (show zaK r=8 by unfold zaK;rw[if_neg h0,if_pos h1])
  obtain⟨u1,v1⟩:=h1;go_enter Tryz.func155,Tryz.ntmps155;go_wp2_with (first | (go_at_call 178;(first | refine(zac _ _ _ _ (by omega)).mono ?_ | refine(zad _ _ _ _ (by omega)).mono ?_);rintro e w1 ⟨rfl,hw1⟩;obtain rfl:=hw1.symm;clear hw1))
  go_ret;exact⟨by rw[HV.out];rfl,rfl⟩
 by_cases h2:1632<=r/\r<=1641
 ·have HV:=hid (show zaK r=20 by unfold zaK;rw[if_neg h0,if_neg h1,if_pos h2])
  obtain⟨u2,v2⟩:=h2;go_enter Tryz.func155,Tryz.ntmps155;go_wp2_with (first | (go_at_call 178;(first | refine(zac _ _ _ _ (by omega)).mono ?_ | refine(zad _ _ _ _ (by omega)).mono ?_);rintro e w1 ⟨rfl,hw1⟩;obtain rfl:=hw1.symm;clear hw1))
  go_ret;exact⟨by rw[HV.out];rfl,rfl⟩
 have HV:=hid (show zaK r=0 by unfold zaK;rw[if_neg h0,if_neg h1,if_neg h2])
 go_enter Tryz.func155,Tryz.ntmps155;go_wp2_with (first | (go_at_call 178;(first | refine(zac _ _ _ _ (by omega)).mono ?_ | refine(zad _ _ _ _ (by omega)).mono ?_);rintro e w1 ⟨rfl,hw1⟩;obtain rfl:=hw1.symm;clear hw1))
 go_ret;exact⟨by rw[HV.out];rfl,rfl⟩
def zaz (r:Int):Int:=
 if r=8199 then 7 else if r=8239 then 7 else if r=8203 then 5 else if r=8204 then 8 else if r=8205 then 8 else if r=8208 then 17 else if r=8211 then 17 else if r=8212 then 18 else if r=8216 then 12 else if r=8217 then 12 else if r=8220 then 12 else if r=8221 then 12 else if r=8218 then 9 else if r=8230 then 19 else if r=8232 then 1 else if r=8233 then 1 else if r=8240 then 21 else if r=8288 then 6 else if r=8364 then 22 else 0
theorem zlZ (r:Int) (w:World):Calls Tryz.prog 156 #[.int .i32 r] w fun e w'=>e= .returned (.int .i64 (zaz r))/\w'=w:=by
 by_cases h0:r=8199
 ·subst h0
  have HV:=hid (show zaz 8199=7 by decide)
  skip
  go_enter Tryz.func156,Tryz.ntmps156;go_wp2_with (first | (go_at_call 178;(first | refine(zac _ _ _ _ (by omega)).mono ?_ | refine(zad _ _ _ _ (by omega)).mono ?_);rintro e w1 ⟨rfl,hw1⟩;obtain rfl:=hw1.symm;clear hw1))
  go_ret;exact⟨by rw[HV.out];rfl,rfl⟩
 by_cases h1:r=8239
 ·subst h1
  have HV:=hid (show zaz 8239=7 by decide)
  clear h0;go_enter Tryz.func156,Tryz.ntmps156;go_wp2_with (first | (go_at_call 178;(first | refine(zac _ _ _ _ (by omega)).mono ?_ | refine(zad _ _ _ _ (by omega)).mono ?_);rintro e w1 ⟨rfl,hw1⟩;obtain rfl:=hw1.symm;clear hw1))
  go_ret;exact⟨by rw[HV.out];rfl,rfl⟩
 by_cases h2:r=8203
 ·subst h2
  have HV:=hid (show zaz 8203=5 by decide)
  clear h0 h1;go_enter Tryz.func156,Tryz.ntmps156;go_wp2_with (first | (go_at_call 178;(first | refine(zac _ _ _ _ (by omega)).mono ?_ | refine(zad _ _ _ _ (by omega)).mono ?_);rintro e w1 ⟨rfl,hw1⟩;obtain rfl:=hw1.symm;clear hw1))
  go_ret;exact⟨by rw[HV.out];rfl,rfl⟩
 by_cases h3:r=8204
 ·subst h3
  have HV:=hid (show zaz 8204=8 by decide)
  clear h0 h1 h2;go_enter Tryz.func156,Tryz.ntmps156;go_wp2_with (first | (go_at_call 178;(first | refine(zac _ _ _ _ (by omega)).mono ?_ | refine(zad _ _ _ _ (by omega)).mono ?_);rintro e w1 ⟨rfl,hw1⟩;obtain rfl:=hw1.symm;clear hw1))
  go_ret;exact⟨by rw[HV.out];rfl,rfl⟩
 by_cases h4:r=8205
 ·subst h4
  have HV:=hid (show zaz 8205=8 by decide)
  clear h0 h1 h2 h3;go_enter Tryz.func156,Tryz.ntmps156;go_wp2_with (first | (go_at_call 178;(first | refine(zac _ _ _ _ (by omega)).mono ?_ | refine(zad _ _ _ _ (by omega)).mono ?_);rintro e w1 ⟨rfl,hw1⟩;obtain rfl:=hw1.symm;clear hw1))
  go_ret;exact⟨by rw[HV.out];rfl,rfl⟩
 by_cases h5:r=8208
 ·subst h5
  have HV:=hid (show zaz 8208=17 by decide)
  clear h0 h1 h2 h3 h4;go_enter Tryz.func156,Tryz.ntmps156;go_wp2_with (first | (go_at_call 178;(first | refine(zac _ _ _ _ (by omega)).mono ?_ | refine(zad _ _ _ _ (by omega)).mono ?_);rintro e w1 ⟨rfl,hw1⟩;obtain rfl:=hw1.symm;clear hw1))
  go_ret;exact⟨by rw[HV.out];rfl,rfl⟩
 by_cases h6:r=8211
 ·subst h6
  have HV:=hid (show zaz 8211=17 by decide)
  clear h0 h1 h2 h3 h4 h5;go_enter Tryz.func156,Tryz.ntmps156;go_wp2_with (first | (go_at_call 178;(first | refine(zac _ _ _ _ (by omega)).mono ?_ | refine(zad _ _ _ _ (by omega)).mono ?_);rintro e w1 ⟨rfl,hw1⟩;obtain rfl:=hw1.symm;clear hw1))
  go_ret;exact⟨by rw[HV.out];rfl,rfl⟩
 by_cases h7:r=8212
 ·subst h7
  have HV:=hid (show zaz 8212=18 by decide)
  clear h0 h1 h2 h3 h4 h5 h6;go_enter Tryz.func156,Tryz.ntmps156;go_wp2_with (first | (go_at_call 178;(first | refine(zac _ _ _ _ (by omega)).mono ?_ | refine(zad _ _ _ _ (by omega)).mono ?_);rintro e w1 ⟨rfl,hw1⟩;obtain rfl:=hw1.symm;clear hw1))
  go_ret;exact⟨by rw[HV.out];rfl,rfl⟩
 by_cases h8:r=8216
 ·subst h8
  have HV:=hid (show zaz 8216=12 by decide)
  clear h0 h1 h2 h3 h4 h5 h6 h7;go_enter Tryz.func156,Tryz.ntmps156;go_wp2_with (first | (go_at_call 178;(first | refine(zac _ _ _ _ (by omega)).mono ?_ | refine(zad _ _ _ _ (by omega)).mono ?_);rintro e w1 ⟨rfl,hw1⟩;obtain rfl:=hw1.symm;clear hw1))
  go_ret;exact⟨by rw[HV.out];rfl,rfl⟩
 by_cases h9:r=8217
 ·subst h9
  have HV:=hid (show zaz 8217=12 by decide)
  clear h0 h1 h2 h3 h4 h5 h6 h7 h8;go_enter Tryz.func156,Tryz.ntmps156;go_wp2_with (first | (go_at_call 178;(first | refine(zac _ _ _ _ (by omega)).mono ?_ | refine(zad _ _ _ _ (by omega)).mono ?_);rintro e w1 ⟨rfl,hw1⟩;obtain rfl:=hw1.symm;clear hw1))
  go_ret;exact⟨by rw[HV.out];rfl,rfl⟩
 by_cases h10:r=8220
 ·subst h10
  have HV:=hid (show zaz 8220=12 by decide)
  clear h0 h1 h2 h3 h4 h5 h6 h7 h8 h9;go_enter Tryz.func156,Tryz.ntmps156;go_wp2_with (first | (go_at_call 178;(first | refine(zac _ _ _ _ (by omega)).mono ?_ | refine(zad _ _ _ _ (by omega)).mono ?_);rintro e w1 ⟨rfl,hw1⟩;obtain rfl:=hw1.symm;clear hw1))
  go_ret;exact⟨by rw[HV.out];rfl,rfl⟩
 by_cases h11:r=8221
 ·subst h11
  have HV:=hid (show zaz 8221=12 by decide)
  clear h0 h1 h2 h3 h4 h5 h6 h7 h8 h9 h10;go_enter Tryz.func156,Tryz.ntmps156;go_wp2_with (first | (go_at_call 178;(first | refine(zac _ _ _ _ (by omega)).mono ?_ | refine(zad _ _ _ _ (by omega)).mono ?_);rintro e w1 ⟨rfl,hw1⟩;obtain rfl:=hw1.symm;clear hw1))
  go_ret;exact⟨by rw[HV.out];rfl,rfl⟩
 by_cases h12:r=8218
 ·subst h12
  have HV:=hid (show zaz 8218=9 by decide)
  clear h0 h1 h2 h3 h4 h5 h6 h7 h8 h9 h10 h11;go_enter Tryz.func156,Tryz.ntmps156;go_wp2_with (first | (go_at_call 178;(first | refine(zac _ _ _ _ (by omega)).mono ?_ | refine(zad _ _ _ _ (by omega)).mono ?_);rintro e w1 ⟨rfl,hw1⟩;obtain rfl:=hw1.symm;clear hw1))
  go_ret;exact⟨by rw[HV.out];rfl,rfl⟩
 by_cases h13:r=8230
 ·subst h13
  have HV:=hid (show zaz 8230=19 by decide)
  clear h0 h1 h2 h3 h4 h5 h6 h7 h8 h9 h10 h11 h12;go_enter Tryz.func156,Tryz.ntmps156;go_wp2_with (first | (go_at_call 178;(first | refine(zac _ _ _ _ (by omega)).mono ?_ | refine(zad _ _ _ _ (by omega)).mono ?_);rintro e w1 ⟨rfl,hw1⟩;obtain rfl:=hw1.symm;clear hw1))
  go_ret;exact⟨by rw[HV.out];rfl,rfl⟩
 by_cases h14:r=8232
 ·subst h14
  have HV:=hid (show zaz 8232=1 by decide)
  clear h0 h1 h2 h3 h4 h5 h6 h7 h8 h9 h10 h11 h12 h13;go_enter Tryz.func156,Tryz.ntmps156;go_wp2_with (first | (go_at_call 178;(first | refine(zac _ _ _ _ (by omega)).mono ?_ | refine(zad _ _ _ _ (by omega)).mono ?_);rintro e w1 ⟨rfl,hw1⟩;obtain rfl:=hw1.symm;clear hw1))
  go_ret;exact⟨by rw[HV.out];rfl,rfl⟩
 by_cases h15:r=8233
 ·subst h15
  have HV:=hid (show zaz 8233=1 by decide)
  clear h0 h1 h2 h3 h4 h5 h6 h7 h8 h9 h10 h11 h12 h13 h14;go_enter Tryz.func156,Tryz.ntmps156;go_wp2_with (first | (go_at_call 178;(first | refine(zac _ _ _ _ (by omega)).mono ?_ | refine(zad _ _ _ _ (by omega)).mono ?_);rintro e w1 ⟨rfl,hw1⟩;obtain rfl:=hw1.symm;clear hw1))
  go_ret;exact⟨by rw[HV.out];rfl,rfl⟩
 by_cases h16:r=8240
 ·subst h16
  have HV:=hid (show zaz 8240=21 by decide)
  clear h0 h1 h2 h3 h4 h5 h6 h7 h8 h9 h10 h11 h12 h13 h14 h15;go_enter Tryz.func156,Tryz.ntmps156;go_wp2_with (first | (go_at_call 178;(first | refine(zac _ _ _ _ (by omega)).mono ?_ | refine(zad _ _ _ _ (by omega)).mono ?_);rintro e w1 ⟨rfl,hw1⟩;obtain rfl:=hw1.symm;clear hw1))
  go_ret;exact⟨by rw[HV.out];rfl,rfl⟩
 by_cases h17:r=8288
 ·subst h17
  have HV:=hid (show zaz 8288=6 by decide)
  clear h0 h1 h2 h3 h4 h5 h6 h7 h8 h9 h10 h11 h12 h13 h14 h15 h16;go_enter Tryz.func156,Tryz.ntmps156;go_wp2_with (first | (go_at_call 178;(first | refine(zac _ _ _ _ (by omega)).mono ?_ | refine(zad _ _ _ _ (by omega)).mono ?_);rintro e w1 ⟨rfl,hw1⟩;obtain rfl:=hw1.symm;clear hw1))
  go_ret;exact⟨by rw[HV.out];rfl,rfl⟩
 by_cases h18:r=8364
 ·subst h18
  have HV:=hid (show zaz 8364=22 by decide)
  clear h0 h1 h2 h3 h4 h5 h6 h7 h8 h9 h10 h11 h12 h13 h14 h15 h16 h17;go_enter Tryz.func156,Tryz.ntmps156;go_wp2_with (first | (go_at_call 178;(first | refine(zac _ _ _ _ (by omega)).mono ?_ | refine(zad _ _ _ _ (by omega)).mono ?_);rintro e w1 ⟨rfl,hw1⟩;obtain rfl:=hw1.symm;clear hw1))
  go_ret;exact⟨by rw[HV.out];rfl,rfl⟩
 have HV:=hid (show zaz r=0 by unfold zaz;rw[if_neg h0,if_neg h1,if_neg h2,if_neg h3,if_neg h4,if_neg h5,if_neg h6,if_neg h7,if_neg h8,if_neg h9,if_neg h10,if_neg h11,if_neg h12,if_neg h13,if_neg h14,if_neg h15,if_neg h16,if_neg h17,if_neg h18])
 have b0:(r==8199)=false:=beq_eq_false_iff_ne.2 h0;have b1:(r==8239)=false:=beq_eq_false_iff_ne.2 h1;have b2:(r==8203)=false:=beq_eq_false_iff_ne.2 h2;have b3:(r==8204)=false:=beq_eq_false_iff_ne.2 h3;have b4:(r==8205)=false:=beq_eq_false_iff_ne.2 h4;have b5:(r==8208)=false:=beq_eq_false_iff_ne.2 h5;have b6:(r==8211)=false:=beq_eq_false_iff_ne.2 h6;have b7:(r==8212)=false:=beq_eq_false_iff_ne.2 h7;have b8:(r==8216)=false:=beq_eq_false_iff_ne.2 h8;have b9:(r==8217)=false:=beq_eq_false_iff_ne.2 h9;have b10:(r==8220)=false:=beq_eq_false_iff_ne.2 h10;have b11:(r==8221)=false:=beq_eq_false_iff_ne.2 h11;have b12:(r==8218)=false:=beq_eq_false_iff_ne.2 h12;have b13:(r==8230)=false:=beq_eq_false_iff_ne.2 h13;have b14:(r==8232)=false:=beq_eq_false_iff_ne.2 h14;have b15:(r==8233)=false:=beq_eq_false_iff_ne.2 h15;have b16:(r==8240)=false:=beq_eq_false_iff_ne.2 h16;have b17:(r==8288)=false:=beq_eq_false_iff_ne.2 h17;have b18:(r==8364)=false:=beq_eq_false_iff_ne.2 h18;go_enter Tryz.func156,Tryz.ntmps156;go_wp2_with (first | (go_at_call 178;(first | refine(zac _ _ _ _ (by omega)).mono ?_ | refine(zad _ _ _ _ (by omega)).mono ?_);rintro e w1 ⟨rfl,hw1⟩;obtain rfl:=hw1.symm;clear hw1))
 go_ret;exact⟨by rw[HV.out];rfl,rfl⟩
def zaM (r:Int):Int:=
 if 12353<=r/\r<=12438 then 23 else if 12449<=r/\r<=12538 then 23 else if r=12289 then 11 else if r=12290 then 11 else if r=12297 then 11 else if r=12299 then 11 else if r=12301 then 11 else if r=12296 then 9 else if r=12298 then 9 else if r=12300 then 9 else if r=12293 then 24 else if r=12316 then 24 else if 12443<=r/\r<=12446 then 24 else if 12539<=r/\r<=12542 then 24 else if r=12441 then 8 else if r=12442 then 8 else 0
theorem zpW (r:Int) (w:World):Calls Tryz.prog 157 #[.int .i32 r] w fun e w'=>e= .returned (.int .i64 (zaM r))/\w'=w:=by
 by_cases h0:12353<=r/\r<=12438
 ·have HV:=hid (show zaM r=23 by unfold zaM;rw[if_pos h0])
  obtain⟨u0,v0⟩:=h0;go_enter Tryz.func157,Tryz.ntmps157;go_wp2_with (first | (go_at_call 178;(first | refine(zac _ _ _ _ (by omega)).mono ?_ | refine(zad _ _ _ _ (by omega)).mono ?_);rintro e w1 ⟨rfl,hw1⟩;obtain rfl:=hw1.symm;clear hw1))
  go_ret;exact⟨by rw[HV.out];rfl,rfl⟩
 by_cases h1:12449<=r/\r<=12538
 ·have HV:=hid (show zaM r=23 by unfold zaM;rw[if_neg h0,if_pos h1])
  obtain⟨u1,v1⟩:=h1;go_enter Tryz.func157,Tryz.ntmps157;go_wp2_with (first | (go_at_call 178;(first | refine(zac _ _ _ _ (by omega)).mono ?_ | refine(zad _ _ _ _ (by omega)).mono ?_);rintro e w1 ⟨rfl,hw1⟩;obtain rfl:=hw1.symm;clear hw1))
  go_ret;exact⟨by rw[HV.out];rfl,rfl⟩
 by_cases h2:r=12289
 ·subst h2
  have HV:=hid (show zaM 12289=11 by decide)
  clear h0 h1;go_enter Tryz.func157,Tryz.ntmps157;go_wp2_with (first | (go_at_call 178;(first | refine(zac _ _ _ _ (by omega)).mono ?_ | refine(zad _ _ _ _ (by omega)).mono ?_);rintro e w1 ⟨rfl,hw1⟩;obtain rfl:=hw1.symm;clear hw1))
  go_ret;exact⟨by rw[HV.out];rfl,rfl⟩
 by_cases h3:r=12290
 ·subst h3
  have HV:=hid (show zaM 12290=11 by decide)
  clear h0 h1 h2;go_enter Tryz.func157,Tryz.ntmps157;go_wp2_with (first | (go_at_call 178;(first | refine(zac _ _ _ _ (by omega)).mono ?_ | refine(zad _ _ _ _ (by omega)).mono ?_);rintro e w1 ⟨rfl,hw1⟩;obtain rfl:=hw1.symm;clear hw1))
  go_ret;exact⟨by rw[HV.out];rfl,rfl⟩
 by_cases h4:r=12297
 ·subst h4
  have HV:=hid (show zaM 12297=11 by decide)
  clear h0 h1 h2 h3;go_enter Tryz.func157,Tryz.ntmps157;go_wp2_with (first | (go_at_call 178;(first | refine(zac _ _ _ _ (by omega)).mono ?_ | refine(zad _ _ _ _ (by omega)).mono ?_);rintro e w1 ⟨rfl,hw1⟩;obtain rfl:=hw1.symm;clear hw1))
  go_ret;exact⟨by rw[HV.out];rfl,rfl⟩
 by_cases h5:r=12299
 ·subst h5
  have HV:=hid (show zaM 12299=11 by decide)
  clear h0 h1 h2 h3 h4;go_enter Tryz.func157,Tryz.ntmps157;go_wp2_with (first | (go_at_call 178;(first | refine(zac _ _ _ _ (by omega)).mono ?_ | refine(zad _ _ _ _ (by omega)).mono ?_);rintro e w1 ⟨rfl,hw1⟩;obtain rfl:=hw1.symm;clear hw1))
  go_ret;exact⟨by rw[HV.out];rfl,rfl⟩
 by_cases h6:r=12301
 ·subst h6
  have HV:=hid (show zaM 12301=11 by decide)
  clear h0 h1 h2 h3 h4 h5;go_enter Tryz.func157,Tryz.ntmps157;go_wp2_with (first | (go_at_call 178;(first | refine(zac _ _ _ _ (by omega)).mono ?_ | refine(zad _ _ _ _ (by omega)).mono ?_);rintro e w1 ⟨rfl,hw1⟩;obtain rfl:=hw1.symm;clear hw1))
  go_ret;exact⟨by rw[HV.out];rfl,rfl⟩
 by_cases h7:r=12296
 ·subst h7
  have HV:=hid (show zaM 12296=9 by decide)
  clear h0 h1 h2 h3 h4 h5 h6;go_enter Tryz.func157,Tryz.ntmps157;go_wp2_with (first | (go_at_call 178;(first | refine(zac _ _ _ _ (by omega)).mono ?_ | refine(zad _ _ _ _ (by omega)).mono ?_);rintro e w1 ⟨rfl,hw1⟩;obtain rfl:=hw1.symm;clear hw1))
  go_ret;exact⟨by rw[HV.out];rfl,rfl⟩
 by_cases h8:r=12298
 ·subst h8
  have HV:=hid (show zaM 12298=9 by decide)
  clear h0 h1 h2 h3 h4 h5 h6 h7;go_enter Tryz.func157,Tryz.ntmps157;go_wp2_with (first | (go_at_call 178;(first | refine(zac _ _ _ _ (by omega)).mono ?_ | refine(zad _ _ _ _ (by omega)).mono ?_);rintro e w1 ⟨rfl,hw1⟩;obtain rfl:=hw1.symm;clear hw1))
  go_ret;exact⟨by rw[HV.out];rfl,rfl⟩
 by_cases h9:r=12300
 ·subst h9
  have HV:=hid (show zaM 12300=9 by decide)
  clear h0 h1 h2 h3 h4 h5 h6 h7 h8;go_enter Tryz.func157,Tryz.ntmps157;go_wp2_with (first | (go_at_call 178;(first | refine(zac _ _ _ _ (by omega)).mono ?_ | refine(zad _ _ _ _ (by omega)).mono ?_);rintro e w1 ⟨rfl,hw1⟩;obtain rfl:=hw1.symm;clear hw1))
  go_ret;exact⟨by rw[HV.out];rfl,rfl⟩
 by_cases h10:r=12293
 ·subst h10
  have HV:=hid (show zaM 12293=24 by decide)
  clear h0 h1 h2 h3 h4 h5 h6 h7 h8 h9;go_enter Tryz.func157,Tryz.ntmps157;go_wp2_with (first | (go_at_call 178;(first | refine(zac _ _ _ _ (by omega)).mono ?_ | refine(zad _ _ _ _ (by omega)).mono ?_);rintro e w1 ⟨rfl,hw1⟩;obtain rfl:=hw1.symm;clear hw1))
  go_ret;exact⟨by rw[HV.out];rfl,rfl⟩
 by_cases h11:r=12316
 ·subst h11
  have HV:=hid (show zaM 12316=24 by decide)
  clear h0 h1 h2 h3 h4 h5 h6 h7 h8 h9 h10;go_enter Tryz.func157,Tryz.ntmps157;go_wp2_with (first | (go_at_call 178;(first | refine(zac _ _ _ _ (by omega)).mono ?_ | refine(zad _ _ _ _ (by omega)).mono ?_);rintro e w1 ⟨rfl,hw1⟩;obtain rfl:=hw1.symm;clear hw1))
  go_ret;exact⟨by rw[HV.out];rfl,rfl⟩
 by_cases h12:12443<=r/\r<=12446
 ·have HV:=hid (show zaM r=24 by unfold zaM;rw[if_neg h0,if_neg h1,if_neg h2,if_neg h3,if_neg h4,if_neg h5,if_neg h6,if_neg h7,if_neg h8,if_neg h9,if_neg h10,if_neg h11,if_pos h12])
  have b2:(r==12289)=false:=beq_eq_false_iff_ne.2 h2;have b3:(r==12290)=false:=beq_eq_false_iff_ne.2 h3;have b4:(r==12297)=false:=beq_eq_false_iff_ne.2 h4;have b5:(r==12299)=false:=beq_eq_false_iff_ne.2 h5;have b6:(r==12301)=false:=beq_eq_false_iff_ne.2 h6;have b7:(r==12296)=false:=beq_eq_false_iff_ne.2 h7;have b8:(r==12298)=false:=beq_eq_false_iff_ne.2 h8;have b9:(r==12300)=false:=beq_eq_false_iff_ne.2 h9;have b10:(r==12293)=false:=beq_eq_false_iff_ne.2 h10;have b11:(r==12316)=false:=beq_eq_false_iff_ne.2 h11;obtain⟨u12,v12⟩:=h12;go_enter Tryz.func157,Tryz.ntmps157;go_wp2_with (first | (go_at_call 178;(first | refine(zac _ _ _ _ (by omega)).mono ?_ | refine(zad _ _ _ _ (by omega)).mono ?_);rintro e w1 ⟨rfl,hw1⟩;obtain rfl:=hw1.symm;clear hw1))
  go_ret;exact⟨by rw[HV.out];rfl,rfl⟩
 by_cases h13:12539<=r/\r<=12542
 ·have HV:=hid (show zaM r=24 by unfold zaM;rw[if_neg h0,if_neg h1,if_neg h2,if_neg h3,if_neg h4,if_neg h5,if_neg h6,if_neg h7,if_neg h8,if_neg h9,if_neg h10,if_neg h11,if_neg h12,if_pos h13])
  have b2:(r==12289)=false:=beq_eq_false_iff_ne.2 h2;have b3:(r==12290)=false:=beq_eq_false_iff_ne.2 h3;have b4:(r==12297)=false:=beq_eq_false_iff_ne.2 h4;have b5:(r==12299)=false:=beq_eq_false_iff_ne.2 h5;have b6:(r==12301)=false:=beq_eq_false_iff_ne.2 h6;have b7:(r==12296)=false:=beq_eq_false_iff_ne.2 h7;have b8:(r==12298)=false:=beq_eq_false_iff_ne.2 h8;have b9:(r==12300)=false:=beq_eq_false_iff_ne.2 h9;have b10:(r==12293)=false:=beq_eq_false_iff_ne.2 h10;have b11:(r==12316)=false:=beq_eq_false_iff_ne.2 h11;obtain⟨u13,v13⟩:=h13;go_enter Tryz.func157,Tryz.ntmps157;go_wp2_with (first | (go_at_call 178;(first | refine(zac _ _ _ _ (by omega)).mono ?_ | refine(zad _ _ _ _ (by omega)).mono ?_);rintro e w1 ⟨rfl,hw1⟩;obtain rfl:=hw1.symm;clear hw1))
  go_ret;exact⟨by rw[HV.out];rfl,rfl⟩
 by_cases h14:r=12441
 ·subst h14
  have HV:=hid (show zaM 12441=8 by decide)
  clear h0 h1 h2 h3 h4 h5 h6 h7 h8 h9 h10 h11 h12 h13;go_enter Tryz.func157,Tryz.ntmps157;go_wp2_with (first | (go_at_call 178;(first | refine(zac _ _ _ _ (by omega)).mono ?_ | refine(zad _ _ _ _ (by omega)).mono ?_);rintro e w1 ⟨rfl,hw1⟩;obtain rfl:=hw1.symm;clear hw1))
  go_ret;exact⟨by rw[HV.out];rfl,rfl⟩
 by_cases h15:r=12442
 ·subst h15
  have HV:=hid (show zaM 12442=8 by decide)
  clear h0 h1 h2 h3 h4 h5 h6 h7 h8 h9 h10 h11 h12 h13 h14;go_enter Tryz.func157,Tryz.ntmps157;go_wp2_with (first | (go_at_call 178;(first | refine(zac _ _ _ _ (by omega)).mono ?_ | refine(zad _ _ _ _ (by omega)).mono ?_);rintro e w1 ⟨rfl,hw1⟩;obtain rfl:=hw1.symm;clear hw1))
  go_ret;exact⟨by rw[HV.out];rfl,rfl⟩
 have HV:=hid (show zaM r=0 by unfold zaM;rw[if_neg h0,if_neg h1,if_neg h2,if_neg h3,if_neg h4,if_neg h5,if_neg h6,if_neg h7,if_neg h8,if_neg h9,if_neg h10,if_neg h11,if_neg h12,if_neg h13,if_neg h14,if_neg h15])
 have b2:(r==12289)=false:=beq_eq_false_iff_ne.2 h2;have b3:(r==12290)=false:=beq_eq_false_iff_ne.2 h3;have b4:(r==12297)=false:=beq_eq_false_iff_ne.2 h4;have b5:(r==12299)=false:=beq_eq_false_iff_ne.2 h5;have b6:(r==12301)=false:=beq_eq_false_iff_ne.2 h6;have b7:(r==12296)=false:=beq_eq_false_iff_ne.2 h7;have b8:(r==12298)=false:=beq_eq_false_iff_ne.2 h8;have b9:(r==12300)=false:=beq_eq_false_iff_ne.2 h9;have b10:(r==12293)=false:=beq_eq_false_iff_ne.2 h10;have b11:(r==12316)=false:=beq_eq_false_iff_ne.2 h11;have b14:(r==12441)=false:=beq_eq_false_iff_ne.2 h14;have b15:(r==12442)=false:=beq_eq_false_iff_ne.2 h15;go_enter Tryz.func157,Tryz.ntmps157;go_wp2_with (first | (go_at_call 178;(first | refine(zac _ _ _ _ (by omega)).mono ?_ | refine(zad _ _ _ _ (by omega)).mono ?_);rintro e w1 ⟨rfl,hw1⟩;obtain rfl:=hw1.symm;clear hw1))
 go_ret;exact⟨by rw[HV.out];rfl,rfl⟩
def zbc (r:Int):Int:=
 if 13312<=r/\r<=19903 then 23 else if 19968<=r/\r<=40959 then 23 else if 127744<=r/\r<=127994 then 23 else if 128000<=r/\r<=128591 then 23 else if 65024<=r/\r<=65039 then 8 else if 127995<=r/\r<=127999 then 8 else if r=65279 then 6 else if 127462<=r/\r<=127487 then 25 else 0
theorem zpY (r:Int) (w:World):Calls Tryz.prog 158 #[.int .i32 r] w fun e w'=>e= .returned (.int .i64 (zbc r))/\w'=w:=by
 by_cases h0:13312<=r/\r<=19903
 ·have HV:=hid (show zbc r=23 by unfold zbc;rw[if_pos h0])
  obtain⟨u0,v0⟩:=h0;go_enter Tryz.func158,Tryz.ntmps158;go_wp2_with (first | (go_at_call 178;(first | refine(zac _ _ _ _ (by omega)).mono ?_ | refine(zad _ _ _ _ (by omega)).mono ?_);rintro e w1 ⟨rfl,hw1⟩;obtain rfl:=hw1.symm;clear hw1))
  go_ret;exact⟨by rw[HV.out];rfl,rfl⟩
 by_cases h1:19968<=r/\r<=40959
 ·have HV:=hid (show zbc r=23 by unfold zbc;rw[if_neg h0,if_pos h1])
  obtain⟨u1,v1⟩:=h1;go_enter Tryz.func158,Tryz.ntmps158;go_wp2_with (first | (go_at_call 178;(first | refine(zac _ _ _ _ (by omega)).mono ?_ | refine(zad _ _ _ _ (by omega)).mono ?_);rintro e w1 ⟨rfl,hw1⟩;obtain rfl:=hw1.symm;clear hw1))
  go_ret;exact⟨by rw[HV.out];rfl,rfl⟩
 by_cases h2:127744<=r/\r<=127994
 ·have HV:=hid (show zbc r=23 by unfold zbc;rw[if_neg h0,if_neg h1,if_pos h2])
  obtain⟨u2,v2⟩:=h2;go_enter Tryz.func158,Tryz.ntmps158;go_wp2_with (first | (go_at_call 178;(first | refine(zac _ _ _ _ (by omega)).mono ?_ | refine(zad _ _ _ _ (by omega)).mono ?_);rintro e w1 ⟨rfl,hw1⟩;obtain rfl:=hw1.symm;clear hw1))
  go_ret;exact⟨by rw[HV.out];rfl,rfl⟩
 by_cases h3:128000<=r/\r<=128591
 ·have HV:=hid (show zbc r=23 by unfold zbc;rw[if_neg h0,if_neg h1,if_neg h2,if_pos h3])
  obtain⟨u3,v3⟩:=h3;go_enter Tryz.func158,Tryz.ntmps158;go_wp2_with (first | (go_at_call 178;(first | refine(zac _ _ _ _ (by omega)).mono ?_ | refine(zad _ _ _ _ (by omega)).mono ?_);rintro e w1 ⟨rfl,hw1⟩;obtain rfl:=hw1.symm;clear hw1))
  go_ret;exact⟨by rw[HV.out];rfl,rfl⟩
 by_cases h4:65024<=r/\r<=65039
 ·have HV:=hid (show zbc r=8 by unfold zbc;rw[if_neg h0,if_neg h1,if_neg h2,if_neg h3,if_pos h4])
  obtain⟨u4,v4⟩:=h4;go_enter Tryz.func158,Tryz.ntmps158;go_wp2_with (first | (go_at_call 178;(first | refine(zac _ _ _ _ (by omega)).mono ?_ | refine(zad _ _ _ _ (by omega)).mono ?_);rintro e w1 ⟨rfl,hw1⟩;obtain rfl:=hw1.symm;clear hw1))
  go_ret;exact⟨by rw[HV.out];rfl,rfl⟩
 by_cases h5:127995<=r/\r<=127999
 ·have HV:=hid (show zbc r=8 by unfold zbc;rw[if_neg h0,if_neg h1,if_neg h2,if_neg h3,if_neg h4,if_pos h5])
  obtain⟨u5,v5⟩:=h5;go_enter Tryz.func158,Tryz.ntmps158;go_wp2_with (first | (go_at_call 178;(first | refine(zac _ _ _ _ (by omega)).mono ?_ | refine(zad _ _ _ _ (by omega)).mono ?_);rintro e w1 ⟨rfl,hw1⟩;obtain rfl:=hw1.symm;clear hw1))
  go_ret;exact⟨by rw[HV.out];rfl,rfl⟩
 by_cases h6:r=65279
 ·subst h6
  have HV:=hid (show zbc 65279=6 by decide)
  clear h0 h1 h2 h3 h4 h5;go_enter Tryz.func158,Tryz.ntmps158;go_wp2_with (first | (go_at_call 178;(first | refine(zac _ _ _ _ (by omega)).mono ?_ | refine(zad _ _ _ _ (by omega)).mono ?_);rintro e w1 ⟨rfl,hw1⟩;obtain rfl:=hw1.symm;clear hw1))
  go_ret;exact⟨by rw[HV.out];rfl,rfl⟩
 by_cases h7:127462<=r/\r<=127487
 ·have HV:=hid (show zbc r=25 by unfold zbc;rw[if_neg h0,if_neg h1,if_neg h2,if_neg h3,if_neg h4,if_neg h5,if_neg h6,if_pos h7])
  have b6:(r==65279)=false:=beq_eq_false_iff_ne.2 h6;obtain⟨u7,v7⟩:=h7;go_enter Tryz.func158,Tryz.ntmps158;go_wp2_with (first | (go_at_call 178;(first | refine(zac _ _ _ _ (by omega)).mono ?_ | refine(zad _ _ _ _ (by omega)).mono ?_);rintro e w1 ⟨rfl,hw1⟩;obtain rfl:=hw1.symm;clear hw1))
  go_ret;exact⟨by rw[HV.out];rfl,rfl⟩
 have HV:=hid (show zbc r=0 by unfold zbc;rw[if_neg h0,if_neg h1,if_neg h2,if_neg h3,if_neg h4,if_neg h5,if_neg h6,if_neg h7])
 have b6:(r==65279)=false:=beq_eq_false_iff_ne.2 h6;go_enter Tryz.func158,Tryz.ntmps158;go_wp2_with (first | (go_at_call 178;(first | refine(zac _ _ _ _ (by omega)).mono ?_ | refine(zad _ _ _ _ (by omega)).mono ?_);rintro e w1 ⟨rfl,hw1⟩;obtain rfl:=hw1.symm;clear hw1))
 go_ret;exact⟨by rw[HV.out];rfl,rfl⟩
def zbn (r:Int):Int:=
 if r<128 then zat r else if r<768 then zaL r else if r<8192 then zaK r else if r<8448 then zaz r else if r<12544 then zaM r else zbc r
theorem zkh (r:Int) (w:World):Calls Tryz.prog 127 #[.int .i32 r] w fun e w'=>e= .returned (.int .i64 (zbn r))/\w'=w:=by
 by_cases h0:r<128
 ·have HV:=hid (show zbn r=zat r by unfold zbn;rw[if_pos h0])
  go_enter Tryz.func127,Tryz.ntmps127;go_wp2_with fail;refine(zmd r w).mono ?_;rintro e w1 ⟨rfl,hw1⟩;obtain rfl:=hw1.symm;clear hw1;go_wp2;go_ret;exact⟨by rw[HV.out];rfl,rfl⟩
 by_cases h1:r<768
 ·have HV:=hid (show zbn r=zaL r by unfold zbn;rw[if_neg h0,if_pos h1])
  go_enter Tryz.func127,Tryz.ntmps127;go_wp2_with fail;refine(zmb r w).mono ?_;rintro e w1 ⟨rfl,hw1⟩;obtain rfl:=hw1.symm;clear hw1;go_wp2;go_ret;exact⟨by rw[HV.out];rfl,rfl⟩
 by_cases h2:r<8192
 ·have HV:=hid (show zbn r=zaK r by unfold zbn;rw[if_neg h0,if_neg h1,if_pos h2])
  go_enter Tryz.func127,Tryz.ntmps127;go_wp2_with fail;refine(ziE r w).mono ?_;rintro e w1 ⟨rfl,hw1⟩;obtain rfl:=hw1.symm;clear hw1;go_wp2;go_ret;exact⟨by rw[HV.out];rfl,rfl⟩
 by_cases h3:r<8448
 ·have HV:=hid (show zbn r=zaz r by unfold zbn;rw[if_neg h0,if_neg h1,if_neg h2,if_pos h3])
  go_enter Tryz.func127,Tryz.ntmps127;go_wp2_with fail;refine(zlZ r w).mono ?_;rintro e w1 ⟨rfl,hw1⟩;obtain rfl:=hw1.symm;clear hw1;go_wp2;go_ret;exact⟨by rw[HV.out];rfl,rfl⟩
 by_cases h4:r<12544
 ·have HV:=hid (show zbn r=zaM r by unfold zbn;rw[if_neg h0,if_neg h1,if_neg h2,if_neg h3,if_pos h4])
  go_enter Tryz.func127,Tryz.ntmps127;go_wp2_with fail;refine(zpW r w).mono ?_;rintro e w1 ⟨rfl,hw1⟩;obtain rfl:=hw1.symm;clear hw1;go_wp2;go_ret;exact⟨by rw[HV.out];rfl,rfl⟩
 have HV:=hid (show zbn r=zbc r by unfold zbn;rw[if_neg h0,if_neg h1,if_neg h2,if_neg h3,if_neg h4])
 go_enter Tryz.func127,Tryz.ntmps127;go_wp2_with fail;refine(zpY r w).mono ?_;rintro e w1 ⟨rfl,hw1⟩;obtain rfl:=hw1.symm;clear hw1;go_wp2;go_ret;exact⟨by rw[HV.out];rfl,rfl⟩
end
namespace Ln
def amg (K:List Int) (c:Int):Bool:=K.contains c
theorem zbp (x:Int) (K:List Int) (c:Int):amg (x::K) c=((c==x) || amg K c):=by unfold amg;rw[List.contains_cons]
def zaE (l:List UInt8):Int:=if l=[] then -1 else zbn (zaH l).1
def zaD (l:List UInt8):Int:=if l=[] then -1 else zbn (dec l).1
def wth (K:List Int):Nat->List UInt8->List UInt8
 | 0,l=>l
 | f+1,l=>if l=[] then l else if amg K (zaE l) then wth K f (ltl l) else l
def zer (K:List Int) (l:List UInt8):List UInt8:=wth K l.length l
def zaA (l:List UInt8):Int:=zaE (zer [8] l)
def zcJ (K:List Int) (l:List UInt8):List UInt8:=if amg K (zaE (zer [8] l)) then ltl (zer [8] l) else l
def zkf (l:List UInt8):Bool:=zaA (zcJ [14,15] (zcJ [11,10] l))==20
def zch:Nat->List UInt8->Bool->Bool
 | 0,_,o=>o
 | f+1,l,o=>if zaA l=25 then zch f (zcJ [25] l) (!o) else o
def zbX (c:Int):Bool:=amg [1,2,3] c
def zaQ (a b:Int):Bool:=
 if amg [6,11,10,13,14,15] b then true else if a=9 then true else if a=12 then b==9 else if a=11 then b==24 else if a=10 then b==24 else if a=18 then b==18 else false
def zbE (a b:Int):Bool:=amg [6,7] a || (b==7&& !amg [4,17,16] a)
def zbq (a b:Int):Bool:=
 if a=12 then true else if a=0 then amg [0,20,9,21,22] b else if a=20 then amg [0,20,9,21,22] b else if a=14 then amg [0,20] b else if a=10 then amg [0,20] b else if a=21 then amg [0,20] b else if a=22 then amg [0,20,23] b else if a=16 then b==20 else if a=15 then b==20 else if a=23 then b==21 else false
def zcW (s:List UInt8) (fr at':Nat):Bool:=
 if zbE (zaA (s.take at')) (zaD (s.drop at')) then true else if amg [12,17,16,24,19] (zaD (s.drop at')) then true else if zbq (zaA (s.take at')) (zaD (s.drop at')) then true else
 if amg [21,22] (zaD (s.drop at')) then zkf (s.take at') else
 if amg [21,22] (zaA (s.take at'))&&zaD (s.drop at')==9 then zaD (s.drop (at'+(dec (s.drop at')).2))==20 else
 if zaA (s.take at')=25/\zaD (s.drop at')=25 then zch ((s.take at').drop fr).length ((s.take at').drop fr) false else false
def zfc (s:List UInt8) (fr at':Nat):Bool:=
 if zaE (s.take at')=2/\zaD (s.drop at')=3 then false else if zbX (zaE (s.take at')) then true else
 if zbX (zaD (s.drop at')) then false else if amg [4,5] (zaD (s.drop at')) then false else
 if zaE (zer [4] (s.take at'))=5 then true else
 if zaE (s.take at')=4 then !zaQ (zaA (zer [4] (s.take at'))) (zaD (s.drop at')) else
 !(zaD (s.drop at')==8)&& !zaQ (zaA (zer [4] (s.take at'))) (zaD (s.drop at'))&& !zcW s fr at'
theorem zmQ (l:List UInt8) (h:l≠ []):1<=(zaH l).2/\(zaH l).2<=l.length:=by
 obtain⟨e,n,c,h1,h2,h3,_⟩:=ztW l h;rw[h1];exact⟨h2,by show n<=_;omega⟩
theorem zhv (l:List UInt8) (h:l≠ []):(ltl l).length<l.length:=by
 have:=zmQ l h;have:0<l.length:=List.length_pos_iff.2 h;unfold ltl;rw[xf];omega
theorem zDc (l:List UInt8):(ltl l).length<=l.length:=by unfold ltl;rw[xf];omega
theorem zle (K:List Int):∀(f g:Nat) (l:List UInt8),l.length<=f->l.length<=g->wth K f l=wth K g l
 | 0,g,l,hf,hg=>by
  have:l=[]:=xa.1 (by omega)
  subst this
  cases g<;>simp[wth]
 | f+1,0,l,hf,hg=>by
  have:l=[]:=xa.1 (by omega)
  subst this
  simp[wth]
 | f+1,g+1,l,hf,hg=>by
  unfold wth
  by_cases h:l=[]
  ·rw[if_pos h,if_pos h]
  ·have:=zhv l h
   rw[if_neg h,if_neg h,zle K f g (ltl l) (by omega) (by omega)]
theorem zhU (K:List Int) (l:List UInt8) (h:l≠ []) (hk:amg K (zaE l)=true):zer K l=zer K (ltl l):=by
 have h1:=zhv l h;unfold zer;rw[zle K l.length (l.length - 1+1) l (by omega) (by omega)]
 conv=>lhs;unfold wth
 rw[if_neg h,if_pos hk];exact zle K _ _ _ (by omega) (by omega)
theorem zlf (K:List Int) (l:List UInt8) (hk:amg K (zaE l)=false):zer K l=l:=by
 unfold zer
 cases l.length with
 | zero=>rfl
 | succ n=>
  unfold wth
  by_cases h:l=[]
  ·rw[if_pos h]
  ·rw[if_neg h,hk];rfl
theorem zet (K:List Int):∀(n:Nat) (l:List UInt8),l.length<=n->(zer K l).length<=l.length
 | 0,l,hl=>by
  have:l=[]:=xa.1 (by omega)
  subst this;exact xb _
 | n+1,l,hl=>by
  by_cases h:l=[]
  ·subst h;exact xb _
  ·cases hk:amg K (zaE l) with
   | true=>
    have h1:=zhv l h;rw[zhU K l h hk];exact xe (zet K n (ltl l) (by omega)) (Nat.le_of_lt h1)
   | false=>rw[zlf K l hk];exact xb _
theorem zkg {l:List UInt8} {K:List Int} (hK:amg K (-1)=false) (h:amg K (zaE l)=true):l≠ []:=fun e=>by
 subst e;rw[show zaE []= -1 from rfl,hK] at h
 cases h
theorem zop (K:List Int) (l:List UInt8):(zcJ K l).length<=l.length:=by
 unfold zcJ
 split
 ·exact xe (zDc _) (zet _ _ l (xb _))
 ·exact xb _
theorem zfn (K:List Int) (l:List UInt8) (hK:amg K (-1)=false) (h:amg K (zaA l)=true):(zcJ K l).length<l.length:=by
 have h':amg K (zaE (zer [8] l))=true:=h;unfold zcJ;rw[if_pos h'];exact xd (zhv _ (zkg hK h')) (zet _ _ l (xb _))
theorem zgb:∀(f g:Nat) (l:List UInt8) (o:Bool),l.length<=f->l.length<=g->zch f l o=zch g l o
 | 0,g,l,o,hf,hg=>by
  have:l=[]:=xa.1 (by omega)
  subst this
  cases g with
  | zero=>rfl
  | succ g=>unfold zch;rw[if_neg (show ¬zaA []=25 by decide)]
 | f+1,0,l,o,hf,hg=>by
  have:l=[]:=xa.1 (by omega)
  subst this;unfold zch;rw[if_neg (show ¬zaA []=25 by decide)]
 | f+1,g+1,l,o,hf,hg=>by
  unfold zch
  by_cases h:zaA l=25
  ·have h1:=zfn [25] l (by decide) (by rw[h];decide)
   rw[if_pos h,if_pos h,zgb f g _ _ (by omega) (by omega)]
  ·rw[if_neg h,if_neg h]
theorem zke (l:List UInt8) (o:Bool) (h:zaA l=25):zch l.length l o=zch (zcJ [25] l).length (zcJ [25] l) (!o):=by
 have h1:=zfn [25] l (by decide) (by rw[h];decide)
 rw[zgb l.length (l.length - 1+1) l o (by omega) (by omega)]
 conv=>lhs;unfold zch
 rw[if_pos h];exact zgb _ _ _ _ (by omega) (by omega)
theorem zoq (l:List UInt8) (o:Bool) (h:¬zaA l=25):zch l.length l o=o:=by
 cases l.length with
 | zero=>rfl
 | succ n=>unfold zch;rw[if_neg h]
end Ln
namespace Ln
open Go.RowKit
structure Tb (w:World):Prop where
 tabs:Lib.Utf8Tabs 0 1 w
 two:2<=w.heap.size
theorem Tb.below {w w':World} (h:Tb w) (hb:Below w.heap.size w w'):Tb w':=⟨zpz h.tabs h.two hb,xe h.two hb.size⟩
theorem below_box {w:World} {o:Obj}:Below w.heap.size w (w.alloc o):=(Below.refl _ _).alloc (xb _) _
def RdI (w:World) (ao:Option Addr) (l:List Int):Prop:=
 ∀(k:Nat) (z:Int),l[k]? =some z->∃a:Addr,ao=some a/\a.block<w.heap.size/\w.cell? (a.add k)=some (.int .i64 z)
theorem RdI.below {w w':World} {ao:Option Addr} {l:List Int} (h:RdI w ao l) (hb:Below w.heap.size w w'):RdI w' ao l:=fun k z hk=>by
 obtain⟨a,h1,h2,h3⟩:=h k z hk;exact⟨a,h1,xd h2 hb.size,(hb.cell (p:=a.add k) (by rw[add_blk];exact h2)).trans h3⟩
theorem zlE (w:World) (K:List Int) (T:TypeId):RdI (w.alloc (.cells (K.map fun z=>Value.int .i64 z).toArray T)) (some ⟨w.heap.size,0,none⟩) K:=fun k z hk=>by
 refine⟨_,rfl,by simp,?_⟩
 rw[Addr.add_lit,Nat.zero_add,cell_of_row _ _ _ _ T (0,0) (heap_alloc_new w _)]
 simp[hk]
theorem zgn (c:Int) (ao:Option Addr) (n cap:Nat) (K:List Int) (w:World) (h:RdI w ao K) (hn:n=K.length) (hl:n<=1000):
  Calls Tryz.prog 95 #[.int .i64 c,.slice ao n cap] w fun e w'=>e= .returned (.bool (amg K c))/\w'=w:=by
 have HR:=hid h;have HN:=hid hn;clear h hn;go_enter Tryz.func95,Tryz.ntmps95;go_wp2;go_loopw [9] (fun fr wr=>∃k:Nat,fr= .int .i64 k/\k<=n/\Hid (amg K c=amg (K.drop k) c)/\wr=w) (fun fr _=>n - (intOf fr).toNat)
 case atStart=>exact⟨0,rfl,Nat.zero_le _,by simp[Hid],rfl⟩
 case round=>
  obtain⟨k,rfl,hk,HK,hwr⟩:=hrel;obtain rfl:=hwr.symm;clear hwr
  by_cases hkn:k<n
  ·have hk':k<K.length:=by have:=HN.out;omega
   obtain⟨a,rfl,_,hc⟩:=HR.out k K[k] (List.getElem?_eq_getElem hk');have hi:(k:Int)<(n:Int):=by omega
   obtain⟨x,hx⟩:∃x,x=K[k]:=⟨_,rfl⟩;rw[<- hx] at hc;have HD:=hid (show K.drop k=x::K.drop (k+1) by rw[hx];exact List.drop_eq_getElem_cons hk')
   clear hx
   by_cases hcx:c=x
   ·subst hcx
    have hcc:(c==c)=true:=beq_self_eq_true c;go_wp2;go_ret;exact⟨by rw[HK.out,HD.out,zbp,hcc];rfl,rfl⟩
   ·have hcc:(c==x)=false:=beq_eq_false_iff_ne.2 hcx
    go_wp2;go_roundw
    case rel=>exact⟨k+1,by simp,by omega,by show _=_;rw[HK.out,HD.out,zbp,hcc,Bool.false_or],trivial⟩
    case measure=>simp[intOf];omega
  ·have hi:¬(k:Int)<(n:Int):=by omega
   have HE:=hid (show amg K c=false by rw[HK.out,List.drop_of_length_le (by have:=HN.out;omega)];rfl)
   go_wp2;go_ret;exact⟨by rw[HE.out];rfl,rfl⟩
theorem zaI (c:Int) (K:List Int) (w:World) (hK:K.length<=1000):
  Calls Tryz.prog 95 #[.int .i64 c,.slice (some ⟨w.heap.size,0,none⟩) K.length K.length] (w.alloc (.cells (K.map fun z=>Value.int .i64 z).toArray 3)) fun e w'=>e= .returned (.bool (amg K c))/\Below w.heap.size w w':=
 (zgn c _ _ _ K _ (zlE w K 3) rfl hK).mono fun e w' ⟨h1,h2⟩=>⟨h1,by rw[h2];exact below_box⟩
theorem zbY (c:Int) (w:World):Calls Tryz.prog 93 #[.int .i64 c] w fun e w'=>e= .returned (.bool (zbX c))/\Below w.heap.size w w':=by
 go_enter Tryz.func93,Tryz.ntmps93;go_wp2_with fail;refine(zaI c [1,2,3] w (by decide)).mono ?_
 rintro e w1 ⟨rfl,be⟩;go_wp2;go_ret;exact⟨by unfold zbX;rfl,be⟩
theorem first_any (l:List UInt8) (w:World) (ht:Tb w):
  Calls Tryz.prog 94 #[.string ⟨l.toArray⟩] w fun e w'=>e= .returned (.tuple #[.int .i64 (zaD l),.int .i64 (dec l).2])/\Below w.heap.size w w':=by
 by_cases h:l=[]
 ·subst h
  go_enter Tryz.func94,Tryz.ntmps94;go_wp2;go_ret2;exact⟨rfl,Below.refl _ _⟩
 ·have HV:=hid (show zaD l=zbn (dec l).1 from if_neg h)
  have he:l.isEmpty=false:=by simpa using h
  have HT:=hid ht;clear h ht;go_enter Tryz.func94,Tryz.ntmps94;go_wp2_with fail;refine(zqx l w HT.out.tabs).mono ?_;rintro e w1 ⟨rfl,be⟩;have HB:=hid be;clear be;obtain⟨r,hr⟩:∃r:Int,r=((dec l).1:Int):=⟨_,rfl⟩;obtain⟨n,hn⟩:∃n:Nat,n=(dec l).2:=⟨_,rfl⟩;have HN:=hid hn;rw[<- hr] at HV;rw[<- hr,<- hn];clear hr hn;go_wp2_with fail;refine(zkh r w1).mono ?_;rintro e w2 ⟨rfl,hw2⟩;obtain rfl:=hw2.symm;clear hw2;go_wp2;go_ret2;exact⟨by rw[HV.out,<- HN.out];rfl,HB.out⟩
theorem zcu (l:List UInt8) (w:World) (ht:Tb w) (hl:l.length<=1000000000):
  Calls Tryz.prog 92 #[.string ⟨l.toArray⟩] w fun e w'=>e= .returned (.tuple #[.int .i64 (zaE l),.int .i64 (zaH l).2])/\Below w.heap.size w w':=by
 by_cases h:l=[]
 ·subst h
  go_enter Tryz.func92,Tryz.ntmps92;go_wp2;go_ret2;exact⟨rfl,Below.refl _ _⟩
 ·have HV:=hid (show zaE l=zbn (zaH l).1 from if_neg h)
  have he:l.isEmpty=false:=by simpa using h
  have HT:=hid ht;clear h ht;go_enter Tryz.func92,Tryz.ntmps92;go_wp2_with fail;refine(zwX l w (by omega) HT.out.tabs).mono ?_
  rintro e w1 ⟨rfl,be⟩;have HB:=hid be;clear be;obtain⟨r,hr⟩:∃r:Int,r=((zaH l).1:Int):=⟨_,rfl⟩;obtain⟨n,hn⟩:∃n:Nat,n=(zaH l).2:=⟨_,rfl⟩;have HN:=hid hn;rw[<- hr] at HV;rw[<- hr,<- hn];clear hr hn;go_wp2_with fail;refine(zkh r w1).mono ?_;rintro e w2 ⟨rfl,hw2⟩;obtain rfl:=hw2.symm;clear hw2;go_wp2;go_ret2;exact⟨by rw[HV.out,<- HN.out];rfl,HB.out⟩
end Ln
namespace Ln
open Go.RowKit
theorem ext_take (l:List UInt8) (t:Nat):(⟨l.toArray⟩:ByteArray).extract 0 t=⟨(l.take t).toArray⟩:=by
 apply ByteArray.ext
 simp[ByteArray.data_extract]
def zym:Value->Nat
 | .string s=>s.size
 | _=>0
theorem zli (l:List UInt8) (ao:Option Addr) (n cap:Nat) (K:List Int) (w:World) (ht:Tb w) (hl:l.length<=1000000000) (h:RdI w ao K) (hn:n=K.length) (hnl:n<=1000) (hK:amg K (-1)=false):
  Calls Tryz.prog 90 #[.string ⟨l.toArray⟩,.slice ao n cap] w fun e w'=>e= .returned (.string ⟨(zer K l).toArray⟩)/\Below w.heap.size w w':=by
 have HT:=hid ht;have HR:=hid h;have HN:=hid hn;have HK:=hid hK;clear ht h hn hK;go_enter Tryz.func90,Tryz.ntmps90;go_wp2;go_step3;go_wp2;go_step3;go_wp2;go_loopw [0] (fun fr wr=>∃l':List UInt8,fr= .string ⟨l'.toArray⟩/\l'.length<=1000000000/\Hid (zer K l=zer K l')/\Below w.heap.size w wr) (fun fr _=>zym fr)
 case atStart=>exact⟨l,rfl,hl,rfl,Below.refl _ _⟩
 case round=>
  obtain⟨l',rfl,hl',HW,hB⟩:=hrel;have HB:=hid hB;clear hB
  by_cases he:l'=[]
  ·subst he
   have HE:=hid (show zer K l=[] by rw[HW.out];rfl)
   go_wp2;rw[Exit.noGoto_ret];go_ret;exact⟨by rw[HE.out];rfl,HB.out⟩
  ·have he':l'.isEmpty=false:=by simpa using he
   obtain⟨hb1,hb2⟩:=zmQ l' he;have HNE:=hid he;clear he;go_wp2_with fail;refine(zcu l' wr (HT.out.below HB.out) hl').mono ?_;rintro e w1 ⟨rfl,be1⟩;have HB1:=hid (HB.out.trans (be1.mono HB.out.size));obtain⟨c,hc⟩:∃c:Int,c=zaE l':=⟨_,rfl⟩;obtain⟨m,hm⟩:∃m:Nat,m=(zaH l').2:=⟨_,rfl⟩;have HC:=hid hc;have HM:=hid hm;rw[<- hm] at hb1 hb2;rw[<- hc,<- hm];clear hc hm be1 HB;go_wp2_with fail;refine(zgn c ao n cap K w1 (HR.out.below HB1.out) HN.out hnl).mono ?_;rintro e w2 ⟨rfl,hw2⟩;obtain rfl:=hw2.symm;clear hw2;obtain⟨b,hb⟩:∃b,b=amg K c:=⟨_,rfl⟩;have HBB:=hid hb;rw[<- hb];clear hb
   cases b with
   | true=>
    have HY:=hid (show zer K l=zer K (ltl l') from HW.out.trans (zhU K l' HNE.out (by rw[<- HC.out,<- HBB.out])))
    have HLT:=hid (zhv l' HNE.out);have HLE:=hid (show ltl l'=l'.take (l'.length - m) by unfold ltl;rw[HM.out])
    go_wp2;rw[ext_take,<- HLE.out];exact⟨⟨ltl l',rfl,by have:=HLT.out;omega,HY.out,HB1.out⟩,by have:=HLT.out;show(ltl l').toArray.size<l'.toArray.size;simpa using this⟩
   | false=>
    have HY:=hid (show zer K l=l' from HW.out.trans (zlf K l' (by rw[<- HC.out,<- HBB.out])))
    go_wp2;rw[Exit.noGoto_ret];go_ret;exact⟨by rw[HY.out];rfl,HB1.out⟩
theorem zdE (l:List UInt8) (K:List Int) (w:World) (ht:Tb w) (hl:l.length<=1000000000) (hK:K.length<=1000) (hn:amg K (-1)=false):
  Calls Tryz.prog 90 #[.string ⟨l.toArray⟩,.slice (some ⟨w.heap.size,0,none⟩) K.length K.length] (w.alloc (.cells (K.map fun z=>Value.int .i64 z).toArray 3)) fun e w'=>e= .returned (.string ⟨(zer K l).toArray⟩)/\Below w.heap.size w w':=
 (zli l _ _ _ K _ (ht.below below_box) hl (zlE w K 3) rfl hK hn).mono fun _ _ ⟨h1,h2⟩=>⟨h1,below_box.trans (h2.mono below_box.size)⟩
theorem zen (l:List UInt8) (w:World) (ht:Tb w) (hl:l.length<=1000000000):
  Calls Tryz.prog 97 #[.string ⟨l.toArray⟩] w fun e w'=>e= .returned (.int .i64 (zaA l))/\Below w.heap.size w w':=by
 have HT:=hid ht;clear ht;go_enter Tryz.func97,Tryz.ntmps97;go_wp2_with fail;refine(zdE l [8] w HT.out hl (by decide) (by decide)).mono ?_
 rintro e w1 ⟨rfl,be⟩;have HB:=hid be;have hle:=zet [8] _ l (xb _);obtain⟨b,hb⟩:∃b,b=zer [8] l:=⟨_,rfl⟩;have HV:=hid (show zaA l=zaE b by rw[hb];rfl)
 rw[<- hb] at hle;rw[<- hb];clear hb be;go_wp2_with fail;refine(zcu b w1 (HT.out.below HB.out) (by omega)).mono ?_
 rintro e w2 ⟨rfl,be⟩;have HB2:=hid (HB.out.trans (be.mono HB.out.size));obtain⟨c,hc⟩:∃c:Int,c=zaE b:=⟨_,rfl⟩;have HC:=hid hc;obtain⟨m,hm⟩:∃m:Nat,m=(zaH b).2:=⟨_,rfl⟩;rw[<- hc,<- hm];clear hc be hm;go_wp2;go_ret;exact⟨by rw[HV.out,<- HC.out];rfl,HB2.out⟩
theorem zce (l:List UInt8) (K:List Int) (w:World) (ht:Tb w) (hl:l.length<=1000000000) (hK:K.length<=1000) (hn:amg K (-1)=false):
  Calls Tryz.prog 159 #[.string ⟨l.toArray⟩,.slice (some ⟨w.heap.size,0,none⟩) K.length K.length] (w.alloc (.cells (K.map fun z=>Value.int .i64 z).toArray 3)) fun e w'=>e= .returned (.string ⟨(zcJ K l).toArray⟩)/\Below w.heap.size w w':=by
 obtain⟨W,hW⟩:∃W,W=w.alloc (.cells (K.map fun z=>Value.int .i64 z).toArray 3):=⟨_,rfl⟩
 have hR:=zlE w K 3;have hB0:=below_box (w:=w) (o:=.cells (K.map fun z=>Value.int .i64 z).toArray 3)
 rw[<- hW] at hR hB0;rw[<- hW];have HT:=hid (ht.below hB0);have HR:=hid hR;have HB0:=hid hB0;have HN:=hid hn;obtain⟨ao,hao⟩:∃ao:Option Addr,ao=some ⟨w.heap.size,0,none⟩:=⟨_,rfl⟩;obtain⟨n,hnn⟩:∃n,n=K.length:=⟨_,rfl⟩;have HNN:=hid hnn;rw[<- hao] at HR;rw[<- hao,<- hnn];rw[<- hnn] at hK;clear hW hR hB0 hao hnn ht hn;go_enter Tryz.func159,Tryz.ntmps159;go_wp2_with fail;refine(zdE l [8] W HT.out hl (by decide) (by decide)).mono ?_
 rintro e w1 ⟨rfl,be⟩;have HB:=hid be;have hle:=zet [8] _ l (xb _);obtain⟨b,hb⟩:∃b,b=zer [8] l:=⟨_,rfl⟩;have HV:=hid (show zcJ K l=if amg K (zaE b) then ltl b else l by rw[hb];rfl)
 rw[<- hb] at hle;rw[<- hb];clear hb be;go_wp2_with fail;refine(zcu b w1 (HT.out.below HB.out) (by omega)).mono ?_
 rintro e w2 ⟨rfl,be⟩;have HB2:=hid (HB.out.trans (be.mono HB.out.size));obtain⟨c,hc⟩:∃c:Int,c=zaE b:=⟨_,rfl⟩;obtain⟨m,hm⟩:∃m:Nat,m=(zaH b).2:=⟨_,rfl⟩;have HC:=hid hc;have HM:=hid hm;rw[<- hc,<- hm];clear hc hm be;go_wp2_with fail;refine(zgn c ao n n K w2 (HR.out.below HB2.out) HNN.out hK).mono ?_;rintro e w3 ⟨rfl,hw3⟩;obtain rfl:=hw3.symm;clear hw3;obtain⟨q,hq⟩:∃q,q=amg K c:=⟨_,rfl⟩;have HQ:=hid hq;have HBW:=hid (HB0.out.trans (HB2.out.mono HB0.out.size));rw[<- hq];clear hq
 cases q with
 | true=>
  have hne:b≠ []:=zkg HN.out (by rw[<- HC.out,<- HQ.out])
  have HLE:=hid (show zcJ K l=b.take (b.length - m) by rw[HV.out,<- HC.out,<- HQ.out,if_pos rfl];unfold ltl;rw[HM.out])
  obtain⟨hb1,hb2⟩:=zmQ b hne;rw[<- HM.out] at hb1 hb2;clear hne;go_wp2;go_ret;exact⟨by rw[HLE.out,<- ext_take];rfl,HBW.out⟩
 | false=>
  have HLE:=hid (show zcJ K l=l by rw[HV.out,<- HC.out,<- HQ.out];rfl)
  go_wp2;go_ret;exact⟨by rw[HLE.out];rfl,HBW.out⟩
end Ln
namespace Ln
open Go.RowKit
theorem zoL (a b:Int) (w:World):Calls Tryz.prog 96 #[.int .i64 a,.int .i64 b] w fun e w'=>e= .returned (.bool (zaQ a b))/\Below w.heap.size w w':=by
 have HB0:=hid (Below.refl w.heap.size w);go_enter Tryz.func96,Tryz.ntmps96;go_wp2_with fail;refine(zaI b [6,11,10,13,14,15] w (by decide)).mono ?_
 rintro e w1 ⟨rfl,be⟩;have HB1:=hid (HB0.out.trans (be.mono HB0.out.size));obtain⟨q1,hq1⟩:∃q,q=amg [6,11,10,13,14,15] b:=⟨_,rfl⟩;have HQ1:=hid hq1;rw[<- hq1];clear hq1 be
 cases q1 with
 | true=>
  have HV:=hid (show zaQ a b=true by unfold zaQ;rw[<- HQ1.out];rfl)
  go_wp2;go_ret;exact⟨by rw[HV.out];rfl,HB1.out⟩
 | false=>
  by_cases h0:a=9
  ·subst h0
   have HV:=hid (show zaQ 9 b=true by unfold zaQ;rw[<- HQ1.out];rfl)
   clear HQ1;go_wp2;go_ret;exact⟨by rw[HV.out];rfl,HB1.out⟩
  by_cases h1:a=12
  ·subst h1
   have HV:=hid (show zaQ 12 b=(b==9) by unfold zaQ;rw[<- HQ1.out];rfl)
   clear HQ1 h0;go_wp2;go_ret;exact⟨by rw[HV.out];rfl,HB1.out⟩
  by_cases h2:a=11
  ·subst h2
   have HV:=hid (show zaQ 11 b=(b==24) by unfold zaQ;rw[<- HQ1.out];rfl)
   clear HQ1 h0 h1;go_wp2;go_ret;exact⟨by rw[HV.out];rfl,HB1.out⟩
  by_cases h3:a=10
  ·subst h3
   have HV:=hid (show zaQ 10 b=(b==24) by unfold zaQ;rw[<- HQ1.out];rfl)
   clear HQ1 h0 h1 h2;go_wp2;go_ret;exact⟨by rw[HV.out];rfl,HB1.out⟩
  by_cases h4:a=18
  ·subst h4
   have HV:=hid (show zaQ 18 b=(b==18) by unfold zaQ;rw[<- HQ1.out];rfl)
   clear HQ1 h0 h1 h2 h3;go_wp2;go_ret;exact⟨by rw[HV.out];rfl,HB1.out⟩
  have HV:=hid (show zaQ a b=false by unfold zaQ;rw[<- HQ1.out,if_neg (by decide),if_neg h0,if_neg h1,if_neg h2,if_neg h3,if_neg h4])
  have b0:(a==9)=false:=beq_eq_false_iff_ne.2 h0;have b1:(a==12)=false:=beq_eq_false_iff_ne.2 h1;have b2:(a==11)=false:=beq_eq_false_iff_ne.2 h2;have b3:(a==10)=false:=beq_eq_false_iff_ne.2 h3;have b4:(a==18)=false:=beq_eq_false_iff_ne.2 h4;go_wp2;go_ret;exact⟨by rw[HV.out];rfl,HB1.out⟩
theorem zjw (a b:Int) (w:World):Calls Tryz.prog 129 #[.int .i64 a,.int .i64 b] w fun e w'=>e= .returned (.bool (zbq a b))/\Below w.heap.size w w':=by
 have HB0:=hid (Below.refl w.heap.size w)
 by_cases h0:a=12
 ·subst h0
  have HV:=hid (show zbq 12 b=true by unfold zbq;rfl)
  go_enter Tryz.func129,Tryz.ntmps129;go_wp2;go_ret;exact⟨by rw[HV.out];rfl,HB0.out⟩
 by_cases h1:a=0
 ·subst h1
  clear h0;have HV:=hid (show zbq 0 b=amg [0,20,9,21,22] b by unfold zbq;rfl)
  go_enter Tryz.func129,Tryz.ntmps129;go_wp2_with fail;refine(zaI b [0,20,9,21,22] w (by decide)).mono ?_
  rintro e w1 ⟨rfl,be⟩;have HB1:=hid (HB0.out.trans (be.mono HB0.out.size));obtain⟨q1,hq1⟩:∃q,q=amg [0,20,9,21,22] b:=⟨_,rfl⟩;have HQ1:=hid hq1;rw[<- hq1];clear hq1 be;go_wp2;go_ret;exact⟨by rw[HV.out,<- HQ1.out];rfl,HB1.out⟩
 by_cases h2:a=20
 ·subst h2
  clear h0 h1;have HV:=hid (show zbq 20 b=amg [0,20,9,21,22] b by unfold zbq;rfl)
  go_enter Tryz.func129,Tryz.ntmps129;go_wp2_with fail;refine(zaI b [0,20,9,21,22] w (by decide)).mono ?_
  rintro e w1 ⟨rfl,be⟩;have HB1:=hid (HB0.out.trans (be.mono HB0.out.size));obtain⟨q1,hq1⟩:∃q,q=amg [0,20,9,21,22] b:=⟨_,rfl⟩;have HQ1:=hid hq1;rw[<- hq1];clear hq1 be;go_wp2;go_ret;exact⟨by rw[HV.out,<- HQ1.out];rfl,HB1.out⟩
 by_cases h3:a=14
 ·subst h3
  clear h0 h1 h2;have HV:=hid (show zbq 14 b=amg [0,20] b by unfold zbq;rfl)
  go_enter Tryz.func129,Tryz.ntmps129;go_wp2_with fail;refine(zaI b [0,20] w (by decide)).mono ?_
  rintro e w1 ⟨rfl,be⟩;have HB1:=hid (HB0.out.trans (be.mono HB0.out.size));obtain⟨q1,hq1⟩:∃q,q=amg [0,20] b:=⟨_,rfl⟩;have HQ1:=hid hq1;rw[<- hq1];clear hq1 be;go_wp2;go_ret;exact⟨by rw[HV.out,<- HQ1.out];rfl,HB1.out⟩
 by_cases h4:a=10
 ·subst h4
  clear h0 h1 h2 h3;have HV:=hid (show zbq 10 b=amg [0,20] b by unfold zbq;rfl)
  go_enter Tryz.func129,Tryz.ntmps129;go_wp2_with fail;refine(zaI b [0,20] w (by decide)).mono ?_
  rintro e w1 ⟨rfl,be⟩;have HB1:=hid (HB0.out.trans (be.mono HB0.out.size));obtain⟨q1,hq1⟩:∃q,q=amg [0,20] b:=⟨_,rfl⟩;have HQ1:=hid hq1;rw[<- hq1];clear hq1 be;go_wp2;go_ret;exact⟨by rw[HV.out,<- HQ1.out];rfl,HB1.out⟩
 by_cases h5:a=21
 ·subst h5
  clear h0 h1 h2 h3 h4;have HV:=hid (show zbq 21 b=amg [0,20] b by unfold zbq;rfl)
  go_enter Tryz.func129,Tryz.ntmps129;go_wp2_with fail;refine(zaI b [0,20] w (by decide)).mono ?_
  rintro e w1 ⟨rfl,be⟩;have HB1:=hid (HB0.out.trans (be.mono HB0.out.size));obtain⟨q1,hq1⟩:∃q,q=amg [0,20] b:=⟨_,rfl⟩;have HQ1:=hid hq1;rw[<- hq1];clear hq1 be;go_wp2;go_ret;exact⟨by rw[HV.out,<- HQ1.out];rfl,HB1.out⟩
 by_cases h6:a=22
 ·subst h6
  clear h0 h1 h2 h3 h4 h5;have HV:=hid (show zbq 22 b=amg [0,20,23] b by unfold zbq;rfl)
  go_enter Tryz.func129,Tryz.ntmps129;go_wp2_with fail;refine(zaI b [0,20,23] w (by decide)).mono ?_
  rintro e w1 ⟨rfl,be⟩;have HB1:=hid (HB0.out.trans (be.mono HB0.out.size));obtain⟨q1,hq1⟩:∃q,q=amg [0,20,23] b:=⟨_,rfl⟩;have HQ1:=hid hq1;rw[<- hq1];clear hq1 be;go_wp2;go_ret;exact⟨by rw[HV.out,<- HQ1.out];rfl,HB1.out⟩
 by_cases h7:a=16
 ·subst h7
  clear h0 h1 h2 h3 h4 h5 h6;have HV:=hid (show zbq 16 b=(b==20) by unfold zbq;rfl)
  go_enter Tryz.func129,Tryz.ntmps129;go_wp2;go_ret;exact⟨by rw[HV.out];rfl,HB0.out⟩
 by_cases h8:a=15
 ·subst h8
  clear h0 h1 h2 h3 h4 h5 h6 h7;have HV:=hid (show zbq 15 b=(b==20) by unfold zbq;rfl)
  go_enter Tryz.func129,Tryz.ntmps129;go_wp2;go_ret;exact⟨by rw[HV.out];rfl,HB0.out⟩
 by_cases h9:a=23
 ·subst h9
  clear h0 h1 h2 h3 h4 h5 h6 h7 h8;have HV:=hid (show zbq 23 b=(b==21) by unfold zbq;rfl)
  go_enter Tryz.func129,Tryz.ntmps129;go_wp2;go_ret;exact⟨by rw[HV.out];rfl,HB0.out⟩
 have HV:=hid (show zbq a b=false by unfold zbq;rw[if_neg h0,if_neg h1,if_neg h2,if_neg h3,if_neg h4,if_neg h5,if_neg h6,if_neg h7,if_neg h8,if_neg h9])
 have b0:(a==12)=false:=beq_eq_false_iff_ne.2 h0;have b1:(a==0)=false:=beq_eq_false_iff_ne.2 h1;have b2:(a==20)=false:=beq_eq_false_iff_ne.2 h2;have b3:(a==14)=false:=beq_eq_false_iff_ne.2 h3;have b4:(a==10)=false:=beq_eq_false_iff_ne.2 h4;have b5:(a==21)=false:=beq_eq_false_iff_ne.2 h5;have b6:(a==22)=false:=beq_eq_false_iff_ne.2 h6;have b7:(a==16)=false:=beq_eq_false_iff_ne.2 h7;have b8:(a==15)=false:=beq_eq_false_iff_ne.2 h8;have b9:(a==23)=false:=beq_eq_false_iff_ne.2 h9;go_enter Tryz.func129,Tryz.ntmps129;go_wp2;go_ret;exact⟨by rw[HV.out];rfl,HB0.out⟩
theorem zul (a b:Int) (w:World):Calls Tryz.prog 128 #[.int .i64 a,.int .i64 b] w fun e w'=>e= .returned (.bool (zbE a b))/\Below w.heap.size w w':=by
 have HB0:=hid (Below.refl w.heap.size w);go_enter Tryz.func128,Tryz.ntmps128;go_wp2_with fail;refine(zaI a [6,7] w (by decide)).mono ?_
 rintro e w1 ⟨rfl,be⟩;have HB1:=hid (HB0.out.trans (be.mono HB0.out.size));obtain⟨q1,hq1⟩:∃q,q=amg [6,7] a:=⟨_,rfl⟩;have HQ1:=hid hq1;rw[<- hq1];clear hq1 be
 cases q1 with
 | true=>
  have HV:=hid (show zbE a b=true by unfold zbE;rw[<- HQ1.out];rfl)
  go_wp2;go_ret;exact⟨by rw[HV.out];rfl,HB1.out⟩
 | false=>
  by_cases h7:b=7
  ·subst h7
   go_wp2_with fail;refine(zaI a [4,17,16] w1 (by decide)).mono ?_
   rintro e w2 ⟨rfl,be⟩;have HB2:=hid (HB1.out.trans (be.mono HB1.out.size));obtain⟨q2,hq2⟩:∃q,q=amg [4,17,16] a:=⟨_,rfl⟩;have HQ2:=hid hq2;rw[<- hq2];clear hq2 be;have HV:=hid (show zbE a 7= !q2 by unfold zbE;rw[<- HQ1.out,<- HQ2.out];rfl)
   go_wp2;go_ret;exact⟨by rw[HV.out];rfl,HB2.out⟩
  ·have b7:(b==7)=false:=beq_eq_false_iff_ne.2 h7
   have HV:=hid (show zbE a b=false by unfold zbE;rw[<- HQ1.out,b7];rfl)
   go_wp2;go_ret;exact⟨by rw[HV.out];rfl,HB1.out⟩
theorem zpP (l:List UInt8) (w:World) (ht:Tb w) (hl:l.length<=1000000000):
  Calls Tryz.prog 130 #[.string ⟨l.toArray⟩] w fun e w'=>e= .returned (.bool (zkf l))/\Below w.heap.size w w':=by
 have HT:=hid ht;clear ht;go_enter Tryz.func130,Tryz.ntmps130;go_wp2_with fail;refine(zce l [11,10] w HT.out hl (by decide) (by decide)).mono ?_
 rintro e w1 ⟨rfl,be⟩;have HB1:=hid be;have hle:=zop [11,10] l;obtain⟨l1,h1⟩:∃l1,l1=zcJ [11,10] l:=⟨_,rfl⟩;have H1:=hid h1;rw[<- h1] at hle;rw[<- h1];clear h1 be;go_wp2_with fail;refine(zce l1 [14,15] w1 (HT.out.below HB1.out) (by omega) (by decide) (by decide)).mono ?_
 rintro e w2 ⟨rfl,be⟩;have HB2:=hid (HB1.out.trans (be.mono HB1.out.size));have hle2:=zop [14,15] l1;obtain⟨l2,h2⟩:∃l2,l2=zcJ [14,15] l1:=⟨_,rfl⟩;have HV:=hid (show zkf l=(zaA l2==20) by rw[h2,H1.out];rfl)
 rw[<- h2] at hle2;rw[<- h2];clear h2 be;go_wp2_with fail;refine(zen l2 w2 (HT.out.below HB2.out) (by omega)).mono ?_
 rintro e w3 ⟨rfl,be⟩;have HB3:=hid (HB2.out.trans (be.mono HB2.out.size));clear be;obtain⟨c,hc⟩:∃c,c=zaA l2:=⟨_,rfl⟩;rw[<- hc] at HV;rw[<- hc];clear hc;go_wp2;go_ret;exact⟨by rw[HV.out];rfl,HB3.out⟩
theorem zrZ (l:List UInt8) (w:World) (ht:Tb w) (hl:l.length<=1000000000):
  Calls Tryz.prog 131 #[.string ⟨l.toArray⟩] w fun e w'=>e= .returned (.bool (zch l.length l false))/\Below w.heap.size w w':=by
 have HT:=hid ht;clear ht;go_enter Tryz.func131,Tryz.ntmps131;go_wp2;go_loopw [0,3] (fun fs fo wr=>∃(l':List UInt8) (o:Bool),fs= .string ⟨l'.toArray⟩/\fo= .bool o/\l'.length<=1000000000/\Hid (zch l.length l false=zch l'.length l' o)/\Below w.heap.size w wr) (fun fs _ _=>zym fs)
 case atStart=>exact⟨l,false,rfl,rfl,hl,rfl,Below.refl _ _⟩
 case round=>
  obtain⟨l',o,rfl,rfl,hl',HW,hB⟩:=hrel;have HB:=hid hB;clear hB;go_wp2_with fail;refine(zen l' wr (HT.out.below HB.out) hl').mono ?_;rintro e w1 ⟨rfl,be⟩;have HB1:=hid (HB.out.trans (be.mono HB.out.size));clear be
  by_cases h25:zaA l'=25
  ·have HL:=hid (zfn [25] l' (by decide) (by rw[h25];decide))
   have HY:=hid (HW.out.trans (zke l' o h25));rw[h25];clear h25;go_wp2_with fail;refine(zce l' [25] w1 (HT.out.below HB1.out) hl' (by decide) (by decide)).mono ?_
   rintro e w2 ⟨rfl,be⟩;have HB2:=hid (HB1.out.trans (be.mono HB1.out.size));clear be;obtain⟨l2,h2⟩:∃l2,l2=zcJ [25] l':=⟨_,rfl⟩;rw[<- h2] at HL HY;rw[<- h2];clear h2;go_wp2;exact⟨⟨l2, !o,rfl,rfl,by have:=HL.out;omega,HY.out,HB2.out⟩,by have:=HL.out;show l2.toArray.size<l'.toArray.size;simpa using this⟩
  ·have HY:=hid (HW.out.trans (zoq l' o h25))
   obtain⟨c,hc⟩:∃c,c=zaA l':=⟨_,rfl⟩;rw[<- hc] at h25;rw[<- hc];have b25:(c==25)=false:=beq_eq_false_iff_ne.2 h25;clear hc h25;go_wp2;go_ret;exact⟨by rw[HY.out];rfl,HB1.out⟩
end Ln
end Go.Proofs.YtbbapnpdfcgjnaaGreatDoor
