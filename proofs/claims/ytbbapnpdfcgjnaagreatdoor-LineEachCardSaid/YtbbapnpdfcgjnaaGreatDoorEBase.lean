/- Base, LnCls, LnDef, LnFun1, LnFun2, LnFun3, LnFun4, LnFun5: parts of the proof, joined. -/
import Derived.Deep.AppendLies
import Derived.WalkSpells
import Derived.WalkLawsBesides
import Derived.BigQuiet
import Derived.Test.YtbbapnpdfcgjnaaGreatDoorEZz
import Derived.Test.YtbbapnpdfcgjnaaGreatDoorEUMath
import Derived.Test.YtbbapnpdfcgjnaaGreatDoorEShelf
open Go renaming World->sR, Calls->sU
open List renaming length_eq_zero_iff->sS, length_take->sX, length_drop->ta
open Nat renaming le_refl->sT, lt_of_lt_of_le->td, le_trans->te
open Go.RowKit.Below renaming refl->sV
open Go.RowKit renaming Below->sW
open Go.Lib renaming Utf8Tabs->sY
open Go.Value renaming int->sZ
open ByteArray renaming data_extract->tc, ext->ti
set_option maxHeartbeats 64000000
namespace Go.Proofs.YtbbapnpdfcgjnaaGreatDoor
section
open Go.RowKit
theorem add_blk(a:Addr)(k:Nat):(a.add k).block=a.block:=by unfold Addr.add;split<;>rfl
theorem zfo{w w':sR}(h:sY 0 1 w)(hs:2<=w.heap.size)(hb:sW w.heap.size w w'):sY 0 1 w':=
 ⟨fun c hc=>(hb.cell (p:=⟨0,c,none⟩) (by show 0<w.heap.size;omega)).trans (h.1 c hc),fun i hi=>⟨(hb.cell (p:=⟨1,2*i,none⟩) (by show 1<w.heap.size;omega)).trans (h.2 i hi).1,(hb.cell (p:=⟨1,2*i+1,none⟩) (by show 1<w.heap.size;omega)).trans (h.2 i hi).2⟩⟩
theorem zgC(l:List UInt8)(w:sR)(hT:sY 0 1 w):
  sU Tryz.prog 89 #[.string ⟨l.toArray⟩] w fun e w'=>e=.returned (.tuple #[.int .i32 (dec l).1,.int .i64 (dec l).2])/\sW w.heap.size w w':=by
 by_cases h:l=[]
 ·subst h
  go_enter Tryz.func89,Tryz.ntmps89;go_wp2;go_ret2;exact⟨rfl,sV _ _⟩
 ·have hd:dec l=Lib.decodeGo ⟨l.toArray⟩:=if_neg h
  rw[hd];have he:l.isEmpty=false:=by simpa using h
  clear hd h;have HT:=aa hT;clear hT;go_enter Tryz.func89,Tryz.ntmps89;go_wp2_with (go_at_call 125;refine(Tryz.utf8_DecodeRuneInString _ _ (by exact HT.o)).mono ?_;rintro e w1 ⟨rfl,hb⟩)
  go_ret2;exact⟨rfl,hb⟩
theorem znF(l:List UInt8)(w:sR)(hl:l.length<=9223372036854775807)(hT:sY 0 1 w):
  sU Tryz.prog 116 #[.string ⟨l.toArray⟩] w fun e w'=>e=.returned (.tuple #[.int .i32 (aY l).1,.int .i64 (aY l).2])/\sW w.heap.size w w':=by
 by_cases h:l=[]
 ·subst h
  go_enter Tryz.func116,Tryz.ntmps116;go_wp2;go_ret2;exact⟨rfl,sV _ _⟩
 ·have hd:aY l=Lib.decodeLastL l:=if_neg h
  rw[hd];have he:l.isEmpty=false:=by simpa using h
  clear hd h;have HT:=aa hT;have hs':(⟨l.toArray⟩:ByteArray).size<=9223372036854775807:=by show l.toArray.size<=_;simpa using hl
  have HS:=aa hs';clear hT hs';go_enter Tryz.func116,Tryz.ntmps116;go_wp2_with (go_at_call 151;refine(Tryz.utf8_DecodeLastRuneInString ⟨l.toArray⟩ _ HS.o (by exact HT.o)).mono ?_;rintro e w1 ⟨rfl,hb⟩)
  go_ret2;exact⟨rfl,hb⟩
end
section
open Go.RowKit
theorem ah(r lo hi:Int)(w:sR)(h:lo<=r/\r<=hi):sU Tryz.prog 178 #[.int .i32 r,.int .i32 lo,.int .i32 hi] w fun e w'=>e=.returned (.bool true)/\w'=w:=by
 obtain⟨h1,h2⟩:=h;go_enter Tryz.func178,Tryz.ntmps178;go_wp2;go_ret;exact⟨rfl,rfl⟩
theorem ai(r lo hi:Int)(w:sR)(h:¬(lo<=r/\r<=hi)):sU Tryz.prog 178 #[.int .i32 r,.int .i32 lo,.int .i32 hi] w fun e w'=>e=.returned (.bool false)/\w'=w:=by
 by_cases h1:lo<=r
 ·have h2:¬r<=hi:=fun h2=>h ⟨h1,h2⟩
  clear h;go_enter Tryz.func178,Tryz.ntmps178;go_wp2;go_ret;exact⟨rfl,rfl⟩
 ·clear h
  go_enter Tryz.func178,Tryz.ntmps178;go_wp2;go_ret;exact⟨rfl,rfl⟩
def aI(r:Int):Int:=
 if 48<=r/\r<=57 then 20 else if r=11 then 1 else if r=12 then 1 else if r=13 then 2 else if r=10 then 3 else if r=32 then 4 else if r=9 then 17 else if r=40 then 9 else if r=91 then 9 else if r=123 then 9 else if r=41 then 10 else if r=93 then 10 else if r=125 then 11 else if r=34 then 12 else if r=39 then 12 else if r=33 then 13 else if r=63 then 13 else if r=44 then 14 else if r=46 then 14 else if r=58 then 14 else if r=59 then 14 else if r=47 then 15 else if r=45 then 16 else if r=37 then 21 else if r=36 then 22 else if r=43 then 22 else if r=92 then 22 else 0
theorem zcY(r:Int)(w:sR):sU Tryz.prog 153 #[.int .i32 r] w fun e w'=>e=.returned (.int .i64 (aI r))/\w'=w:=by
 by_cases h0:48<=r/\r<=57
 ·have HV:ae (aI r=20):=aa (by unfold aI;rw[if_pos h0])
  obtain⟨u0,v0⟩:=h0;go_enter Tryz.func153,Tryz.ntmps153;go_wp2_with (first|(go_at_call 178;(first|refine(ah _ _ _ _ (by omega)).mono ?_|refine(ai _ _ _ _ (by omega)).mono ?_);rintro e w1 ⟨rfl,hw1⟩;obtain rfl:=hw1.symm;clear hw1))
  go_ret;exact⟨by rw[HV.o];rfl,rfl⟩
 by_cases h1:r=11
 ·subst h1
  have HV:ae (aI 11=1):=aa (by decide)
  clear h0;go_enter Tryz.func153,Tryz.ntmps153;go_wp2_with (first|(go_at_call 178;(first|refine(ah _ _ _ _ (by omega)).mono ?_|refine(ai _ _ _ _ (by omega)).mono ?_);rintro e w1 ⟨rfl,hw1⟩;obtain rfl:=hw1.symm;clear hw1))
  go_ret;exact⟨by rw[HV.o];rfl,rfl⟩
 by_cases h2:r=12
 ·subst h2
  have HV:ae (aI 12=1):=aa (by decide)
  clear h0 h1;go_enter Tryz.func153,Tryz.ntmps153;go_wp2_with (first|(go_at_call 178;(first|refine(ah _ _ _ _ (by omega)).mono ?_|refine(ai _ _ _ _ (by omega)).mono ?_);rintro e w1 ⟨rfl,hw1⟩;obtain rfl:=hw1.symm;clear hw1))
  go_ret;exact⟨by rw[HV.o];rfl,rfl⟩
 by_cases h3:r=13
 ·subst h3
  have HV:ae (aI 13=2):=aa (by decide)
  clear h0 h1 h2;go_enter Tryz.func153,Tryz.ntmps153;go_wp2_with (first|(go_at_call 178;(first|refine(ah _ _ _ _ (by omega)).mono ?_|refine(ai _ _ _ _ (by omega)).mono ?_);rintro e w1 ⟨rfl,hw1⟩;obtain rfl:=hw1.symm;clear hw1))
  go_ret;exact⟨by rw[HV.o];rfl,rfl⟩
 by_cases h4:r=10
 ·subst h4
  have HV:ae (aI 10=3):=aa (by decide)
  clear h0 h1 h2 h3;go_enter Tryz.func153,Tryz.ntmps153;go_wp2_with (first|(go_at_call 178;(first|refine(ah _ _ _ _ (by omega)).mono ?_|refine(ai _ _ _ _ (by omega)).mono ?_);rintro e w1 ⟨rfl,hw1⟩;obtain rfl:=hw1.symm;clear hw1))
  go_ret;exact⟨by rw[HV.o];rfl,rfl⟩
 by_cases h5:r=32
 ·subst h5
  have HV:ae (aI 32=4):=aa (by decide)
  clear h0 h1 h2 h3 h4;go_enter Tryz.func153,Tryz.ntmps153;go_wp2_with (first|(go_at_call 178;(first|refine(ah _ _ _ _ (by omega)).mono ?_|refine(ai _ _ _ _ (by omega)).mono ?_);rintro e w1 ⟨rfl,hw1⟩;obtain rfl:=hw1.symm;clear hw1))
  go_ret;exact⟨by rw[HV.o];rfl,rfl⟩
 by_cases h6:r=9
 ·subst h6
  have HV:ae (aI 9=17):=aa (by decide)
  clear h0 h1 h2 h3 h4 h5;go_enter Tryz.func153,Tryz.ntmps153;go_wp2_with (first|(go_at_call 178;(first|refine(ah _ _ _ _ (by omega)).mono ?_|refine(ai _ _ _ _ (by omega)).mono ?_);rintro e w1 ⟨rfl,hw1⟩;obtain rfl:=hw1.symm;clear hw1))
  go_ret;exact⟨by rw[HV.o];rfl,rfl⟩
 by_cases h7:r=40
 ·subst h7
  have HV:ae (aI 40=9):=aa (by decide)
  clear h0 h1 h2 h3 h4 h5 h6;go_enter Tryz.func153,Tryz.ntmps153;go_wp2_with (first|(go_at_call 178;(first|refine(ah _ _ _ _ (by omega)).mono ?_|refine(ai _ _ _ _ (by omega)).mono ?_);rintro e w1 ⟨rfl,hw1⟩;obtain rfl:=hw1.symm;clear hw1))
  go_ret;exact⟨by rw[HV.o];rfl,rfl⟩
 by_cases h8:r=91
 ·subst h8
  have HV:ae (aI 91=9):=aa (by decide)
  clear h0 h1 h2 h3 h4 h5 h6 h7;go_enter Tryz.func153,Tryz.ntmps153;go_wp2_with (first|(go_at_call 178;(first|refine(ah _ _ _ _ (by omega)).mono ?_|refine(ai _ _ _ _ (by omega)).mono ?_);rintro e w1 ⟨rfl,hw1⟩;obtain rfl:=hw1.symm;clear hw1))
  go_ret;exact⟨by rw[HV.o];rfl,rfl⟩
 by_cases h9:r=123
 ·subst h9
  have HV:ae (aI 123=9):=aa (by decide)
  clear h0 h1 h2 h3 h4 h5 h6 h7 h8;go_enter Tryz.func153,Tryz.ntmps153;go_wp2_with (first|(go_at_call 178;(first|refine(ah _ _ _ _ (by omega)).mono ?_|refine(ai _ _ _ _ (by omega)).mono ?_);rintro e w1 ⟨rfl,hw1⟩;obtain rfl:=hw1.symm;clear hw1))
  go_ret;exact⟨by rw[HV.o];rfl,rfl⟩
 by_cases h10:r=41
 ·subst h10
  have HV:ae (aI 41=10):=aa (by decide)
  clear h0 h1 h2 h3 h4 h5 h6 h7 h8 h9;go_enter Tryz.func153,Tryz.ntmps153;go_wp2_with (first|(go_at_call 178;(first|refine(ah _ _ _ _ (by omega)).mono ?_|refine(ai _ _ _ _ (by omega)).mono ?_);rintro e w1 ⟨rfl,hw1⟩;obtain rfl:=hw1.symm;clear hw1))
  go_ret;exact⟨by rw[HV.o];rfl,rfl⟩
 by_cases h11:r=93
 ·subst h11
  have HV:ae (aI 93=10):=aa (by decide)
  clear h0 h1 h2 h3 h4 h5 h6 h7 h8 h9 h10;go_enter Tryz.func153,Tryz.ntmps153;go_wp2_with (first|(go_at_call 178;(first|refine(ah _ _ _ _ (by omega)).mono ?_|refine(ai _ _ _ _ (by omega)).mono ?_);rintro e w1 ⟨rfl,hw1⟩;obtain rfl:=hw1.symm;clear hw1))
  go_ret;exact⟨by rw[HV.o];rfl,rfl⟩
 by_cases h12:r=125
 ·subst h12
  have HV:ae (aI 125=11):=aa (by decide)
  clear h0 h1 h2 h3 h4 h5 h6 h7 h8 h9 h10 h11;go_enter Tryz.func153,Tryz.ntmps153;go_wp2_with (first|(go_at_call 178;(first|refine(ah _ _ _ _ (by omega)).mono ?_|refine(ai _ _ _ _ (by omega)).mono ?_);rintro e w1 ⟨rfl,hw1⟩;obtain rfl:=hw1.symm;clear hw1))
  go_ret;exact⟨by rw[HV.o];rfl,rfl⟩
 by_cases h13:r=34
 ·subst h13
  have HV:ae (aI 34=12):=aa (by decide)
  clear h0 h1 h2 h3 h4 h5 h6 h7 h8 h9 h10 h11 h12;go_enter Tryz.func153,Tryz.ntmps153;go_wp2_with (first|(go_at_call 178;(first|refine(ah _ _ _ _ (by omega)).mono ?_|refine(ai _ _ _ _ (by omega)).mono ?_);rintro e w1 ⟨rfl,hw1⟩;obtain rfl:=hw1.symm;clear hw1))
  go_ret;exact⟨by rw[HV.o];rfl,rfl⟩
 by_cases h14:r=39
 ·subst h14
  have HV:ae (aI 39=12):=aa (by decide)
  clear h0 h1 h2 h3 h4 h5 h6 h7 h8 h9 h10 h11 h12 h13;go_enter Tryz.func153,Tryz.ntmps153;go_wp2_with (first|(go_at_call 178;(first|refine(ah _ _ _ _ (by omega)).mono ?_|refine(ai _ _ _ _ (by omega)).mono ?_);rintro e w1 ⟨rfl,hw1⟩;obtain rfl:=hw1.symm;clear hw1))
  go_ret;exact⟨by rw[HV.o];rfl,rfl⟩
 by_cases h15:r=33
 ·subst h15
  have HV:ae (aI 33=13):=aa (by decide)
  clear h0 h1 h2 h3 h4 h5 h6 h7 h8 h9 h10 h11 h12 h13 h14;go_enter Tryz.func153,Tryz.ntmps153;go_wp2_with (first|(go_at_call 178;(first|refine(ah _ _ _ _ (by omega)).mono ?_|refine(ai _ _ _ _ (by omega)).mono ?_);rintro e w1 ⟨rfl,hw1⟩;obtain rfl:=hw1.symm;clear hw1))
  go_ret;exact⟨by rw[HV.o];rfl,rfl⟩
 by_cases h16:r=63
 ·subst h16
  have HV:ae (aI 63=13):=aa (by decide)
  clear h0 h1 h2 h3 h4 h5 h6 h7 h8 h9 h10 h11 h12 h13 h14 h15;go_enter Tryz.func153,Tryz.ntmps153;go_wp2_with (first|(go_at_call 178;(first|refine(ah _ _ _ _ (by omega)).mono ?_|refine(ai _ _ _ _ (by omega)).mono ?_);rintro e w1 ⟨rfl,hw1⟩;obtain rfl:=hw1.symm;clear hw1))
  go_ret;exact⟨by rw[HV.o];rfl,rfl⟩
 by_cases h17:r=44
 ·subst h17
  have HV:ae (aI 44=14):=aa (by decide)
  clear h0 h1 h2 h3 h4 h5 h6 h7 h8 h9 h10 h11 h12 h13 h14 h15 h16;go_enter Tryz.func153,Tryz.ntmps153;go_wp2_with (first|(go_at_call 178;(first|refine(ah _ _ _ _ (by omega)).mono ?_|refine(ai _ _ _ _ (by omega)).mono ?_);rintro e w1 ⟨rfl,hw1⟩;obtain rfl:=hw1.symm;clear hw1))
  go_ret;exact⟨by rw[HV.o];rfl,rfl⟩
 by_cases h18:r=46
 ·subst h18
  have HV:ae (aI 46=14):=aa (by decide)
  clear h0 h1 h2 h3 h4 h5 h6 h7 h8 h9 h10 h11 h12 h13 h14 h15 h16 h17;go_enter Tryz.func153,Tryz.ntmps153;go_wp2_with (first|(go_at_call 178;(first|refine(ah _ _ _ _ (by omega)).mono ?_|refine(ai _ _ _ _ (by omega)).mono ?_);rintro e w1 ⟨rfl,hw1⟩;obtain rfl:=hw1.symm;clear hw1))
  go_ret;exact⟨by rw[HV.o];rfl,rfl⟩
 by_cases h19:r=58
 ·subst h19
  have HV:ae (aI 58=14):=aa (by decide)
  clear h0 h1 h2 h3 h4 h5 h6 h7 h8 h9 h10 h11 h12 h13 h14 h15 h16 h17 h18;go_enter Tryz.func153,Tryz.ntmps153;go_wp2_with (first|(go_at_call 178;(first|refine(ah _ _ _ _ (by omega)).mono ?_|refine(ai _ _ _ _ (by omega)).mono ?_);rintro e w1 ⟨rfl,hw1⟩;obtain rfl:=hw1.symm;clear hw1))
  go_ret;exact⟨by rw[HV.o];rfl,rfl⟩
 by_cases h20:r=59
 ·subst h20
  have HV:ae (aI 59=14):=aa (by decide)
  clear h0 h1 h2 h3 h4 h5 h6 h7 h8 h9 h10 h11 h12 h13 h14 h15 h16 h17 h18 h19;go_enter Tryz.func153,Tryz.ntmps153;go_wp2_with (first|(go_at_call 178;(first|refine(ah _ _ _ _ (by omega)).mono ?_|refine(ai _ _ _ _ (by omega)).mono ?_);rintro e w1 ⟨rfl,hw1⟩;obtain rfl:=hw1.symm;clear hw1))
  go_ret;exact⟨by rw[HV.o];rfl,rfl⟩
 by_cases h21:r=47
 ·subst h21
  have HV:ae (aI 47=15):=aa (by decide)
  clear h0 h1 h2 h3 h4 h5 h6 h7 h8 h9 h10 h11 h12 h13 h14 h15 h16 h17 h18 h19 h20;go_enter Tryz.func153,Tryz.ntmps153;go_wp2_with (first|(go_at_call 178;(first|refine(ah _ _ _ _ (by omega)).mono ?_|refine(ai _ _ _ _ (by omega)).mono ?_);rintro e w1 ⟨rfl,hw1⟩;obtain rfl:=hw1.symm;clear hw1))
  go_ret;exact⟨by rw[HV.o];rfl,rfl⟩
 by_cases h22:r=45
 ·subst h22
  have HV:ae (aI 45=16):=aa (by decide)
  clear h0 h1 h2 h3 h4 h5 h6 h7 h8 h9 h10 h11 h12 h13 h14 h15 h16 h17 h18 h19 h20 h21;go_enter Tryz.func153,Tryz.ntmps153;go_wp2_with (first|(go_at_call 178;(first|refine(ah _ _ _ _ (by omega)).mono ?_|refine(ai _ _ _ _ (by omega)).mono ?_);rintro e w1 ⟨rfl,hw1⟩;obtain rfl:=hw1.symm;clear hw1))
  go_ret;exact⟨by rw[HV.o];rfl,rfl⟩
 by_cases h23:r=37
 ·subst h23
  have HV:ae (aI 37=21):=aa (by decide)
  clear h0 h1 h2 h3 h4 h5 h6 h7 h8 h9 h10 h11 h12 h13 h14 h15 h16 h17 h18 h19 h20 h21 h22;go_enter Tryz.func153,Tryz.ntmps153;go_wp2_with (first|(go_at_call 178;(first|refine(ah _ _ _ _ (by omega)).mono ?_|refine(ai _ _ _ _ (by omega)).mono ?_);rintro e w1 ⟨rfl,hw1⟩;obtain rfl:=hw1.symm;clear hw1))
  go_ret;exact⟨by rw[HV.o];rfl,rfl⟩
 by_cases h24:r=36
 ·subst h24
  have HV:ae (aI 36=22):=aa (by decide)
  clear h0 h1 h2 h3 h4 h5 h6 h7 h8 h9 h10 h11 h12 h13 h14 h15 h16 h17 h18 h19 h20 h21 h22 h23;go_enter Tryz.func153,Tryz.ntmps153;go_wp2_with (first|(go_at_call 178;(first|refine(ah _ _ _ _ (by omega)).mono ?_|refine(ai _ _ _ _ (by omega)).mono ?_);rintro e w1 ⟨rfl,hw1⟩;obtain rfl:=hw1.symm;clear hw1))
  go_ret;exact⟨by rw[HV.o];rfl,rfl⟩
 by_cases h25:r=43
 ·subst h25
  have HV:ae (aI 43=22):=aa (by decide)
  clear h0 h1 h2 h3 h4 h5 h6 h7 h8 h9 h10 h11 h12 h13 h14 h15 h16 h17 h18 h19 h20 h21 h22 h23 h24;go_enter Tryz.func153,Tryz.ntmps153;go_wp2_with (first|(go_at_call 178;(first|refine(ah _ _ _ _ (by omega)).mono ?_|refine(ai _ _ _ _ (by omega)).mono ?_);rintro e w1 ⟨rfl,hw1⟩;obtain rfl:=hw1.symm;clear hw1))
  go_ret;exact⟨by rw[HV.o];rfl,rfl⟩
 by_cases h26:r=92
 ·subst h26
  have HV:ae (aI 92=22):=aa (by decide)
  clear h0 h1 h2 h3 h4 h5 h6 h7 h8 h9 h10 h11 h12 h13 h14 h15 h16 h17 h18 h19 h20 h21 h22 h23 h24 h25;go_enter Tryz.func153,Tryz.ntmps153;go_wp2_with (first|(go_at_call 178;(first|refine(ah _ _ _ _ (by omega)).mono ?_|refine(ai _ _ _ _ (by omega)).mono ?_);rintro e w1 ⟨rfl,hw1⟩;obtain rfl:=hw1.symm;clear hw1))
  go_ret;exact⟨by rw[HV.o];rfl,rfl⟩
 have HV:ae (aI r=0):=aa (by unfold aI;rw[if_neg h0,if_neg h1,if_neg h2,if_neg h3,if_neg h4,if_neg h5,if_neg h6,if_neg h7,if_neg h8,if_neg h9,if_neg h10,if_neg h11,if_neg h12,if_neg h13,if_neg h14,if_neg h15,if_neg h16,if_neg h17,if_neg h18,if_neg h19,if_neg h20,if_neg h21,if_neg h22,if_neg h23,if_neg h24,if_neg h25,if_neg h26])
 have b1:(r==11)=false:=beq_eq_false_iff_ne.2 h1;have b2:(r==12)=false:=beq_eq_false_iff_ne.2 h2;have b3:(r==13)=false:=beq_eq_false_iff_ne.2 h3;have b4:(r==10)=false:=beq_eq_false_iff_ne.2 h4;have b5:(r==32)=false:=beq_eq_false_iff_ne.2 h5;have b6:(r==9)=false:=beq_eq_false_iff_ne.2 h6;have b7:(r==40)=false:=beq_eq_false_iff_ne.2 h7;have b8:(r==91)=false:=beq_eq_false_iff_ne.2 h8;have b9:(r==123)=false:=beq_eq_false_iff_ne.2 h9;have b10:(r==41)=false:=beq_eq_false_iff_ne.2 h10;have b11:(r==93)=false:=beq_eq_false_iff_ne.2 h11;have b12:(r==125)=false:=beq_eq_false_iff_ne.2 h12;have b13:(r==34)=false:=beq_eq_false_iff_ne.2 h13;have b14:(r==39)=false:=beq_eq_false_iff_ne.2 h14;have b15:(r==33)=false:=beq_eq_false_iff_ne.2 h15;have b16:(r==63)=false:=beq_eq_false_iff_ne.2 h16;have b17:(r==44)=false:=beq_eq_false_iff_ne.2 h17;have b18:(r==46)=false:=beq_eq_false_iff_ne.2 h18;have b19:(r==58)=false:=beq_eq_false_iff_ne.2 h19;have b20:(r==59)=false:=beq_eq_false_iff_ne.2 h20;have b21:(r==47)=false:=beq_eq_false_iff_ne.2 h21;have b22:(r==45)=false:=beq_eq_false_iff_ne.2 h22;have b23:(r==37)=false:=beq_eq_false_iff_ne.2 h23;have b24:(r==36)=false:=beq_eq_false_iff_ne.2 h24;have b25:(r==43)=false:=beq_eq_false_iff_ne.2 h25;have b26:(r==92)=false:=beq_eq_false_iff_ne.2 h26;go_enter Tryz.func153,Tryz.ntmps153;go_wp2_with (first|(go_at_call 178;(first|refine(ah _ _ _ _ (by omega)).mono ?_|refine(ai _ _ _ _ (by omega)).mono ?_);rintro e w1 ⟨rfl,hw1⟩;obtain rfl:=hw1.symm;clear hw1))
 go_ret;exact⟨by rw[HV.o];rfl,rfl⟩
def bk(r:Int):Int:=
 if r=133 then 1 else if r=160 then 7 else if r=161 then 9 else if r=191 then 9 else if r=162 then 21 else if r=176 then 21 else if r=163 then 22 else if r=164 then 22 else if r=165 then 22 else if r=177 then 22 else if r=171 then 12 else if r=187 then 12 else if r=173 then 17 else 0
theorem zcW(r:Int)(w:sR):sU Tryz.prog 154 #[.int .i32 r] w fun e w'=>e=.returned (.int .i64 (bk r))/\w'=w:=by
 by_cases h0:r=133
 ·subst h0
  have HV:ae (bk 133=1):=aa (by decide)
  skip
  go_enter Tryz.func154,Tryz.ntmps154;go_wp2_with (first|(go_at_call 178;(first|refine(ah _ _ _ _ (by omega)).mono ?_|refine(ai _ _ _ _ (by omega)).mono ?_);rintro e w1 ⟨rfl,hw1⟩;obtain rfl:=hw1.symm;clear hw1))
  go_ret;exact⟨by rw[HV.o];rfl,rfl⟩
 by_cases h1:r=160
 ·subst h1
  have HV:ae (bk 160=7):=aa (by decide)
  clear h0;go_enter Tryz.func154,Tryz.ntmps154;go_wp2_with (first|(go_at_call 178;(first|refine(ah _ _ _ _ (by omega)).mono ?_|refine(ai _ _ _ _ (by omega)).mono ?_);rintro e w1 ⟨rfl,hw1⟩;obtain rfl:=hw1.symm;clear hw1))
  go_ret;exact⟨by rw[HV.o];rfl,rfl⟩
 by_cases h2:r=161
 ·subst h2
  have HV:ae (bk 161=9):=aa (by decide)
  clear h0 h1;go_enter Tryz.func154,Tryz.ntmps154;go_wp2_with (first|(go_at_call 178;(first|refine(ah _ _ _ _ (by omega)).mono ?_|refine(ai _ _ _ _ (by omega)).mono ?_);rintro e w1 ⟨rfl,hw1⟩;obtain rfl:=hw1.symm;clear hw1))
  go_ret;exact⟨by rw[HV.o];rfl,rfl⟩
 by_cases h3:r=191
 ·subst h3
  have HV:ae (bk 191=9):=aa (by decide)
  clear h0 h1 h2;go_enter Tryz.func154,Tryz.ntmps154;go_wp2_with (first|(go_at_call 178;(first|refine(ah _ _ _ _ (by omega)).mono ?_|refine(ai _ _ _ _ (by omega)).mono ?_);rintro e w1 ⟨rfl,hw1⟩;obtain rfl:=hw1.symm;clear hw1))
  go_ret;exact⟨by rw[HV.o];rfl,rfl⟩
 by_cases h4:r=162
 ·subst h4
  have HV:ae (bk 162=21):=aa (by decide)
  clear h0 h1 h2 h3;go_enter Tryz.func154,Tryz.ntmps154;go_wp2_with (first|(go_at_call 178;(first|refine(ah _ _ _ _ (by omega)).mono ?_|refine(ai _ _ _ _ (by omega)).mono ?_);rintro e w1 ⟨rfl,hw1⟩;obtain rfl:=hw1.symm;clear hw1))
  go_ret;exact⟨by rw[HV.o];rfl,rfl⟩
 by_cases h5:r=176
 ·subst h5
  have HV:ae (bk 176=21):=aa (by decide)
  clear h0 h1 h2 h3 h4;go_enter Tryz.func154,Tryz.ntmps154;go_wp2_with (first|(go_at_call 178;(first|refine(ah _ _ _ _ (by omega)).mono ?_|refine(ai _ _ _ _ (by omega)).mono ?_);rintro e w1 ⟨rfl,hw1⟩;obtain rfl:=hw1.symm;clear hw1))
  go_ret;exact⟨by rw[HV.o];rfl,rfl⟩
 by_cases h6:r=163
 ·subst h6
  have HV:ae (bk 163=22):=aa (by decide)
  clear h0 h1 h2 h3 h4 h5;go_enter Tryz.func154,Tryz.ntmps154;go_wp2_with (first|(go_at_call 178;(first|refine(ah _ _ _ _ (by omega)).mono ?_|refine(ai _ _ _ _ (by omega)).mono ?_);rintro e w1 ⟨rfl,hw1⟩;obtain rfl:=hw1.symm;clear hw1))
  go_ret;exact⟨by rw[HV.o];rfl,rfl⟩
 by_cases h7:r=164
 ·subst h7
  have HV:ae (bk 164=22):=aa (by decide)
  clear h0 h1 h2 h3 h4 h5 h6;go_enter Tryz.func154,Tryz.ntmps154;go_wp2_with (first|(go_at_call 178;(first|refine(ah _ _ _ _ (by omega)).mono ?_|refine(ai _ _ _ _ (by omega)).mono ?_);rintro e w1 ⟨rfl,hw1⟩;obtain rfl:=hw1.symm;clear hw1))
  go_ret;exact⟨by rw[HV.o];rfl,rfl⟩
 by_cases h8:r=165
 ·subst h8
  have HV:ae (bk 165=22):=aa (by decide)
  clear h0 h1 h2 h3 h4 h5 h6 h7;go_enter Tryz.func154,Tryz.ntmps154;go_wp2_with (first|(go_at_call 178;(first|refine(ah _ _ _ _ (by omega)).mono ?_|refine(ai _ _ _ _ (by omega)).mono ?_);rintro e w1 ⟨rfl,hw1⟩;obtain rfl:=hw1.symm;clear hw1))
  go_ret;exact⟨by rw[HV.o];rfl,rfl⟩
 by_cases h9:r=177
 ·subst h9
  have HV:ae (bk 177=22):=aa (by decide)
  clear h0 h1 h2 h3 h4 h5 h6 h7 h8;go_enter Tryz.func154,Tryz.ntmps154;go_wp2_with (first|(go_at_call 178;(first|refine(ah _ _ _ _ (by omega)).mono ?_|refine(ai _ _ _ _ (by omega)).mono ?_);rintro e w1 ⟨rfl,hw1⟩;obtain rfl:=hw1.symm;clear hw1))
  go_ret;exact⟨by rw[HV.o];rfl,rfl⟩
 by_cases h10:r=171
 ·subst h10
  have HV:ae (bk 171=12):=aa (by decide)
  clear h0 h1 h2 h3 h4 h5 h6 h7 h8 h9;go_enter Tryz.func154,Tryz.ntmps154;go_wp2_with (first|(go_at_call 178;(first|refine(ah _ _ _ _ (by omega)).mono ?_|refine(ai _ _ _ _ (by omega)).mono ?_);rintro e w1 ⟨rfl,hw1⟩;obtain rfl:=hw1.symm;clear hw1))
  go_ret;exact⟨by rw[HV.o];rfl,rfl⟩
 by_cases h11:r=187
 ·subst h11
  have HV:ae (bk 187=12):=aa (by decide)
  clear h0 h1 h2 h3 h4 h5 h6 h7 h8 h9 h10;go_enter Tryz.func154,Tryz.ntmps154;go_wp2_with (first|(go_at_call 178;(first|refine(ah _ _ _ _ (by omega)).mono ?_|refine(ai _ _ _ _ (by omega)).mono ?_);rintro e w1 ⟨rfl,hw1⟩;obtain rfl:=hw1.symm;clear hw1))
  go_ret;exact⟨by rw[HV.o];rfl,rfl⟩
 by_cases h12:r=173
 ·subst h12
  have HV:ae (bk 173=17):=aa (by decide)
  clear h0 h1 h2 h3 h4 h5 h6 h7 h8 h9 h10 h11;go_enter Tryz.func154,Tryz.ntmps154;go_wp2_with (first|(go_at_call 178;(first|refine(ah _ _ _ _ (by omega)).mono ?_|refine(ai _ _ _ _ (by omega)).mono ?_);rintro e w1 ⟨rfl,hw1⟩;obtain rfl:=hw1.symm;clear hw1))
  go_ret;exact⟨by rw[HV.o];rfl,rfl⟩
 have HV:ae (bk r=0):=aa (by unfold bk;rw[if_neg h0,if_neg h1,if_neg h2,if_neg h3,if_neg h4,if_neg h5,if_neg h6,if_neg h7,if_neg h8,if_neg h9,if_neg h10,if_neg h11,if_neg h12])
 have b0:(r==133)=false:=beq_eq_false_iff_ne.2 h0;have b1:(r==160)=false:=beq_eq_false_iff_ne.2 h1;have b2:(r==161)=false:=beq_eq_false_iff_ne.2 h2;have b3:(r==191)=false:=beq_eq_false_iff_ne.2 h3;have b4:(r==162)=false:=beq_eq_false_iff_ne.2 h4;have b5:(r==176)=false:=beq_eq_false_iff_ne.2 h5;have b6:(r==163)=false:=beq_eq_false_iff_ne.2 h6;have b7:(r==164)=false:=beq_eq_false_iff_ne.2 h7;have b8:(r==165)=false:=beq_eq_false_iff_ne.2 h8;have b9:(r==177)=false:=beq_eq_false_iff_ne.2 h9;have b10:(r==171)=false:=beq_eq_false_iff_ne.2 h10;have b11:(r==187)=false:=beq_eq_false_iff_ne.2 h11;have b12:(r==173)=false:=beq_eq_false_iff_ne.2 h12;go_enter Tryz.func154,Tryz.ntmps154;go_wp2_with (first|(go_at_call 178;(first|refine(ah _ _ _ _ (by omega)).mono ?_|refine(ai _ _ _ _ (by omega)).mono ?_);rintro e w1 ⟨rfl,hw1⟩;obtain rfl:=hw1.symm;clear hw1))
 go_ret;exact⟨by rw[HV.o];rfl,rfl⟩
def bz(r:Int):Int:=
 if r<=879 then 8 else if 1425<=r/\r<=1469 then 8 else if 1632<=r/\r<=1641 then 20 else 0
theorem qC(r:Int)(w:sR):sU Tryz.prog 155 #[.int .i32 r] w fun e w'=>e=.returned (.int .i64 (bz r))/\w'=w:=by
 by_cases h0:r<=879
 ·have HV:ae (bz r=8):=aa (by unfold bz;rw[if_pos h0])
  go_enter Tryz.func155,Tryz.ntmps155;go_wp2_with (first|(go_at_call 178;(first|refine(ah _ _ _ _ (by omega)).mono ?_|refine(ai _ _ _ _ (by omega)).mono ?_);rintro e w1 ⟨rfl,hw1⟩;obtain rfl:=hw1.symm;clear hw1))
  go_ret;exact⟨by rw[HV.o];rfl,rfl⟩
 by_cases h1:1425<=r/\r<=1469
 ·have HV:ae (bz r=8):=aa (by unfold bz;rw[if_neg h0,if_pos h1])
  obtain⟨u1,v1⟩:=h1;go_enter Tryz.func155,Tryz.ntmps155;go_wp2_with (first|(go_at_call 178;(first|refine(ah _ _ _ _ (by omega)).mono ?_|refine(ai _ _ _ _ (by omega)).mono ?_);rintro e w1 ⟨rfl,hw1⟩;obtain rfl:=hw1.symm;clear hw1))
  go_ret;exact⟨by rw[HV.o];rfl,rfl⟩
 by_cases h2:1632<=r/\r<=1641
 ·have HV:ae (bz r=20):=aa (by unfold bz;rw[if_neg h0,if_neg h1,if_pos h2])
  obtain⟨u2,v2⟩:=h2;go_enter Tryz.func155,Tryz.ntmps155;go_wp2_with (first|(go_at_call 178;(first|refine(ah _ _ _ _ (by omega)).mono ?_|refine(ai _ _ _ _ (by omega)).mono ?_);rintro e w1 ⟨rfl,hw1⟩;obtain rfl:=hw1.symm;clear hw1))
  go_ret;exact⟨by rw[HV.o];rfl,rfl⟩
 have HV:ae (bz r=0):=aa (by unfold bz;rw[if_neg h0,if_neg h1,if_neg h2])
 go_enter Tryz.func155,Tryz.ntmps155;go_wp2_with (first|(go_at_call 178;(first|refine(ah _ _ _ _ (by omega)).mono ?_|refine(ai _ _ _ _ (by omega)).mono ?_);rintro e w1 ⟨rfl,hw1⟩;obtain rfl:=hw1.symm;clear hw1))
 go_ret;exact⟨by rw[HV.o];rfl,rfl⟩
def aT(r:Int):Int:=
 if r=8199 then 7 else if r=8239 then 7 else if r=8203 then 5 else if r=8204 then 8 else if r=8205 then 8 else if r=8208 then 17 else if r=8211 then 17 else if r=8212 then 18 else if r=8216 then 12 else if r=8217 then 12 else if r=8220 then 12 else if r=8221 then 12 else if r=8218 then 9 else if r=8230 then 19 else if r=8232 then 1 else if r=8233 then 1 else if r=8240 then 21 else if r=8288 then 6 else if r=8364 then 22 else 0
theorem zcS(r:Int)(w:sR):sU Tryz.prog 156 #[.int .i32 r] w fun e w'=>e=.returned (.int .i64 (aT r))/\w'=w:=by
 by_cases h0:r=8199
 ·subst h0
  have HV:ae (aT 8199=7):=aa (by decide)
  skip
  go_enter Tryz.func156,Tryz.ntmps156;go_wp2_with (first|(go_at_call 178;(first|refine(ah _ _ _ _ (by omega)).mono ?_|refine(ai _ _ _ _ (by omega)).mono ?_);rintro e w1 ⟨rfl,hw1⟩;obtain rfl:=hw1.symm;clear hw1))
  go_ret;exact⟨by rw[HV.o];rfl,rfl⟩
 by_cases h1:r=8239
 ·subst h1
  have HV:ae (aT 8239=7):=aa (by decide)
  clear h0;go_enter Tryz.func156,Tryz.ntmps156;go_wp2_with (first|(go_at_call 178;(first|refine(ah _ _ _ _ (by omega)).mono ?_|refine(ai _ _ _ _ (by omega)).mono ?_);rintro e w1 ⟨rfl,hw1⟩;obtain rfl:=hw1.symm;clear hw1))
  go_ret;exact⟨by rw[HV.o];rfl,rfl⟩
 by_cases h2:r=8203
 ·subst h2
  have HV:ae (aT 8203=5):=aa (by decide)
  clear h0 h1;go_enter Tryz.func156,Tryz.ntmps156;go_wp2_with (first|(go_at_call 178;(first|refine(ah _ _ _ _ (by omega)).mono ?_|refine(ai _ _ _ _ (by omega)).mono ?_);rintro e w1 ⟨rfl,hw1⟩;obtain rfl:=hw1.symm;clear hw1))
  go_ret;exact⟨by rw[HV.o];rfl,rfl⟩
 by_cases h3:r=8204
 ·subst h3
  have HV:ae (aT 8204=8):=aa (by decide)
  clear h0 h1 h2;go_enter Tryz.func156,Tryz.ntmps156;go_wp2_with (first|(go_at_call 178;(first|refine(ah _ _ _ _ (by omega)).mono ?_|refine(ai _ _ _ _ (by omega)).mono ?_);rintro e w1 ⟨rfl,hw1⟩;obtain rfl:=hw1.symm;clear hw1))
  go_ret;exact⟨by rw[HV.o];rfl,rfl⟩
 by_cases h4:r=8205
 ·subst h4
  have HV:ae (aT 8205=8):=aa (by decide)
  clear h0 h1 h2 h3;go_enter Tryz.func156,Tryz.ntmps156;go_wp2_with (first|(go_at_call 178;(first|refine(ah _ _ _ _ (by omega)).mono ?_|refine(ai _ _ _ _ (by omega)).mono ?_);rintro e w1 ⟨rfl,hw1⟩;obtain rfl:=hw1.symm;clear hw1))
  go_ret;exact⟨by rw[HV.o];rfl,rfl⟩
 by_cases h5:r=8208
 ·subst h5
  have HV:ae (aT 8208=17):=aa (by decide)
  clear h0 h1 h2 h3 h4;go_enter Tryz.func156,Tryz.ntmps156;go_wp2_with (first|(go_at_call 178;(first|refine(ah _ _ _ _ (by omega)).mono ?_|refine(ai _ _ _ _ (by omega)).mono ?_);rintro e w1 ⟨rfl,hw1⟩;obtain rfl:=hw1.symm;clear hw1))
  go_ret;exact⟨by rw[HV.o];rfl,rfl⟩
 by_cases h6:r=8211
 ·subst h6
  have HV:ae (aT 8211=17):=aa (by decide)
  clear h0 h1 h2 h3 h4 h5;go_enter Tryz.func156,Tryz.ntmps156;go_wp2_with (first|(go_at_call 178;(first|refine(ah _ _ _ _ (by omega)).mono ?_|refine(ai _ _ _ _ (by omega)).mono ?_);rintro e w1 ⟨rfl,hw1⟩;obtain rfl:=hw1.symm;clear hw1))
  go_ret;exact⟨by rw[HV.o];rfl,rfl⟩
 by_cases h7:r=8212
 ·subst h7
  have HV:ae (aT 8212=18):=aa (by decide)
  clear h0 h1 h2 h3 h4 h5 h6;go_enter Tryz.func156,Tryz.ntmps156;go_wp2_with (first|(go_at_call 178;(first|refine(ah _ _ _ _ (by omega)).mono ?_|refine(ai _ _ _ _ (by omega)).mono ?_);rintro e w1 ⟨rfl,hw1⟩;obtain rfl:=hw1.symm;clear hw1))
  go_ret;exact⟨by rw[HV.o];rfl,rfl⟩
 by_cases h8:r=8216
 ·subst h8
  have HV:ae (aT 8216=12):=aa (by decide)
  clear h0 h1 h2 h3 h4 h5 h6 h7;go_enter Tryz.func156,Tryz.ntmps156;go_wp2_with (first|(go_at_call 178;(first|refine(ah _ _ _ _ (by omega)).mono ?_|refine(ai _ _ _ _ (by omega)).mono ?_);rintro e w1 ⟨rfl,hw1⟩;obtain rfl:=hw1.symm;clear hw1))
  go_ret;exact⟨by rw[HV.o];rfl,rfl⟩
 by_cases h9:r=8217
 ·subst h9
  have HV:ae (aT 8217=12):=aa (by decide)
  clear h0 h1 h2 h3 h4 h5 h6 h7 h8;go_enter Tryz.func156,Tryz.ntmps156;go_wp2_with (first|(go_at_call 178;(first|refine(ah _ _ _ _ (by omega)).mono ?_|refine(ai _ _ _ _ (by omega)).mono ?_);rintro e w1 ⟨rfl,hw1⟩;obtain rfl:=hw1.symm;clear hw1))
  go_ret;exact⟨by rw[HV.o];rfl,rfl⟩
 by_cases h10:r=8220
 ·subst h10
  have HV:ae (aT 8220=12):=aa (by decide)
  clear h0 h1 h2 h3 h4 h5 h6 h7 h8 h9;go_enter Tryz.func156,Tryz.ntmps156;go_wp2_with (first|(go_at_call 178;(first|refine(ah _ _ _ _ (by omega)).mono ?_|refine(ai _ _ _ _ (by omega)).mono ?_);rintro e w1 ⟨rfl,hw1⟩;obtain rfl:=hw1.symm;clear hw1))
  go_ret;exact⟨by rw[HV.o];rfl,rfl⟩
 by_cases h11:r=8221
 ·subst h11
  have HV:ae (aT 8221=12):=aa (by decide)
  clear h0 h1 h2 h3 h4 h5 h6 h7 h8 h9 h10;go_enter Tryz.func156,Tryz.ntmps156;go_wp2_with (first|(go_at_call 178;(first|refine(ah _ _ _ _ (by omega)).mono ?_|refine(ai _ _ _ _ (by omega)).mono ?_);rintro e w1 ⟨rfl,hw1⟩;obtain rfl:=hw1.symm;clear hw1))
  go_ret;exact⟨by rw[HV.o];rfl,rfl⟩
 by_cases h12:r=8218
 ·subst h12
  have HV:ae (aT 8218=9):=aa (by decide)
  clear h0 h1 h2 h3 h4 h5 h6 h7 h8 h9 h10 h11;go_enter Tryz.func156,Tryz.ntmps156;go_wp2_with (first|(go_at_call 178;(first|refine(ah _ _ _ _ (by omega)).mono ?_|refine(ai _ _ _ _ (by omega)).mono ?_);rintro e w1 ⟨rfl,hw1⟩;obtain rfl:=hw1.symm;clear hw1))
  go_ret;exact⟨by rw[HV.o];rfl,rfl⟩
 by_cases h13:r=8230
 ·subst h13
  have HV:ae (aT 8230=19):=aa (by decide)
  clear h0 h1 h2 h3 h4 h5 h6 h7 h8 h9 h10 h11 h12;go_enter Tryz.func156,Tryz.ntmps156;go_wp2_with (first|(go_at_call 178;(first|refine(ah _ _ _ _ (by omega)).mono ?_|refine(ai _ _ _ _ (by omega)).mono ?_);rintro e w1 ⟨rfl,hw1⟩;obtain rfl:=hw1.symm;clear hw1))
  go_ret;exact⟨by rw[HV.o];rfl,rfl⟩
 by_cases h14:r=8232
 ·subst h14
  have HV:ae (aT 8232=1):=aa (by decide)
  clear h0 h1 h2 h3 h4 h5 h6 h7 h8 h9 h10 h11 h12 h13;go_enter Tryz.func156,Tryz.ntmps156;go_wp2_with (first|(go_at_call 178;(first|refine(ah _ _ _ _ (by omega)).mono ?_|refine(ai _ _ _ _ (by omega)).mono ?_);rintro e w1 ⟨rfl,hw1⟩;obtain rfl:=hw1.symm;clear hw1))
  go_ret;exact⟨by rw[HV.o];rfl,rfl⟩
 by_cases h15:r=8233
 ·subst h15
  have HV:ae (aT 8233=1):=aa (by decide)
  clear h0 h1 h2 h3 h4 h5 h6 h7 h8 h9 h10 h11 h12 h13 h14;go_enter Tryz.func156,Tryz.ntmps156;go_wp2_with (first|(go_at_call 178;(first|refine(ah _ _ _ _ (by omega)).mono ?_|refine(ai _ _ _ _ (by omega)).mono ?_);rintro e w1 ⟨rfl,hw1⟩;obtain rfl:=hw1.symm;clear hw1))
  go_ret;exact⟨by rw[HV.o];rfl,rfl⟩
 by_cases h16:r=8240
 ·subst h16
  have HV:ae (aT 8240=21):=aa (by decide)
  clear h0 h1 h2 h3 h4 h5 h6 h7 h8 h9 h10 h11 h12 h13 h14 h15;go_enter Tryz.func156,Tryz.ntmps156;go_wp2_with (first|(go_at_call 178;(first|refine(ah _ _ _ _ (by omega)).mono ?_|refine(ai _ _ _ _ (by omega)).mono ?_);rintro e w1 ⟨rfl,hw1⟩;obtain rfl:=hw1.symm;clear hw1))
  go_ret;exact⟨by rw[HV.o];rfl,rfl⟩
 by_cases h17:r=8288
 ·subst h17
  have HV:ae (aT 8288=6):=aa (by decide)
  clear h0 h1 h2 h3 h4 h5 h6 h7 h8 h9 h10 h11 h12 h13 h14 h15 h16;go_enter Tryz.func156,Tryz.ntmps156;go_wp2_with (first|(go_at_call 178;(first|refine(ah _ _ _ _ (by omega)).mono ?_|refine(ai _ _ _ _ (by omega)).mono ?_);rintro e w1 ⟨rfl,hw1⟩;obtain rfl:=hw1.symm;clear hw1))
  go_ret;exact⟨by rw[HV.o];rfl,rfl⟩
 by_cases h18:r=8364
 ·subst h18
  have HV:ae (aT 8364=22):=aa (by decide)
  clear h0 h1 h2 h3 h4 h5 h6 h7 h8 h9 h10 h11 h12 h13 h14 h15 h16 h17;go_enter Tryz.func156,Tryz.ntmps156;go_wp2_with (first|(go_at_call 178;(first|refine(ah _ _ _ _ (by omega)).mono ?_|refine(ai _ _ _ _ (by omega)).mono ?_);rintro e w1 ⟨rfl,hw1⟩;obtain rfl:=hw1.symm;clear hw1))
  go_ret;exact⟨by rw[HV.o];rfl,rfl⟩
 have HV:ae (aT r=0):=aa (by unfold aT;rw[if_neg h0,if_neg h1,if_neg h2,if_neg h3,if_neg h4,if_neg h5,if_neg h6,if_neg h7,if_neg h8,if_neg h9,if_neg h10,if_neg h11,if_neg h12,if_neg h13,if_neg h14,if_neg h15,if_neg h16,if_neg h17,if_neg h18])
 have b0:(r==8199)=false:=beq_eq_false_iff_ne.2 h0;have b1:(r==8239)=false:=beq_eq_false_iff_ne.2 h1;have b2:(r==8203)=false:=beq_eq_false_iff_ne.2 h2;have b3:(r==8204)=false:=beq_eq_false_iff_ne.2 h3;have b4:(r==8205)=false:=beq_eq_false_iff_ne.2 h4;have b5:(r==8208)=false:=beq_eq_false_iff_ne.2 h5;have b6:(r==8211)=false:=beq_eq_false_iff_ne.2 h6;have b7:(r==8212)=false:=beq_eq_false_iff_ne.2 h7;have b8:(r==8216)=false:=beq_eq_false_iff_ne.2 h8;have b9:(r==8217)=false:=beq_eq_false_iff_ne.2 h9;have b10:(r==8220)=false:=beq_eq_false_iff_ne.2 h10;have b11:(r==8221)=false:=beq_eq_false_iff_ne.2 h11;have b12:(r==8218)=false:=beq_eq_false_iff_ne.2 h12;have b13:(r==8230)=false:=beq_eq_false_iff_ne.2 h13;have b14:(r==8232)=false:=beq_eq_false_iff_ne.2 h14;have b15:(r==8233)=false:=beq_eq_false_iff_ne.2 h15;have b16:(r==8240)=false:=beq_eq_false_iff_ne.2 h16;have b17:(r==8288)=false:=beq_eq_false_iff_ne.2 h17;have b18:(r==8364)=false:=beq_eq_false_iff_ne.2 h18;go_enter Tryz.func156,Tryz.ntmps156;go_wp2_with (first|(go_at_call 178;(first|refine(ah _ _ _ _ (by omega)).mono ?_|refine(ai _ _ _ _ (by omega)).mono ?_);rintro e w1 ⟨rfl,hw1⟩;obtain rfl:=hw1.symm;clear hw1))
 go_ret;exact⟨by rw[HV.o];rfl,rfl⟩
def bh(r:Int):Int:=
 if 12353<=r/\r<=12438 then 23 else if 12449<=r/\r<=12538 then 23 else if r=12289 then 11 else if r=12290 then 11 else if r=12297 then 11 else if r=12299 then 11 else if r=12301 then 11 else if r=12296 then 9 else if r=12298 then 9 else if r=12300 then 9 else if r=12293 then 24 else if r=12316 then 24 else if 12443<=r/\r<=12446 then 24 else if 12539<=r/\r<=12542 then 24 else if r=12441 then 8 else if r=12442 then 8 else 0
theorem zfW(r:Int)(w:sR):sU Tryz.prog 157 #[.int .i32 r] w fun e w'=>e=.returned (.int .i64 (bh r))/\w'=w:=by
 by_cases h0:12353<=r/\r<=12438
 ·have HV:ae (bh r=23):=aa (by unfold bh;rw[if_pos h0])
  obtain⟨u0,v0⟩:=h0;go_enter Tryz.func157,Tryz.ntmps157;go_wp2_with (first|(go_at_call 178;(first|refine(ah _ _ _ _ (by omega)).mono ?_|refine(ai _ _ _ _ (by omega)).mono ?_);rintro e w1 ⟨rfl,hw1⟩;obtain rfl:=hw1.symm;clear hw1))
  go_ret;exact⟨by rw[HV.o];rfl,rfl⟩
 by_cases h1:12449<=r/\r<=12538
 ·have HV:ae (bh r=23):=aa (by unfold bh;rw[if_neg h0,if_pos h1])
  obtain⟨u1,v1⟩:=h1;go_enter Tryz.func157,Tryz.ntmps157;go_wp2_with (first|(go_at_call 178;(first|refine(ah _ _ _ _ (by omega)).mono ?_|refine(ai _ _ _ _ (by omega)).mono ?_);rintro e w1 ⟨rfl,hw1⟩;obtain rfl:=hw1.symm;clear hw1))
  go_ret;exact⟨by rw[HV.o];rfl,rfl⟩
 by_cases h2:r=12289
 ·subst h2
  have HV:ae (bh 12289=11):=aa (by decide)
  clear h0 h1;go_enter Tryz.func157,Tryz.ntmps157;go_wp2_with (first|(go_at_call 178;(first|refine(ah _ _ _ _ (by omega)).mono ?_|refine(ai _ _ _ _ (by omega)).mono ?_);rintro e w1 ⟨rfl,hw1⟩;obtain rfl:=hw1.symm;clear hw1))
  go_ret;exact⟨by rw[HV.o];rfl,rfl⟩
 by_cases h3:r=12290
 ·subst h3
  have HV:ae (bh 12290=11):=aa (by decide)
  clear h0 h1 h2;go_enter Tryz.func157,Tryz.ntmps157;go_wp2_with (first|(go_at_call 178;(first|refine(ah _ _ _ _ (by omega)).mono ?_|refine(ai _ _ _ _ (by omega)).mono ?_);rintro e w1 ⟨rfl,hw1⟩;obtain rfl:=hw1.symm;clear hw1))
  go_ret;exact⟨by rw[HV.o];rfl,rfl⟩
 by_cases h4:r=12297
 ·subst h4
  have HV:ae (bh 12297=11):=aa (by decide)
  clear h0 h1 h2 h3;go_enter Tryz.func157,Tryz.ntmps157;go_wp2_with (first|(go_at_call 178;(first|refine(ah _ _ _ _ (by omega)).mono ?_|refine(ai _ _ _ _ (by omega)).mono ?_);rintro e w1 ⟨rfl,hw1⟩;obtain rfl:=hw1.symm;clear hw1))
  go_ret;exact⟨by rw[HV.o];rfl,rfl⟩
 by_cases h5:r=12299
 ·subst h5
  have HV:ae (bh 12299=11):=aa (by decide)
  clear h0 h1 h2 h3 h4;go_enter Tryz.func157,Tryz.ntmps157;go_wp2_with (first|(go_at_call 178;(first|refine(ah _ _ _ _ (by omega)).mono ?_|refine(ai _ _ _ _ (by omega)).mono ?_);rintro e w1 ⟨rfl,hw1⟩;obtain rfl:=hw1.symm;clear hw1))
  go_ret;exact⟨by rw[HV.o];rfl,rfl⟩
 by_cases h6:r=12301
 ·subst h6
  have HV:ae (bh 12301=11):=aa (by decide)
  clear h0 h1 h2 h3 h4 h5;go_enter Tryz.func157,Tryz.ntmps157;go_wp2_with (first|(go_at_call 178;(first|refine(ah _ _ _ _ (by omega)).mono ?_|refine(ai _ _ _ _ (by omega)).mono ?_);rintro e w1 ⟨rfl,hw1⟩;obtain rfl:=hw1.symm;clear hw1))
  go_ret;exact⟨by rw[HV.o];rfl,rfl⟩
 by_cases h7:r=12296
 ·subst h7
  have HV:ae (bh 12296=9):=aa (by decide)
  clear h0 h1 h2 h3 h4 h5 h6;go_enter Tryz.func157,Tryz.ntmps157;go_wp2_with (first|(go_at_call 178;(first|refine(ah _ _ _ _ (by omega)).mono ?_|refine(ai _ _ _ _ (by omega)).mono ?_);rintro e w1 ⟨rfl,hw1⟩;obtain rfl:=hw1.symm;clear hw1))
  go_ret;exact⟨by rw[HV.o];rfl,rfl⟩
 by_cases h8:r=12298
 ·subst h8
  have HV:ae (bh 12298=9):=aa (by decide)
  clear h0 h1 h2 h3 h4 h5 h6 h7;go_enter Tryz.func157,Tryz.ntmps157;go_wp2_with (first|(go_at_call 178;(first|refine(ah _ _ _ _ (by omega)).mono ?_|refine(ai _ _ _ _ (by omega)).mono ?_);rintro e w1 ⟨rfl,hw1⟩;obtain rfl:=hw1.symm;clear hw1))
  go_ret;exact⟨by rw[HV.o];rfl,rfl⟩
 by_cases h9:r=12300
 ·subst h9
  have HV:ae (bh 12300=9):=aa (by decide)
  clear h0 h1 h2 h3 h4 h5 h6 h7 h8;go_enter Tryz.func157,Tryz.ntmps157;go_wp2_with (first|(go_at_call 178;(first|refine(ah _ _ _ _ (by omega)).mono ?_|refine(ai _ _ _ _ (by omega)).mono ?_);rintro e w1 ⟨rfl,hw1⟩;obtain rfl:=hw1.symm;clear hw1))
  go_ret;exact⟨by rw[HV.o];rfl,rfl⟩
 by_cases h10:r=12293
 ·subst h10
  have HV:ae (bh 12293=24):=aa (by decide)
  clear h0 h1 h2 h3 h4 h5 h6 h7 h8 h9;go_enter Tryz.func157,Tryz.ntmps157;go_wp2_with (first|(go_at_call 178;(first|refine(ah _ _ _ _ (by omega)).mono ?_|refine(ai _ _ _ _ (by omega)).mono ?_);rintro e w1 ⟨rfl,hw1⟩;obtain rfl:=hw1.symm;clear hw1))
  go_ret;exact⟨by rw[HV.o];rfl,rfl⟩
 by_cases h11:r=12316
 ·subst h11
  have HV:ae (bh 12316=24):=aa (by decide)
  clear h0 h1 h2 h3 h4 h5 h6 h7 h8 h9 h10;go_enter Tryz.func157,Tryz.ntmps157;go_wp2_with (first|(go_at_call 178;(first|refine(ah _ _ _ _ (by omega)).mono ?_|refine(ai _ _ _ _ (by omega)).mono ?_);rintro e w1 ⟨rfl,hw1⟩;obtain rfl:=hw1.symm;clear hw1))
  go_ret;exact⟨by rw[HV.o];rfl,rfl⟩
 by_cases h12:12443<=r/\r<=12446
 ·have HV:ae (bh r=24):=aa (by unfold bh;rw[if_neg h0,if_neg h1,if_neg h2,if_neg h3,if_neg h4,if_neg h5,if_neg h6,if_neg h7,if_neg h8,if_neg h9,if_neg h10,if_neg h11,if_pos h12])
  have b2:(r==12289)=false:=beq_eq_false_iff_ne.2 h2;have b3:(r==12290)=false:=beq_eq_false_iff_ne.2 h3;have b4:(r==12297)=false:=beq_eq_false_iff_ne.2 h4;have b5:(r==12299)=false:=beq_eq_false_iff_ne.2 h5;have b6:(r==12301)=false:=beq_eq_false_iff_ne.2 h6;have b7:(r==12296)=false:=beq_eq_false_iff_ne.2 h7;have b8:(r==12298)=false:=beq_eq_false_iff_ne.2 h8;have b9:(r==12300)=false:=beq_eq_false_iff_ne.2 h9;have b10:(r==12293)=false:=beq_eq_false_iff_ne.2 h10;have b11:(r==12316)=false:=beq_eq_false_iff_ne.2 h11;obtain⟨u12,v12⟩:=h12;go_enter Tryz.func157,Tryz.ntmps157;go_wp2_with (first|(go_at_call 178;(first|refine(ah _ _ _ _ (by omega)).mono ?_|refine(ai _ _ _ _ (by omega)).mono ?_);rintro e w1 ⟨rfl,hw1⟩;obtain rfl:=hw1.symm;clear hw1))
  go_ret;exact⟨by rw[HV.o];rfl,rfl⟩
 by_cases h13:12539<=r/\r<=12542
 ·have HV:ae (bh r=24):=aa (by unfold bh;rw[if_neg h0,if_neg h1,if_neg h2,if_neg h3,if_neg h4,if_neg h5,if_neg h6,if_neg h7,if_neg h8,if_neg h9,if_neg h10,if_neg h11,if_neg h12,if_pos h13])
  have b2:(r==12289)=false:=beq_eq_false_iff_ne.2 h2;have b3:(r==12290)=false:=beq_eq_false_iff_ne.2 h3;have b4:(r==12297)=false:=beq_eq_false_iff_ne.2 h4;have b5:(r==12299)=false:=beq_eq_false_iff_ne.2 h5;have b6:(r==12301)=false:=beq_eq_false_iff_ne.2 h6;have b7:(r==12296)=false:=beq_eq_false_iff_ne.2 h7;have b8:(r==12298)=false:=beq_eq_false_iff_ne.2 h8;have b9:(r==12300)=false:=beq_eq_false_iff_ne.2 h9;have b10:(r==12293)=false:=beq_eq_false_iff_ne.2 h10;have b11:(r==12316)=false:=beq_eq_false_iff_ne.2 h11;obtain⟨u13,v13⟩:=h13;go_enter Tryz.func157,Tryz.ntmps157;go_wp2_with (first|(go_at_call 178;(first|refine(ah _ _ _ _ (by omega)).mono ?_|refine(ai _ _ _ _ (by omega)).mono ?_);rintro e w1 ⟨rfl,hw1⟩;obtain rfl:=hw1.symm;clear hw1))
  go_ret;exact⟨by rw[HV.o];rfl,rfl⟩
 by_cases h14:r=12441
 ·subst h14
  have HV:ae (bh 12441=8):=aa (by decide)
  clear h0 h1 h2 h3 h4 h5 h6 h7 h8 h9 h10 h11 h12 h13;go_enter Tryz.func157,Tryz.ntmps157;go_wp2_with (first|(go_at_call 178;(first|refine(ah _ _ _ _ (by omega)).mono ?_|refine(ai _ _ _ _ (by omega)).mono ?_);rintro e w1 ⟨rfl,hw1⟩;obtain rfl:=hw1.symm;clear hw1))
  go_ret;exact⟨by rw[HV.o];rfl,rfl⟩
 by_cases h15:r=12442
 ·subst h15
  have HV:ae (bh 12442=8):=aa (by decide)
  clear h0 h1 h2 h3 h4 h5 h6 h7 h8 h9 h10 h11 h12 h13 h14;go_enter Tryz.func157,Tryz.ntmps157;go_wp2_with (first|(go_at_call 178;(first|refine(ah _ _ _ _ (by omega)).mono ?_|refine(ai _ _ _ _ (by omega)).mono ?_);rintro e w1 ⟨rfl,hw1⟩;obtain rfl:=hw1.symm;clear hw1))
  go_ret;exact⟨by rw[HV.o];rfl,rfl⟩
 have HV:ae (bh r=0):=aa (by unfold bh;rw[if_neg h0,if_neg h1,if_neg h2,if_neg h3,if_neg h4,if_neg h5,if_neg h6,if_neg h7,if_neg h8,if_neg h9,if_neg h10,if_neg h11,if_neg h12,if_neg h13,if_neg h14,if_neg h15])
 have b2:(r==12289)=false:=beq_eq_false_iff_ne.2 h2;have b3:(r==12290)=false:=beq_eq_false_iff_ne.2 h3;have b4:(r==12297)=false:=beq_eq_false_iff_ne.2 h4;have b5:(r==12299)=false:=beq_eq_false_iff_ne.2 h5;have b6:(r==12301)=false:=beq_eq_false_iff_ne.2 h6;have b7:(r==12296)=false:=beq_eq_false_iff_ne.2 h7;have b8:(r==12298)=false:=beq_eq_false_iff_ne.2 h8;have b9:(r==12300)=false:=beq_eq_false_iff_ne.2 h9;have b10:(r==12293)=false:=beq_eq_false_iff_ne.2 h10;have b11:(r==12316)=false:=beq_eq_false_iff_ne.2 h11;have b14:(r==12441)=false:=beq_eq_false_iff_ne.2 h14;have b15:(r==12442)=false:=beq_eq_false_iff_ne.2 h15;go_enter Tryz.func157,Tryz.ntmps157;go_wp2_with (first|(go_at_call 178;(first|refine(ah _ _ _ _ (by omega)).mono ?_|refine(ai _ _ _ _ (by omega)).mono ?_);rintro e w1 ⟨rfl,hw1⟩;obtain rfl:=hw1.symm;clear hw1))
 go_ret;exact⟨by rw[HV.o];rfl,rfl⟩
def bH(r:Int):Int:=
 if 13312<=r/\r<=19903 then 23 else if 19968<=r/\r<=40959 then 23 else if 127744<=r/\r<=127994 then 23 else if 128000<=r/\r<=128591 then 23 else if 65024<=r/\r<=65039 then 8 else if 127995<=r/\r<=127999 then 8 else if r=65279 then 6 else if 127462<=r/\r<=127487 then 25 else 0
theorem zfY(r:Int)(w:sR):sU Tryz.prog 158 #[.int .i32 r] w fun e w'=>e=.returned (.int .i64 (bH r))/\w'=w:=by
 by_cases h0:13312<=r/\r<=19903
 ·have HV:ae (bH r=23):=aa (by unfold bH;rw[if_pos h0])
  obtain⟨u0,v0⟩:=h0;go_enter Tryz.func158,Tryz.ntmps158;go_wp2_with (first|(go_at_call 178;(first|refine(ah _ _ _ _ (by omega)).mono ?_|refine(ai _ _ _ _ (by omega)).mono ?_);rintro e w1 ⟨rfl,hw1⟩;obtain rfl:=hw1.symm;clear hw1))
  go_ret;exact⟨by rw[HV.o];rfl,rfl⟩
 by_cases h1:19968<=r/\r<=40959
 ·have HV:ae (bH r=23):=aa (by unfold bH;rw[if_neg h0,if_pos h1])
  obtain⟨u1,v1⟩:=h1;go_enter Tryz.func158,Tryz.ntmps158;go_wp2_with (first|(go_at_call 178;(first|refine(ah _ _ _ _ (by omega)).mono ?_|refine(ai _ _ _ _ (by omega)).mono ?_);rintro e w1 ⟨rfl,hw1⟩;obtain rfl:=hw1.symm;clear hw1))
  go_ret;exact⟨by rw[HV.o];rfl,rfl⟩
 by_cases h2:127744<=r/\r<=127994
 ·have HV:ae (bH r=23):=aa (by unfold bH;rw[if_neg h0,if_neg h1,if_pos h2])
  obtain⟨u2,v2⟩:=h2;go_enter Tryz.func158,Tryz.ntmps158;go_wp2_with (first|(go_at_call 178;(first|refine(ah _ _ _ _ (by omega)).mono ?_|refine(ai _ _ _ _ (by omega)).mono ?_);rintro e w1 ⟨rfl,hw1⟩;obtain rfl:=hw1.symm;clear hw1))
  go_ret;exact⟨by rw[HV.o];rfl,rfl⟩
 by_cases h3:128000<=r/\r<=128591
 ·have HV:ae (bH r=23):=aa (by unfold bH;rw[if_neg h0,if_neg h1,if_neg h2,if_pos h3])
  obtain⟨u3,v3⟩:=h3;go_enter Tryz.func158,Tryz.ntmps158;go_wp2_with (first|(go_at_call 178;(first|refine(ah _ _ _ _ (by omega)).mono ?_|refine(ai _ _ _ _ (by omega)).mono ?_);rintro e w1 ⟨rfl,hw1⟩;obtain rfl:=hw1.symm;clear hw1))
  go_ret;exact⟨by rw[HV.o];rfl,rfl⟩
 by_cases h4:65024<=r/\r<=65039
 ·have HV:ae (bH r=8):=aa (by unfold bH;rw[if_neg h0,if_neg h1,if_neg h2,if_neg h3,if_pos h4])
  obtain⟨u4,v4⟩:=h4;go_enter Tryz.func158,Tryz.ntmps158;go_wp2_with (first|(go_at_call 178;(first|refine(ah _ _ _ _ (by omega)).mono ?_|refine(ai _ _ _ _ (by omega)).mono ?_);rintro e w1 ⟨rfl,hw1⟩;obtain rfl:=hw1.symm;clear hw1))
  go_ret;exact⟨by rw[HV.o];rfl,rfl⟩
 by_cases h5:127995<=r/\r<=127999
 ·have HV:ae (bH r=8):=aa (by unfold bH;rw[if_neg h0,if_neg h1,if_neg h2,if_neg h3,if_neg h4,if_pos h5])
  obtain⟨u5,v5⟩:=h5;go_enter Tryz.func158,Tryz.ntmps158;go_wp2_with (first|(go_at_call 178;(first|refine(ah _ _ _ _ (by omega)).mono ?_|refine(ai _ _ _ _ (by omega)).mono ?_);rintro e w1 ⟨rfl,hw1⟩;obtain rfl:=hw1.symm;clear hw1))
  go_ret;exact⟨by rw[HV.o];rfl,rfl⟩
 by_cases h6:r=65279
 ·subst h6
  have HV:ae (bH 65279=6):=aa (by decide)
  clear h0 h1 h2 h3 h4 h5;go_enter Tryz.func158,Tryz.ntmps158;go_wp2_with (first|(go_at_call 178;(first|refine(ah _ _ _ _ (by omega)).mono ?_|refine(ai _ _ _ _ (by omega)).mono ?_);rintro e w1 ⟨rfl,hw1⟩;obtain rfl:=hw1.symm;clear hw1))
  go_ret;exact⟨by rw[HV.o];rfl,rfl⟩
 by_cases h7:127462<=r/\r<=127487
 ·have HV:ae (bH r=25):=aa (by unfold bH;rw[if_neg h0,if_neg h1,if_neg h2,if_neg h3,if_neg h4,if_neg h5,if_neg h6,if_pos h7])
  have b6:(r==65279)=false:=beq_eq_false_iff_ne.2 h6;obtain⟨u7,v7⟩:=h7;go_enter Tryz.func158,Tryz.ntmps158;go_wp2_with (first|(go_at_call 178;(first|refine(ah _ _ _ _ (by omega)).mono ?_|refine(ai _ _ _ _ (by omega)).mono ?_);rintro e w1 ⟨rfl,hw1⟩;obtain rfl:=hw1.symm;clear hw1))
  go_ret;exact⟨by rw[HV.o];rfl,rfl⟩
 have HV:ae (bH r=0):=aa (by unfold bH;rw[if_neg h0,if_neg h1,if_neg h2,if_neg h3,if_neg h4,if_neg h5,if_neg h6,if_neg h7])
 have b6:(r==65279)=false:=beq_eq_false_iff_ne.2 h6;go_enter Tryz.func158,Tryz.ntmps158;go_wp2_with (first|(go_at_call 178;(first|refine(ah _ _ _ _ (by omega)).mono ?_|refine(ai _ _ _ _ (by omega)).mono ?_);rintro e w1 ⟨rfl,hw1⟩;obtain rfl:=hw1.symm;clear hw1))
 go_ret;exact⟨by rw[HV.o];rfl,rfl⟩
def bJ(r:Int):Int:=
 if r<128 then aI r else if r<768 then bk r else if r<8192 then bz r else if r<8448 then aT r else if r<12544 then bh r else bH r
theorem rJ(r:Int)(w:sR):sU Tryz.prog 127 #[.int .i32 r] w fun e w'=>e=.returned (.int .i64 (bJ r))/\w'=w:=by
 by_cases h0:r<128
 ·have HV:ae (bJ r=aI r):=aa (by unfold bJ;rw[if_pos h0])
  go_enter Tryz.func127,Tryz.ntmps127;go_wp2_with fail;refine(zcY r w).mono ?_;rintro e w1 ⟨rfl,hw1⟩;obtain rfl:=hw1.symm;clear hw1;go_wp2;go_ret;exact⟨by rw[HV.o];rfl,rfl⟩
 by_cases h1:r<768
 ·have HV:ae (bJ r=bk r):=aa (by unfold bJ;rw[if_neg h0,if_pos h1])
  go_enter Tryz.func127,Tryz.ntmps127;go_wp2_with fail;refine(zcW r w).mono ?_;rintro e w1 ⟨rfl,hw1⟩;obtain rfl:=hw1.symm;clear hw1;go_wp2;go_ret;exact⟨by rw[HV.o];rfl,rfl⟩
 by_cases h2:r<8192
 ·have HV:ae (bJ r=bz r):=aa (by unfold bJ;rw[if_neg h0,if_neg h1,if_pos h2])
  go_enter Tryz.func127,Tryz.ntmps127;go_wp2_with fail;refine(qC r w).mono ?_;rintro e w1 ⟨rfl,hw1⟩;obtain rfl:=hw1.symm;clear hw1;go_wp2;go_ret;exact⟨by rw[HV.o];rfl,rfl⟩
 by_cases h3:r<8448
 ·have HV:ae (bJ r=aT r):=aa (by unfold bJ;rw[if_neg h0,if_neg h1,if_neg h2,if_pos h3])
  go_enter Tryz.func127,Tryz.ntmps127;go_wp2_with fail;refine(zcS r w).mono ?_;rintro e w1 ⟨rfl,hw1⟩;obtain rfl:=hw1.symm;clear hw1;go_wp2;go_ret;exact⟨by rw[HV.o];rfl,rfl⟩
 by_cases h4:r<12544
 ·have HV:ae (bJ r=bh r):=aa (by unfold bJ;rw[if_neg h0,if_neg h1,if_neg h2,if_neg h3,if_pos h4])
  go_enter Tryz.func127,Tryz.ntmps127;go_wp2_with fail;refine(zfW r w).mono ?_;rintro e w1 ⟨rfl,hw1⟩;obtain rfl:=hw1.symm;clear hw1;go_wp2;go_ret;exact⟨by rw[HV.o];rfl,rfl⟩
 have HV:ae (bJ r=bH r):=aa (by unfold bJ;rw[if_neg h0,if_neg h1,if_neg h2,if_neg h3,if_neg h4])
 go_enter Tryz.func127,Tryz.ntmps127;go_wp2_with fail;refine(zfY r w).mono ?_;rintro e w1 ⟨rfl,hw1⟩;obtain rfl:=hw1.symm;clear hw1;go_wp2;go_ret;exact⟨by rw[HV.o];rfl,rfl⟩
end
namespace Ln
def cd(K:List Int)(c:Int):Bool:=K.contains c
theorem cI(x:Int)(K:List Int)(c:Int):cd (x::K) c=((c==x)||cd K c):=by unfold cd;rw[List.contains_cons]
def aU(l:List UInt8):Int:=if l=[]then -1 else bJ (aY l).1
def aW(l:List UInt8):Int:=if l=[]then -1 else bJ (dec l).1
def wth(K:List Int):Nat->List UInt8->List UInt8
 |0,l=>l
 |f+1,l=>if l=[]then l else if cd K (aU l)then wth K f (qB l)else l
def dA(K:List Int)(l:List UInt8):List UInt8:=wth K l.length l
def aO(l:List UInt8):Int:=aU (dA [8] l)
def dt(K:List Int)(l:List UInt8):List UInt8:=if cd K (aU (dA [8] l))then qB (dA [8] l)else l
def mS(l:List UInt8):Bool:=aO (dt [14,15] (dt [11,10] l))==20
def cV:Nat->List UInt8->Bool->Bool
 |0,_,o=>o
 |f+1,l,o=>if aO l=25 then cV f (dt [25] l) (!o)else o
def du(c:Int):Bool:=cd [1,2,3] c
def bj(a b:Int):Bool:=
 if cd [6,11,10,13,14,15] b then true else if a=9 then true else if a=12 then b==9 else if a=11 then b==24 else if a=10 then b==24 else if a=18 then b==18 else false
def cY(a b:Int):Bool:=cd [6,7] a||(b==7&& !cd [4,17,16] a)
def bS(a b:Int):Bool:=
 if a=12 then true else if a=0 then cd [0,20,9,21,22] b else if a=20 then cd [0,20,9,21,22] b else if a=14 then cd [0,20] b else if a=10 then cd [0,20] b else if a=21 then cd [0,20] b else if a=22 then cd [0,20,23] b else if a=16 then b==20 else if a=15 then b==20 else if a=23 then b==21 else false
def eV(s:List UInt8)(fr at':Nat):Bool:=
 if cY (aO (s.take at')) (aW (s.drop at'))then true else if cd [12,17,16,24,19] (aW (s.drop at'))then true else if bS (aO (s.take at')) (aW (s.drop at'))then true else
 if cd [21,22] (aW (s.drop at'))then mS (s.take at')else
 if cd [21,22] (aO (s.take at'))&&aW (s.drop at')==9 then aW (s.drop (at'+(dec (s.drop at')).2))==20 else
 if aO (s.take at')=25/\aW (s.drop at')=25 then cV ((s.take at').drop fr).length ((s.take at').drop fr) false else false
def gS(s:List UInt8)(fr at':Nat):Bool:=
 if aU (s.take at')=2/\aW (s.drop at')=3 then false else if du (aU (s.take at'))then true else
 if du (aW (s.drop at'))then false else if cd [4,5] (aW (s.drop at'))then false else
 if aU (dA [4] (s.take at'))=5 then true else
 if aU (s.take at')=4 then !bj (aO (dA [4] (s.take at'))) (aW (s.drop at'))else
 !(aW (s.drop at')==8)&& !bj (aO (dA [4] (s.take at'))) (aW (s.drop at'))&& !eV s fr at'
theorem zaT(l:List UInt8)(h:l≠ []):1<=(aY l).2/\(aY l).2<=l.length:=by
 obtain⟨e,n,c,h1,h2,h3,_⟩:=zki l h;rw[h1];exact⟨h2,by show n<=_;omega⟩
theorem mj(l:List UInt8)(h:l≠ []):(qB l).length<l.length:=by
 have:=zaT l h;have:0<l.length:=List.length_pos_iff.2 h;unfold qB;rw[sX];omega
theorem ztn(l:List UInt8):(qB l).length<=l.length:=by unfold qB;rw[sX];omega
theorem sH(K:List Int):∀(f g:Nat)(l:List UInt8),l.length<=f->l.length<=g->wth K f l=wth K g l
 |0,g,l,hf,hg=>by
  have:l=[]:=sS.1 (by omega)
  subst this
  cases g<;>simp[wth]
 |f+1,0,l,hf,hg=>by
  have:l=[]:=sS.1 (by omega)
  subst this
  simp[wth]
 |f+1,g+1,l,hf,hg=>by
  unfold wth
  by_cases h:l=[]
  ·rw[if_pos h,if_pos h]
  ·have:=mj l h
   rw[if_neg h,if_neg h,sH K f g (qB l) (by omega) (by omega)]
theorem oH(K:List Int)(l:List UInt8)(h:l≠ [])(hk:cd K (aU l)=true):dA K l=dA K (qB l):=by
 have h1:=mj l h;unfold dA;rw[sH K l.length (l.length-1+1) l (by omega) (by omega)]
 conv=>lhs;unfold wth
 rw[if_neg h,if_pos hk];exact sH K _ _ _ (by omega) (by omega)
theorem sI(K:List Int)(l:List UInt8)(hk:cd K (aU l)=false):dA K l=l:=by
 unfold dA
 cases l.length with
 |zero=>rfl
 |succ n=>
  unfold wth
  by_cases h:l=[]
  ·rw[if_pos h]
  ·rw[if_neg h,hk];rfl
theorem iO(K:List Int):∀(n:Nat)(l:List UInt8),l.length<=n->(dA K l).length<=l.length
 |0,l,hl=>by
  have:l=[]:=sS.1 (by omega)
  subst this;exact sT _
 |n+1,l,hl=>by
  by_cases h:l=[]
  ·subst h;exact sT _
  ·cases hk:cd K (aU l)with
   |true=>
    have h1:=mj l h;rw[oH K l h hk];exact te (iO K n (qB l) (by omega)) (Nat.le_of_lt h1)
   |false=>rw[sI K l hk];exact sT _
theorem rI{l:List UInt8}{K:List Int}(hK:cd K (-1)=false)(h:cd K (aU l)=true):l≠ []:=fun e=>by
 subst e;rw[show aU []= -1 from rfl,hK]at h
 cases h
theorem zcT(K:List Int)(l:List UInt8):(dt K l).length<=l.length:=by
 unfold dt
 split
 ·exact te (ztn _) (iO _ _ l (sT _))
 ·exact sT _
theorem kY(K:List Int)(l:List UInt8)(hK:cd K (-1)=false)(h:cd K (aO l)=true):(dt K l).length<l.length:=by
 have h':cd K (aU (dA [8] l))=true:=h;unfold dt;rw[if_pos h'];exact td (mj _ (rI hK h')) (iO _ _ l (sT _))
theorem mo:∀(f g:Nat)(l:List UInt8)(o:Bool),l.length<=f->l.length<=g->cV f l o=cV g l o
 |0,g,l,o,hf,hg=>by
  have:l=[]:=sS.1 (by omega)
  subst this
  cases g with
  |zero=>rfl
  |succ g=>unfold cV;rw[if_neg (show ¬aO []=25 by decide)]
 |f+1,0,l,o,hf,hg=>by
  have:l=[]:=sS.1 (by omega)
  subst this;unfold cV;rw[if_neg (show ¬aO []=25 by decide)]
 |f+1,g+1,l,o,hf,hg=>by
  unfold cV
  by_cases h:aO l=25
  ·have h1:=kY [25] l (by decide) (by rw[h];decide)
   rw[if_pos h,if_pos h,mo f g _ _ (by omega) (by omega)]
  ·rw[if_neg h,if_neg h]
theorem rH(l:List UInt8)(o:Bool)(h:aO l=25):cV l.length l o=cV (dt [25] l).length (dt [25] l) (!o):=by
 have h1:=kY [25] l (by decide) (by rw[h];decide)
 rw[mo l.length (l.length-1+1) l o (by omega) (by omega)]
 conv=>lhs;unfold cV
 rw[if_pos h];exact mo _ _ _ _ (by omega) (by omega)
theorem zcU(l:List UInt8)(o:Bool)(h:¬aO l=25):cV l.length l o=o:=by
 cases l.length with
 |zero=>rfl
 |succ n=>unfold cV;rw[if_neg h]
end Ln
namespace Ln
open Go.RowKit
structure Tb(w:sR):Prop where
 tabs:sY 0 1 w
 two:2<=w.heap.size
theorem Tb.below{w w':sR}(h:Tb w)(hb:sW w.heap.size w w'):Tb w':=⟨zfo h.tabs h.two hb,te h.two hb.size⟩
theorem below_box{w:sR}{o:Obj}:sW w.heap.size w (w.alloc o):=(sV _ _).alloc (sT _) _
def RdI(w:sR)(ao:Option Addr)(l:List Int):Prop:=
 ∀(k:Nat)(z:Int),l[k]?=some z->∃a:Addr,ao=some a/\a.block<w.heap.size/\w.cell? (a.add k)=some (.int .i64 z)
theorem RdI.below{w w':sR}{ao:Option Addr}{l:List Int}(h:RdI w ao l)(hb:sW w.heap.size w w'):RdI w' ao l:=fun k z hk=>by
 obtain⟨a,h1,h2,h3⟩:=h k z hk;exact⟨a,h1,td h2 hb.size,(hb.cell (p:=a.add k) (by rw[add_blk];exact h2)).trans h3⟩
theorem zaq(w:sR)(K:List Int)(T:TypeId):RdI (w.alloc (.cells (K.map fun z=>sZ .i64 z).toArray T)) (some ⟨w.heap.size,0,none⟩) K:=fun k z hk=>by
 refine⟨_,rfl,by simp,?_⟩
 rw[Addr.add_lit,Nat.zero_add,cell_of_row _ _ _ _ T (0,0) (heap_alloc_new w _)]
 simp[hk]
theorem mz(c:Int)(ao:Option Addr)(n cap:Nat)(K:List Int)(w:sR)(h:RdI w ao K)(hn:n=K.length)(hl:n<=1000):
  sU Tryz.prog 95 #[.int .i64 c,.slice ao n cap] w fun e w'=>e=.returned (.bool (cd K c))/\w'=w:=by
 have HR:=aa h;have HN:=aa hn;clear h hn;go_enter Tryz.func95,Tryz.ntmps95;go_wp2;go_loopw [9] (fun fr wr=>∃k:Nat,fr=.int .i64 k/\k<=n/\ae (cd K c=cd (K.drop k) c)/\wr=w) (fun fr _=>n-(intOf fr).toNat)
 case atStart=>exact⟨0,rfl,Nat.zero_le _,by simp[ae],rfl⟩
 case round=>
  obtain⟨k,rfl,hk,HK,hwr⟩:=hrel;obtain rfl:=hwr.symm;clear hwr
  by_cases hkn:k<n
  ·have hk':k<K.length:=by have:=HN.o;omega
   obtain⟨a,rfl,_,hc⟩:=HR.o k K[k] (List.getElem?_eq_getElem hk');have hi:(k:Int)<(n:Int):=by omega
   obtain⟨x,hx⟩:=am (K[k]);rw[<- hx]at hc;have HD:ae (K.drop k=x::K.drop (k+1)):=aa (by rw[hx];exact List.drop_eq_getElem_cons hk')
   clear hx
   by_cases hcx:c=x
   ·subst hcx
    have hcc:(c==c)=true:=beq_self_eq_true c;go_wp2;go_ret;exact⟨by rw[HK.o,HD.o,cI,hcc];rfl,rfl⟩
   ·have hcc:(c==x)=false:=beq_eq_false_iff_ne.2 hcx
    go_wp2;go_roundw
    case rel=>exact⟨k+1,by simp,by omega,by show _=_;rw[HK.o,HD.o,cI,hcc,Bool.false_or],trivial⟩
    case measure=>simp[intOf];omega
  ·have hi:¬(k:Int)<(n:Int):=by omega
   have HE:ae (cd K c=false):=aa (by rw[HK.o,List.drop_of_length_le (by have:=HN.o;omega)];rfl)
   go_wp2;go_ret;exact⟨by rw[HE.o];rfl,rfl⟩
theorem bm(c:Int)(K:List Int)(w:sR)(hK:K.length<=1000):
  sU Tryz.prog 95 #[.int .i64 c,.slice (some ⟨w.heap.size,0,none⟩) K.length K.length] (w.alloc (.cells (K.map fun z=>sZ .i64 z).toArray 3)) fun e w'=>e=.returned (.bool (cd K c))/\sW w.heap.size w w':=
 (mz c _ _ _ K _ (zaq w K 3) rfl hK).mono fun e w' ⟨h1,h2⟩=>⟨h1,by rw[h2];exact below_box⟩
theorem ei(c:Int)(w:sR):sU Tryz.prog 93 #[.int .i64 c] w fun e w'=>e=.returned (.bool (du c))/\sW w.heap.size w w':=by
 go_enter Tryz.func93,Tryz.ntmps93;go_wp2_with fail;refine(bm c [1,2,3] w (by decide)).mono ?_
 rintro e w1 ⟨rfl,be⟩;go_wp2;go_ret;exact⟨by unfold du;rfl,be⟩
theorem first_any(l:List UInt8)(w:sR)(ht:Tb w):
  sU Tryz.prog 94 #[.string ⟨l.toArray⟩] w fun e w'=>e=.returned (.tuple #[.int .i64 (aW l),.int .i64 (dec l).2])/\sW w.heap.size w w':=by
 by_cases h:l=[]
 ·subst h
  go_enter Tryz.func94,Tryz.ntmps94;go_wp2;go_ret2;exact⟨rfl,sV _ _⟩
 ·have HV:ae (aW l=bJ (dec l).1):=aa (if_neg h)
  have he:l.isEmpty=false:=by simpa using h
  have HT:=aa ht;clear h ht;go_enter Tryz.func94,Tryz.ntmps94;go_wp2_with fail;refine(zgC l w HT.o.tabs).mono ?_;rintro e w1 ⟨rfl,be⟩;have HB:=aa be;clear be;obtain⟨r,hr⟩:∃r:Int,r=((dec l).1:Int):=⟨_,rfl⟩;obtain⟨n,hn⟩:∃n:Nat,n=(dec l).2:=⟨_,rfl⟩;have HN:=aa hn;rw[<- hr]at HV;rw[<- hr,<- hn];clear hr hn;go_wp2_with fail;refine(rJ r w1).mono ?_;rintro e w2 ⟨rfl,hw2⟩;obtain rfl:=hw2.symm;clear hw2;go_wp2;go_ret2;exact⟨by rw[HV.o,<- HN.o];rfl,HB.o⟩
theorem ez(l:List UInt8)(w:sR)(ht:Tb w)(hl:l.length<=1000000000):
  sU Tryz.prog 92 #[.string ⟨l.toArray⟩] w fun e w'=>e=.returned (.tuple #[.int .i64 (aU l),.int .i64 (aY l).2])/\sW w.heap.size w w':=by
 by_cases h:l=[]
 ·subst h
  go_enter Tryz.func92,Tryz.ntmps92;go_wp2;go_ret2;exact⟨rfl,sV _ _⟩
 ·have HV:ae (aU l=bJ (aY l).1):=aa (if_neg h)
  have he:l.isEmpty=false:=by simpa using h
  have HT:=aa ht;clear h ht;go_enter Tryz.func92,Tryz.ntmps92;go_wp2_with fail;refine(znF l w (by omega) HT.o.tabs).mono ?_
  rintro e w1 ⟨rfl,be⟩;have HB:=aa be;clear be;obtain⟨r,hr⟩:∃r:Int,r=((aY l).1:Int):=⟨_,rfl⟩;obtain⟨n,hn⟩:∃n:Nat,n=(aY l).2:=⟨_,rfl⟩;have HN:=aa hn;rw[<- hr]at HV;rw[<- hr,<- hn];clear hr hn;go_wp2_with fail;refine(rJ r w1).mono ?_;rintro e w2 ⟨rfl,hw2⟩;obtain rfl:=hw2.symm;clear hw2;go_wp2;go_ret2;exact⟨by rw[HV.o,<- HN.o];rfl,HB.o⟩
end Ln
namespace Ln
open Go.RowKit
theorem ext_take(l:List UInt8)(t:Nat):(⟨l.toArray⟩:ByteArray).extract 0 t=⟨(l.take t).toArray⟩:=by
 apply ti
 simp[tc]
def zlb:Value->Nat
 | .string s=>s.size
 |_=>0
theorem zbO(l:List UInt8)(ao:Option Addr)(n cap:Nat)(K:List Int)(w:sR)(ht:Tb w)(hl:l.length<=1000000000)(h:RdI w ao K)(hn:n=K.length)(hnl:n<=1000)(hK:cd K (-1)=false):
  sU Tryz.prog 90 #[.string ⟨l.toArray⟩,.slice ao n cap] w fun e w'=>e=.returned (.string ⟨(dA K l).toArray⟩)/\sW w.heap.size w w':=by
 have HT:=aa ht;have HR:=aa h;have HN:=aa hn;have HK:=aa hK;clear ht h hn hK;go_enter Tryz.func90,Tryz.ntmps90;go_wp2;go_step3;go_wp2;go_step3;go_wp2;go_loopw [0] (fun fr wr=>∃l':List UInt8,fr=.string ⟨l'.toArray⟩/\l'.length<=1000000000/\ae (dA K l=dA K l')/\sW w.heap.size w wr) (fun fr _=>zlb fr)
 case atStart=>exact⟨l,rfl,hl,rfl,sV _ _⟩
 case round=>
  obtain⟨l',rfl,hl',HW,hB⟩:=hrel;have HB:=aa hB;clear hB
  by_cases he:l'=[]
  ·subst he
   have HE:ae (dA K l=[]):=aa (by rw[HW.o];rfl)
   go_wp2;rw[Exit.noGoto_ret];go_ret;exact⟨by rw[HE.o];rfl,HB.o⟩
  ·have he':l'.isEmpty=false:=by simpa using he
   obtain⟨hb1,hb2⟩:=zaT l' he;have HNE:=aa he;clear he;go_wp2_with fail;refine(ez l' wr (HT.o.below HB.o) hl').mono ?_;rintro e w1 ⟨rfl,be1⟩;have HB1:=aa (HB.o.trans (be1.mono HB.o.size));obtain⟨c,hc⟩:∃c:Int,c=aU l':=⟨_,rfl⟩;obtain⟨m,hm⟩:∃m:Nat,m=(aY l').2:=⟨_,rfl⟩;have HC:=aa hc;have HM:=aa hm;rw[<- hm]at hb1 hb2;rw[<- hc,<- hm];clear hc hm be1 HB;go_wp2_with fail;refine(mz c ao n cap K w1 (HR.o.below HB1.o) HN.o hnl).mono ?_;rintro e w2 ⟨rfl,hw2⟩;obtain rfl:=hw2.symm;clear hw2;obtain⟨b,hb⟩:=am (cd K c);have HBB:=aa hb;rw[<- hb];clear hb
   cases b with
   |true=>
    have HY:ae (dA K l=dA K (qB l')):=aa (HW.o.trans (oH K l' HNE.o (by rw[<- HC.o,<- HBB.o])))
    have HLT:=aa (mj l' HNE.o);have HLE:ae (qB l'=l'.take (l'.length-m)):=aa (by unfold qB;rw[HM.o])
    go_wp2;rw[ext_take,<- HLE.o];exact⟨⟨qB l',rfl,by have:=HLT.o;omega,HY.o,HB1.o⟩,by have:=HLT.o;show(qB l').toArray.size<l'.toArray.size;simpa using this⟩
   |false=>
    have HY:ae (dA K l=l'):=aa (HW.o.trans (sI K l' (by rw[<- HC.o,<- HBB.o])))
    go_wp2;rw[Exit.noGoto_ret];go_ret;exact⟨by rw[HY.o];rfl,HB1.o⟩
theorem gZ(l:List UInt8)(K:List Int)(w:sR)(ht:Tb w)(hl:l.length<=1000000000)(hK:K.length<=1000)(hn:cd K (-1)=false):
  sU Tryz.prog 90 #[.string ⟨l.toArray⟩,.slice (some ⟨w.heap.size,0,none⟩) K.length K.length] (w.alloc (.cells (K.map fun z=>sZ .i64 z).toArray 3)) fun e w'=>e=.returned (.string ⟨(dA K l).toArray⟩)/\sW w.heap.size w w':=
 (zbO l _ _ _ K _ (ht.below below_box) hl (zaq w K 3) rfl hK hn).mono fun _ _ ⟨h1,h2⟩=>⟨h1,below_box.trans (h2.mono below_box.size)⟩
theorem iN(l:List UInt8)(w:sR)(ht:Tb w)(hl:l.length<=1000000000):
  sU Tryz.prog 97 #[.string ⟨l.toArray⟩] w fun e w'=>e=.returned (.int .i64 (aO l))/\sW w.heap.size w w':=by
 have HT:=aa ht;clear ht;go_enter Tryz.func97,Tryz.ntmps97;go_wp2_with fail;refine(gZ l [8] w HT.o hl (by decide) (by decide)).mono ?_
 rintro e w1 ⟨rfl,be⟩;have HB:=aa be;have hle:=iO [8] _ l (sT _);obtain⟨b,hb⟩:=am (dA [8] l);have HV:ae (aO l=aU b):=aa (by rw[hb];rfl)
 rw[<- hb]at hle;rw[<- hb];clear hb be;go_wp2_with fail;refine(ez b w1 (HT.o.below HB.o) (by omega)).mono ?_
 rintro e w2 ⟨rfl,be⟩;have HB2:=aa (HB.o.trans (be.mono HB.o.size));obtain⟨c,hc⟩:∃c:Int,c=aU b:=⟨_,rfl⟩;have HC:=aa hc;obtain⟨m,hm⟩:∃m:Nat,m=(aY b).2:=⟨_,rfl⟩;rw[<- hc,<- hm];clear hc be hm;go_wp2;go_ret;exact⟨by rw[HV.o,<- HC.o];rfl,HB2.o⟩
theorem eE(l:List UInt8)(K:List Int)(w:sR)(ht:Tb w)(hl:l.length<=1000000000)(hK:K.length<=1000)(hn:cd K (-1)=false):
  sU Tryz.prog 159 #[.string ⟨l.toArray⟩,.slice (some ⟨w.heap.size,0,none⟩) K.length K.length] (w.alloc (.cells (K.map fun z=>sZ .i64 z).toArray 3)) fun e w'=>e=.returned (.string ⟨(dt K l).toArray⟩)/\sW w.heap.size w w':=by
 obtain⟨W,hW⟩:=am (w.alloc (.cells (K.map fun z=>sZ .i64 z).toArray 3))
 have hR:=zaq w K 3;have hB0:=below_box (w:=w) (o:=.cells (K.map fun z=>sZ .i64 z).toArray 3)
 rw[<- hW]at hR hB0;rw[<- hW];have HT:=aa (ht.below hB0);have HR:=aa hR;have HB0:=aa hB0;have HN:=aa hn;obtain⟨ao,hao⟩:∃ao:Option Addr,ao=some ⟨w.heap.size,0,none⟩:=⟨_,rfl⟩;obtain⟨n,hnn⟩:=am K.length;have HNN:=aa hnn;rw[<- hao]at HR;rw[<- hao,<- hnn];rw[<- hnn]at hK;clear hW hR hB0 hao hnn ht hn;go_enter Tryz.func159,Tryz.ntmps159;go_wp2_with fail;refine(gZ l [8] W HT.o hl (by decide) (by decide)).mono ?_
 rintro e w1 ⟨rfl,be⟩;have HB:=aa be;have hle:=iO [8] _ l (sT _);obtain⟨b,hb⟩:=am (dA [8] l);have HV:ae (dt K l=if cd K (aU b)then qB b else l):=aa (by rw[hb];rfl)
 rw[<- hb]at hle;rw[<- hb];clear hb be;go_wp2_with fail;refine(ez b w1 (HT.o.below HB.o) (by omega)).mono ?_
 rintro e w2 ⟨rfl,be⟩;have HB2:=aa (HB.o.trans (be.mono HB.o.size));obtain⟨c,hc⟩:∃c:Int,c=aU b:=⟨_,rfl⟩;obtain⟨m,hm⟩:∃m:Nat,m=(aY b).2:=⟨_,rfl⟩;have HC:=aa hc;have HM:=aa hm;rw[<- hc,<- hm];clear hc hm be;go_wp2_with fail;refine(mz c ao n n K w2 (HR.o.below HB2.o) HNN.o hK).mono ?_;rintro e w3 ⟨rfl,hw3⟩;obtain rfl:=hw3.symm;clear hw3;obtain⟨q,hq⟩:=am (cd K c);have HQ:=aa hq;have HBW:=aa (HB0.o.trans (HB2.o.mono HB0.o.size));rw[<- hq];clear hq
 cases q with
 |true=>
  have hne:b≠ []:=rI HN.o (by rw[<- HC.o,<- HQ.o])
  have HLE:ae (dt K l=b.take (b.length-m)):=aa (by rw[HV.o,<- HC.o,<- HQ.o,if_pos rfl];unfold qB;rw[HM.o])
  obtain⟨hb1,hb2⟩:=zaT b hne;rw[<- HM.o]at hb1 hb2;clear hne;go_wp2;go_ret;exact⟨by rw[HLE.o,<- ext_take];rfl,HBW.o⟩
 |false=>
  have HLE:ae (dt K l=l):=aa (by rw[HV.o,<- HC.o,<- HQ.o];rfl)
  go_wp2;go_ret;exact⟨by rw[HLE.o];rfl,HBW.o⟩
end Ln
namespace Ln
open Go.RowKit
theorem zeA(a b:Int)(w:sR):sU Tryz.prog 96 #[.int .i64 a,.int .i64 b] w fun e w'=>e=.returned (.bool (bj a b))/\sW w.heap.size w w':=by
 have HB0:=aa (sV w.heap.size w);go_enter Tryz.func96,Tryz.ntmps96;go_wp2_with fail;refine(bm b [6,11,10,13,14,15] w (by decide)).mono ?_
 rintro e w1 ⟨rfl,be⟩;have HB1:=aa (HB0.o.trans (be.mono HB0.o.size));obtain⟨q1,hq1⟩:=am (cd [6,11,10,13,14,15] b);have HQ1:=aa hq1;rw[<- hq1];clear hq1 be
 cases q1 with
 |true=>
  have HV:ae (bj a b=true):=aa (by unfold bj;rw[<- HQ1.o];rfl)
  go_wp2;go_ret;exact⟨by rw[HV.o];rfl,HB1.o⟩
 |false=>
  by_cases h0:a=9
  ·subst h0
   have HV:ae (bj 9 b=true):=aa (by unfold bj;rw[<- HQ1.o];rfl)
   clear HQ1;go_wp2;go_ret;exact⟨by rw[HV.o];rfl,HB1.o⟩
  by_cases h1:a=12
  ·subst h1
   have HV:ae (bj 12 b=(b==9)):=aa (by unfold bj;rw[<- HQ1.o];rfl)
   clear HQ1 h0;go_wp2;go_ret;exact⟨by rw[HV.o];rfl,HB1.o⟩
  by_cases h2:a=11
  ·subst h2
   have HV:ae (bj 11 b=(b==24)):=aa (by unfold bj;rw[<- HQ1.o];rfl)
   clear HQ1 h0 h1;go_wp2;go_ret;exact⟨by rw[HV.o];rfl,HB1.o⟩
  by_cases h3:a=10
  ·subst h3
   have HV:ae (bj 10 b=(b==24)):=aa (by unfold bj;rw[<- HQ1.o];rfl)
   clear HQ1 h0 h1 h2;go_wp2;go_ret;exact⟨by rw[HV.o];rfl,HB1.o⟩
  by_cases h4:a=18
  ·subst h4
   have HV:ae (bj 18 b=(b==18)):=aa (by unfold bj;rw[<- HQ1.o];rfl)
   clear HQ1 h0 h1 h2 h3;go_wp2;go_ret;exact⟨by rw[HV.o];rfl,HB1.o⟩
  have HV:ae (bj a b=false):=aa (by unfold bj;rw[<- HQ1.o,if_neg (by decide),if_neg h0,if_neg h1,if_neg h2,if_neg h3,if_neg h4])
  have b0:(a==9)=false:=beq_eq_false_iff_ne.2 h0;have b1:(a==12)=false:=beq_eq_false_iff_ne.2 h1;have b2:(a==11)=false:=beq_eq_false_iff_ne.2 h2;have b3:(a==10)=false:=beq_eq_false_iff_ne.2 h3;have b4:(a==18)=false:=beq_eq_false_iff_ne.2 h4;go_wp2;go_ret;exact⟨by rw[HV.o];rfl,HB1.o⟩
theorem sN(a b:Int)(w:sR):sU Tryz.prog 129 #[.int .i64 a,.int .i64 b] w fun e w'=>e=.returned (.bool (bS a b))/\sW w.heap.size w w':=by
 have HB0:=aa (sV w.heap.size w)
 by_cases h0:a=12
 ·subst h0
  have HV:ae (bS 12 b=true):=aa (by unfold bS;rfl)
  go_enter Tryz.func129,Tryz.ntmps129;go_wp2;go_ret;exact⟨by rw[HV.o];rfl,HB0.o⟩
 by_cases h1:a=0
 ·subst h1
  clear h0;have HV:ae (bS 0 b=cd [0,20,9,21,22] b):=aa (by unfold bS;rfl)
  go_enter Tryz.func129,Tryz.ntmps129;go_wp2_with fail;refine(bm b [0,20,9,21,22] w (by decide)).mono ?_
  rintro e w1 ⟨rfl,be⟩;have HB1:=aa (HB0.o.trans (be.mono HB0.o.size));obtain⟨q1,hq1⟩:=am (cd [0,20,9,21,22] b);have HQ1:=aa hq1;rw[<- hq1];clear hq1 be;go_wp2;go_ret;exact⟨by rw[HV.o,<- HQ1.o];rfl,HB1.o⟩
 by_cases h2:a=20
 ·subst h2
  clear h0 h1;have HV:ae (bS 20 b=cd [0,20,9,21,22] b):=aa (by unfold bS;rfl)
  go_enter Tryz.func129,Tryz.ntmps129;go_wp2_with fail;refine(bm b [0,20,9,21,22] w (by decide)).mono ?_
  rintro e w1 ⟨rfl,be⟩;have HB1:=aa (HB0.o.trans (be.mono HB0.o.size));obtain⟨q1,hq1⟩:=am (cd [0,20,9,21,22] b);have HQ1:=aa hq1;rw[<- hq1];clear hq1 be;go_wp2;go_ret;exact⟨by rw[HV.o,<- HQ1.o];rfl,HB1.o⟩
 by_cases h3:a=14
 ·subst h3
  clear h0 h1 h2;have HV:ae (bS 14 b=cd [0,20] b):=aa (by unfold bS;rfl)
  go_enter Tryz.func129,Tryz.ntmps129;go_wp2_with fail;refine(bm b [0,20] w (by decide)).mono ?_
  rintro e w1 ⟨rfl,be⟩;have HB1:=aa (HB0.o.trans (be.mono HB0.o.size));obtain⟨q1,hq1⟩:=am (cd [0,20] b);have HQ1:=aa hq1;rw[<- hq1];clear hq1 be;go_wp2;go_ret;exact⟨by rw[HV.o,<- HQ1.o];rfl,HB1.o⟩
 by_cases h4:a=10
 ·subst h4
  clear h0 h1 h2 h3;have HV:ae (bS 10 b=cd [0,20] b):=aa (by unfold bS;rfl)
  go_enter Tryz.func129,Tryz.ntmps129;go_wp2_with fail;refine(bm b [0,20] w (by decide)).mono ?_
  rintro e w1 ⟨rfl,be⟩;have HB1:=aa (HB0.o.trans (be.mono HB0.o.size));obtain⟨q1,hq1⟩:=am (cd [0,20] b);have HQ1:=aa hq1;rw[<- hq1];clear hq1 be;go_wp2;go_ret;exact⟨by rw[HV.o,<- HQ1.o];rfl,HB1.o⟩
 by_cases h5:a=21
 ·subst h5
  clear h0 h1 h2 h3 h4;have HV:ae (bS 21 b=cd [0,20] b):=aa (by unfold bS;rfl)
  go_enter Tryz.func129,Tryz.ntmps129;go_wp2_with fail;refine(bm b [0,20] w (by decide)).mono ?_
  rintro e w1 ⟨rfl,be⟩;have HB1:=aa (HB0.o.trans (be.mono HB0.o.size));obtain⟨q1,hq1⟩:=am (cd [0,20] b);have HQ1:=aa hq1;rw[<- hq1];clear hq1 be;go_wp2;go_ret;exact⟨by rw[HV.o,<- HQ1.o];rfl,HB1.o⟩
 by_cases h6:a=22
 ·subst h6
  clear h0 h1 h2 h3 h4 h5;have HV:ae (bS 22 b=cd [0,20,23] b):=aa (by unfold bS;rfl)
  go_enter Tryz.func129,Tryz.ntmps129;go_wp2_with fail;refine(bm b [0,20,23] w (by decide)).mono ?_
  rintro e w1 ⟨rfl,be⟩;have HB1:=aa (HB0.o.trans (be.mono HB0.o.size));obtain⟨q1,hq1⟩:=am (cd [0,20,23] b);have HQ1:=aa hq1;rw[<- hq1];clear hq1 be;go_wp2;go_ret;exact⟨by rw[HV.o,<- HQ1.o];rfl,HB1.o⟩
 by_cases h7:a=16
 ·subst h7
  clear h0 h1 h2 h3 h4 h5 h6;have HV:ae (bS 16 b=(b==20)):=aa (by unfold bS;rfl)
  go_enter Tryz.func129,Tryz.ntmps129;go_wp2;go_ret;exact⟨by rw[HV.o];rfl,HB0.o⟩
 by_cases h8:a=15
 ·subst h8
  clear h0 h1 h2 h3 h4 h5 h6 h7;have HV:ae (bS 15 b=(b==20)):=aa (by unfold bS;rfl)
  go_enter Tryz.func129,Tryz.ntmps129;go_wp2;go_ret;exact⟨by rw[HV.o];rfl,HB0.o⟩
 by_cases h9:a=23
 ·subst h9
  clear h0 h1 h2 h3 h4 h5 h6 h7 h8;have HV:ae (bS 23 b=(b==21)):=aa (by unfold bS;rfl)
  go_enter Tryz.func129,Tryz.ntmps129;go_wp2;go_ret;exact⟨by rw[HV.o];rfl,HB0.o⟩
 have HV:ae (bS a b=false):=aa (by unfold bS;rw[if_neg h0,if_neg h1,if_neg h2,if_neg h3,if_neg h4,if_neg h5,if_neg h6,if_neg h7,if_neg h8,if_neg h9])
 have b0:(a==12)=false:=beq_eq_false_iff_ne.2 h0;have b1:(a==0)=false:=beq_eq_false_iff_ne.2 h1;have b2:(a==20)=false:=beq_eq_false_iff_ne.2 h2;have b3:(a==14)=false:=beq_eq_false_iff_ne.2 h3;have b4:(a==10)=false:=beq_eq_false_iff_ne.2 h4;have b5:(a==21)=false:=beq_eq_false_iff_ne.2 h5;have b6:(a==22)=false:=beq_eq_false_iff_ne.2 h6;have b7:(a==16)=false:=beq_eq_false_iff_ne.2 h7;have b8:(a==15)=false:=beq_eq_false_iff_ne.2 h8;have b9:(a==23)=false:=beq_eq_false_iff_ne.2 h9;go_enter Tryz.func129,Tryz.ntmps129;go_wp2;go_ret;exact⟨by rw[HV.o];rfl,HB0.o⟩
theorem zkm(a b:Int)(w:sR):sU Tryz.prog 128 #[.int .i64 a,.int .i64 b] w fun e w'=>e=.returned (.bool (cY a b))/\sW w.heap.size w w':=by
 have HB0:=aa (sV w.heap.size w);go_enter Tryz.func128,Tryz.ntmps128;go_wp2_with fail;refine(bm a [6,7] w (by decide)).mono ?_
 rintro e w1 ⟨rfl,be⟩;have HB1:=aa (HB0.o.trans (be.mono HB0.o.size));obtain⟨q1,hq1⟩:=am (cd [6,7] a);have HQ1:=aa hq1;rw[<- hq1];clear hq1 be
 cases q1 with
 |true=>
  have HV:ae (cY a b=true):=aa (by unfold cY;rw[<- HQ1.o];rfl)
  go_wp2;go_ret;exact⟨by rw[HV.o];rfl,HB1.o⟩
 |false=>
  by_cases h7:b=7
  ·subst h7
   go_wp2_with fail;refine(bm a [4,17,16] w1 (by decide)).mono ?_
   rintro e w2 ⟨rfl,be⟩;have HB2:=aa (HB1.o.trans (be.mono HB1.o.size));obtain⟨q2,hq2⟩:=am (cd [4,17,16] a);have HQ2:=aa hq2;rw[<- hq2];clear hq2 be;have HV:ae (cY a 7= !q2):=aa (by unfold cY;rw[<- HQ1.o,<- HQ2.o];rfl)
   go_wp2;go_ret;exact⟨by rw[HV.o];rfl,HB2.o⟩
  ·have b7:(b==7)=false:=beq_eq_false_iff_ne.2 h7
   have HV:ae (cY a b=false):=aa (by unfold cY;rw[<- HQ1.o,b7];rfl)
   go_wp2;go_ret;exact⟨by rw[HV.o];rfl,HB1.o⟩
theorem zfJ(l:List UInt8)(w:sR)(ht:Tb w)(hl:l.length<=1000000000):
  sU Tryz.prog 130 #[.string ⟨l.toArray⟩] w fun e w'=>e=.returned (.bool (mS l))/\sW w.heap.size w w':=by
 have HT:=aa ht;clear ht;go_enter Tryz.func130,Tryz.ntmps130;go_wp2_with fail;refine(eE l [11,10] w HT.o hl (by decide) (by decide)).mono ?_
 rintro e w1 ⟨rfl,be⟩;have HB1:=aa be;have hle:=zcT [11,10] l;obtain⟨l1,h1⟩:=am (dt [11,10] l);have H1:=aa h1;rw[<- h1]at hle;rw[<- h1];clear h1 be;go_wp2_with fail;refine(eE l1 [14,15] w1 (HT.o.below HB1.o) (by omega) (by decide) (by decide)).mono ?_
 rintro e w2 ⟨rfl,be⟩;have HB2:=aa (HB1.o.trans (be.mono HB1.o.size));have hle2:=zcT [14,15] l1;obtain⟨l2,h2⟩:=am (dt [14,15] l1);have HV:ae (mS l=(aO l2==20)):=aa (by rw[h2,H1.o];rfl)
 rw[<- h2]at hle2;rw[<- h2];clear h2 be;go_wp2_with fail;refine(iN l2 w2 (HT.o.below HB2.o) (by omega)).mono ?_
 rintro e w3 ⟨rfl,be⟩;have HB3:=aa (HB2.o.trans (be.mono HB2.o.size));clear be;obtain⟨c,hc⟩:=am (aO l2);rw[<- hc]at HV;rw[<- hc];clear hc;go_wp2;go_ret;exact⟨by rw[HV.o];rfl,HB3.o⟩
theorem zhI(l:List UInt8)(w:sR)(ht:Tb w)(hl:l.length<=1000000000):
  sU Tryz.prog 131 #[.string ⟨l.toArray⟩] w fun e w'=>e=.returned (.bool (cV l.length l false))/\sW w.heap.size w w':=by
 have HT:=aa ht;clear ht;go_enter Tryz.func131,Tryz.ntmps131;go_wp2;go_loopw [0,3] (fun fs fo wr=>∃(l':List UInt8)(o:Bool),fs=.string ⟨l'.toArray⟩/\fo=.bool o/\l'.length<=1000000000/\ae (cV l.length l false=cV l'.length l' o)/\sW w.heap.size w wr) (fun fs _ _=>zlb fs)
 case atStart=>exact⟨l,false,rfl,rfl,hl,rfl,sV _ _⟩
 case round=>
  obtain⟨l',o,rfl,rfl,hl',HW,hB⟩:=hrel;have HB:=aa hB;clear hB;go_wp2_with fail;refine(iN l' wr (HT.o.below HB.o) hl').mono ?_;rintro e w1 ⟨rfl,be⟩;have HB1:=aa (HB.o.trans (be.mono HB.o.size));clear be
  by_cases h25:aO l'=25
  ·have HL:=aa (kY [25] l' (by decide) (by rw[h25];decide))
   have HY:=aa (HW.o.trans (rH l' o h25));rw[h25];clear h25;go_wp2_with fail;refine(eE l' [25] w1 (HT.o.below HB1.o) hl' (by decide) (by decide)).mono ?_
   rintro e w2 ⟨rfl,be⟩;have HB2:=aa (HB1.o.trans (be.mono HB1.o.size));clear be;obtain⟨l2,h2⟩:=am (dt [25] l');rw[<- h2]at HL HY;rw[<- h2];clear h2;go_wp2;exact⟨⟨l2, !o,rfl,rfl,by have:=HL.o;omega,HY.o,HB2.o⟩,by have:=HL.o;show l2.toArray.size<l'.toArray.size;simpa using this⟩
  ·have HY:=aa (HW.o.trans (zcU l' o h25))
   obtain⟨c,hc⟩:=am (aO l');rw[<- hc]at h25;rw[<- hc];have b25:(c==25)=false:=beq_eq_false_iff_ne.2 h25;clear hc h25;go_wp2;go_ret;exact⟨by rw[HY.o];rfl,HB1.o⟩
end Ln
namespace Ln
open Go.RowKit
theorem ext_mid(l:List UInt8)(a b:Nat):(⟨l.toArray⟩:ByteArray).extract a b=⟨((l.take b).drop a).toArray⟩:=by
 apply ti
 simp[tc,List.drop_take]
theorem zbm(l:List UInt8):(dec l).2<=l.length:=by
 by_cases h:l=[]
 ·subst h;exact sT _
 ·exact dec_le l h
theorem zgn(s:List UInt8)(fr p:Nat)(w:sR)(ht:Tb w)(hl:s.length<=1000000000)(hp:p<=s.length)(hf:fr<=p):
  sU Tryz.prog 98 #[.string ⟨s.toArray⟩,.int .i64 fr,.int .i64 p] w fun e w'=>e=.returned (.bool (eV s fr p))/\sW w.heap.size w w':=by
 have HT:=aa ht;have HW:=aa (zbm (s.drop p));have hdl:(s.drop p).length=s.length-p:=ta;have htl:(s.take p).length=p:=by rw[sX];omega
 have HDL:=aa hdl;have HTL:=aa htl;clear ht hdl htl;go_enter Tryz.func98,Tryz.ntmps98;go_wp2_with fail;rw[ext_take];refine(iN (s.take p) w HT.o (by have:=HTL.o;omega)).mono ?_
 rintro e w1 ⟨rfl,be⟩;have HB1:=aa be;obtain⟨a,ha⟩:=am (aO (s.take p));have HA:=aa ha;rw[<- ha];clear be ha;go_wp2_with fail;rw[ext_drop];refine(first_any (s.drop p) w1 (HT.o.below HB1.o)).mono ?_;rintro e w2 ⟨rfl,be⟩;have HB2:=aa (HB1.o.trans (be.mono HB1.o.size));obtain⟨b,hb⟩:=am (aW (s.drop p));obtain⟨n,hn⟩:=am ((dec (s.drop p)).2);have HBE:=aa hb;have HN:=aa hn;have hpn:p+n<=s.length:=by have:=HW.o;have:=HDL.o;omega
 rw[<- hb,<- hn];clear be hb hn;have HJ:ae (eV s fr p=if cY a b then true else if cd [12,17,16,24,19] b then true else if bS a b then true else if cd [21,22] b then mS (s.take p)else if cd [21,22] a&&b==9 then aW (s.drop (p+n))==20 else if a=25/\b=25 then cV ((s.take p).drop fr).length ((s.take p).drop fr) false else false):=aa (by rw[HA.o,HBE.o,HN.o];rfl)
 clear HA HBE HN HW;go_wp2_with fail;refine(zkm a b w2).mono ?_;rintro e w3 ⟨rfl,be⟩;have HB3:=aa (HB2.o.trans (be.mono HB2.o.size));obtain⟨q3,hq3⟩:=am (cY a b);rw[<- hq3]at HJ;rw[<- hq3];clear hq3 be
 cases q3 with
 |true=>
  go_wp2;go_ret;exact⟨by rw[HJ.o];rfl,HB3.o⟩
 |false=>
  go_wp2_with fail;refine(bm b [12,17,16,24,19] w3 (by decide)).mono ?_
  rintro e w4 ⟨rfl,be⟩;have HB4:=aa (HB3.o.trans (be.mono HB3.o.size));obtain⟨q4,hq4⟩:=am (cd [12,17,16,24,19] b);rw[<- hq4]at HJ;rw[<- hq4];clear hq4 be
  cases q4 with
  |true=>
   go_wp2;go_ret;exact⟨by rw[HJ.o];rfl,HB4.o⟩
  |false=>
   go_wp2_with fail;refine(sN a b w4).mono ?_;rintro e w5 ⟨rfl,be⟩;have HB5:=aa (HB4.o.trans (be.mono HB4.o.size));obtain⟨q5,hq5⟩:=am (bS a b);rw[<- hq5]at HJ;rw[<- hq5];clear hq5 be
   cases q5 with
   |true=>
    go_wp2;go_ret;exact⟨by rw[HJ.o];rfl,HB5.o⟩
   |false=>
    go_wp2_with fail;refine(bm b [21,22] w5 (by decide)).mono ?_
    rintro e w6 ⟨rfl,be⟩;have HB6:=aa (HB5.o.trans (be.mono HB5.o.size));obtain⟨q6,hq6⟩:=am (cd [21,22] b);rw[<- hq6]at HJ;rw[<- hq6];clear hq6 be
    cases q6 with
    |true=>
     go_wp2_with fail;rw[ext_take];refine(zfJ (s.take p) w6 (HT.o.below HB6.o) (by have:=HTL.o;omega)).mono ?_
     rintro e w7 ⟨rfl,be⟩;have HB7:=aa (HB6.o.trans (be.mono HB6.o.size));clear be;obtain⟨v,hv⟩:=am (mS (s.take p));rw[<- hv]at HJ;rw[<- hv];clear hv;go_wp2;go_ret;exact⟨by rw[HJ.o];rfl,HB7.o⟩
    |false=>
     go_wp2_with fail;refine(bm a [21,22] w6 (by decide)).mono ?_
     rintro e w7 ⟨rfl,be⟩;have HB7:=aa (HB6.o.trans (be.mono HB6.o.size));obtain⟨q7,hq7⟩:=am (cd [21,22] a);rw[<- hq7]at HJ;rw[<- hq7];clear hq7 be;have tail:¬(q7=true/\b=9)->ae (eV s fr p=if a=25/\b=25 then cV ((s.take p).drop fr).length ((s.take p).drop fr) false else false):=fun hne=>by
      show _=_
      rw[HJ.o];have e:(q7&&b==9)=false:=by
       cases q7
       ·rfl
       ·rw[Bool.true_and];exact beq_eq_false_iff_ne.2 (fun h=>hne ⟨rfl,h⟩)
      rw[e];rfl
     have TAIL:=aa tail;clear tail
     by_cases h9:q7=true/\b=9
     ·obtain⟨rfl,rfl⟩:=h9
      go_wp2_with fail;rw[ext_drop];refine(first_any (s.drop (p+n)) w7 (HT.o.below HB7.o)).mono ?_;rintro e w8 ⟨rfl,be⟩;have HB8:=aa (HB7.o.trans (be.mono HB7.o.size));obtain⟨x,hx⟩:=am (aW (s.drop (p+n)));obtain⟨m,hm⟩:=am ((dec (s.drop (p+n))).2);rw[<- hx]at HJ;rw[<- hx,<- hm];clear be hx hm TAIL;go_wp2;go_ret;exact⟨by rw[HJ.o];rfl,HB8.o⟩
     ·have HJ2:=aa (TAIL.o h9).o
      have hg:q7=true->(b==9)=false:=fun h=>beq_eq_false_iff_ne.2 (fun h'=>h9 ⟨h,h'⟩)
      have HG:=aa hg;clear TAIL HJ hg h9
      by_cases h25:a=25
      ·by_cases k25:b=25
       ·subst h25 k25
        cases q7 with
        |true=>
         go_wp2_with fail;rw[ext_mid];refine(zhI ((s.take p).drop fr) w7 (HT.o.below HB7.o) (by have:=HTL.o;rw[ta];omega)).mono ?_
         rintro e w8 ⟨rfl,be⟩;have HB8:=aa (HB7.o.trans (be.mono HB7.o.size));obtain⟨v,hv⟩:=am (cV ((s.take p).drop fr).length ((s.take p).drop fr) false);rw[<- hv]at HJ2;rw[<- hv];clear be hv;go_wp2;go_ret;exact⟨by rw[HJ2.o];rfl,HB8.o⟩
        |false=>
         go_wp2_with fail;rw[ext_mid];refine(zhI ((s.take p).drop fr) w7 (HT.o.below HB7.o) (by have:=HTL.o;rw[ta];omega)).mono ?_
         rintro e w8 ⟨rfl,be⟩;have HB8:=aa (HB7.o.trans (be.mono HB7.o.size));obtain⟨v,hv⟩:=am (cV ((s.take p).drop fr).length ((s.take p).drop fr) false);rw[<- hv]at HJ2;rw[<- hv];clear be hv;go_wp2;go_ret;exact⟨by rw[HJ2.o];rfl,HB8.o⟩
       ·have HJ3:ae (eV s fr p=false):=aa (by rw[HJ2.o,if_neg (fun h=>k25 h.2)])
        have b25:(b==25)=false:=beq_eq_false_iff_ne.2 k25;subst h25;clear HJ2 k25
        cases q7 with
        |true=>
         have g9:=HG.o rfl;go_wp2;go_ret;exact⟨by rw[HJ3.o];rfl,HB7.o⟩
        |false=>
         go_wp2;go_ret;exact⟨by rw[HJ3.o];rfl,HB7.o⟩
      ·have HJ3:ae (eV s fr p=false):=aa (by rw[HJ2.o,if_neg (fun h=>h25 h.1)])
       have a25:(a==25)=false:=beq_eq_false_iff_ne.2 h25;clear HJ2 h25
       cases q7 with
       |true=>
        have g9:=HG.o rfl;go_wp2;go_ret;exact⟨by rw[HJ3.o];rfl,HB7.o⟩
       |false=>
        go_wp2;go_ret;exact⟨by rw[HJ3.o];rfl,HB7.o⟩
end Ln
namespace Ln
open Go.RowKit
def eU(s:List UInt8)(p:Nat):Bool:=decide (p=s.length)||du (aU (s.take p))
theorem zgq(s:List UInt8)(p:Nat)(w:sR)(ht:Tb w)(hl:s.length<=1000000000)(hp:p<=s.length):
  sU Tryz.prog 63 #[.string ⟨s.toArray⟩,.int .i64 p] w fun e w'=>e=.returned (.bool (eU s p))/\sW w.heap.size w w':=by
 have HT:=aa ht;have HTL:ae ((s.take p).length=p):=aa (by rw[sX];omega)
 clear ht;go_enter Tryz.func63,Tryz.ntmps63;go_wp2_with fail;rw[ext_take];refine(ez (s.take p) w HT.o (by have:=HTL.o;omega)).mono ?_
 rintro e w1 ⟨rfl,be⟩;have HB1:=aa be;obtain⟨a,ha⟩:=am (aU (s.take p));obtain⟨m,hm⟩:∃m:Nat,m=(aY (s.take p)).2:=⟨_,rfl⟩;have HA:=aa ha;rw[<- ha,<- hm];clear be ha hm
 by_cases hps:p=s.length
 ·have HV:ae (eU s p=true):=aa (by unfold eU;rw[hps];simp)
  have b1:((p:Int)==(s.length:Int))=true:=by rw[hps];exact beq_self_eq_true _
  have HP:=aa hps;clear hps;go_wp2;go_ret;exact⟨by rw[HV.o];rfl,HB1.o⟩
 ·have b1:((p:Int)==(s.length:Int))=false:=beq_eq_false_iff_ne.2 (by omega)
  have HV:ae (eU s p=du a):=aa (by unfold eU;rw[HA.o,decide_eq_false hps,Bool.false_or])
  go_wp2_with fail;refine(ei a w1).mono ?_;rintro e w2 ⟨rfl,be⟩;have HB2:=aa (HB1.o.trans (be.mono HB1.o.size));obtain⟨v,hv⟩:=am (du a);rw[<- hv]at HV;rw[<- hv];clear be hv;go_wp2;go_ret;exact⟨by rw[HV.o];rfl,HB2.o⟩
theorem zrn(s:List UInt8)(fr p:Nat)(w:sR)(ht:Tb w)(hl:s.length<=1000000000)(hp:p<=s.length)(hf:fr<=p):
  sU Tryz.prog 64 #[.string ⟨s.toArray⟩,.int .i64 fr,.int .i64 p] w fun e w'=>e=.returned (.bool (gS s fr p))/\sW w.heap.size w w':=by
 have HT:=aa ht;have HTL:ae ((s.take p).length=p):=aa (by rw[sX];omega)
 have HWL:=aa (iO [4] _ (s.take p) (sT _));clear ht;go_enter Tryz.func64,Tryz.ntmps64;go_wp2_with fail;rw[ext_take];refine(ez (s.take p) w HT.o (by have:=HTL.o;omega)).mono ?_
 rintro e w1 ⟨rfl,be⟩;have HB1:=aa be;obtain⟨a,ha⟩:=am (aU (s.take p));obtain⟨m,hm⟩:∃m:Nat,m=(aY (s.take p)).2:=⟨_,rfl⟩;have HA:=aa ha;rw[<- ha,<- hm];clear be ha hm;go_wp2_with fail;rw[ext_drop];refine(first_any (s.drop p) w1 (HT.o.below HB1.o)).mono ?_;rintro e w2 ⟨rfl,be⟩;have HB2:=aa (HB1.o.trans (be.mono HB1.o.size));obtain⟨b,hb⟩:=am (aW (s.drop p));obtain⟨n,hn⟩:=am ((dec (s.drop p)).2);have HBE:=aa hb;rw[<- hb,<- hn];clear be hb hn;obtain⟨t,htt⟩:=am (dA [4] (s.take p));have HTT:=aa htt;rw[<- htt]at HWL;have HV:ae (gS s fr p=if a=2/\b=3 then false else if du a then true else if du b then false else if cd [4,5] b then false else if aU t=5 then true else if a=4 then !bj (aO t) b else !(b==8)&& !bj (aO t) b&& !eV s fr p):=aa (by rw[HA.o,HBE.o,htt];rfl)
 clear HA HBE htt
 by_cases h23:a=2/\b=3
 ·obtain⟨rfl,rfl⟩:=h23
  go_wp2;go_ret;exact⟨by rw[HV.o];rfl,HB2.o⟩
 have H23:=aa h23
 replace HV:=aa (HV.o.trans (if_neg h23))
 have g2:a=2->(b==3)=false:=fun h=>beq_eq_false_iff_ne.2 (fun h'=>h23 ⟨h,h'⟩)
 have G2:=aa g2;clear h23 g2;have step:∀(X:Prop),(a=2->(b==3)=false->X)->((a==2)=false->X)->X:=fun X h1 h2=>by
  by_cases h:a=2
  ·exact h1 h (G2.o h)
  ·exact h2 (beq_eq_false_iff_ne.2 h)
 have STEP:=aa step;clear step;refine STEP.o _ (fun e2 b3=>?_) (fun n2=>?_)
 ·subst e2
  have HV2:ae (gS s fr p=true):=aa (by rw[HV.o];rfl)
  clear HV;go_wp2_with fail;refine(ei 2 w2).mono ?_;rintro e w3 ⟨rfl,be⟩;have HB3:=aa (HB2.o.trans (be.mono HB2.o.size));rw[show du 2=true by decide];clear be;go_wp2;go_ret;exact⟨by rw[HV2.o];rfl,HB3.o⟩
 ·go_wp2_with fail
  refine(ei a w2).mono ?_;rintro e w3 ⟨rfl,be⟩;have HB3:=aa (HB2.o.trans (be.mono HB2.o.size));obtain⟨q3,hq3⟩:=am (du a);rw[<- hq3]at HV;rw[<- hq3];clear be hq3 STEP G2 H23
  cases q3 with
  |true=>
   go_wp2;go_ret;exact⟨by rw[HV.o];rfl,HB3.o⟩
  |false=>
   go_wp2_with fail;refine(ei b w3).mono ?_;rintro e w4 ⟨rfl,be⟩;have HB4:=aa (HB3.o.trans (be.mono HB3.o.size));obtain⟨q4,hq4⟩:=am (du b);rw[<- hq4]at HV;rw[<- hq4];clear be hq4
   cases q4 with
   |true=>
    go_wp2;go_ret;exact⟨by rw[HV.o];rfl,HB4.o⟩
   |false=>
    go_wp2_with fail;refine(bm b [4,5] w4 (by decide)).mono ?_
    rintro e w5 ⟨rfl,be⟩;have HB5:=aa (HB4.o.trans (be.mono HB4.o.size));obtain⟨q5,hq5⟩:=am (cd [4,5] b);rw[<- hq5]at HV;rw[<- hq5];clear be hq5
    cases q5 with
    |true=>
     go_wp2;go_ret;exact⟨by rw[HV.o];rfl,HB5.o⟩
    |false=>
     have HV:ae (gS s fr p=if aU t=5 then true else if a=4 then !bj (aO t) b else !(b==8)&& !bj (aO t) b&& !eV s fr p):=aa HV.o;go_wp2_with fail;rw[ext_take];refine(gZ (s.take p) [4] w5 (HT.o.below HB5.o) (by have:=HTL.o;omega) (by decide) (by decide)).mono ?_
     rintro e w6 ⟨rfl,be⟩;have HB6:=aa (HB5.o.trans (be.mono HB5.o.size));rw[<- HTT.o];clear be HTT;have htl:t.length<=1000000000:=by have:=HWL.o;have:=HTL.o;omega
     go_wp2_with fail;refine(ez t w6 (HT.o.below HB6.o) htl).mono ?_;rintro e w7 ⟨rfl,be⟩;have HB7:=aa (HB6.o.trans (be.mono HB6.o.size));obtain⟨x,hx⟩:=am (aU t);obtain⟨y,hy⟩:∃y:Nat,y=(aY t).2:=⟨_,rfl⟩;rw[<- hx]at HV;rw[<- hx,<- hy];clear be hx hy
     by_cases h5:x=5
     ·subst h5
      go_wp2;go_ret;exact⟨by rw[HV.o];rfl,HB7.o⟩
     ·have b5:(x==5)=false:=beq_eq_false_iff_ne.2 h5
      have HV:=aa (HV.o.trans (if_neg h5));clear h5
      by_cases h4:a=4
      ·subst h4
       have HV:=aa (HV.o.trans (if_pos rfl));go_wp2_with fail;refine(iN t w7 (HT.o.below HB7.o) htl).mono ?_;rintro e w8 ⟨rfl,be⟩;have HB8:=aa (HB7.o.trans (be.mono HB7.o.size));obtain⟨z,hz⟩:=am (aO t);rw[<- hz]at HV;rw[<- hz];clear be hz;go_wp2_with fail;refine(zeA z b w8).mono ?_;rintro e w9 ⟨rfl,be⟩;have HB9:=aa (HB8.o.trans (be.mono HB8.o.size));obtain⟨v,hv⟩:=am (bj z b);rw[<- hv]at HV;rw[<- hv];clear be hv;go_wp2;go_ret;exact⟨by rw[HV.o];rfl,HB9.o⟩
      ·have b4:(a==4)=false:=beq_eq_false_iff_ne.2 h4
       have HV:=aa (HV.o.trans (if_neg h4));clear h4
       by_cases h8:b=8
       ·subst h8
        go_wp2;go_ret;exact⟨by rw[HV.o];rfl,HB7.o⟩
       ·have b8:(b==8)=false:=beq_eq_false_iff_ne.2 h8
        have HV:ae (gS s fr p=(!bj (aO t) b&& !eV s fr p)):=aa (by rw[HV.o,b8];rfl)
        have n8:(b != 8)=true:=by simp[h8]
        clear h8;go_wp2_with fail;refine(iN t w7 (HT.o.below HB7.o) htl).mono ?_;rintro e w8 ⟨rfl,be⟩;have HB8:=aa (HB7.o.trans (be.mono HB7.o.size));obtain⟨z,hz⟩:=am (aO t);rw[<- hz]at HV;rw[<- hz];clear be hz;go_wp2_with fail;refine(zeA z b w8).mono ?_;rintro e w9 ⟨rfl,be⟩;have HB9:=aa (HB8.o.trans (be.mono HB8.o.size));obtain⟨v,hv⟩:=am (bj z b);rw[<- hv]at HV;rw[<- hv];clear be hv
        cases v with
        |true=>
         go_wp2;go_ret;exact⟨by rw[HV.o];rfl,HB9.o⟩
        |false=>
         go_wp2_with fail;refine(zgn s fr p w9 (HT.o.below HB9.o) hl hp hf).mono ?_;rintro e w10 ⟨rfl,be⟩;have HB10:=aa (HB9.o.trans (be.mono HB9.o.size));obtain⟨u,hu⟩:=am (eV s fr p);rw[<- hu]at HV;rw[<- hu];clear be hu;go_wp2;go_ret;exact⟨by rw[HV.o];rfl,HB10.o⟩
end Ln
end Go.Proofs.YtbbapnpdfcgjnaaGreatDoor
