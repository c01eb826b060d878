/- Base, WdCls, WdDef, WdTxt, WdBool, WdBri, UBeg, UPlaces: parts of the proof, joined. -/
import Derived.Deep.AppendLies
import Derived.WalkSpells
import Derived.WalkLawsBesides
import Derived.BigQuiet
import Derived.Test.YtbbapnpdfcgjnaaGreatDoorWZz
import Derived.Test.YtbbapnpdfcgjnaaGreatDoorWShelf
import Derived.Test.YtbbapnpdfcgjnaaGreatDoorWUMath
open List renaming length_eq_zero_iff->sD, length_pos_iff->sJ, length_drop->sL
open Go.Lib renaming Utf8Tabs->sE, runeStart->sN
open Go renaming World->sG, Calls->sH
open Go.RowKit.Below renaming refl->sI
open Nat renaming le_refl->sK, le_of_lt->sO
set_option maxHeartbeats 64000000
namespace Go.Proofs.YtbbapnpdfcgjnaaGreatDoor
section
open Go.RowKit
theorem pA{w w':sG}(h:sE 0 1 w)(hs:2<=w.heap.size)(hb:Below w.heap.size w w'):sE 0 1 w':=
 ⟨fun c hc=>(hb.cell (p:=⟨0,c,none⟩) (by show 0<w.heap.size;omega)).trans (h.1 c hc),fun i hi=>⟨(hb.cell (p:=⟨1,2*i,none⟩) (by show 1<w.heap.size;omega)).trans (h.2 i hi).1,(hb.cell (p:=⟨1,2*i+1,none⟩) (by show 1<w.heap.size;omega)).trans (h.2 i hi).2⟩⟩
theorem qD(l:List UInt8)(w:sG)(hT:sE 0 1 w):
  sH Tryz.prog 89 #[.string ⟨l.toArray⟩] w fun e w'=>e=.returned (.tuple #[.int .i32 (dec l).1,.int .i64 (dec l).2])/\Below w.heap.size w w':=by
 by_cases h:l=[]
 ·subst h;go_enter Tryz.func89,Tryz.ntmps89;go_wp2;go_ret2;exact⟨rfl,sI _ _⟩
 ·have hd:dec l=Lib.decodeGo ⟨l.toArray⟩:=if_neg h;rw[hd];have he:l.isEmpty=false:=by simpa using h
  clear hd h;have HT:=aa hT;clear hT;go_enter Tryz.func89,Tryz.ntmps89;go_wp2_with (go_at_call 125;refine(Tryz.utf8_DecodeRuneInString _ _ (by exact HT.o)).mono ?_;rintro e w1 ⟨rfl,hb⟩);go_ret2;exact⟨rfl,hb⟩
theorem zaI(s:ByteArray)(l:List UInt8)(w:sG)(hs:s=⟨l.toArray⟩)(hT:sE 0 1 w):
  sH Tryz.prog 89 #[.string s] w fun e w'=>e=.returned (.tuple #[.int .i32 (dec l).1,.int .i64 (dec l).2])/\Below w.heap.size w w':=by
 subst hs;exact qD l w hT
theorem znU(l:List UInt8)(w:sG)(hl:l.length<=9223372036854775807)(hT:sE 0 1 w):
  sH Tryz.prog 116 #[.string ⟨l.toArray⟩] w fun e w'=>e=.returned (.tuple #[.int .i32 (bw l).1,.int .i64 (bw l).2])/\Below w.heap.size w w':=by
 by_cases h:l=[]
 ·subst h;go_enter Tryz.func116,Tryz.ntmps116;go_wp2;go_ret2;exact⟨rfl,sI _ _⟩
 ·have hd:bw l=Lib.decodeLastL l:=if_neg h;rw[hd];have he:l.isEmpty=false:=by simpa using h
  clear hd h;have HT:=aa hT;have hs':(⟨l.toArray⟩:ByteArray).size<=9223372036854775807:=by show l.toArray.size<=_;simpa using hl
  have HS:=aa hs';clear hT hs';go_enter Tryz.func116,Tryz.ntmps116;go_wp2_with (go_at_call 151;refine(Tryz.utf8_DecodeLastRuneInString ⟨l.toArray⟩ _ HS.o (by exact HT.o)).mono ?_;rintro e w1 ⟨rfl,hb⟩);go_ret2;exact⟨rfl,hb⟩
end
section
open Go.RowKit
theorem ai(r lo hi:Int)(w:sG)(h:lo<=r/\r<=hi):sH Tryz.prog 124 #[.int .i32 r,.int .i32 lo,.int .i32 hi] w fun e w'=>e=.returned (.bool true)/\w'=w:=by obtain⟨h1,h2⟩:=h;go_enter Tryz.func124,Tryz.ntmps124;go_wp2;go_ret;exact⟨rfl,rfl⟩
theorem ak(r lo hi:Int)(w:sG)(h:¬(lo<=r/\r<=hi)):sH Tryz.prog 124 #[.int .i32 r,.int .i32 lo,.int .i32 hi] w fun e w'=>e=.returned (.bool false)/\w'=w:=by
 by_cases h1:lo<=r
 ·have h2:¬r<=hi:=fun h2=>h ⟨h1,h2⟩;clear h;go_enter Tryz.func124,Tryz.ntmps124;go_wp2;go_ret;exact⟨rfl,rfl⟩
 ·clear h;go_enter Tryz.func124,Tryz.ntmps124;go_wp2;go_ret;exact⟨rfl,rfl⟩
def aR(r:Int):Int:=
 if 97<=r/\r<=122 then 10 else if 65<=r/\r<=90 then 10 else if r=32 then 18 else if 48<=r/\r<=57 then 16 else if r=13 then 1 else if r=10 then 2 else if r=11 then 3 else if r=12 then 3 else if r=39 then 11 else if r=34 then 12 else if r=46 then 13 else if r=58 then 14 else if r=44 then 15 else if r=59 then 15 else if r=95 then 17 else 0
theorem zde(r:Int)(w:sG):sH Tryz.prog 83 #[.int .i32 r] w fun e w'=>e=.returned (.int .i64 (aR r))/\w'=w:=by
 by_cases h0:97<=r/\r<=122
 ·have HV:ae (aR r=10):=aa (by unfold aR;rw[if_pos h0]);obtain⟨u0,v0⟩:=h0;go_enter Tryz.func83,Tryz.ntmps83;go_wp2_with (first|(go_at_call 124;(first|refine(ai _ _ _ _ (by omega)).mono ?_|refine(ak _ _ _ _ (by omega)).mono ?_);rintro e w1 ⟨rfl,hw1⟩;obtain rfl:=hw1.symm;clear hw1));go_ret;exact⟨by rw[HV.o];rfl,rfl⟩
 by_cases h1:65<=r/\r<=90
 ·have HV:ae (aR r=10):=aa (by unfold aR;rw[if_neg h0,if_pos h1]);obtain⟨u1,v1⟩:=h1;go_enter Tryz.func83,Tryz.ntmps83;go_wp2_with (first|(go_at_call 124;(first|refine(ai _ _ _ _ (by omega)).mono ?_|refine(ak _ _ _ _ (by omega)).mono ?_);rintro e w1 ⟨rfl,hw1⟩;obtain rfl:=hw1.symm;clear hw1));go_ret;exact⟨by rw[HV.o];rfl,rfl⟩
 by_cases h2:r=32
 ·subst h2;have HV:ae (aR 32=18):=aa (by decide);clear h0 h1;go_enter Tryz.func83,Tryz.ntmps83;go_wp2_with (first|(go_at_call 124;(first|refine(ai _ _ _ _ (by omega)).mono ?_|refine(ak _ _ _ _ (by omega)).mono ?_);rintro e w1 ⟨rfl,hw1⟩;obtain rfl:=hw1.symm;clear hw1));go_ret;exact⟨by rw[HV.o];rfl,rfl⟩
 by_cases h3:48<=r/\r<=57
 ·have HV:ae (aR r=16):=aa (by unfold aR;rw[if_neg h0,if_neg h1,if_neg h2,if_pos h3]);have b2:(r==32)=false:=beq_eq_false_iff_ne.2 h2;obtain⟨u3,v3⟩:=h3;go_enter Tryz.func83,Tryz.ntmps83;go_wp2_with (first|(go_at_call 124;(first|refine(ai _ _ _ _ (by omega)).mono ?_|refine(ak _ _ _ _ (by omega)).mono ?_);rintro e w1 ⟨rfl,hw1⟩;obtain rfl:=hw1.symm;clear hw1));go_ret;exact⟨by rw[HV.o];rfl,rfl⟩
 by_cases h4:r=13
 ·subst h4;have HV:ae (aR 13=1):=aa (by decide);clear h0 h1 h2 h3;go_enter Tryz.func83,Tryz.ntmps83;go_wp2_with (first|(go_at_call 124;(first|refine(ai _ _ _ _ (by omega)).mono ?_|refine(ak _ _ _ _ (by omega)).mono ?_);rintro e w1 ⟨rfl,hw1⟩;obtain rfl:=hw1.symm;clear hw1));go_ret;exact⟨by rw[HV.o];rfl,rfl⟩
 by_cases h5:r=10
 ·subst h5;have HV:ae (aR 10=2):=aa (by decide);clear h0 h1 h2 h3 h4;go_enter Tryz.func83,Tryz.ntmps83;go_wp2_with (first|(go_at_call 124;(first|refine(ai _ _ _ _ (by omega)).mono ?_|refine(ak _ _ _ _ (by omega)).mono ?_);rintro e w1 ⟨rfl,hw1⟩;obtain rfl:=hw1.symm;clear hw1));go_ret;exact⟨by rw[HV.o];rfl,rfl⟩
 by_cases h6:r=11
 ·subst h6;have HV:ae (aR 11=3):=aa (by decide);clear h0 h1 h2 h3 h4 h5;go_enter Tryz.func83,Tryz.ntmps83;go_wp2_with (first|(go_at_call 124;(first|refine(ai _ _ _ _ (by omega)).mono ?_|refine(ak _ _ _ _ (by omega)).mono ?_);rintro e w1 ⟨rfl,hw1⟩;obtain rfl:=hw1.symm;clear hw1));go_ret;exact⟨by rw[HV.o];rfl,rfl⟩
 by_cases h7:r=12
 ·subst h7;have HV:ae (aR 12=3):=aa (by decide);clear h0 h1 h2 h3 h4 h5 h6;go_enter Tryz.func83,Tryz.ntmps83;go_wp2_with (first|(go_at_call 124;(first|refine(ai _ _ _ _ (by omega)).mono ?_|refine(ak _ _ _ _ (by omega)).mono ?_);rintro e w1 ⟨rfl,hw1⟩;obtain rfl:=hw1.symm;clear hw1));go_ret;exact⟨by rw[HV.o];rfl,rfl⟩
 by_cases h8:r=39
 ·subst h8;have HV:ae (aR 39=11):=aa (by decide);clear h0 h1 h2 h3 h4 h5 h6 h7;go_enter Tryz.func83,Tryz.ntmps83;go_wp2_with (first|(go_at_call 124;(first|refine(ai _ _ _ _ (by omega)).mono ?_|refine(ak _ _ _ _ (by omega)).mono ?_);rintro e w1 ⟨rfl,hw1⟩;obtain rfl:=hw1.symm;clear hw1));go_ret;exact⟨by rw[HV.o];rfl,rfl⟩
 by_cases h9:r=34
 ·subst h9;have HV:ae (aR 34=12):=aa (by decide);clear h0 h1 h2 h3 h4 h5 h6 h7 h8;go_enter Tryz.func83,Tryz.ntmps83;go_wp2_with (first|(go_at_call 124;(first|refine(ai _ _ _ _ (by omega)).mono ?_|refine(ak _ _ _ _ (by omega)).mono ?_);rintro e w1 ⟨rfl,hw1⟩;obtain rfl:=hw1.symm;clear hw1));go_ret;exact⟨by rw[HV.o];rfl,rfl⟩
 by_cases h10:r=46
 ·subst h10;have HV:ae (aR 46=13):=aa (by decide);clear h0 h1 h2 h3 h4 h5 h6 h7 h8 h9;go_enter Tryz.func83,Tryz.ntmps83;go_wp2_with (first|(go_at_call 124;(first|refine(ai _ _ _ _ (by omega)).mono ?_|refine(ak _ _ _ _ (by omega)).mono ?_);rintro e w1 ⟨rfl,hw1⟩;obtain rfl:=hw1.symm;clear hw1));go_ret;exact⟨by rw[HV.o];rfl,rfl⟩
 by_cases h11:r=58
 ·subst h11;have HV:ae (aR 58=14):=aa (by decide);clear h0 h1 h2 h3 h4 h5 h6 h7 h8 h9 h10;go_enter Tryz.func83,Tryz.ntmps83;go_wp2_with (first|(go_at_call 124;(first|refine(ai _ _ _ _ (by omega)).mono ?_|refine(ak _ _ _ _ (by omega)).mono ?_);rintro e w1 ⟨rfl,hw1⟩;obtain rfl:=hw1.symm;clear hw1));go_ret;exact⟨by rw[HV.o];rfl,rfl⟩
 by_cases h12:r=44
 ·subst h12;have HV:ae (aR 44=15):=aa (by decide);clear h0 h1 h2 h3 h4 h5 h6 h7 h8 h9 h10 h11;go_enter Tryz.func83,Tryz.ntmps83;go_wp2_with (first|(go_at_call 124;(first|refine(ai _ _ _ _ (by omega)).mono ?_|refine(ak _ _ _ _ (by omega)).mono ?_);rintro e w1 ⟨rfl,hw1⟩;obtain rfl:=hw1.symm;clear hw1));go_ret;exact⟨by rw[HV.o];rfl,rfl⟩
 by_cases h13:r=59
 ·subst h13;have HV:ae (aR 59=15):=aa (by decide);clear h0 h1 h2 h3 h4 h5 h6 h7 h8 h9 h10 h11 h12;go_enter Tryz.func83,Tryz.ntmps83;go_wp2_with (first|(go_at_call 124;(first|refine(ai _ _ _ _ (by omega)).mono ?_|refine(ak _ _ _ _ (by omega)).mono ?_);rintro e w1 ⟨rfl,hw1⟩;obtain rfl:=hw1.symm;clear hw1));go_ret;exact⟨by rw[HV.o];rfl,rfl⟩
 by_cases h14:r=95
 ·subst h14;have HV:ae (aR 95=17):=aa (by decide);clear h0 h1 h2 h3 h4 h5 h6 h7 h8 h9 h10 h11 h12 h13;go_enter Tryz.func83,Tryz.ntmps83;go_wp2_with (first|(go_at_call 124;(first|refine(ai _ _ _ _ (by omega)).mono ?_|refine(ak _ _ _ _ (by omega)).mono ?_);rintro e w1 ⟨rfl,hw1⟩;obtain rfl:=hw1.symm;clear hw1));go_ret;exact⟨by rw[HV.o];rfl,rfl⟩
 have HV:ae (aR r=0):=aa (by unfold aR;rw[if_neg h0,if_neg h1,if_neg h2,if_neg h3,if_neg h4,if_neg h5,if_neg h6,if_neg h7,if_neg h8,if_neg h9,if_neg h10,if_neg h11,if_neg h12,if_neg h13,if_neg h14]);have b2:(r==32)=false:=beq_eq_false_iff_ne.2 h2;have b4:(r==13)=false:=beq_eq_false_iff_ne.2 h4;have b5:(r==10)=false:=beq_eq_false_iff_ne.2 h5;have b6:(r==11)=false:=beq_eq_false_iff_ne.2 h6;have b7:(r==12)=false:=beq_eq_false_iff_ne.2 h7;have b8:(r==39)=false:=beq_eq_false_iff_ne.2 h8;have b9:(r==34)=false:=beq_eq_false_iff_ne.2 h9;have b10:(r==46)=false:=beq_eq_false_iff_ne.2 h10;have b11:(r==58)=false:=beq_eq_false_iff_ne.2 h11;have b12:(r==44)=false:=beq_eq_false_iff_ne.2 h12;have b13:(r==59)=false:=beq_eq_false_iff_ne.2 h13;have b14:(r==95)=false:=beq_eq_false_iff_ne.2 h14;go_enter Tryz.func83,Tryz.ntmps83;go_wp2_with (first|(go_at_call 124;(first|refine(ai _ _ _ _ (by omega)).mono ?_|refine(ak _ _ _ _ (by omega)).mono ?_);rintro e w1 ⟨rfl,hw1⟩;obtain rfl:=hw1.symm;clear hw1));go_ret;exact⟨by rw[HV.o];rfl,rfl⟩
def bi(r:Int):Int:=
 if r=170 then 10 else if r=181 then 10 else if 192<=r/\r<=214 then 10 else if 216<=r/\r<=246 then 10 else if 248<=r/\r<=687 then 10 else if r=133 then 3 else if r=169 then 19 else if r=174 then 19 else if r=173 then 6 else if r=183 then 14 else 0
theorem zda(r:Int)(w:sG):sH Tryz.prog 84 #[.int .i32 r] w fun e w'=>e=.returned (.int .i64 (bi r))/\w'=w:=by
 by_cases h0:r=170
 ·subst h0;have HV:ae (bi 170=10):=aa (by decide)
  skip
  go_enter Tryz.func84,Tryz.ntmps84;go_wp2_with (first|(go_at_call 124;(first|refine(ai _ _ _ _ (by omega)).mono ?_|refine(ak _ _ _ _ (by omega)).mono ?_);rintro e w1 ⟨rfl,hw1⟩;obtain rfl:=hw1.symm;clear hw1));go_ret;exact⟨by rw[HV.o];rfl,rfl⟩
 by_cases h1:r=181
 ·subst h1;have HV:ae (bi 181=10):=aa (by decide);clear h0;go_enter Tryz.func84,Tryz.ntmps84;go_wp2_with (first|(go_at_call 124;(first|refine(ai _ _ _ _ (by omega)).mono ?_|refine(ak _ _ _ _ (by omega)).mono ?_);rintro e w1 ⟨rfl,hw1⟩;obtain rfl:=hw1.symm;clear hw1));go_ret;exact⟨by rw[HV.o];rfl,rfl⟩
 by_cases h2:192<=r/\r<=214
 ·have HV:ae (bi r=10):=aa (by unfold bi;rw[if_neg h0,if_neg h1,if_pos h2]);have b0:(r==170)=false:=beq_eq_false_iff_ne.2 h0;have b1:(r==181)=false:=beq_eq_false_iff_ne.2 h1;obtain⟨u2,v2⟩:=h2;go_enter Tryz.func84,Tryz.ntmps84;go_wp2_with (first|(go_at_call 124;(first|refine(ai _ _ _ _ (by omega)).mono ?_|refine(ak _ _ _ _ (by omega)).mono ?_);rintro e w1 ⟨rfl,hw1⟩;obtain rfl:=hw1.symm;clear hw1));go_ret;exact⟨by rw[HV.o];rfl,rfl⟩
 by_cases h3:216<=r/\r<=246
 ·have HV:ae (bi r=10):=aa (by unfold bi;rw[if_neg h0,if_neg h1,if_neg h2,if_pos h3]);have b0:(r==170)=false:=beq_eq_false_iff_ne.2 h0;have b1:(r==181)=false:=beq_eq_false_iff_ne.2 h1;obtain⟨u3,v3⟩:=h3;go_enter Tryz.func84,Tryz.ntmps84;go_wp2_with (first|(go_at_call 124;(first|refine(ai _ _ _ _ (by omega)).mono ?_|refine(ak _ _ _ _ (by omega)).mono ?_);rintro e w1 ⟨rfl,hw1⟩;obtain rfl:=hw1.symm;clear hw1));go_ret;exact⟨by rw[HV.o];rfl,rfl⟩
 by_cases h4:248<=r/\r<=687
 ·have HV:ae (bi r=10):=aa (by unfold bi;rw[if_neg h0,if_neg h1,if_neg h2,if_neg h3,if_pos h4]);have b0:(r==170)=false:=beq_eq_false_iff_ne.2 h0;have b1:(r==181)=false:=beq_eq_false_iff_ne.2 h1;obtain⟨u4,v4⟩:=h4;go_enter Tryz.func84,Tryz.ntmps84;go_wp2_with (first|(go_at_call 124;(first|refine(ai _ _ _ _ (by omega)).mono ?_|refine(ak _ _ _ _ (by omega)).mono ?_);rintro e w1 ⟨rfl,hw1⟩;obtain rfl:=hw1.symm;clear hw1));go_ret;exact⟨by rw[HV.o];rfl,rfl⟩
 by_cases h5:r=133
 ·subst h5;have HV:ae (bi 133=3):=aa (by decide);clear h0 h1 h2 h3 h4;go_enter Tryz.func84,Tryz.ntmps84;go_wp2_with (first|(go_at_call 124;(first|refine(ai _ _ _ _ (by omega)).mono ?_|refine(ak _ _ _ _ (by omega)).mono ?_);rintro e w1 ⟨rfl,hw1⟩;obtain rfl:=hw1.symm;clear hw1));go_ret;exact⟨by rw[HV.o];rfl,rfl⟩
 by_cases h6:r=169
 ·subst h6;have HV:ae (bi 169=19):=aa (by decide);clear h0 h1 h2 h3 h4 h5;go_enter Tryz.func84,Tryz.ntmps84;go_wp2_with (first|(go_at_call 124;(first|refine(ai _ _ _ _ (by omega)).mono ?_|refine(ak _ _ _ _ (by omega)).mono ?_);rintro e w1 ⟨rfl,hw1⟩;obtain rfl:=hw1.symm;clear hw1));go_ret;exact⟨by rw[HV.o];rfl,rfl⟩
 by_cases h7:r=174
 ·subst h7;have HV:ae (bi 174=19):=aa (by decide);clear h0 h1 h2 h3 h4 h5 h6;go_enter Tryz.func84,Tryz.ntmps84;go_wp2_with (first|(go_at_call 124;(first|refine(ai _ _ _ _ (by omega)).mono ?_|refine(ak _ _ _ _ (by omega)).mono ?_);rintro e w1 ⟨rfl,hw1⟩;obtain rfl:=hw1.symm;clear hw1));go_ret;exact⟨by rw[HV.o];rfl,rfl⟩
 by_cases h8:r=173
 ·subst h8;have HV:ae (bi 173=6):=aa (by decide);clear h0 h1 h2 h3 h4 h5 h6 h7;go_enter Tryz.func84,Tryz.ntmps84;go_wp2_with (first|(go_at_call 124;(first|refine(ai _ _ _ _ (by omega)).mono ?_|refine(ak _ _ _ _ (by omega)).mono ?_);rintro e w1 ⟨rfl,hw1⟩;obtain rfl:=hw1.symm;clear hw1));go_ret;exact⟨by rw[HV.o];rfl,rfl⟩
 by_cases h9:r=183
 ·subst h9;have HV:ae (bi 183=14):=aa (by decide);clear h0 h1 h2 h3 h4 h5 h6 h7 h8;go_enter Tryz.func84,Tryz.ntmps84;go_wp2_with (first|(go_at_call 124;(first|refine(ai _ _ _ _ (by omega)).mono ?_|refine(ak _ _ _ _ (by omega)).mono ?_);rintro e w1 ⟨rfl,hw1⟩;obtain rfl:=hw1.symm;clear hw1));go_ret;exact⟨by rw[HV.o];rfl,rfl⟩
 have HV:ae (bi r=0):=aa (by unfold bi;rw[if_neg h0,if_neg h1,if_neg h2,if_neg h3,if_neg h4,if_neg h5,if_neg h6,if_neg h7,if_neg h8,if_neg h9]);have b0:(r==170)=false:=beq_eq_false_iff_ne.2 h0;have b1:(r==181)=false:=beq_eq_false_iff_ne.2 h1;have b5:(r==133)=false:=beq_eq_false_iff_ne.2 h5;have b6:(r==169)=false:=beq_eq_false_iff_ne.2 h6;have b7:(r==174)=false:=beq_eq_false_iff_ne.2 h7;have b8:(r==173)=false:=beq_eq_false_iff_ne.2 h8;have b9:(r==183)=false:=beq_eq_false_iff_ne.2 h9;go_enter Tryz.func84,Tryz.ntmps84;go_wp2_with (first|(go_at_call 124;(first|refine(ai _ _ _ _ (by omega)).mono ?_|refine(ak _ _ _ _ (by omega)).mono ?_);rintro e w1 ⟨rfl,hw1⟩;obtain rfl:=hw1.symm;clear hw1));go_ret;exact⟨by rw[HV.o];rfl,rfl⟩
def aB(r:Int):Int:=
 if r<=879 then 4 else if 1425<=r/\r<=1469 then 4 else if r<=883 then 10 else if r=902 then 10 else if 904<=r/\r<=1153 then 10 else if 1162<=r/\r<=1366 then 10 else if 1568<=r/\r<=1610 then 10 else if 7680<=r/\r<=8124 then 10 else if 1488<=r/\r<=1514 then 9 else if 1632<=r/\r<=1641 then 16 else if r=1644 then 15 else 0
theorem rf(r:Int)(w:sG):sH Tryz.prog 85 #[.int .i32 r] w fun e w'=>e=.returned (.int .i64 (aB r))/\w'=w:=by
 by_cases h0:r<=879
 ·have HV:ae (aB r=4):=aa (by unfold aB;rw[if_pos h0]);go_enter Tryz.func85,Tryz.ntmps85;go_wp2_with (first|(go_at_call 124;(first|refine(ai _ _ _ _ (by omega)).mono ?_|refine(ak _ _ _ _ (by omega)).mono ?_);rintro e w1 ⟨rfl,hw1⟩;obtain rfl:=hw1.symm;clear hw1));go_ret;exact⟨by rw[HV.o];rfl,rfl⟩
 by_cases h1:1425<=r/\r<=1469
 ·have HV:ae (aB r=4):=aa (by unfold aB;rw[if_neg h0,if_pos h1]);obtain⟨u1,v1⟩:=h1;go_enter Tryz.func85,Tryz.ntmps85;go_wp2_with (first|(go_at_call 124;(first|refine(ai _ _ _ _ (by omega)).mono ?_|refine(ak _ _ _ _ (by omega)).mono ?_);rintro e w1 ⟨rfl,hw1⟩;obtain rfl:=hw1.symm;clear hw1));go_ret;exact⟨by rw[HV.o];rfl,rfl⟩
 by_cases h2:r<=883
 ·have HV:ae (aB r=10):=aa (by unfold aB;rw[if_neg h0,if_neg h1,if_pos h2]);go_enter Tryz.func85,Tryz.ntmps85;go_wp2_with (first|(go_at_call 124;(first|refine(ai _ _ _ _ (by omega)).mono ?_|refine(ak _ _ _ _ (by omega)).mono ?_);rintro e w1 ⟨rfl,hw1⟩;obtain rfl:=hw1.symm;clear hw1));go_ret;exact⟨by rw[HV.o];rfl,rfl⟩
 by_cases h3:r=902
 ·subst h3;have HV:ae (aB 902=10):=aa (by decide);clear h0 h1 h2;go_enter Tryz.func85,Tryz.ntmps85;go_wp2_with (first|(go_at_call 124;(first|refine(ai _ _ _ _ (by omega)).mono ?_|refine(ak _ _ _ _ (by omega)).mono ?_);rintro e w1 ⟨rfl,hw1⟩;obtain rfl:=hw1.symm;clear hw1));go_ret;exact⟨by rw[HV.o];rfl,rfl⟩
 by_cases h4:904<=r/\r<=1153
 ·have HV:ae (aB r=10):=aa (by unfold aB;rw[if_neg h0,if_neg h1,if_neg h2,if_neg h3,if_pos h4]);have b3:(r==902)=false:=beq_eq_false_iff_ne.2 h3;obtain⟨u4,v4⟩:=h4;go_enter Tryz.func85,Tryz.ntmps85;go_wp2_with (first|(go_at_call 124;(first|refine(ai _ _ _ _ (by omega)).mono ?_|refine(ak _ _ _ _ (by omega)).mono ?_);rintro e w1 ⟨rfl,hw1⟩;obtain rfl:=hw1.symm;clear hw1));go_ret;exact⟨by rw[HV.o];rfl,rfl⟩
 by_cases h5:1162<=r/\r<=1366
 ·have HV:ae (aB r=10):=aa (by unfold aB;rw[if_neg h0,if_neg h1,if_neg h2,if_neg h3,if_neg h4,if_pos h5]);have b3:(r==902)=false:=beq_eq_false_iff_ne.2 h3;obtain⟨u5,v5⟩:=h5;go_enter Tryz.func85,Tryz.ntmps85;go_wp2_with (first|(go_at_call 124;(first|refine(ai _ _ _ _ (by omega)).mono ?_|refine(ak _ _ _ _ (by omega)).mono ?_);rintro e w1 ⟨rfl,hw1⟩;obtain rfl:=hw1.symm;clear hw1));go_ret;exact⟨by rw[HV.o];rfl,rfl⟩
 by_cases h6:1568<=r/\r<=1610
 ·have HV:ae (aB r=10):=aa (by unfold aB;rw[if_neg h0,if_neg h1,if_neg h2,if_neg h3,if_neg h4,if_neg h5,if_pos h6]);have b3:(r==902)=false:=beq_eq_false_iff_ne.2 h3;obtain⟨u6,v6⟩:=h6;go_enter Tryz.func85,Tryz.ntmps85;go_wp2_with (first|(go_at_call 124;(first|refine(ai _ _ _ _ (by omega)).mono ?_|refine(ak _ _ _ _ (by omega)).mono ?_);rintro e w1 ⟨rfl,hw1⟩;obtain rfl:=hw1.symm;clear hw1));go_ret;exact⟨by rw[HV.o];rfl,rfl⟩
 by_cases h7:7680<=r/\r<=8124
 ·have HV:ae (aB r=10):=aa (by unfold aB;rw[if_neg h0,if_neg h1,if_neg h2,if_neg h3,if_neg h4,if_neg h5,if_neg h6,if_pos h7]);have b3:(r==902)=false:=beq_eq_false_iff_ne.2 h3;obtain⟨u7,v7⟩:=h7;go_enter Tryz.func85,Tryz.ntmps85;go_wp2_with (first|(go_at_call 124;(first|refine(ai _ _ _ _ (by omega)).mono ?_|refine(ak _ _ _ _ (by omega)).mono ?_);rintro e w1 ⟨rfl,hw1⟩;obtain rfl:=hw1.symm;clear hw1));go_ret;exact⟨by rw[HV.o];rfl,rfl⟩
 by_cases h8:1488<=r/\r<=1514
 ·have HV:ae (aB r=9):=aa (by unfold aB;rw[if_neg h0,if_neg h1,if_neg h2,if_neg h3,if_neg h4,if_neg h5,if_neg h6,if_neg h7,if_pos h8]);have b3:(r==902)=false:=beq_eq_false_iff_ne.2 h3;obtain⟨u8,v8⟩:=h8;go_enter Tryz.func85,Tryz.ntmps85;go_wp2_with (first|(go_at_call 124;(first|refine(ai _ _ _ _ (by omega)).mono ?_|refine(ak _ _ _ _ (by omega)).mono ?_);rintro e w1 ⟨rfl,hw1⟩;obtain rfl:=hw1.symm;clear hw1));go_ret;exact⟨by rw[HV.o];rfl,rfl⟩
 by_cases h9:1632<=r/\r<=1641
 ·have HV:ae (aB r=16):=aa (by unfold aB;rw[if_neg h0,if_neg h1,if_neg h2,if_neg h3,if_neg h4,if_neg h5,if_neg h6,if_neg h7,if_neg h8,if_pos h9]);have b3:(r==902)=false:=beq_eq_false_iff_ne.2 h3;obtain⟨u9,v9⟩:=h9;go_enter Tryz.func85,Tryz.ntmps85;go_wp2_with (first|(go_at_call 124;(first|refine(ai _ _ _ _ (by omega)).mono ?_|refine(ak _ _ _ _ (by omega)).mono ?_);rintro e w1 ⟨rfl,hw1⟩;obtain rfl:=hw1.symm;clear hw1));go_ret;exact⟨by rw[HV.o];rfl,rfl⟩
 by_cases h10:r=1644
 ·subst h10;have HV:ae (aB 1644=15):=aa (by decide);clear h0 h1 h2 h3 h4 h5 h6 h7 h8 h9;go_enter Tryz.func85,Tryz.ntmps85;go_wp2_with (first|(go_at_call 124;(first|refine(ai _ _ _ _ (by omega)).mono ?_|refine(ak _ _ _ _ (by omega)).mono ?_);rintro e w1 ⟨rfl,hw1⟩;obtain rfl:=hw1.symm;clear hw1));go_ret;exact⟨by rw[HV.o];rfl,rfl⟩
 have HV:ae (aB r=0):=aa (by unfold aB;rw[if_neg h0,if_neg h1,if_neg h2,if_neg h3,if_neg h4,if_neg h5,if_neg h6,if_neg h7,if_neg h8,if_neg h9,if_neg h10]);have b3:(r==902)=false:=beq_eq_false_iff_ne.2 h3;have b10:(r==1644)=false:=beq_eq_false_iff_ne.2 h10;go_enter Tryz.func85,Tryz.ntmps85;go_wp2_with (first|(go_at_call 124;(first|refine(ai _ _ _ _ (by omega)).mono ?_|refine(ak _ _ _ _ (by omega)).mono ?_);rintro e w1 ⟨rfl,hw1⟩;obtain rfl:=hw1.symm;clear hw1));go_ret;exact⟨by rw[HV.o];rfl,rfl⟩
def bm(r:Int):Int:=
 if r=8204 then 4 else if r=8205 then 5 else if r=8206 then 6 else if r=8207 then 6 else if r=8288 then 6 else if r=8216 then 13 else if r=8217 then 13 else if r=8232 then 3 else if r=8233 then 3 else if r=8255 then 17 else if r<=8198 then 18 else 0
theorem zcY(r:Int)(w:sG):sH Tryz.prog 86 #[.int .i32 r] w fun e w'=>e=.returned (.int .i64 (bm r))/\w'=w:=by
 by_cases h0:r=8204
 ·subst h0;have HV:ae (bm 8204=4):=aa (by decide)
  skip
  go_enter Tryz.func86,Tryz.ntmps86;go_wp2_with (first|(go_at_call 124;(first|refine(ai _ _ _ _ (by omega)).mono ?_|refine(ak _ _ _ _ (by omega)).mono ?_);rintro e w1 ⟨rfl,hw1⟩;obtain rfl:=hw1.symm;clear hw1));go_ret;exact⟨by rw[HV.o];rfl,rfl⟩
 by_cases h1:r=8205
 ·subst h1;have HV:ae (bm 8205=5):=aa (by decide);clear h0;go_enter Tryz.func86,Tryz.ntmps86;go_wp2_with (first|(go_at_call 124;(first|refine(ai _ _ _ _ (by omega)).mono ?_|refine(ak _ _ _ _ (by omega)).mono ?_);rintro e w1 ⟨rfl,hw1⟩;obtain rfl:=hw1.symm;clear hw1));go_ret;exact⟨by rw[HV.o];rfl,rfl⟩
 by_cases h2:r=8206
 ·subst h2;have HV:ae (bm 8206=6):=aa (by decide);clear h0 h1;go_enter Tryz.func86,Tryz.ntmps86;go_wp2_with (first|(go_at_call 124;(first|refine(ai _ _ _ _ (by omega)).mono ?_|refine(ak _ _ _ _ (by omega)).mono ?_);rintro e w1 ⟨rfl,hw1⟩;obtain rfl:=hw1.symm;clear hw1));go_ret;exact⟨by rw[HV.o];rfl,rfl⟩
 by_cases h3:r=8207
 ·subst h3;have HV:ae (bm 8207=6):=aa (by decide);clear h0 h1 h2;go_enter Tryz.func86,Tryz.ntmps86;go_wp2_with (first|(go_at_call 124;(first|refine(ai _ _ _ _ (by omega)).mono ?_|refine(ak _ _ _ _ (by omega)).mono ?_);rintro e w1 ⟨rfl,hw1⟩;obtain rfl:=hw1.symm;clear hw1));go_ret;exact⟨by rw[HV.o];rfl,rfl⟩
 by_cases h4:r=8288
 ·subst h4;have HV:ae (bm 8288=6):=aa (by decide);clear h0 h1 h2 h3;go_enter Tryz.func86,Tryz.ntmps86;go_wp2_with (first|(go_at_call 124;(first|refine(ai _ _ _ _ (by omega)).mono ?_|refine(ak _ _ _ _ (by omega)).mono ?_);rintro e w1 ⟨rfl,hw1⟩;obtain rfl:=hw1.symm;clear hw1));go_ret;exact⟨by rw[HV.o];rfl,rfl⟩
 by_cases h5:r=8216
 ·subst h5;have HV:ae (bm 8216=13):=aa (by decide);clear h0 h1 h2 h3 h4;go_enter Tryz.func86,Tryz.ntmps86;go_wp2_with (first|(go_at_call 124;(first|refine(ai _ _ _ _ (by omega)).mono ?_|refine(ak _ _ _ _ (by omega)).mono ?_);rintro e w1 ⟨rfl,hw1⟩;obtain rfl:=hw1.symm;clear hw1));go_ret;exact⟨by rw[HV.o];rfl,rfl⟩
 by_cases h6:r=8217
 ·subst h6;have HV:ae (bm 8217=13):=aa (by decide);clear h0 h1 h2 h3 h4 h5;go_enter Tryz.func86,Tryz.ntmps86;go_wp2_with (first|(go_at_call 124;(first|refine(ai _ _ _ _ (by omega)).mono ?_|refine(ak _ _ _ _ (by omega)).mono ?_);rintro e w1 ⟨rfl,hw1⟩;obtain rfl:=hw1.symm;clear hw1));go_ret;exact⟨by rw[HV.o];rfl,rfl⟩
 by_cases h7:r=8232
 ·subst h7;have HV:ae (bm 8232=3):=aa (by decide);clear h0 h1 h2 h3 h4 h5 h6;go_enter Tryz.func86,Tryz.ntmps86;go_wp2_with (first|(go_at_call 124;(first|refine(ai _ _ _ _ (by omega)).mono ?_|refine(ak _ _ _ _ (by omega)).mono ?_);rintro e w1 ⟨rfl,hw1⟩;obtain rfl:=hw1.symm;clear hw1));go_ret;exact⟨by rw[HV.o];rfl,rfl⟩
 by_cases h8:r=8233
 ·subst h8;have HV:ae (bm 8233=3):=aa (by decide);clear h0 h1 h2 h3 h4 h5 h6 h7;go_enter Tryz.func86,Tryz.ntmps86;go_wp2_with (first|(go_at_call 124;(first|refine(ai _ _ _ _ (by omega)).mono ?_|refine(ak _ _ _ _ (by omega)).mono ?_);rintro e w1 ⟨rfl,hw1⟩;obtain rfl:=hw1.symm;clear hw1));go_ret;exact⟨by rw[HV.o];rfl,rfl⟩
 by_cases h9:r=8255
 ·subst h9;have HV:ae (bm 8255=17):=aa (by decide);clear h0 h1 h2 h3 h4 h5 h6 h7 h8;go_enter Tryz.func86,Tryz.ntmps86;go_wp2_with (first|(go_at_call 124;(first|refine(ai _ _ _ _ (by omega)).mono ?_|refine(ak _ _ _ _ (by omega)).mono ?_);rintro e w1 ⟨rfl,hw1⟩;obtain rfl:=hw1.symm;clear hw1));go_ret;exact⟨by rw[HV.o];rfl,rfl⟩
 by_cases h10:r<=8198
 ·have HV:ae (bm r=18):=aa (by unfold bm;rw[if_neg h0,if_neg h1,if_neg h2,if_neg h3,if_neg h4,if_neg h5,if_neg h6,if_neg h7,if_neg h8,if_neg h9,if_pos h10]);have b0:(r==8204)=false:=beq_eq_false_iff_ne.2 h0;have b1:(r==8205)=false:=beq_eq_false_iff_ne.2 h1;have b2:(r==8206)=false:=beq_eq_false_iff_ne.2 h2;have b3:(r==8207)=false:=beq_eq_false_iff_ne.2 h3;have b4:(r==8288)=false:=beq_eq_false_iff_ne.2 h4;have b5:(r==8216)=false:=beq_eq_false_iff_ne.2 h5;have b6:(r==8217)=false:=beq_eq_false_iff_ne.2 h6;have b7:(r==8232)=false:=beq_eq_false_iff_ne.2 h7;have b8:(r==8233)=false:=beq_eq_false_iff_ne.2 h8;have b9:(r==8255)=false:=beq_eq_false_iff_ne.2 h9;go_enter Tryz.func86,Tryz.ntmps86;go_wp2_with (first|(go_at_call 124;(first|refine(ai _ _ _ _ (by omega)).mono ?_|refine(ak _ _ _ _ (by omega)).mono ?_);rintro e w1 ⟨rfl,hw1⟩;obtain rfl:=hw1.symm;clear hw1));go_ret;exact⟨by rw[HV.o];rfl,rfl⟩
 have HV:ae (bm r=0):=aa (by unfold bm;rw[if_neg h0,if_neg h1,if_neg h2,if_neg h3,if_neg h4,if_neg h5,if_neg h6,if_neg h7,if_neg h8,if_neg h9,if_neg h10]);have b0:(r==8204)=false:=beq_eq_false_iff_ne.2 h0;have b1:(r==8205)=false:=beq_eq_false_iff_ne.2 h1;have b2:(r==8206)=false:=beq_eq_false_iff_ne.2 h2;have b3:(r==8207)=false:=beq_eq_false_iff_ne.2 h3;have b4:(r==8288)=false:=beq_eq_false_iff_ne.2 h4;have b5:(r==8216)=false:=beq_eq_false_iff_ne.2 h5;have b6:(r==8217)=false:=beq_eq_false_iff_ne.2 h6;have b7:(r==8232)=false:=beq_eq_false_iff_ne.2 h7;have b8:(r==8233)=false:=beq_eq_false_iff_ne.2 h8;have b9:(r==8255)=false:=beq_eq_false_iff_ne.2 h9;go_enter Tryz.func86,Tryz.ntmps86;go_wp2_with (first|(go_at_call 124;(first|refine(ai _ _ _ _ (by omega)).mono ?_|refine(ak _ _ _ _ (by omega)).mono ?_);rintro e w1 ⟨rfl,hw1⟩;obtain rfl:=hw1.symm;clear hw1));go_ret;exact⟨by rw[HV.o];rfl,rfl⟩
def bI(r:Int):Int:=
 if 9728<=r/\r<=10175 then 19 else if r=12288 then 18 else if r=12441 then 4 else if r=12442 then 4 else if 12449<=r/\r<=12538 then 8 else if r=12540 then 8 else 0
theorem zdc(r:Int)(w:sG):sH Tryz.prog 87 #[.int .i32 r] w fun e w'=>e=.returned (.int .i64 (bI r))/\w'=w:=by
 by_cases h0:9728<=r/\r<=10175
 ·have HV:ae (bI r=19):=aa (by unfold bI;rw[if_pos h0]);obtain⟨u0,v0⟩:=h0;go_enter Tryz.func87,Tryz.ntmps87;go_wp2_with (first|(go_at_call 124;(first|refine(ai _ _ _ _ (by omega)).mono ?_|refine(ak _ _ _ _ (by omega)).mono ?_);rintro e w1 ⟨rfl,hw1⟩;obtain rfl:=hw1.symm;clear hw1));go_ret;exact⟨by rw[HV.o];rfl,rfl⟩
 by_cases h1:r=12288
 ·subst h1;have HV:ae (bI 12288=18):=aa (by decide);clear h0;go_enter Tryz.func87,Tryz.ntmps87;go_wp2_with (first|(go_at_call 124;(first|refine(ai _ _ _ _ (by omega)).mono ?_|refine(ak _ _ _ _ (by omega)).mono ?_);rintro e w1 ⟨rfl,hw1⟩;obtain rfl:=hw1.symm;clear hw1));go_ret;exact⟨by rw[HV.o];rfl,rfl⟩
 by_cases h2:r=12441
 ·subst h2;have HV:ae (bI 12441=4):=aa (by decide);clear h0 h1;go_enter Tryz.func87,Tryz.ntmps87;go_wp2_with (first|(go_at_call 124;(first|refine(ai _ _ _ _ (by omega)).mono ?_|refine(ak _ _ _ _ (by omega)).mono ?_);rintro e w1 ⟨rfl,hw1⟩;obtain rfl:=hw1.symm;clear hw1));go_ret;exact⟨by rw[HV.o];rfl,rfl⟩
 by_cases h3:r=12442
 ·subst h3;have HV:ae (bI 12442=4):=aa (by decide);clear h0 h1 h2;go_enter Tryz.func87,Tryz.ntmps87;go_wp2_with (first|(go_at_call 124;(first|refine(ai _ _ _ _ (by omega)).mono ?_|refine(ak _ _ _ _ (by omega)).mono ?_);rintro e w1 ⟨rfl,hw1⟩;obtain rfl:=hw1.symm;clear hw1));go_ret;exact⟨by rw[HV.o];rfl,rfl⟩
 by_cases h4:12449<=r/\r<=12538
 ·have HV:ae (bI r=8):=aa (by unfold bI;rw[if_neg h0,if_neg h1,if_neg h2,if_neg h3,if_pos h4]);have b1:(r==12288)=false:=beq_eq_false_iff_ne.2 h1;have b2:(r==12441)=false:=beq_eq_false_iff_ne.2 h2;have b3:(r==12442)=false:=beq_eq_false_iff_ne.2 h3;obtain⟨u4,v4⟩:=h4;go_enter Tryz.func87,Tryz.ntmps87;go_wp2_with (first|(go_at_call 124;(first|refine(ai _ _ _ _ (by omega)).mono ?_|refine(ak _ _ _ _ (by omega)).mono ?_);rintro e w1 ⟨rfl,hw1⟩;obtain rfl:=hw1.symm;clear hw1));go_ret;exact⟨by rw[HV.o];rfl,rfl⟩
 by_cases h5:r=12540
 ·subst h5;have HV:ae (bI 12540=8):=aa (by decide);clear h0 h1 h2 h3 h4;go_enter Tryz.func87,Tryz.ntmps87;go_wp2_with (first|(go_at_call 124;(first|refine(ai _ _ _ _ (by omega)).mono ?_|refine(ak _ _ _ _ (by omega)).mono ?_);rintro e w1 ⟨rfl,hw1⟩;obtain rfl:=hw1.symm;clear hw1));go_ret;exact⟨by rw[HV.o];rfl,rfl⟩
 have HV:ae (bI r=0):=aa (by unfold bI;rw[if_neg h0,if_neg h1,if_neg h2,if_neg h3,if_neg h4,if_neg h5]);have b1:(r==12288)=false:=beq_eq_false_iff_ne.2 h1;have b2:(r==12441)=false:=beq_eq_false_iff_ne.2 h2;have b3:(r==12442)=false:=beq_eq_false_iff_ne.2 h3;have b5:(r==12540)=false:=beq_eq_false_iff_ne.2 h5;go_enter Tryz.func87,Tryz.ntmps87;go_wp2_with (first|(go_at_call 124;(first|refine(ai _ _ _ _ (by omega)).mono ?_|refine(ak _ _ _ _ (by omega)).mono ?_);rintro e w1 ⟨rfl,hw1⟩;obtain rfl:=hw1.symm;clear hw1));go_ret;exact⟨by rw[HV.o];rfl,rfl⟩
def bp(r:Int):Int:=
 if 64256<=r/\r<=64262 then 10 else if 65024<=r/\r<=65039 then 4 else if 127995<=r/\r<=127999 then 4 else if r=65279 then 6 else if 65382<=r/\r<=65437 then 8 else if 127462<=r/\r<=127487 then 7 else if 127744<=r/\r<=127994 then 19 else if 128000<=r/\r<=128591 then 19 else if 128640<=r/\r<=128767 then 19 else 0
theorem zfS(r:Int)(w:sG):sH Tryz.prog 88 #[.int .i32 r] w fun e w'=>e=.returned (.int .i64 (bp r))/\w'=w:=by
 by_cases h0:64256<=r/\r<=64262
 ·have HV:ae (bp r=10):=aa (by unfold bp;rw[if_pos h0]);obtain⟨u0,v0⟩:=h0;go_enter Tryz.func88,Tryz.ntmps88;go_wp2_with (first|(go_at_call 124;(first|refine(ai _ _ _ _ (by omega)).mono ?_|refine(ak _ _ _ _ (by omega)).mono ?_);rintro e w1 ⟨rfl,hw1⟩;obtain rfl:=hw1.symm;clear hw1));go_ret;exact⟨by rw[HV.o];rfl,rfl⟩
 by_cases h1:65024<=r/\r<=65039
 ·have HV:ae (bp r=4):=aa (by unfold bp;rw[if_neg h0,if_pos h1]);obtain⟨u1,v1⟩:=h1;go_enter Tryz.func88,Tryz.ntmps88;go_wp2_with (first|(go_at_call 124;(first|refine(ai _ _ _ _ (by omega)).mono ?_|refine(ak _ _ _ _ (by omega)).mono ?_);rintro e w1 ⟨rfl,hw1⟩;obtain rfl:=hw1.symm;clear hw1));go_ret;exact⟨by rw[HV.o];rfl,rfl⟩
 by_cases h2:127995<=r/\r<=127999
 ·have HV:ae (bp r=4):=aa (by unfold bp;rw[if_neg h0,if_neg h1,if_pos h2]);obtain⟨u2,v2⟩:=h2;go_enter Tryz.func88,Tryz.ntmps88;go_wp2_with (first|(go_at_call 124;(first|refine(ai _ _ _ _ (by omega)).mono ?_|refine(ak _ _ _ _ (by omega)).mono ?_);rintro e w1 ⟨rfl,hw1⟩;obtain rfl:=hw1.symm;clear hw1));go_ret;exact⟨by rw[HV.o];rfl,rfl⟩
 by_cases h3:r=65279
 ·subst h3;have HV:ae (bp 65279=6):=aa (by decide);clear h0 h1 h2;go_enter Tryz.func88,Tryz.ntmps88;go_wp2_with (first|(go_at_call 124;(first|refine(ai _ _ _ _ (by omega)).mono ?_|refine(ak _ _ _ _ (by omega)).mono ?_);rintro e w1 ⟨rfl,hw1⟩;obtain rfl:=hw1.symm;clear hw1));go_ret;exact⟨by rw[HV.o];rfl,rfl⟩
 by_cases h4:65382<=r/\r<=65437
 ·have HV:ae (bp r=8):=aa (by unfold bp;rw[if_neg h0,if_neg h1,if_neg h2,if_neg h3,if_pos h4]);have b3:(r==65279)=false:=beq_eq_false_iff_ne.2 h3;obtain⟨u4,v4⟩:=h4;go_enter Tryz.func88,Tryz.ntmps88;go_wp2_with (first|(go_at_call 124;(first|refine(ai _ _ _ _ (by omega)).mono ?_|refine(ak _ _ _ _ (by omega)).mono ?_);rintro e w1 ⟨rfl,hw1⟩;obtain rfl:=hw1.symm;clear hw1));go_ret;exact⟨by rw[HV.o];rfl,rfl⟩
 by_cases h5:127462<=r/\r<=127487
 ·have HV:ae (bp r=7):=aa (by unfold bp;rw[if_neg h0,if_neg h1,if_neg h2,if_neg h3,if_neg h4,if_pos h5]);have b3:(r==65279)=false:=beq_eq_false_iff_ne.2 h3;obtain⟨u5,v5⟩:=h5;go_enter Tryz.func88,Tryz.ntmps88;go_wp2_with (first|(go_at_call 124;(first|refine(ai _ _ _ _ (by omega)).mono ?_|refine(ak _ _ _ _ (by omega)).mono ?_);rintro e w1 ⟨rfl,hw1⟩;obtain rfl:=hw1.symm;clear hw1));go_ret;exact⟨by rw[HV.o];rfl,rfl⟩
 by_cases h6:127744<=r/\r<=127994
 ·have HV:ae (bp r=19):=aa (by unfold bp;rw[if_neg h0,if_neg h1,if_neg h2,if_neg h3,if_neg h4,if_neg h5,if_pos h6]);have b3:(r==65279)=false:=beq_eq_false_iff_ne.2 h3;obtain⟨u6,v6⟩:=h6;go_enter Tryz.func88,Tryz.ntmps88;go_wp2_with (first|(go_at_call 124;(first|refine(ai _ _ _ _ (by omega)).mono ?_|refine(ak _ _ _ _ (by omega)).mono ?_);rintro e w1 ⟨rfl,hw1⟩;obtain rfl:=hw1.symm;clear hw1));go_ret;exact⟨by rw[HV.o];rfl,rfl⟩
 by_cases h7:128000<=r/\r<=128591
 ·have HV:ae (bp r=19):=aa (by unfold bp;rw[if_neg h0,if_neg h1,if_neg h2,if_neg h3,if_neg h4,if_neg h5,if_neg h6,if_pos h7]);have b3:(r==65279)=false:=beq_eq_false_iff_ne.2 h3;obtain⟨u7,v7⟩:=h7;go_enter Tryz.func88,Tryz.ntmps88;go_wp2_with (first|(go_at_call 124;(first|refine(ai _ _ _ _ (by omega)).mono ?_|refine(ak _ _ _ _ (by omega)).mono ?_);rintro e w1 ⟨rfl,hw1⟩;obtain rfl:=hw1.symm;clear hw1));go_ret;exact⟨by rw[HV.o];rfl,rfl⟩
 by_cases h8:128640<=r/\r<=128767
 ·have HV:ae (bp r=19):=aa (by unfold bp;rw[if_neg h0,if_neg h1,if_neg h2,if_neg h3,if_neg h4,if_neg h5,if_neg h6,if_neg h7,if_pos h8]);have b3:(r==65279)=false:=beq_eq_false_iff_ne.2 h3;obtain⟨u8,v8⟩:=h8;go_enter Tryz.func88,Tryz.ntmps88;go_wp2_with (first|(go_at_call 124;(first|refine(ai _ _ _ _ (by omega)).mono ?_|refine(ak _ _ _ _ (by omega)).mono ?_);rintro e w1 ⟨rfl,hw1⟩;obtain rfl:=hw1.symm;clear hw1));go_ret;exact⟨by rw[HV.o];rfl,rfl⟩
 have HV:ae (bp r=0):=aa (by unfold bp;rw[if_neg h0,if_neg h1,if_neg h2,if_neg h3,if_neg h4,if_neg h5,if_neg h6,if_neg h7,if_neg h8]);have b3:(r==65279)=false:=beq_eq_false_iff_ne.2 h3;go_enter Tryz.func88,Tryz.ntmps88;go_wp2_with (first|(go_at_call 124;(first|refine(ai _ _ _ _ (by omega)).mono ?_|refine(ak _ _ _ _ (by omega)).mono ?_);rintro e w1 ⟨rfl,hw1⟩;obtain rfl:=hw1.symm;clear hw1));go_ret;exact⟨by rw[HV.o];rfl,rfl⟩
def bf(r:Int):Int:=
 if r<128 then aR r else if r<768 then bi r else if r<8192 then aB r else if r<8448 then bm r else if r<44032 then bI r else if r<=55203 then 10 else bp r
theorem eC(r:Int)(w:sG):sH Tryz.prog 56 #[.int .i32 r] w fun e w'=>e=.returned (.int .i64 (bf r))/\w'=w:=by
 by_cases h0:r<128
 ·have HV:ae (bf r=aR r):=aa (by unfold bf;rw[if_pos h0]);go_enter Tryz.func56,Tryz.ntmps56;go_wp2_with fail;refine(zde r w).mono ?_;rintro e w1 ⟨rfl,hw1⟩;obtain rfl:=hw1.symm;clear hw1;go_wp2;go_ret;exact⟨by rw[HV.o];rfl,rfl⟩
 by_cases h1:r<768
 ·have HV:ae (bf r=bi r):=aa (by unfold bf;rw[if_neg h0,if_pos h1]);go_enter Tryz.func56,Tryz.ntmps56;go_wp2_with fail;refine(zda r w).mono ?_;rintro e w1 ⟨rfl,hw1⟩;obtain rfl:=hw1.symm;clear hw1;go_wp2;go_ret;exact⟨by rw[HV.o];rfl,rfl⟩
 by_cases h2:r<8192
 ·have HV:ae (bf r=aB r):=aa (by unfold bf;rw[if_neg h0,if_neg h1,if_pos h2]);go_enter Tryz.func56,Tryz.ntmps56;go_wp2_with fail;refine(rf r w).mono ?_;rintro e w1 ⟨rfl,hw1⟩;obtain rfl:=hw1.symm;clear hw1;go_wp2;go_ret;exact⟨by rw[HV.o];rfl,rfl⟩
 by_cases h3:r<8448
 ·have HV:ae (bf r=bm r):=aa (by unfold bf;rw[if_neg h0,if_neg h1,if_neg h2,if_pos h3]);go_enter Tryz.func56,Tryz.ntmps56;go_wp2_with fail;refine(zcY r w).mono ?_;rintro e w1 ⟨rfl,hw1⟩;obtain rfl:=hw1.symm;clear hw1;go_wp2;go_ret;exact⟨by rw[HV.o];rfl,rfl⟩
 by_cases h4:r<44032
 ·have HV:ae (bf r=bI r):=aa (by unfold bf;rw[if_neg h0,if_neg h1,if_neg h2,if_neg h3,if_pos h4]);go_enter Tryz.func56,Tryz.ntmps56;go_wp2_with fail;refine(zdc r w).mono ?_;rintro e w1 ⟨rfl,hw1⟩;obtain rfl:=hw1.symm;clear hw1;go_wp2;go_ret;exact⟨by rw[HV.o];rfl,rfl⟩
 by_cases h5:r<=55203
 ·have HV:ae (bf r=10):=aa (by unfold bf;rw[if_neg h0,if_neg h1,if_neg h2,if_neg h3,if_neg h4,if_pos h5]);go_enter Tryz.func56,Tryz.ntmps56;go_wp2;go_ret;exact⟨by rw[HV.o];rfl,rfl⟩
 have HV:ae (bf r=bp r):=aa (by unfold bf;rw[if_neg h0,if_neg h1,if_neg h2,if_neg h3,if_neg h4,if_neg h5]);go_enter Tryz.func56,Tryz.ntmps56;go_wp2_with fail;refine(zfS r w).mono ?_;rintro e w1 ⟨rfl,hw1⟩;obtain rfl:=hw1.symm;clear hw1;go_wp2;go_ret;exact⟨by rw[HV.o];rfl,rfl⟩
end
namespace Wd
open Go.RowKit
def gY(c:Int):Bool:=c==1||c==2||c==3
def aT(c:Int):Bool:=c==4||c==6||c==5
def bh(c:Int):Bool:=c==10||c==9
def cX(c:Int):Bool:=bh c||c==8||c==16
def zjM(a b:Int):Bool:=
 if a==10 then bh b||b==16||b==17 else if a==16 then bh b||b==16||b==17 else if a==9 then bh b||b==16||b==17||b==11 else
 if a==8 then b==8||b==17 else if a==17 then bh b||b==8||b==16||b==17 else false
def ml(c:Int):Bool:=c==14||c==15||c==13||c==11||c==12
def nX(a m b:Int):Bool:=
 if m==14 then bh a&&bh b else if m==15 then a==16&&b==16 else if m==13 then bh a&&bh b||a==16&&b==16 else if m==11 then bh a&&bh b||a==16&&b==16 else if m==12 then a==9&&b==9 else false
def Cl(c:Int):Prop:=0<=c/\c<=19
theorem Cl.nat{c:Int}(h:Cl c):∃n:Nat,n<20/\c=(n:Int):=⟨c.toNat,by have:=h.1;have:=h.2;omega,by have:=h.1;omega⟩
theorem eb{p:Prop}[Decidable p]{a b:Int}(ha:Cl a)(hb:Cl b):Cl (if p then a else b):=by
 split
 ·exact ha
 ·exact hb
theorem zlK(r:Int):Cl (bf r):=by
 have h1:Cl (aR r):=by unfold aR;repeat (first|exact⟨by decide,by decide⟩|refine eb ⟨by decide,by decide⟩ ?_)
 have h2:Cl (bi r):=by unfold bi;repeat (first|exact⟨by decide,by decide⟩|refine eb ⟨by decide,by decide⟩ ?_)
 have h3:Cl (aB r):=by unfold aB;repeat (first|exact⟨by decide,by decide⟩|refine eb ⟨by decide,by decide⟩ ?_)
 have h4:Cl (bm r):=by unfold bm;repeat (first|exact⟨by decide,by decide⟩|refine eb ⟨by decide,by decide⟩ ?_)
 have h5:Cl (bI r):=by unfold bI;repeat (first|exact⟨by decide,by decide⟩|refine eb ⟨by decide,by decide⟩ ?_)
 have h6:Cl (bp r):=by unfold bp;repeat (first|exact⟨by decide,by decide⟩|refine eb ⟨by decide,by decide⟩ ?_)
 unfold bf;exact eb h1 (eb h2 (eb h3 (eb h4 (eb h5 (eb ⟨by decide,by decide⟩ h6)))))
end Wd
namespace Wd
def bT(l:List UInt8):Int:=bf (bw l).1
def aQ(l:List UInt8):Int:=bf (dec l).1
theorem zjO:bT []=0:=by decide
def zgf:Nat->List UInt8->Int×Nat
 |0,_=>(0,0)
 |f+1,l=>if l=[]then (0,0)else if aT (bT l)then zgf f (eV l)else (bT l,(eV l).length)
theorem pf(l:List UInt8)(h:l≠ []):1<=(bw l).2/\(bw l).2<=l.length:=by obtain⟨e,n,c,h1,h2,h3,_⟩:=zkR l h;rw[h1];exact⟨h2,by show n<=_;omega⟩
theorem ey(l:List UInt8)(h:l≠ []):(eV l).length<l.length:=by have:=pf l h;have:0<l.length:=sJ.2 h;unfold eV;rw[List.length_take];omega
theorem pu:∀(f g:Nat)(l:List UInt8),l.length<=f->l.length<=g->zgf f l=zgf g l
 |0,0,_,_,_=>rfl
 |0,g+1,l,hf,hg=>by have:l=[]:=sD.1 (by omega);subst this;rfl
 |f+1,0,l,hf,hg=>by have:l=[]:=sD.1 (by omega);subst this;rfl
 |f+1,g+1,l,hf,hg=>by
  unfold zgf;by_cases h:l=[]
  ·rw[if_pos h,if_pos h]
  ·have:=ey l h;rw[if_neg h,if_neg h,pu f g (eV l) (by omega) (by omega)]
def jW(l:List UInt8):Int×Nat:=zgf l.length l
theorem zba(l:List UInt8)(h:l≠ [])(hk:aT (bT l)=true):jW l=jW (eV l):=by
 have h1:=ey l h;unfold jW;rw[pu l.length (l.length-1+1) l (by omega) (by omega)]
 conv=>lhs;unfold zgf
 rw[if_neg h,if_pos hk];exact pu _ _ _ (by omega) (by omega)
theorem zgd(l:List UInt8)(h:l≠ [])(hk:aT (bT l)=false):jW l=(bT l,(eV l).length):=by have hp:0<l.length:=sJ.2 h;unfold jW;obtain⟨n,hn⟩:∃n,l.length=n+1:=⟨l.length-1,by omega⟩;rw[hn];unfold zgf;rw[if_neg h,if_neg (by rw[hk];simp)]
theorem zbb:∀(n:Nat)(l:List UInt8),l.length<=n->(jW l).2<=l.length
 |0,l,hl=>by have:l=[]:=sD.1 (by omega);subst this;exact sK _
 |n+1,l,hl=>by
  by_cases h:l=[]
  ·subst h;exact sK _
  ·have h1:=ey l h;cases hk:aT (bT l)with
   |true=>rw[zba l h hk];exact Nat.le_trans (zbb n (eV l) (by omega)) (sO h1)
   |false=>rw[zgd l h hk];exact sO h1
def zfL:Nat->List UInt8->Int
 |0,_=>0
 |f+1,l=>if l=[]then 0 else if aT (aQ l)then zfL f (l.drop (dec l).2)else aQ l
theorem pd:∀(f g:Nat)(l:List UInt8),l.length<=f->l.length<=g->zfL f l=zfL g l
 |0,0,_,_,_=>rfl
 |0,g+1,l,hf,hg=>by have:l=[]:=sD.1 (by omega);subst this;rfl
 |f+1,0,l,hf,hg=>by have:l=[]:=sD.1 (by omega);subst this;rfl
 |f+1,g+1,l,hf,hg=>by
  unfold zfL;by_cases h:l=[]
  ·rw[if_pos h,if_pos h]
  ·have:=dec_ge l h;rw[if_neg h,if_neg h,pd f g _ (by rw[sL];omega) (by rw[sL];omega)]
def won(l:List UInt8):Int:=zfL l.length l
theorem zhJ(l:List UInt8)(h:l≠ [])(hk:aT (aQ l)=true):won l=won (l.drop (dec l).2):=by
 have h1:=dec_ge l h;have hp:0<l.length:=sJ.2 h;unfold won;rw[pd l.length (l.length-1+1) l (by omega) (by omega)]
 conv=>lhs;unfold zfL
 rw[if_neg h,if_pos hk];exact pd _ _ _ (by rw[sL];omega) (sK _)
theorem zlC(l:List UInt8)(h:l≠ [])(hk:aT (aQ l)=false):won l=aQ l:=by have hp:0<l.length:=sJ.2 h;unfold won;obtain⟨n,hn⟩:∃n,l.length=n+1:=⟨l.length-1,by omega⟩;rw[hn];unfold zfL;rw[if_neg h,if_neg (by rw[hk];simp)]
def zfN:Nat->List UInt8->Bool->Bool
 |0,_,o=>o
 |f+1,l,o=>if l=[]then o else if bT l==7 then zfN f (eV l) (!o)else if aT (bT l)then zfN f (eV l) o else o
theorem il:∀(f g:Nat)(l:List UInt8)(o:Bool),l.length<=f->l.length<=g->zfN f l o=zfN g l o
 |0,0,_,_,_,_=>rfl
 |0,g+1,l,o,hf,hg=>by have:l=[]:=sD.1 (by omega);subst this;rfl
 |f+1,0,l,o,hf,hg=>by have:l=[]:=sD.1 (by omega);subst this;rfl
 |f+1,g+1,l,o,hf,hg=>by
  unfold zfN;by_cases h:l=[]
  ·rw[if_pos h,if_pos h]
  ·have:=ey l h;rw[if_neg h,if_neg h,il f g (eV l) (!o) (by omega) (by omega),il f g (eV l) o (by omega) (by omega)]
def wod(l:List UInt8)(o:Bool):Bool:=zfN l.length l o
theorem zcU(l:List UInt8)(o:Bool)(h:l≠ []):wod l o=if bT l==7 then wod (eV l) (!o)else if aT (bT l)then wod (eV l) o else o:=by
 have h1:=ey l h;unfold wod;rw[il l.length (l.length-1+1) l o (by omega) (by omega)]
 conv=>lhs;unfold zfN
 rw[if_neg h,il _ (eV l).length (eV l) (!o) (by omega) (sK _),il _ (eV l).length (eV l) o (by omega) (sK _)]
def gW(s:List UInt8)(p:Nat):Bool:=
 if zjM (jW (s.take p)).1 (aQ (s.drop p))then true else
 if (jW (s.take p)).1==7&&aQ (s.drop p)==7 then wod (s.take p) false else
 if ml (aQ (s.drop p))then nX (jW (s.take p)).1 (aQ (s.drop p)) (won (s.drop (p+(dec (s.drop p)).2)))else
 if ml (jW (s.take p)).1 then nX (jW (s.take (jW (s.take p)).2)).1 (jW (s.take p)).1 (aQ (s.drop p))else false
def fD(s:List UInt8)(p:Nat):Bool:=
 if bT (s.take p)==1&&aQ (s.drop p)==2 then false else if gY (bT (s.take p))then true else if gY (aQ (s.drop p))then true else
 if bT (s.take p)==5&&aQ (s.drop p)==19 then false else if bT (s.take p)==18&&aQ (s.drop p)==18 then false else
 if aT (aQ (s.drop p))then false else !gW s p
end Wd
namespace Wd
open Go.RowKit
theorem jb(c:Int)(w:sG):sH Tryz.prog 79 #[.int .i64 c] w fun e w'=>e=.returned (.bool (gY c))/\w'=w:=by
 obtain⟨v,hv⟩:∃v,gY c=v:=⟨_,rfl⟩;rw[hv];unfold gY at hv;cases h1:(c==1)<;>cases h2:(c==2)<;>cases h3:(c==3)
 all_goals
  rw[h1,h2,h3]at hv;have HV:=aa hv;clear hv;go_enter Tryz.func79,Tryz.ntmps79;go_wp2;go_ret;exact⟨by rw[<-HV.o];rfl,rfl⟩
theorem cw(c:Int)(w:sG):sH Tryz.prog 68 #[.int .i64 c] w fun e w'=>e=.returned (.bool (aT c))/\w'=w:=by
 obtain⟨v,hv⟩:∃v,aT c=v:=⟨_,rfl⟩;rw[hv];unfold aT at hv;cases h1:(c==4)<;>cases h2:(c==6)<;>cases h3:(c==5)
 all_goals
  rw[h1,h2,h3]at hv;have HV:=aa hv;clear hv;go_enter Tryz.func68,Tryz.ntmps68;go_wp2;go_ret;exact⟨by rw[<-HV.o];rfl,rfl⟩
theorem zcW(c:Int)(w:sG):sH Tryz.prog 82 #[.int .i64 c] w fun e w'=>e=.returned (.bool (bh c))/\w'=w:=by
 obtain⟨v,hv⟩:∃v,bh c=v:=⟨_,rfl⟩;rw[hv];unfold bh at hv;cases h1:(c==10)<;>cases h2:(c==9)
 all_goals
  rw[h1,h2]at hv;have HV:=aa hv;clear hv;go_enter Tryz.func82,Tryz.ntmps82;go_wp2;go_ret;exact⟨by rw[<-HV.o];rfl,rfl⟩
theorem aJ(c:Int)(v:Bool)(w:sG)(h:bh c=v):sH Tryz.prog 82 #[.int .i64 c] w fun e w'=>e=.returned (.bool v)/\w'=w:=by rw[<-h];exact zcW c w
theorem zfO(c:Int)(w:sG):sH Tryz.prog 55 #[.int .i64 c] w fun e w'=>e=.returned (.bool (cX c))/\w'=w:=by
 obtain⟨v,hv⟩:∃v,cX c=v:=⟨_,rfl⟩;rw[hv];unfold cX at hv;cases hl:bh c<;>cases h1:(c==8)<;>cases h2:(c==16)
 all_goals
  rw[hl,h1,h2]at hv;have HV:=aa hv;clear hv;go_enter Tryz.func55,Tryz.ntmps55;go_wp2_with (go_at_call 82;refine(aJ _ _ _ hl).mono ?_;rintro e w1 ⟨rfl,hw1⟩;obtain rfl:=hw1.symm;clear hw1);go_ret;exact⟨by rw[<-HV.o];rfl,rfl⟩
theorem im(c:Int)(v:Bool)(w:sG)(h:cX c=v):sH Tryz.prog 55 #[.int .i64 c] w fun e w'=>e=.returned (.bool v)/\w'=w:=by rw[<-h];exact zfO c w
theorem kP(c:Int)(w:sG):sH Tryz.prog 120 #[.int .i64 c] w fun e w'=>e=.returned (.bool (ml c))/\w'=w:=by
 obtain⟨v,hv⟩:∃v,ml c=v:=⟨_,rfl⟩;rw[hv];unfold ml at hv;cases h1:(c==14)<;>cases h2:(c==15)<;>cases h3:(c==13)<;>cases h4:(c==11)<;>cases h5:(c==12)
 all_goals
  rw[h1,h2,h3,h4,h5]at hv;have HV:=aa hv;clear hv;go_enter Tryz.func120,Tryz.ntmps120;go_wp2;go_ret;exact⟨by rw[<-HV.o];rfl,rfl⟩
theorem zlB(a b:Int)(w:sG):sH Tryz.prog 118 #[.int .i64 a,.int .i64 b] w fun e w'=>e=.returned (.bool (zjM a b))/\w'=w:=by
 obtain⟨v,hv⟩:∃v,zjM a b=v:=⟨_,rfl⟩;rw[hv];unfold zjM at hv;cases h0:(a==10)
 ·cases h1:(a==16)
  ·cases h2:(a==9)
   ·cases h3:(a==8)
    ·cases h4:(a==17)
     ·rw[h0,h1,h2,h3,h4]at hv;have HV:=aa hv;clear hv;go_enter Tryz.func118,Tryz.ntmps118;go_wp2;go_ret;exact⟨by rw[<-HV.o];rfl,rfl⟩
     ·cases hm:cX b<;>cases h5:(b==17)<;>(have hm2:=hm;unfold cX at hm2;rw[h0,h1,h2,h3,h4,hm2,h5]at hv;clear hm2;have HV:=aa hv;clear hv;go_enter Tryz.func118,Tryz.ntmps118;go_wp2_with ((go_at_call 55;refine(im _ _ _ hm).mono ?_;rintro e w1 ⟨rfl,hw1⟩;obtain rfl:=hw1.symm;clear hw1));go_ret;exact⟨by rw[<-HV.o];rfl,rfl⟩)
    ·cases h5:(b==8)<;>cases h6:(b==17)<;>(rw[h0,h1,h2,h3,h5,h6]at hv;have HV:=aa hv;clear hv;go_enter Tryz.func118,Tryz.ntmps118;go_wp2;go_ret;exact⟨by rw[<-HV.o];rfl,rfl⟩)
   ·cases hl:bh b<;>cases h5:(b==16)<;>cases h6:(b==17)<;>cases h7:(b==11)<;>(rw[h0,h1,h2,hl,h5,h6,h7]at hv;have HV:=aa hv;clear hv;go_enter Tryz.func118,Tryz.ntmps118;go_wp2_with (go_at_call 82;refine(aJ _ _ _ hl).mono ?_;rintro e w1 ⟨rfl,hw1⟩;obtain rfl:=hw1.symm;clear hw1);go_ret;exact⟨by rw[<-HV.o];rfl,rfl⟩)
  ·cases hl:bh b<;>cases h5:(b==16)<;>cases h6:(b==17)<;>(rw[h0,h1,hl,h5,h6]at hv;have HV:=aa hv;clear hv;go_enter Tryz.func118,Tryz.ntmps118;go_wp2_with (go_at_call 82;refine(aJ _ _ _ hl).mono ?_;rintro e w1 ⟨rfl,hw1⟩;obtain rfl:=hw1.symm;clear hw1);go_ret;exact⟨by rw[<-HV.o];rfl,rfl⟩)
 ·cases hl:bh b<;>cases h5:(b==16)<;>cases h6:(b==17)<;>(rw[h0,hl,h5,h6]at hv;have HV:=aa hv;clear hv;go_enter Tryz.func118,Tryz.ntmps118;go_wp2_with (go_at_call 82;refine(aJ _ _ _ hl).mono ?_;rintro e w1 ⟨rfl,hw1⟩;obtain rfl:=hw1.symm;clear hw1);go_ret;exact⟨by rw[<-HV.o];rfl,rfl⟩)
end Wd
namespace Wd
open Go.RowKit
theorem pw(a m b:Int)(w:sG):sH Tryz.prog 121 #[.int .i64 a,.int .i64 m,.int .i64 b] w fun e w'=>e=.returned (.bool (nX a m b))/\w'=w:=by
 obtain⟨v,hv⟩:∃v,nX a m b=v:=⟨_,rfl⟩;rw[hv];unfold nX at hv;cases la:bh a
 ·cases da:(a==16)<;>cases db:(b==16)<;>rw[la,da,db]at hv
  all_goals
   cases h0:(m==14)
   ·cases h1:(m==15)
    ·cases h2:(m==13)
     ·cases h3:(m==11)
      ·cases h4:(m==12)
       ·rw[h0,h1,h2,h3,h4]at hv;have HV:=aa hv;clear hv;go_enter Tryz.func121,Tryz.ntmps121;go_wp2_with fail;go_at_call 82;refine(aJ _ _ _ la).mono ?_;rintro e w1 ⟨rfl,hw1⟩;obtain rfl:=hw1.symm;clear hw1;go_wp2_with fail;go_ret;exact⟨by rw[<-HV.o];rfl,rfl⟩
       ·cases h5:(a==9)<;>cases h6:(b==9)<;>(rw[h0,h1,h2,h3,h4,h5,h6]at hv;have HV:=aa hv;clear hv;go_enter Tryz.func121,Tryz.ntmps121;go_wp2_with fail;go_at_call 82;refine(aJ _ _ _ la).mono ?_;rintro e w1 ⟨rfl,hw1⟩;obtain rfl:=hw1.symm;clear hw1;go_wp2_with fail;go_ret;exact⟨by rw[<-HV.o];rfl,rfl⟩)
      ·rw[h0,h1,h2,h3]at hv;have HV:=aa hv;clear hv;go_enter Tryz.func121,Tryz.ntmps121;go_wp2_with fail;go_at_call 82;refine(aJ _ _ _ la).mono ?_;rintro e w1 ⟨rfl,hw1⟩;obtain rfl:=hw1.symm;clear hw1;go_wp2_with fail;go_ret;exact⟨by rw[<-HV.o];rfl,rfl⟩
     ·rw[h0,h1,h2]at hv;have HV:=aa hv;clear hv;go_enter Tryz.func121,Tryz.ntmps121;go_wp2_with fail;go_at_call 82;refine(aJ _ _ _ la).mono ?_;rintro e w1 ⟨rfl,hw1⟩;obtain rfl:=hw1.symm;clear hw1;go_wp2_with fail;go_ret;exact⟨by rw[<-HV.o];rfl,rfl⟩
    ·rw[h0,h1]at hv;have HV:=aa hv;clear hv;go_enter Tryz.func121,Tryz.ntmps121;go_wp2_with fail;go_at_call 82;refine(aJ _ _ _ la).mono ?_;rintro e w1 ⟨rfl,hw1⟩;obtain rfl:=hw1.symm;clear hw1;go_wp2_with fail;go_ret;exact⟨by rw[<-HV.o];rfl,rfl⟩
   ·rw[h0]at hv;have HV:=aa hv;clear hv;go_enter Tryz.func121,Tryz.ntmps121;go_wp2_with fail;go_at_call 82;refine(aJ _ _ _ la).mono ?_;rintro e w1 ⟨rfl,hw1⟩;obtain rfl:=hw1.symm;clear hw1;go_wp2_with fail;go_ret;exact⟨by rw[<-HV.o];rfl,rfl⟩
 ·cases lb:bh b<;>cases da:(a==16)<;>cases db:(b==16)<;>rw[la,lb,da,db]at hv
  all_goals
   cases h0:(m==14)
   ·cases h1:(m==15)
    ·cases h2:(m==13)
     ·cases h3:(m==11)
      ·cases h4:(m==12)
       ·rw[h0,h1,h2,h3,h4]at hv;have HV:=aa hv;clear hv;go_enter Tryz.func121,Tryz.ntmps121;go_wp2_with fail;go_at_call 82;refine(aJ _ _ _ la).mono ?_;rintro e w1 ⟨rfl,hw1⟩;obtain rfl:=hw1.symm;clear hw1;go_wp2_with fail;go_at_call 82;refine(aJ _ _ _ lb).mono ?_;rintro e w2 ⟨rfl,hw1⟩;obtain rfl:=hw1.symm;clear hw1;go_wp2_with fail;go_ret;exact⟨by rw[<-HV.o];rfl,rfl⟩
       ·cases h5:(a==9)<;>cases h6:(b==9)<;>(rw[h0,h1,h2,h3,h4,h5,h6]at hv;have HV:=aa hv;clear hv;go_enter Tryz.func121,Tryz.ntmps121;go_wp2_with fail;go_at_call 82;refine(aJ _ _ _ la).mono ?_;rintro e w1 ⟨rfl,hw1⟩;obtain rfl:=hw1.symm;clear hw1;go_wp2_with fail;go_at_call 82;refine(aJ _ _ _ lb).mono ?_;rintro e w2 ⟨rfl,hw1⟩;obtain rfl:=hw1.symm;clear hw1;go_wp2_with fail;go_ret;exact⟨by rw[<-HV.o];rfl,rfl⟩)
      ·rw[h0,h1,h2,h3]at hv;have HV:=aa hv;clear hv;go_enter Tryz.func121,Tryz.ntmps121;go_wp2_with fail;go_at_call 82;refine(aJ _ _ _ la).mono ?_;rintro e w1 ⟨rfl,hw1⟩;obtain rfl:=hw1.symm;clear hw1;go_wp2_with fail;go_at_call 82;refine(aJ _ _ _ lb).mono ?_;rintro e w2 ⟨rfl,hw1⟩;obtain rfl:=hw1.symm;clear hw1;go_wp2_with fail;go_ret;exact⟨by rw[<-HV.o];rfl,rfl⟩
     ·rw[h0,h1,h2]at hv;have HV:=aa hv;clear hv;go_enter Tryz.func121,Tryz.ntmps121;go_wp2_with fail;go_at_call 82;refine(aJ _ _ _ la).mono ?_;rintro e w1 ⟨rfl,hw1⟩;obtain rfl:=hw1.symm;clear hw1;go_wp2_with fail;go_at_call 82;refine(aJ _ _ _ lb).mono ?_;rintro e w2 ⟨rfl,hw1⟩;obtain rfl:=hw1.symm;clear hw1;go_wp2_with fail;go_ret;exact⟨by rw[<-HV.o];rfl,rfl⟩
    ·rw[h0,h1]at hv;have HV:=aa hv;clear hv;go_enter Tryz.func121,Tryz.ntmps121;go_wp2_with fail;go_at_call 82;refine(aJ _ _ _ la).mono ?_;rintro e w1 ⟨rfl,hw1⟩;obtain rfl:=hw1.symm;clear hw1;go_wp2_with fail;go_at_call 82;refine(aJ _ _ _ lb).mono ?_;rintro e w2 ⟨rfl,hw1⟩;obtain rfl:=hw1.symm;clear hw1;go_wp2_with fail;go_ret;exact⟨by rw[<-HV.o];rfl,rfl⟩
   ·rw[h0]at hv;have HV:=aa hv;clear hv;go_enter Tryz.func121,Tryz.ntmps121;go_wp2_with fail;go_at_call 82;refine(aJ _ _ _ la).mono ?_;rintro e w1 ⟨rfl,hw1⟩;obtain rfl:=hw1.symm;clear hw1;go_wp2_with fail;go_at_call 82;refine(aJ _ _ _ lb).mono ?_;rintro e w2 ⟨rfl,hw1⟩;obtain rfl:=hw1.symm;clear hw1;go_wp2_with fail;go_ret;exact⟨by rw[<-HV.o];rfl,rfl⟩
end Wd
section
open Go.RowKit
theorem pC(b q:Int)(w:sG)(hb:b=q)(h0:0<=q)(h1:q<256):
  sH Tryz.prog 115 #[.int .u8 b] w fun e w'=>e=.returned (.bool (sN q))/\w'=w:=by
 subst hb;exact Tryz.utf8_RuneStart b w h0 h1
set_option maxRecDepth 100000 in
theorem mZ(l:List UInt8)(p:Nat)(w:sG)(hp:p<l.length)(hl:l.length<=1000000000000)(hT:sE 0 1 w)(h2:2<=w.heap.size):
  sH Tryz.prog 77 #[.string ⟨l.toArray⟩,.int .i64 p] w fun e w'=>e=.returned (.int .i64 (nR l p 4))/\Below w.heap.size w w':=by
 have HT:=aa hT;clear hT;go_enter Tryz.func77,Tryz.ntmps77;go_wp2;go_loopw [5] (fun fr wr=>∃(f:Nat)(z:Int),fr=.int .i64 z/\z=(p:Int)-(4-f)/\f<=4/\ -1<=z/\ae (nR l p f=nR l p 4)/\Below w.heap.size w wr) (fun fr _=>(intOf fr+1).toNat)
 case atStart=>exact⟨4,_,rfl,by omega,by omega,by omega,rfl,sI _ _⟩
 case round=>
  obtain⟨f,z,rfl,hz,hf4,hz1,HF,hB⟩:=hrel;by_cases hf:p<4-f
  ·have HR:=aa (HF.o.symm.trans (zjA l p f hf));obtain rfl:z= -1:=by omega
   clear hz;go_wp2;go_ret;exact⟨by rw[HR.o];rfl,hB⟩
  cases f with
  |zero=>
   have HR:=aa (HF.o.symm);have hz':z=(p:Int)-4:=by omega
   have HZ:=aa hz';have c1:¬(p:Int)-4<z:=by omega
   clear hz hz';by_cases c2:0<=z
   all_goals
    go_wp2;go_ret;exact⟨by rw[HR.o];rfl,hB⟩
  |succ f=>
   obtain⟨t,ht⟩:∃t:Nat,t+(3-f)=p:=⟨p-(3-f),by omega⟩;obtain rfl:z=t:=by omega
   have hlt:t<l.length:=by omega
   have c1:(p:Int)-4<t:=by omega
   have htp:t<=p:=by omega
   have hsz:t<(⟨l.toArray⟩:ByteArray).size:=by show t<l.toArray.size;simpa using hlt
   have HZ:=aa hz;have HTP:=aa ht;obtain⟨b0,b1⟩:=zvm l t;have HT1:=aa (pA HT.o h2 hB);have hw2:2<=wr.heap.size:=by have:=hB.size;omega
   clear hz ht hf;cases hr:sN (byt l t)with
   |false=>
    have HM:=aa (dD l p f t HTP.o hr);go_wp2_with (go_at_call 115;refine(pC _ (byt l t) _ (zhn l t hsz) b0 b1).mono ?_;rintro e w' ⟨rfl,rfl⟩);go_roundw
    case rel=>exact⟨f,_,rfl,by have:=HZ.o;omega,by omega,by omega,(HM.o.symm.trans HF.o),hB⟩
    case measure=>simp[intOf]
   |true=>
    have h4:=dec_le4 (l.drop t);by_cases hn:p<t+(dec (l.drop t)).2
    ·have HR:=aa (HF.o.symm.trans (qM l p f t HTP.o hr hn));go_wp2_with (go_at_call 115;refine(pC _ (byt l t) _ (zhn l t hsz) b0 b1).mono ?_;rintro e w' ⟨rfl,rfl⟩);refine(zaI _ (l.drop t) _ (ext_drop l t) (by exact HT1.o)).mono ?_;rintro e w1 ⟨rfl,hb⟩;generalize (dec (l.drop t)).1=rr at*;generalize (dec (l.drop t)).2=nn at*;clear hr HT1 HT HF HZ HTP b0 b1 hsz;go_wp2;go_ret;exact⟨by rw[HR.o];rfl,hB.trans (hb.mono hB.size)⟩
    ·have HR:=aa (HF.o.symm.trans (zjB l p f t HTP.o hr hn));go_wp2_with (go_at_call 115;refine(pC _ (byt l t) _ (zhn l t hsz) b0 b1).mono ?_;rintro e w' ⟨rfl,rfl⟩);refine(zaI _ (l.drop t) _ (ext_drop l t) (by exact HT1.o)).mono ?_;rintro e w1 ⟨rfl,hb⟩;generalize (dec (l.drop t)).1=rr at*;generalize (dec (l.drop t)).2=nn at*;clear hr HT1 HT HF HZ HTP b0 b1 hsz;go_wp2;go_ret;exact⟨by rw[HR.o];rfl,hB.trans (hb.mono hB.size)⟩
theorem znZ(l:List UInt8)(p:Int)(w:sG)(hl:l.length<=1000000000000)(hT:sE 0 1 w)(h2:2<=w.heap.size):
  sH Tryz.prog 48 #[.string ⟨l.toArray⟩,.int .i64 p] w fun e w'=>e=.returned (.bool (isE l p))/\Below w.heap.size w w':=by
 have HT:=aa hT;clear hT;by_cases c1:p<=0
 ·have HI:ae (isE l p=(p==0)):=aa (if_pos c1);by_cases c0:p=0
  ·subst c0;go_enter Tryz.func48,Tryz.ntmps48;go_wp2;go_ret;exact⟨by rw[HI.o];rfl,sI _ _⟩
  ·have c3:(p==0)=false:=beq_eq_false_iff_ne.2 c0;have c4:(p==(l.length:Int))=false:=beq_eq_false_iff_ne.2 (by omega);go_enter Tryz.func48,Tryz.ntmps48;go_wp2;go_ret;exact⟨by rw[HI.o,c3];rfl,sI _ _⟩
 by_cases c2:(l.length:Int)<=p
 ·have HI:ae (isE l p=(p==l.length)):=aa ((if_neg c1).trans (if_pos c2));have c3:(p==0)=false:=beq_eq_false_iff_ne.2 (by omega);by_cases c0:p=l.length
  ·have c4:(p==(l.length:Int))=true:=beq_iff_eq.2 c0;clear c0;go_enter Tryz.func48,Tryz.ntmps48;go_wp2;go_ret;exact⟨by rw[HI.o,c4];rfl,sI _ _⟩
  ·have c4:(p==(l.length:Int))=false:=beq_eq_false_iff_ne.2 c0;clear c0;go_enter Tryz.func48,Tryz.ntmps48;go_wp2;go_ret;exact⟨by rw[HI.o,c4];rfl,sI _ _⟩
 ·obtain⟨q,rfl⟩:∃q:Nat,p=q:=⟨p.toNat,by omega⟩;have hq:q<l.length:=by omega
  have HI:ae (isE l q=(nR l q 4==q)):=aa ((if_neg c1).trans (if_neg c2));go_enter Tryz.func48,Tryz.ntmps48;go_wp2_with (go_at_call 77;refine(mZ l q _ hq hl (by exact HT.o) (by exact h2)).mono ?_;rintro e w1 ⟨rfl,hb⟩);go_ret;exact⟨by rw[HI.o];exact congrArg (fun b=>Ending.returned (Value.bool b)) (zrM (nR l q 4) q),hb⟩
end
namespace Wt
open Go.RowKit
theorem zpt(l:List UInt8)(p:Nat)(z:Int)(w:sG)(hz:z=p)(hp:p<l.length)(hl:l.length<=1000000000000)(hT:sE 0 1 w)(h2:2<=w.heap.size):
  sH Tryz.prog 77 #[.string ⟨l.toArray⟩,.int .i64 z] w fun e w'=>e=.returned (.int .i64 (nR l p 4))/\Below w.heap.size w w':=by
 subst hz;exact mZ l p w hp hl hT h2
theorem iX(l:List UInt8)(p:Int)(w:sG)(hl:l.length<=1000000000000)(hT:sE 0 1 w)(h2:2<=w.heap.size):
  sH Tryz.prog 50 #[.string ⟨l.toArray⟩,.int .i64 p] w fun e w'=>e=.returned (.int .i64 (ft l p))/\Below w.heap.size w w':=by
 have HT:=aa hT;clear hT;by_cases h1:p<=0
 ·have HR:ae (ft l p=0):=aa (if_pos h1);go_enter Tryz.func50,Tryz.ntmps50;go_wp2;go_ret;exact⟨by rw[HR.o];rfl,sI _ _⟩
 by_cases h3:(l.length:Int)<p
 ·have HR:ae (ft l p=l.length):=aa ((if_neg h1).trans (if_pos h3));go_enter Tryz.func50,Tryz.ntmps50;go_wp2;go_ret;exact⟨by rw[HR.o];rfl,sI _ _⟩
 ·have HR:ae (ft l p=nR l (p.toNat-1) 4):=aa ((if_neg h1).trans (if_neg h3));go_enter Tryz.func50,Tryz.ntmps50;go_wp2_with (go_at_call 77;refine(zpt l (p.toNat-1) _ _ (by omega) (by omega) hl (by exact HT.o) (by exact h2)).mono ?_;rintro e w1 ⟨rfl,hb⟩);go_ret;exact⟨by rw[HR.o];rfl,hb⟩
end Wt
end Go.Proofs.YtbbapnpdfcgjnaaGreatDoor
