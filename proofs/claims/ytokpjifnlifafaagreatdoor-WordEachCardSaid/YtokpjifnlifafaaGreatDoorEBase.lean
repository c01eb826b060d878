/- Base, WdCls, WdDef, WdTxt, WdBool, WdBri, UBeg: parts of the proof, joined. -/
import Derived.Deep.AppendLies
import Derived.WalkSpells
import Derived.WalkLawsBesides
import Derived.BigQuiet
import Derived.Test.YtokpjifnlifafaaGreatDoorEShelf
import Derived.Test.YtokpjifnlifafaaGreatDoorEUMath
set_option maxHeartbeats 64000000
namespace Go.Proofs.YtokpjifnlifafaaGreatDoor
section
open Go.RowKit
theorem hid {p:Prop} (h:p):Hid p:=h
theorem tabs_below {w w':World} (h:Lib.Utf8Tabs 0 1 w) (hs:2<=w.heap.size) (hb:Below w.heap.size w w'):Lib.Utf8Tabs 0 1 w':=
 ⟨fun c hc=>(hb.cell (p:=⟨0,c,none⟩) (by show 0<w.heap.size;omega)).trans (h.1 c hc),fun i hi=>⟨(hb.cell (p:=⟨1,2 * i,none⟩) (by show 1<w.heap.size;omega)).trans (h.2 i hi).1,(hb.cell (p:=⟨1,2 * i+1,none⟩) (by show 1<w.heap.size;omega)).trans (h.2 i hi).2⟩⟩
theorem decode_any (l:List UInt8) (w:World) (hT:Lib.Utf8Tabs 0 1 w):
  Calls Tryz.prog 89 #[.string ⟨l.toArray⟩] w fun e w'=>e= .returned (.tuple #[.int .i32 (dec l).1,.int .i64 (dec l).2])/\Below w.heap.size w w':=by
 by_cases h:l=[]
 ·subst h
  go_enter Tryz.func89,Tryz.ntmps89;go_wp2;go_ret2;exact⟨rfl,Below.refl _ _⟩
 ·have hd:dec l=Lib.decodeGo ⟨l.toArray⟩:=if_neg h
  rw[hd];have he:l.isEmpty=false:=by simpa using h
  clear hd h;have HT:=hid hT;clear hT;go_enter Tryz.func89,Tryz.ntmps89;go_wp2_with (go_at_call 125;refine(Tryz.utf8_DecodeRuneInString _ _ (by exact HT.out)).mono ?_;rintro e w1 ⟨rfl,hb⟩)
  go_ret2;exact⟨rfl,hb⟩
theorem decode_eq (s:ByteArray) (l:List UInt8) (w:World) (hs:s=⟨l.toArray⟩) (hT:Lib.Utf8Tabs 0 1 w):
  Calls Tryz.prog 89 #[.string s] w fun e w'=>e= .returned (.tuple #[.int .i32 (dec l).1,.int .i64 (dec l).2])/\Below w.heap.size w w':=by
 subst hs;exact decode_any l w hT
theorem last_any (l:List UInt8) (w:World) (hl:l.length<=9223372036854775807) (hT:Lib.Utf8Tabs 0 1 w):
  Calls Tryz.prog 116 #[.string ⟨l.toArray⟩] w fun e w'=>e= .returned (.tuple #[.int .i32 (zaJ l).1,.int .i64 (zaJ l).2])/\Below w.heap.size w w':=by
 by_cases h:l=[]
 ·subst h
  go_enter Tryz.func116,Tryz.ntmps116;go_wp2;go_ret2;exact⟨rfl,Below.refl _ _⟩
 ·have hd:zaJ l=Lib.decodeLastL l:=if_neg h
  rw[hd];have he:l.isEmpty=false:=by simpa using h
  clear hd h;have HT:=hid hT;have hs':(⟨l.toArray⟩:ByteArray).size<=9223372036854775807:=by show l.toArray.size<=_;simpa using hl
  have HS:=hid hs';clear hT hs';go_enter Tryz.func116,Tryz.ntmps116;go_wp2_with (go_at_call 151;refine(Tryz.utf8_DecodeLastRuneInString ⟨l.toArray⟩ _ HS.out (by exact HT.out)).mono ?_;rintro e w1 ⟨rfl,hb⟩)
  go_ret2;exact⟨rfl,hb⟩
end
section
open Go.RowKit
theorem zad (r lo hi:Int) (w:World) (h:lo<=r/\r<=hi):Calls Tryz.prog 124 #[.int .i32 r,.int .i32 lo,.int .i32 hi] w fun e w'=>e= .returned (.bool true)/\w'=w:=by
 obtain⟨h1,h2⟩:=h;go_enter Tryz.func124,Tryz.ntmps124;go_wp2;go_ret;exact⟨rfl,rfl⟩
theorem zaf (r lo hi:Int) (w:World) (h:¬(lo<=r/\r<=hi)):Calls Tryz.prog 124 #[.int .i32 r,.int .i32 lo,.int .i32 hi] w fun e w'=>e= .returned (.bool false)/\w'=w:=by
 by_cases h1:lo<=r
 ·have h2:¬r<=hi:=fun h2=>h ⟨h1,h2⟩
  clear h;go_enter Tryz.func124,Tryz.ntmps124;go_wp2;go_ret;exact⟨rfl,rfl⟩
 ·clear h
  go_enter Tryz.func124,Tryz.ntmps124;go_wp2;go_ret;exact⟨rfl,rfl⟩
def zaz (r:Int):Int:=
 if 97<=r/\r<=122 then 10 else if 65<=r/\r<=90 then 10 else if r=32 then 18 else if 48<=r/\r<=57 then 16 else if r=13 then 1 else if r=10 then 2 else if r=11 then 3 else if r=12 then 3 else if r=39 then 11 else if r=34 then 12 else if r=46 then 13 else if r=58 then 14 else if r=44 then 15 else if r=59 then 15 else if r=95 then 17 else 0
theorem wdascii_any (r:Int) (w:World):Calls Tryz.prog 83 #[.int .i32 r] w fun e w'=>e= .returned (.int .i64 (zaz r))/\w'=w:=by
 by_cases h0:97<=r/\r<=122
 ·have HV:=hid (show zaz r=10 by unfold zaz;rw[if_pos h0])
  obtain⟨u0,v0⟩:=h0;go_enter Tryz.func83,Tryz.ntmps83;go_wp2_with (first | (go_at_call 124;(first | refine(zad _ _ _ _ (by omega)).mono ?_ | refine(zaf _ _ _ _ (by omega)).mono ?_);rintro e w1 ⟨rfl,hw1⟩;obtain rfl:=hw1.symm;clear hw1))
  go_ret;exact⟨by rw[HV.out];rfl,rfl⟩
 by_cases h1:65<=r/\r<=90
 ·have HV:=hid (show zaz r=10 by unfold zaz;rw[if_neg h0,if_pos h1])
  obtain⟨u1,v1⟩:=h1;go_enter Tryz.func83,Tryz.ntmps83;go_wp2_with (first | (go_at_call 124;(first | refine(zad _ _ _ _ (by omega)).mono ?_ | refine(zaf _ _ _ _ (by omega)).mono ?_);rintro e w1 ⟨rfl,hw1⟩;obtain rfl:=hw1.symm;clear hw1))
  go_ret;exact⟨by rw[HV.out];rfl,rfl⟩
 by_cases h2:r=32
 ·subst h2
  have HV:=hid (show zaz 32=18 by decide)
  clear h0 h1;go_enter Tryz.func83,Tryz.ntmps83;go_wp2_with (first | (go_at_call 124;(first | refine(zad _ _ _ _ (by omega)).mono ?_ | refine(zaf _ _ _ _ (by omega)).mono ?_);rintro e w1 ⟨rfl,hw1⟩;obtain rfl:=hw1.symm;clear hw1))
  go_ret;exact⟨by rw[HV.out];rfl,rfl⟩
 by_cases h3:48<=r/\r<=57
 ·have HV:=hid (show zaz r=16 by unfold zaz;rw[if_neg h0,if_neg h1,if_neg h2,if_pos h3])
  have b2:(r==32)=false:=beq_eq_false_iff_ne.2 h2;obtain⟨u3,v3⟩:=h3;go_enter Tryz.func83,Tryz.ntmps83;go_wp2_with (first | (go_at_call 124;(first | refine(zad _ _ _ _ (by omega)).mono ?_ | refine(zaf _ _ _ _ (by omega)).mono ?_);rintro e w1 ⟨rfl,hw1⟩;obtain rfl:=hw1.symm;clear hw1))
  go_ret;exact⟨by rw[HV.out];rfl,rfl⟩
 by_cases h4:r=13
 ·subst h4
  have HV:=hid (show zaz 13=1 by decide)
  clear h0 h1 h2 h3;go_enter Tryz.func83,Tryz.ntmps83;go_wp2_with (first | (go_at_call 124;(first | refine(zad _ _ _ _ (by omega)).mono ?_ | refine(zaf _ _ _ _ (by omega)).mono ?_);rintro e w1 ⟨rfl,hw1⟩;obtain rfl:=hw1.symm;clear hw1))
  go_ret;exact⟨by rw[HV.out];rfl,rfl⟩
 by_cases h5:r=10
 ·subst h5
  have HV:=hid (show zaz 10=2 by decide)
  clear h0 h1 h2 h3 h4;go_enter Tryz.func83,Tryz.ntmps83;go_wp2_with (first | (go_at_call 124;(first | refine(zad _ _ _ _ (by omega)).mono ?_ | refine(zaf _ _ _ _ (by omega)).mono ?_);rintro e w1 ⟨rfl,hw1⟩;obtain rfl:=hw1.symm;clear hw1))
  go_ret;exact⟨by rw[HV.out];rfl,rfl⟩
 by_cases h6:r=11
 ·subst h6
  have HV:=hid (show zaz 11=3 by decide)
  clear h0 h1 h2 h3 h4 h5;go_enter Tryz.func83,Tryz.ntmps83;go_wp2_with (first | (go_at_call 124;(first | refine(zad _ _ _ _ (by omega)).mono ?_ | refine(zaf _ _ _ _ (by omega)).mono ?_);rintro e w1 ⟨rfl,hw1⟩;obtain rfl:=hw1.symm;clear hw1))
  go_ret;exact⟨by rw[HV.out];rfl,rfl⟩
 by_cases h7:r=12
 ·subst h7
  have HV:=hid (show zaz 12=3 by decide)
  clear h0 h1 h2 h3 h4 h5 h6;go_enter Tryz.func83,Tryz.ntmps83;go_wp2_with (first | (go_at_call 124;(first | refine(zad _ _ _ _ (by omega)).mono ?_ | refine(zaf _ _ _ _ (by omega)).mono ?_);rintro e w1 ⟨rfl,hw1⟩;obtain rfl:=hw1.symm;clear hw1))
  go_ret;exact⟨by rw[HV.out];rfl,rfl⟩
 by_cases h8:r=39
 ·subst h8
  have HV:=hid (show zaz 39=11 by decide)
  clear h0 h1 h2 h3 h4 h5 h6 h7;go_enter Tryz.func83,Tryz.ntmps83;go_wp2_with (first | (go_at_call 124;(first | refine(zad _ _ _ _ (by omega)).mono ?_ | refine(zaf _ _ _ _ (by omega)).mono ?_);rintro e w1 ⟨rfl,hw1⟩;obtain rfl:=hw1.symm;clear hw1))
  go_ret;exact⟨by rw[HV.out];rfl,rfl⟩
 by_cases h9:r=34
 ·subst h9
  have HV:=hid (show zaz 34=12 by decide)
  clear h0 h1 h2 h3 h4 h5 h6 h7 h8;go_enter Tryz.func83,Tryz.ntmps83;go_wp2_with (first | (go_at_call 124;(first | refine(zad _ _ _ _ (by omega)).mono ?_ | refine(zaf _ _ _ _ (by omega)).mono ?_);rintro e w1 ⟨rfl,hw1⟩;obtain rfl:=hw1.symm;clear hw1))
  go_ret;exact⟨by rw[HV.out];rfl,rfl⟩
 by_cases h10:r=46
 ·subst h10
  have HV:=hid (show zaz 46=13 by decide)
  clear h0 h1 h2 h3 h4 h5 h6 h7 h8 h9;go_enter Tryz.func83,Tryz.ntmps83;go_wp2_with (first | (go_at_call 124;(first | refine(zad _ _ _ _ (by omega)).mono ?_ | refine(zaf _ _ _ _ (by omega)).mono ?_);rintro e w1 ⟨rfl,hw1⟩;obtain rfl:=hw1.symm;clear hw1))
  go_ret;exact⟨by rw[HV.out];rfl,rfl⟩
 by_cases h11:r=58
 ·subst h11
  have HV:=hid (show zaz 58=14 by decide)
  clear h0 h1 h2 h3 h4 h5 h6 h7 h8 h9 h10;go_enter Tryz.func83,Tryz.ntmps83;go_wp2_with (first | (go_at_call 124;(first | refine(zad _ _ _ _ (by omega)).mono ?_ | refine(zaf _ _ _ _ (by omega)).mono ?_);rintro e w1 ⟨rfl,hw1⟩;obtain rfl:=hw1.symm;clear hw1))
  go_ret;exact⟨by rw[HV.out];rfl,rfl⟩
 by_cases h12:r=44
 ·subst h12
  have HV:=hid (show zaz 44=15 by decide)
  clear h0 h1 h2 h3 h4 h5 h6 h7 h8 h9 h10 h11;go_enter Tryz.func83,Tryz.ntmps83;go_wp2_with (first | (go_at_call 124;(first | refine(zad _ _ _ _ (by omega)).mono ?_ | refine(zaf _ _ _ _ (by omega)).mono ?_);rintro e w1 ⟨rfl,hw1⟩;obtain rfl:=hw1.symm;clear hw1))
  go_ret;exact⟨by rw[HV.out];rfl,rfl⟩
 by_cases h13:r=59
 ·subst h13
  have HV:=hid (show zaz 59=15 by decide)
  clear h0 h1 h2 h3 h4 h5 h6 h7 h8 h9 h10 h11 h12;go_enter Tryz.func83,Tryz.ntmps83;go_wp2_with (first | (go_at_call 124;(first | refine(zad _ _ _ _ (by omega)).mono ?_ | refine(zaf _ _ _ _ (by omega)).mono ?_);rintro e w1 ⟨rfl,hw1⟩;obtain rfl:=hw1.symm;clear hw1))
  go_ret;exact⟨by rw[HV.out];rfl,rfl⟩
 by_cases h14:r=95
 ·subst h14
  have HV:=hid (show zaz 95=17 by decide)
  clear h0 h1 h2 h3 h4 h5 h6 h7 h8 h9 h10 h11 h12 h13;go_enter Tryz.func83,Tryz.ntmps83;go_wp2_with (first | (go_at_call 124;(first | refine(zad _ _ _ _ (by omega)).mono ?_ | refine(zaf _ _ _ _ (by omega)).mono ?_);rintro e w1 ⟨rfl,hw1⟩;obtain rfl:=hw1.symm;clear hw1))
  go_ret;exact⟨by rw[HV.out];rfl,rfl⟩
 have HV:=hid (show zaz r=0 by unfold zaz;rw[if_neg h0,if_neg h1,if_neg h2,if_neg h3,if_neg h4,if_neg h5,if_neg h6,if_neg h7,if_neg h8,if_neg h9,if_neg h10,if_neg h11,if_neg h12,if_neg h13,if_neg h14])
 have b2:(r==32)=false:=beq_eq_false_iff_ne.2 h2;have b4:(r==13)=false:=beq_eq_false_iff_ne.2 h4;have b5:(r==10)=false:=beq_eq_false_iff_ne.2 h5;have b6:(r==11)=false:=beq_eq_false_iff_ne.2 h6;have b7:(r==12)=false:=beq_eq_false_iff_ne.2 h7;have b8:(r==39)=false:=beq_eq_false_iff_ne.2 h8;have b9:(r==34)=false:=beq_eq_false_iff_ne.2 h9;have b10:(r==46)=false:=beq_eq_false_iff_ne.2 h10;have b11:(r==58)=false:=beq_eq_false_iff_ne.2 h11;have b12:(r==44)=false:=beq_eq_false_iff_ne.2 h12;have b13:(r==59)=false:=beq_eq_false_iff_ne.2 h13;have b14:(r==95)=false:=beq_eq_false_iff_ne.2 h14;go_enter Tryz.func83,Tryz.ntmps83;go_wp2_with (first | (go_at_call 124;(first | refine(zad _ _ _ _ (by omega)).mono ?_ | refine(zaf _ _ _ _ (by omega)).mono ?_);rintro e w1 ⟨rfl,hw1⟩;obtain rfl:=hw1.symm;clear hw1))
 go_ret;exact⟨by rw[HV.out];rfl,rfl⟩
def zaF (r:Int):Int:=
 if r=170 then 10 else if r=181 then 10 else if 192<=r/\r<=214 then 10 else if 216<=r/\r<=246 then 10 else if 248<=r/\r<=687 then 10 else if r=133 then 3 else if r=169 then 19 else if r=174 then 19 else if r=173 then 6 else if r=183 then 14 else 0
theorem wdlatin_any (r:Int) (w:World):Calls Tryz.prog 84 #[.int .i32 r] w fun e w'=>e= .returned (.int .i64 (zaF r))/\w'=w:=by
 by_cases h0:r=170
 ·subst h0
  have HV:=hid (show zaF 170=10 by decide)
  skip
  go_enter Tryz.func84,Tryz.ntmps84;go_wp2_with (first | (go_at_call 124;(first | refine(zad _ _ _ _ (by omega)).mono ?_ | refine(zaf _ _ _ _ (by omega)).mono ?_);rintro e w1 ⟨rfl,hw1⟩;obtain rfl:=hw1.symm;clear hw1))
  go_ret;exact⟨by rw[HV.out];rfl,rfl⟩
 by_cases h1:r=181
 ·subst h1
  have HV:=hid (show zaF 181=10 by decide)
  clear h0;go_enter Tryz.func84,Tryz.ntmps84;go_wp2_with (first | (go_at_call 124;(first | refine(zad _ _ _ _ (by omega)).mono ?_ | refine(zaf _ _ _ _ (by omega)).mono ?_);rintro e w1 ⟨rfl,hw1⟩;obtain rfl:=hw1.symm;clear hw1))
  go_ret;exact⟨by rw[HV.out];rfl,rfl⟩
 by_cases h2:192<=r/\r<=214
 ·have HV:=hid (show zaF r=10 by unfold zaF;rw[if_neg h0,if_neg h1,if_pos h2])
  have b0:(r==170)=false:=beq_eq_false_iff_ne.2 h0;have b1:(r==181)=false:=beq_eq_false_iff_ne.2 h1;obtain⟨u2,v2⟩:=h2;go_enter Tryz.func84,Tryz.ntmps84;go_wp2_with (first | (go_at_call 124;(first | refine(zad _ _ _ _ (by omega)).mono ?_ | refine(zaf _ _ _ _ (by omega)).mono ?_);rintro e w1 ⟨rfl,hw1⟩;obtain rfl:=hw1.symm;clear hw1))
  go_ret;exact⟨by rw[HV.out];rfl,rfl⟩
 by_cases h3:216<=r/\r<=246
 ·have HV:=hid (show zaF r=10 by unfold zaF;rw[if_neg h0,if_neg h1,if_neg h2,if_pos h3])
  have b0:(r==170)=false:=beq_eq_false_iff_ne.2 h0;have b1:(r==181)=false:=beq_eq_false_iff_ne.2 h1;obtain⟨u3,v3⟩:=h3;go_enter Tryz.func84,Tryz.ntmps84;go_wp2_with (first | (go_at_call 124;(first | refine(zad _ _ _ _ (by omega)).mono ?_ | refine(zaf _ _ _ _ (by omega)).mono ?_);rintro e w1 ⟨rfl,hw1⟩;obtain rfl:=hw1.symm;clear hw1))
  go_ret;exact⟨by rw[HV.out];rfl,rfl⟩
 by_cases h4:248<=r/\r<=687
 ·have HV:=hid (show zaF r=10 by unfold zaF;rw[if_neg h0,if_neg h1,if_neg h2,if_neg h3,if_pos h4])
  have b0:(r==170)=false:=beq_eq_false_iff_ne.2 h0;have b1:(r==181)=false:=beq_eq_false_iff_ne.2 h1;obtain⟨u4,v4⟩:=h4;go_enter Tryz.func84,Tryz.ntmps84;go_wp2_with (first | (go_at_call 124;(first | refine(zad _ _ _ _ (by omega)).mono ?_ | refine(zaf _ _ _ _ (by omega)).mono ?_);rintro e w1 ⟨rfl,hw1⟩;obtain rfl:=hw1.symm;clear hw1))
  go_ret;exact⟨by rw[HV.out];rfl,rfl⟩
 by_cases h5:r=133
 ·subst h5
  have HV:=hid (show zaF 133=3 by decide)
  clear h0 h1 h2 h3 h4;go_enter Tryz.func84,Tryz.ntmps84;go_wp2_with (first | (go_at_call 124;(first | refine(zad _ _ _ _ (by omega)).mono ?_ | refine(zaf _ _ _ _ (by omega)).mono ?_);rintro e w1 ⟨rfl,hw1⟩;obtain rfl:=hw1.symm;clear hw1))
  go_ret;exact⟨by rw[HV.out];rfl,rfl⟩
 by_cases h6:r=169
 ·subst h6
  have HV:=hid (show zaF 169=19 by decide)
  clear h0 h1 h2 h3 h4 h5;go_enter Tryz.func84,Tryz.ntmps84;go_wp2_with (first | (go_at_call 124;(first | refine(zad _ _ _ _ (by omega)).mono ?_ | refine(zaf _ _ _ _ (by omega)).mono ?_);rintro e w1 ⟨rfl,hw1⟩;obtain rfl:=hw1.symm;clear hw1))
  go_ret;exact⟨by rw[HV.out];rfl,rfl⟩
 by_cases h7:r=174
 ·subst h7
  have HV:=hid (show zaF 174=19 by decide)
  clear h0 h1 h2 h3 h4 h5 h6;go_enter Tryz.func84,Tryz.ntmps84;go_wp2_with (first | (go_at_call 124;(first | refine(zad _ _ _ _ (by omega)).mono ?_ | refine(zaf _ _ _ _ (by omega)).mono ?_);rintro e w1 ⟨rfl,hw1⟩;obtain rfl:=hw1.symm;clear hw1))
  go_ret;exact⟨by rw[HV.out];rfl,rfl⟩
 by_cases h8:r=173
 ·subst h8
  have HV:=hid (show zaF 173=6 by decide)
  clear h0 h1 h2 h3 h4 h5 h6 h7;go_enter Tryz.func84,Tryz.ntmps84;go_wp2_with (first | (go_at_call 124;(first | refine(zad _ _ _ _ (by omega)).mono ?_ | refine(zaf _ _ _ _ (by omega)).mono ?_);rintro e w1 ⟨rfl,hw1⟩;obtain rfl:=hw1.symm;clear hw1))
  go_ret;exact⟨by rw[HV.out];rfl,rfl⟩
 by_cases h9:r=183
 ·subst h9
  have HV:=hid (show zaF 183=14 by decide)
  clear h0 h1 h2 h3 h4 h5 h6 h7 h8;go_enter Tryz.func84,Tryz.ntmps84;go_wp2_with (first | (go_at_call 124;(first | refine(zad _ _ _ _ (by omega)).mono ?_ | refine(zaf _ _ _ _ (by omega)).mono ?_);rintro e w1 ⟨rfl,hw1⟩;obtain rfl:=hw1.symm;clear hw1))
  go_ret;exact⟨by rw[HV.out];rfl,rfl⟩
 have HV:=hid (show zaF r=0 by unfold zaF;rw[if_neg h0,if_neg h1,if_neg h2,if_neg h3,if_neg h4,if_neg h5,if_neg h6,if_neg h7,if_neg h8,if_neg h9])
 have b0:(r==170)=false:=beq_eq_false_iff_ne.2 h0;have b1:(r==181)=false:=beq_eq_false_iff_ne.2 h1;have b5:(r==133)=false:=beq_eq_false_iff_ne.2 h5;have b6:(r==169)=false:=beq_eq_false_iff_ne.2 h6;have b7:(r==174)=false:=beq_eq_false_iff_ne.2 h7;have b8:(r==173)=false:=beq_eq_false_iff_ne.2 h8;have b9:(r==183)=false:=beq_eq_false_iff_ne.2 h9;go_enter Tryz.func84,Tryz.ntmps84;go_wp2_with (first | (go_at_call 124;(first | refine(zad _ _ _ _ (by omega)).mono ?_ | refine(zaf _ _ _ _ (by omega)).mono ?_);rintro e w1 ⟨rfl,hw1⟩;obtain rfl:=hw1.symm;clear hw1))
 go_ret;exact⟨by rw[HV.out];rfl,rfl⟩
def zam (r:Int):Int:=
 if r<=879 then 4 else if 1425<=r/\r<=1469 then 4 else if r<=883 then 10 else if r=902 then 10 else if 904<=r/\r<=1153 then 10 else if 1162<=r/\r<=1366 then 10 else if 1568<=r/\r<=1610 then 10 else if 7680<=r/\r<=8124 then 10 else if 1488<=r/\r<=1514 then 9 else if 1632<=r/\r<=1641 then 16 else if r=1644 then 15 else 0
theorem wdscripts_any (r:Int) (w:World):Calls Tryz.prog 85 #[.int .i32 r] w fun e w'=>e= .returned (.int .i64 (zam r))/\w'=w:=by
 by_cases h0:r<=879
 ·have HV:=hid (show zam r=4 by unfold zam;rw[if_pos h0])
  go_enter Tryz.func85,Tryz.ntmps85;go_wp2_with (first | (go_at_call 124;(first | refine(zad _ _ _ _ (by omega)).mono ?_ | refine(zaf _ _ _ _ (by omega)).mono ?_);rintro e w1 ⟨rfl,hw1⟩;obtain rfl:=hw1.symm;clear hw1))
  go_ret;exact⟨by rw[HV.out];rfl,rfl⟩
 by_cases h1:1425<=r/\r<=1469
 ·have HV:=hid (show zam r=4 by unfold zam;rw[if_neg h0,if_pos h1])
  obtain⟨u1,v1⟩:=h1;go_enter Tryz.func85,Tryz.ntmps85;go_wp2_with (first | (go_at_call 124;(first | refine(zad _ _ _ _ (by omega)).mono ?_ | refine(zaf _ _ _ _ (by omega)).mono ?_);rintro e w1 ⟨rfl,hw1⟩;obtain rfl:=hw1.symm;clear hw1))
  go_ret;exact⟨by rw[HV.out];rfl,rfl⟩
 by_cases h2:r<=883
 ·have HV:=hid (show zam r=10 by unfold zam;rw[if_neg h0,if_neg h1,if_pos h2])
  go_enter Tryz.func85,Tryz.ntmps85;go_wp2_with (first | (go_at_call 124;(first | refine(zad _ _ _ _ (by omega)).mono ?_ | refine(zaf _ _ _ _ (by omega)).mono ?_);rintro e w1 ⟨rfl,hw1⟩;obtain rfl:=hw1.symm;clear hw1))
  go_ret;exact⟨by rw[HV.out];rfl,rfl⟩
 by_cases h3:r=902
 ·subst h3
  have HV:=hid (show zam 902=10 by decide)
  clear h0 h1 h2;go_enter Tryz.func85,Tryz.ntmps85;go_wp2_with (first | (go_at_call 124;(first | refine(zad _ _ _ _ (by omega)).mono ?_ | refine(zaf _ _ _ _ (by omega)).mono ?_);rintro e w1 ⟨rfl,hw1⟩;obtain rfl:=hw1.symm;clear hw1))
  go_ret;exact⟨by rw[HV.out];rfl,rfl⟩
 by_cases h4:904<=r/\r<=1153
 ·have HV:=hid (show zam r=10 by unfold zam;rw[if_neg h0,if_neg h1,if_neg h2,if_neg h3,if_pos h4])
  have b3:(r==902)=false:=beq_eq_false_iff_ne.2 h3;obtain⟨u4,v4⟩:=h4;go_enter Tryz.func85,Tryz.ntmps85;go_wp2_with (first | (go_at_call 124;(first | refine(zad _ _ _ _ (by omega)).mono ?_ | refine(zaf _ _ _ _ (by omega)).mono ?_);rintro e w1 ⟨rfl,hw1⟩;obtain rfl:=hw1.symm;clear hw1))
  go_ret;exact⟨by rw[HV.out];rfl,rfl⟩
 by_cases h5:1162<=r/\r<=1366
 ·have HV:=hid (show zam r=10 by unfold zam;rw[if_neg h0,if_neg h1,if_neg h2,if_neg h3,if_neg h4,if_pos h5])
  have b3:(r==902)=false:=beq_eq_false_iff_ne.2 h3;obtain⟨u5,v5⟩:=h5;go_enter Tryz.func85,Tryz.ntmps85;go_wp2_with (first | (go_at_call 124;(first | refine(zad _ _ _ _ (by omega)).mono ?_ | refine(zaf _ _ _ _ (by omega)).mono ?_);rintro e w1 ⟨rfl,hw1⟩;obtain rfl:=hw1.symm;clear hw1))
  go_ret;exact⟨by rw[HV.out];rfl,rfl⟩
 by_cases h6:1568<=r/\r<=1610
 ·have HV:=hid (show zam r=10 by unfold zam;rw[if_neg h0,if_neg h1,if_neg h2,if_neg h3,if_neg h4,if_neg h5,if_pos h6])
  have b3:(r==902)=false:=beq_eq_false_iff_ne.2 h3;obtain⟨u6,v6⟩:=h6;go_enter Tryz.func85,Tryz.ntmps85;go_wp2_with (first | (go_at_call 124;(first | refine(zad _ _ _ _ (by omega)).mono ?_ | refine(zaf _ _ _ _ (by omega)).mono ?_);rintro e w1 ⟨rfl,hw1⟩;obtain rfl:=hw1.symm;clear hw1))
  go_ret;exact⟨by rw[HV.out];rfl,rfl⟩
 by_cases h7:7680<=r/\r<=8124
 ·have HV:=hid (show zam r=10 by unfold zam;rw[if_neg h0,if_neg h1,if_neg h2,if_neg h3,if_neg h4,if_neg h5,if_neg h6,if_pos h7])
  have b3:(r==902)=false:=beq_eq_false_iff_ne.2 h3;obtain⟨u7,v7⟩:=h7;go_enter Tryz.func85,Tryz.ntmps85;go_wp2_with (first | (go_at_call 124;(first | refine(zad _ _ _ _ (by omega)).mono ?_ | refine(zaf _ _ _ _ (by omega)).mono ?_);rintro e w1 ⟨rfl,hw1⟩;obtain rfl:=hw1.symm;clear hw1))
  go_ret;exact⟨by rw[HV.out];rfl,rfl⟩
 by_cases h8:1488<=r/\r<=1514
 ·have HV:=hid (show zam r=9 by unfold zam;rw[if_neg h0,if_neg h1,if_neg h2,if_neg h3,if_neg h4,if_neg h5,if_neg h6,if_neg h7,if_pos h8])
  have b3:(r==902)=false:=beq_eq_false_iff_ne.2 h3;obtain⟨u8,v8⟩:=h8;go_enter Tryz.func85,Tryz.ntmps85;go_wp2_with (first | (go_at_call 124;(first | refine(zad _ _ _ _ (by omega)).mono ?_ | refine(zaf _ _ _ _ (by omega)).mono ?_);rintro e w1 ⟨rfl,hw1⟩;obtain rfl:=hw1.symm;clear hw1))
  go_ret;exact⟨by rw[HV.out];rfl,rfl⟩
 by_cases h9:1632<=r/\r<=1641
 ·have HV:=hid (show zam r=16 by unfold zam;rw[if_neg h0,if_neg h1,if_neg h2,if_neg h3,if_neg h4,if_neg h5,if_neg h6,if_neg h7,if_neg h8,if_pos h9])
  have b3:(r==902)=false:=beq_eq_false_iff_ne.2 h3;obtain⟨u9,v9⟩:=h9;go_enter Tryz.func85,Tryz.ntmps85;go_wp2_with (first | (go_at_call 124;(first | refine(zad _ _ _ _ (by omega)).mono ?_ | refine(zaf _ _ _ _ (by omega)).mono ?_);rintro e w1 ⟨rfl,hw1⟩;obtain rfl:=hw1.symm;clear hw1))
  go_ret;exact⟨by rw[HV.out];rfl,rfl⟩
 by_cases h10:r=1644
 ·subst h10
  have HV:=hid (show zam 1644=15 by decide)
  clear h0 h1 h2 h3 h4 h5 h6 h7 h8 h9;go_enter Tryz.func85,Tryz.ntmps85;go_wp2_with (first | (go_at_call 124;(first | refine(zad _ _ _ _ (by omega)).mono ?_ | refine(zaf _ _ _ _ (by omega)).mono ?_);rintro e w1 ⟨rfl,hw1⟩;obtain rfl:=hw1.symm;clear hw1))
  go_ret;exact⟨by rw[HV.out];rfl,rfl⟩
 have HV:=hid (show zam r=0 by unfold zam;rw[if_neg h0,if_neg h1,if_neg h2,if_neg h3,if_neg h4,if_neg h5,if_neg h6,if_neg h7,if_neg h8,if_neg h9,if_neg h10])
 have b3:(r==902)=false:=beq_eq_false_iff_ne.2 h3;have b10:(r==1644)=false:=beq_eq_false_iff_ne.2 h10;go_enter Tryz.func85,Tryz.ntmps85;go_wp2_with (first | (go_at_call 124;(first | refine(zad _ _ _ _ (by omega)).mono ?_ | refine(zaf _ _ _ _ (by omega)).mono ?_);rintro e w1 ⟨rfl,hw1⟩;obtain rfl:=hw1.symm;clear hw1))
 go_ret;exact⟨by rw[HV.out];rfl,rfl⟩
def zaI (r:Int):Int:=
 if r=8204 then 4 else if r=8205 then 5 else if r=8206 then 6 else if r=8207 then 6 else if r=8288 then 6 else if r=8216 then 13 else if r=8217 then 13 else if r=8232 then 3 else if r=8233 then 3 else if r=8255 then 17 else if r<=8198 then 18 else 0
theorem wdpunct_any (r:Int) (w:World):Calls Tryz.prog 86 #[.int .i32 r] w fun e w'=>e= .returned (.int .i64 (zaI r))/\w'=w:=by
 by_cases h0:r=8204
 ·subst h0
  have HV:=hid (show zaI 8204=4 by decide)
  skip
  go_enter Tryz.func86,Tryz.ntmps86;go_wp2_with (first | (go_at_call 124;(first | refine(zad _ _ _ _ (by omega)).mono ?_ | refine(zaf _ _ _ _ (by omega)).mono ?_);rintro e w1 ⟨rfl,hw1⟩;obtain rfl:=hw1.symm;clear hw1))
  go_ret;exact⟨by rw[HV.out];rfl,rfl⟩
 by_cases h1:r=8205
 ·subst h1
  have HV:=hid (show zaI 8205=5 by decide)
  clear h0;go_enter Tryz.func86,Tryz.ntmps86;go_wp2_with (first | (go_at_call 124;(first | refine(zad _ _ _ _ (by omega)).mono ?_ | refine(zaf _ _ _ _ (by omega)).mono ?_);rintro e w1 ⟨rfl,hw1⟩;obtain rfl:=hw1.symm;clear hw1))
  go_ret;exact⟨by rw[HV.out];rfl,rfl⟩
 by_cases h2:r=8206
 ·subst h2
  have HV:=hid (show zaI 8206=6 by decide)
  clear h0 h1;go_enter Tryz.func86,Tryz.ntmps86;go_wp2_with (first | (go_at_call 124;(first | refine(zad _ _ _ _ (by omega)).mono ?_ | refine(zaf _ _ _ _ (by omega)).mono ?_);rintro e w1 ⟨rfl,hw1⟩;obtain rfl:=hw1.symm;clear hw1))
  go_ret;exact⟨by rw[HV.out];rfl,rfl⟩
 by_cases h3:r=8207
 ·subst h3
  have HV:=hid (show zaI 8207=6 by decide)
  clear h0 h1 h2;go_enter Tryz.func86,Tryz.ntmps86;go_wp2_with (first | (go_at_call 124;(first | refine(zad _ _ _ _ (by omega)).mono ?_ | refine(zaf _ _ _ _ (by omega)).mono ?_);rintro e w1 ⟨rfl,hw1⟩;obtain rfl:=hw1.symm;clear hw1))
  go_ret;exact⟨by rw[HV.out];rfl,rfl⟩
 by_cases h4:r=8288
 ·subst h4
  have HV:=hid (show zaI 8288=6 by decide)
  clear h0 h1 h2 h3;go_enter Tryz.func86,Tryz.ntmps86;go_wp2_with (first | (go_at_call 124;(first | refine(zad _ _ _ _ (by omega)).mono ?_ | refine(zaf _ _ _ _ (by omega)).mono ?_);rintro e w1 ⟨rfl,hw1⟩;obtain rfl:=hw1.symm;clear hw1))
  go_ret;exact⟨by rw[HV.out];rfl,rfl⟩
 by_cases h5:r=8216
 ·subst h5
  have HV:=hid (show zaI 8216=13 by decide)
  clear h0 h1 h2 h3 h4;go_enter Tryz.func86,Tryz.ntmps86;go_wp2_with (first | (go_at_call 124;(first | refine(zad _ _ _ _ (by omega)).mono ?_ | refine(zaf _ _ _ _ (by omega)).mono ?_);rintro e w1 ⟨rfl,hw1⟩;obtain rfl:=hw1.symm;clear hw1))
  go_ret;exact⟨by rw[HV.out];rfl,rfl⟩
 by_cases h6:r=8217
 ·subst h6
  have HV:=hid (show zaI 8217=13 by decide)
  clear h0 h1 h2 h3 h4 h5;go_enter Tryz.func86,Tryz.ntmps86;go_wp2_with (first | (go_at_call 124;(first | refine(zad _ _ _ _ (by omega)).mono ?_ | refine(zaf _ _ _ _ (by omega)).mono ?_);rintro e w1 ⟨rfl,hw1⟩;obtain rfl:=hw1.symm;clear hw1))
  go_ret;exact⟨by rw[HV.out];rfl,rfl⟩
 by_cases h7:r=8232
 ·subst h7
  have HV:=hid (show zaI 8232=3 by decide)
  clear h0 h1 h2 h3 h4 h5 h6;go_enter Tryz.func86,Tryz.ntmps86;go_wp2_with (first | (go_at_call 124;(first | refine(zad _ _ _ _ (by omega)).mono ?_ | refine(zaf _ _ _ _ (by omega)).mono ?_);rintro e w1 ⟨rfl,hw1⟩;obtain rfl:=hw1.symm;clear hw1))
  go_ret;exact⟨by rw[HV.out];rfl,rfl⟩
 by_cases h8:r=8233
 ·subst h8
  have HV:=hid (show zaI 8233=3 by decide)
  clear h0 h1 h2 h3 h4 h5 h6 h7;go_enter Tryz.func86,Tryz.ntmps86;go_wp2_with (first | (go_at_call 124;(first | refine(zad _ _ _ _ (by omega)).mono ?_ | refine(zaf _ _ _ _ (by omega)).mono ?_);rintro e w1 ⟨rfl,hw1⟩;obtain rfl:=hw1.symm;clear hw1))
  go_ret;exact⟨by rw[HV.out];rfl,rfl⟩
 by_cases h9:r=8255
 ·subst h9
  have HV:=hid (show zaI 8255=17 by decide)
  clear h0 h1 h2 h3 h4 h5 h6 h7 h8;go_enter Tryz.func86,Tryz.ntmps86;go_wp2_with (first | (go_at_call 124;(first | refine(zad _ _ _ _ (by omega)).mono ?_ | refine(zaf _ _ _ _ (by omega)).mono ?_);rintro e w1 ⟨rfl,hw1⟩;obtain rfl:=hw1.symm;clear hw1))
  go_ret;exact⟨by rw[HV.out];rfl,rfl⟩
 by_cases h10:r<=8198
 ·have HV:=hid (show zaI r=18 by unfold zaI;rw[if_neg h0,if_neg h1,if_neg h2,if_neg h3,if_neg h4,if_neg h5,if_neg h6,if_neg h7,if_neg h8,if_neg h9,if_pos h10])
  have b0:(r==8204)=false:=beq_eq_false_iff_ne.2 h0;have b1:(r==8205)=false:=beq_eq_false_iff_ne.2 h1;have b2:(r==8206)=false:=beq_eq_false_iff_ne.2 h2;have b3:(r==8207)=false:=beq_eq_false_iff_ne.2 h3;have b4:(r==8288)=false:=beq_eq_false_iff_ne.2 h4;have b5:(r==8216)=false:=beq_eq_false_iff_ne.2 h5;have b6:(r==8217)=false:=beq_eq_false_iff_ne.2 h6;have b7:(r==8232)=false:=beq_eq_false_iff_ne.2 h7;have b8:(r==8233)=false:=beq_eq_false_iff_ne.2 h8;have b9:(r==8255)=false:=beq_eq_false_iff_ne.2 h9;go_enter Tryz.func86,Tryz.ntmps86;go_wp2_with (first | (go_at_call 124;(first | refine(zad _ _ _ _ (by omega)).mono ?_ | refine(zaf _ _ _ _ (by omega)).mono ?_);rintro e w1 ⟨rfl,hw1⟩;obtain rfl:=hw1.symm;clear hw1))
  go_ret;exact⟨by rw[HV.out];rfl,rfl⟩
 have HV:=hid (show zaI r=0 by unfold zaI;rw[if_neg h0,if_neg h1,if_neg h2,if_neg h3,if_neg h4,if_neg h5,if_neg h6,if_neg h7,if_neg h8,if_neg h9,if_neg h10])
 have b0:(r==8204)=false:=beq_eq_false_iff_ne.2 h0;have b1:(r==8205)=false:=beq_eq_false_iff_ne.2 h1;have b2:(r==8206)=false:=beq_eq_false_iff_ne.2 h2;have b3:(r==8207)=false:=beq_eq_false_iff_ne.2 h3;have b4:(r==8288)=false:=beq_eq_false_iff_ne.2 h4;have b5:(r==8216)=false:=beq_eq_false_iff_ne.2 h5;have b6:(r==8217)=false:=beq_eq_false_iff_ne.2 h6;have b7:(r==8232)=false:=beq_eq_false_iff_ne.2 h7;have b8:(r==8233)=false:=beq_eq_false_iff_ne.2 h8;have b9:(r==8255)=false:=beq_eq_false_iff_ne.2 h9;go_enter Tryz.func86,Tryz.ntmps86;go_wp2_with (first | (go_at_call 124;(first | refine(zad _ _ _ _ (by omega)).mono ?_ | refine(zaf _ _ _ _ (by omega)).mono ?_);rintro e w1 ⟨rfl,hw1⟩;obtain rfl:=hw1.symm;clear hw1))
 go_ret;exact⟨by rw[HV.out];rfl,rfl⟩
def zaY (r:Int):Int:=
 if 9728<=r/\r<=10175 then 19 else if r=12288 then 18 else if r=12441 then 4 else if r=12442 then 4 else if 12449<=r/\r<=12538 then 8 else if r=12540 then 8 else 0
theorem wdasian_any (r:Int) (w:World):Calls Tryz.prog 87 #[.int .i32 r] w fun e w'=>e= .returned (.int .i64 (zaY r))/\w'=w:=by
 by_cases h0:9728<=r/\r<=10175
 ·have HV:=hid (show zaY r=19 by unfold zaY;rw[if_pos h0])
  obtain⟨u0,v0⟩:=h0;go_enter Tryz.func87,Tryz.ntmps87;go_wp2_with (first | (go_at_call 124;(first | refine(zad _ _ _ _ (by omega)).mono ?_ | refine(zaf _ _ _ _ (by omega)).mono ?_);rintro e w1 ⟨rfl,hw1⟩;obtain rfl:=hw1.symm;clear hw1))
  go_ret;exact⟨by rw[HV.out];rfl,rfl⟩
 by_cases h1:r=12288
 ·subst h1
  have HV:=hid (show zaY 12288=18 by decide)
  clear h0;go_enter Tryz.func87,Tryz.ntmps87;go_wp2_with (first | (go_at_call 124;(first | refine(zad _ _ _ _ (by omega)).mono ?_ | refine(zaf _ _ _ _ (by omega)).mono ?_);rintro e w1 ⟨rfl,hw1⟩;obtain rfl:=hw1.symm;clear hw1))
  go_ret;exact⟨by rw[HV.out];rfl,rfl⟩
 by_cases h2:r=12441
 ·subst h2
  have HV:=hid (show zaY 12441=4 by decide)
  clear h0 h1;go_enter Tryz.func87,Tryz.ntmps87;go_wp2_with (first | (go_at_call 124;(first | refine(zad _ _ _ _ (by omega)).mono ?_ | refine(zaf _ _ _ _ (by omega)).mono ?_);rintro e w1 ⟨rfl,hw1⟩;obtain rfl:=hw1.symm;clear hw1))
  go_ret;exact⟨by rw[HV.out];rfl,rfl⟩
 by_cases h3:r=12442
 ·subst h3
  have HV:=hid (show zaY 12442=4 by decide)
  clear h0 h1 h2;go_enter Tryz.func87,Tryz.ntmps87;go_wp2_with (first | (go_at_call 124;(first | refine(zad _ _ _ _ (by omega)).mono ?_ | refine(zaf _ _ _ _ (by omega)).mono ?_);rintro e w1 ⟨rfl,hw1⟩;obtain rfl:=hw1.symm;clear hw1))
  go_ret;exact⟨by rw[HV.out];rfl,rfl⟩
 by_cases h4:12449<=r/\r<=12538
 ·have HV:=hid (show zaY r=8 by unfold zaY;rw[if_neg h0,if_neg h1,if_neg h2,if_neg h3,if_pos h4])
  have b1:(r==12288)=false:=beq_eq_false_iff_ne.2 h1;have b2:(r==12441)=false:=beq_eq_false_iff_ne.2 h2;have b3:(r==12442)=false:=beq_eq_false_iff_ne.2 h3;obtain⟨u4,v4⟩:=h4;go_enter Tryz.func87,Tryz.ntmps87;go_wp2_with (first | (go_at_call 124;(first | refine(zad _ _ _ _ (by omega)).mono ?_ | refine(zaf _ _ _ _ (by omega)).mono ?_);rintro e w1 ⟨rfl,hw1⟩;obtain rfl:=hw1.symm;clear hw1))
  go_ret;exact⟨by rw[HV.out];rfl,rfl⟩
 by_cases h5:r=12540
 ·subst h5
  have HV:=hid (show zaY 12540=8 by decide)
  clear h0 h1 h2 h3 h4;go_enter Tryz.func87,Tryz.ntmps87;go_wp2_with (first | (go_at_call 124;(first | refine(zad _ _ _ _ (by omega)).mono ?_ | refine(zaf _ _ _ _ (by omega)).mono ?_);rintro e w1 ⟨rfl,hw1⟩;obtain rfl:=hw1.symm;clear hw1))
  go_ret;exact⟨by rw[HV.out];rfl,rfl⟩
 have HV:=hid (show zaY r=0 by unfold zaY;rw[if_neg h0,if_neg h1,if_neg h2,if_neg h3,if_neg h4,if_neg h5])
 have b1:(r==12288)=false:=beq_eq_false_iff_ne.2 h1;have b2:(r==12441)=false:=beq_eq_false_iff_ne.2 h2;have b3:(r==12442)=false:=beq_eq_false_iff_ne.2 h3;have b5:(r==12540)=false:=beq_eq_false_iff_ne.2 h5;go_enter Tryz.func87,Tryz.ntmps87;go_wp2_with (first | (go_at_call 124;(first | refine(zad _ _ _ _ (by omega)).mono ?_ | refine(zaf _ _ _ _ (by omega)).mono ?_);rintro e w1 ⟨rfl,hw1⟩;obtain rfl:=hw1.symm;clear hw1))
 go_ret;exact⟨by rw[HV.out];rfl,rfl⟩
def zaM (r:Int):Int:=
 if 64256<=r/\r<=64262 then 10 else if 65024<=r/\r<=65039 then 4 else if 127995<=r/\r<=127999 then 4 else if r=65279 then 6 else if 65382<=r/\r<=65437 then 8 else if 127462<=r/\r<=127487 then 7 else if 127744<=r/\r<=127994 then 19 else if 128000<=r/\r<=128591 then 19 else if 128640<=r/\r<=128767 then 19 else 0
theorem wdhigh_any (r:Int) (w:World):Calls Tryz.prog 88 #[.int .i32 r] w fun e w'=>e= .returned (.int .i64 (zaM r))/\w'=w:=by
 by_cases h0:64256<=r/\r<=64262
 ·have HV:=hid (show zaM r=10 by unfold zaM;rw[if_pos h0])
  obtain⟨u0,v0⟩:=h0;go_enter Tryz.func88,Tryz.ntmps88;go_wp2_with (first | (go_at_call 124;(first | refine(zad _ _ _ _ (by omega)).mono ?_ | refine(zaf _ _ _ _ (by omega)).mono ?_);rintro e w1 ⟨rfl,hw1⟩;obtain rfl:=hw1.symm;clear hw1))
  go_ret;exact⟨by rw[HV.out];rfl,rfl⟩
 by_cases h1:65024<=r/\r<=65039
 ·have HV:=hid (show zaM r=4 by unfold zaM;rw[if_neg h0,if_pos h1])
  obtain⟨u1,v1⟩:=h1;go_enter Tryz.func88,Tryz.ntmps88;go_wp2_with (first | (go_at_call 124;(first | refine(zad _ _ _ _ (by omega)).mono ?_ | refine(zaf _ _ _ _ (by omega)).mono ?_);rintro e w1 ⟨rfl,hw1⟩;obtain rfl:=hw1.symm;clear hw1))
  go_ret;exact⟨by rw[HV.out];rfl,rfl⟩
 by_cases h2:127995<=r/\r<=127999
 ·have HV:=hid (show zaM r=4 by unfold zaM;rw[if_neg h0,if_neg h1,if_pos h2])
  obtain⟨u2,v2⟩:=h2;go_enter Tryz.func88,Tryz.ntmps88;go_wp2_with (first | (go_at_call 124;(first | refine(zad _ _ _ _ (by omega)).mono ?_ | refine(zaf _ _ _ _ (by omega)).mono ?_);rintro e w1 ⟨rfl,hw1⟩;obtain rfl:=hw1.symm;clear hw1))
  go_ret;exact⟨by rw[HV.out];rfl,rfl⟩
 by_cases h3:r=65279
 ·subst h3
  have HV:=hid (show zaM 65279=6 by decide)
  clear h0 h1 h2;go_enter Tryz.func88,Tryz.ntmps88;go_wp2_with (first | (go_at_call 124;(first | refine(zad _ _ _ _ (by omega)).mono ?_ | refine(zaf _ _ _ _ (by omega)).mono ?_);rintro e w1 ⟨rfl,hw1⟩;obtain rfl:=hw1.symm;clear hw1))
  go_ret;exact⟨by rw[HV.out];rfl,rfl⟩
 by_cases h4:65382<=r/\r<=65437
 ·have HV:=hid (show zaM r=8 by unfold zaM;rw[if_neg h0,if_neg h1,if_neg h2,if_neg h3,if_pos h4])
  have b3:(r==65279)=false:=beq_eq_false_iff_ne.2 h3;obtain⟨u4,v4⟩:=h4;go_enter Tryz.func88,Tryz.ntmps88;go_wp2_with (first | (go_at_call 124;(first | refine(zad _ _ _ _ (by omega)).mono ?_ | refine(zaf _ _ _ _ (by omega)).mono ?_);rintro e w1 ⟨rfl,hw1⟩;obtain rfl:=hw1.symm;clear hw1))
  go_ret;exact⟨by rw[HV.out];rfl,rfl⟩
 by_cases h5:127462<=r/\r<=127487
 ·have HV:=hid (show zaM r=7 by unfold zaM;rw[if_neg h0,if_neg h1,if_neg h2,if_neg h3,if_neg h4,if_pos h5])
  have b3:(r==65279)=false:=beq_eq_false_iff_ne.2 h3;obtain⟨u5,v5⟩:=h5;go_enter Tryz.func88,Tryz.ntmps88;go_wp2_with (first | (go_at_call 124;(first | refine(zad _ _ _ _ (by omega)).mono ?_ | refine(zaf _ _ _ _ (by omega)).mono ?_);rintro e w1 ⟨rfl,hw1⟩;obtain rfl:=hw1.symm;clear hw1))
  go_ret;exact⟨by rw[HV.out];rfl,rfl⟩
 by_cases h6:127744<=r/\r<=127994
 ·have HV:=hid (show zaM r=19 by unfold zaM;rw[if_neg h0,if_neg h1,if_neg h2,if_neg h3,if_neg h4,if_neg h5,if_pos h6])
  have b3:(r==65279)=false:=beq_eq_false_iff_ne.2 h3;obtain⟨u6,v6⟩:=h6;go_enter Tryz.func88,Tryz.ntmps88;go_wp2_with (first | (go_at_call 124;(first | refine(zad _ _ _ _ (by omega)).mono ?_ | refine(zaf _ _ _ _ (by omega)).mono ?_);rintro e w1 ⟨rfl,hw1⟩;obtain rfl:=hw1.symm;clear hw1))
  go_ret;exact⟨by rw[HV.out];rfl,rfl⟩
 by_cases h7:128000<=r/\r<=128591
 ·have HV:=hid (show zaM r=19 by unfold zaM;rw[if_neg h0,if_neg h1,if_neg h2,if_neg h3,if_neg h4,if_neg h5,if_neg h6,if_pos h7])
  have b3:(r==65279)=false:=beq_eq_false_iff_ne.2 h3;obtain⟨u7,v7⟩:=h7;go_enter Tryz.func88,Tryz.ntmps88;go_wp2_with (first | (go_at_call 124;(first | refine(zad _ _ _ _ (by omega)).mono ?_ | refine(zaf _ _ _ _ (by omega)).mono ?_);rintro e w1 ⟨rfl,hw1⟩;obtain rfl:=hw1.symm;clear hw1))
  go_ret;exact⟨by rw[HV.out];rfl,rfl⟩
 by_cases h8:128640<=r/\r<=128767
 ·have HV:=hid (show zaM r=19 by unfold zaM;rw[if_neg h0,if_neg h1,if_neg h2,if_neg h3,if_neg h4,if_neg h5,if_neg h6,if_neg h7,if_pos h8])
  have b3:(r==65279)=false:=beq_eq_false_iff_ne.2 h3;obtain⟨u8,v8⟩:=h8;go_enter Tryz.func88,Tryz.ntmps88;go_wp2_with (first | (go_at_call 124;(first | refine(zad _ _ _ _ (by omega)).mono ?_ | refine(zaf _ _ _ _ (by omega)).mono ?_);rintro e w1 ⟨rfl,hw1⟩;obtain rfl:=hw1.symm;clear hw1))
  go_ret;exact⟨by rw[HV.out];rfl,rfl⟩
 have HV:=hid (show zaM r=0 by unfold zaM;rw[if_neg h0,if_neg h1,if_neg h2,if_neg h3,if_neg h4,if_neg h5,if_neg h6,if_neg h7,if_neg h8])
 have b3:(r==65279)=false:=beq_eq_false_iff_ne.2 h3;go_enter Tryz.func88,Tryz.ntmps88;go_wp2_with (first | (go_at_call 124;(first | refine(zad _ _ _ _ (by omega)).mono ?_ | refine(zaf _ _ _ _ (by omega)).mono ?_);rintro e w1 ⟨rfl,hw1⟩;obtain rfl:=hw1.symm;clear hw1))
 go_ret;exact⟨by rw[HV.out];rfl,rfl⟩
def wdcls (r:Int):Int:=
 if r<128 then zaz r else if r<768 then zaF r else if r<8192 then zam r else if r<8448 then zaI r else if r<44032 then zaY r else if r<=55203 then 10 else zaM r
theorem zer (r:Int) (w:World):Calls Tryz.prog 56 #[.int .i32 r] w fun e w'=>e= .returned (.int .i64 (wdcls r))/\w'=w:=by
 by_cases h0:r<128
 ·have HV:=hid (show wdcls r=zaz r by unfold wdcls;rw[if_pos h0])
  go_enter Tryz.func56,Tryz.ntmps56;go_wp2_with fail;refine(wdascii_any r w).mono ?_;rintro e w1 ⟨rfl,hw1⟩;obtain rfl:=hw1.symm;clear hw1;go_wp2;go_ret;exact⟨by rw[HV.out];rfl,rfl⟩
 by_cases h1:r<768
 ·have HV:=hid (show wdcls r=zaF r by unfold wdcls;rw[if_neg h0,if_pos h1])
  go_enter Tryz.func56,Tryz.ntmps56;go_wp2_with fail;refine(wdlatin_any r w).mono ?_;rintro e w1 ⟨rfl,hw1⟩;obtain rfl:=hw1.symm;clear hw1;go_wp2;go_ret;exact⟨by rw[HV.out];rfl,rfl⟩
 by_cases h2:r<8192
 ·have HV:=hid (show wdcls r=zam r by unfold wdcls;rw[if_neg h0,if_neg h1,if_pos h2])
  go_enter Tryz.func56,Tryz.ntmps56;go_wp2_with fail;refine(wdscripts_any r w).mono ?_;rintro e w1 ⟨rfl,hw1⟩;obtain rfl:=hw1.symm;clear hw1;go_wp2;go_ret;exact⟨by rw[HV.out];rfl,rfl⟩
 by_cases h3:r<8448
 ·have HV:=hid (show wdcls r=zaI r by unfold wdcls;rw[if_neg h0,if_neg h1,if_neg h2,if_pos h3])
  go_enter Tryz.func56,Tryz.ntmps56;go_wp2_with fail;refine(wdpunct_any r w).mono ?_;rintro e w1 ⟨rfl,hw1⟩;obtain rfl:=hw1.symm;clear hw1;go_wp2;go_ret;exact⟨by rw[HV.out];rfl,rfl⟩
 by_cases h4:r<44032
 ·have HV:=hid (show wdcls r=zaY r by unfold wdcls;rw[if_neg h0,if_neg h1,if_neg h2,if_neg h3,if_pos h4])
  go_enter Tryz.func56,Tryz.ntmps56;go_wp2_with fail;refine(wdasian_any r w).mono ?_;rintro e w1 ⟨rfl,hw1⟩;obtain rfl:=hw1.symm;clear hw1;go_wp2;go_ret;exact⟨by rw[HV.out];rfl,rfl⟩
 by_cases h5:r<=55203
 ·have HV:=hid (show wdcls r=10 by unfold wdcls;rw[if_neg h0,if_neg h1,if_neg h2,if_neg h3,if_neg h4,if_pos h5])
  go_enter Tryz.func56,Tryz.ntmps56;go_wp2;go_ret;exact⟨by rw[HV.out];rfl,rfl⟩
 have HV:=hid (show wdcls r=zaM r by unfold wdcls;rw[if_neg h0,if_neg h1,if_neg h2,if_neg h3,if_neg h4,if_neg h5])
 go_enter Tryz.func56,Tryz.ntmps56;go_wp2_with fail;refine(wdhigh_any r w).mono ?_;rintro e w1 ⟨rfl,hw1⟩;obtain rfl:=hw1.symm;clear hw1;go_wp2;go_ret;exact⟨by rw[HV.out];rfl,rfl⟩
end
namespace Wd
open Go.RowKit
def wends (c:Int):Bool:=c==1 || c==2 || c==3
def zaA (c:Int):Bool:=c==4 || c==6 || c==5
def zaC (c:Int):Bool:=c==10 || c==9
def wmakes (c:Int):Bool:=zaC c || c==8 || c==16
def wtog (a b:Int):Bool:=
 if a==10 then zaC b || b==16 || b==17 else if a==16 then zaC b || b==16 || b==17 else if a==9 then zaC b || b==16 || b==17 || b==11 else
 if a==8 then b==8 || b==17 else if a==17 then zaC b || b==8 || b==16 || b==17 else false
def wmid (c:Int):Bool:=c==14 || c==15 || c==13 || c==11 || c==12
def wbri (a m b:Int):Bool:=
 if m==14 then zaC a&&zaC b else if m==15 then a==16&&b==16 else if m==13 then zaC a&&zaC b || a==16&&b==16 else if m==11 then zaC a&&zaC b || a==16&&b==16 else if m==12 then a==9&&b==9 else false
end Wd
namespace Wd
def wlast (l:List UInt8):Int:=wdcls (zaJ l).1
def zaD (l:List UInt8):Int:=wdcls (dec l).1
theorem wlast_nil:wlast []=0:=by decide
def wbsF:Nat->List UInt8->Int × Nat
 | 0,_=>(0,0)
 | f+1,l=>if l=[] then (0,0) else if zaA (wlast l) then wbsF f (ltl l) else (wlast l,(ltl l).length)
theorem wlast_bd (l:List UInt8) (h:l≠ []):1<=(zaJ l).2/\(zaJ l).2<=l.length:=by
 obtain⟨e,n,c,h1,h2,h3,_⟩:=last_step l h;rw[h1];exact⟨h2,by show n<=_;omega⟩
theorem zbN (l:List UInt8) (h:l≠ []):(ltl l).length<l.length:=by
 have:=wlast_bd l h;have:0<l.length:=List.length_pos_iff.2 h;unfold ltl;rw[List.length_take];omega
theorem wbsF_any:∀(f g:Nat) (l:List UInt8),l.length<=f->l.length<=g->wbsF f l=wbsF g l
 | 0,0,_,_,_=>rfl
 | 0,g+1,l,hf,hg=>by
  have:l=[]:=List.length_eq_zero_iff.1 (by omega)
  subst this;rfl
 | f+1,0,l,hf,hg=>by
  have:l=[]:=List.length_eq_zero_iff.1 (by omega)
  subst this;rfl
 | f+1,g+1,l,hf,hg=>by
  unfold wbsF
  by_cases h:l=[]
  ·rw[if_pos h,if_pos h]
  ·have:=zbN l h
   rw[if_neg h,if_neg h,wbsF_any f g (ltl l) (by omega) (by omega)]
def wbs (l:List UInt8):Int × Nat:=wbsF l.length l
theorem wbs_yes (l:List UInt8) (h:l≠ []) (hk:zaA (wlast l)=true):wbs l=wbs (ltl l):=by
 have h1:=zbN l h;unfold wbs;rw[wbsF_any l.length (l.length - 1+1) l (by omega) (by omega)]
 conv=>lhs;unfold wbsF
 rw[if_neg h,if_pos hk];exact wbsF_any _ _ _ (by omega) (by omega)
theorem wbs_no (l:List UInt8) (h:l≠ []) (hk:zaA (wlast l)=false):wbs l=(wlast l,(ltl l).length):=by
 have hp:0<l.length:=List.length_pos_iff.2 h;unfold wbs;obtain⟨n,hn⟩:∃n,l.length=n+1:=⟨l.length - 1,by omega⟩
 rw[hn];unfold wbsF;rw[if_neg h,if_neg (by rw[hk];simp)]
theorem wbs_le:∀(n:Nat) (l:List UInt8),l.length<=n->(wbs l).2<=l.length
 | 0,l,hl=>by
  have:l=[]:=List.length_eq_zero_iff.1 (by omega)
  subst this;exact Nat.le_refl _
 | n+1,l,hl=>by
  by_cases h:l=[]
  ·subst h;exact Nat.le_refl _
  ·have h1:=zbN l h
   cases hk:zaA (wlast l) with
   | true=>rw[wbs_yes l h hk];exact Nat.le_trans (wbs_le n (ltl l) (by omega)) (Nat.le_of_lt h1)
   | false=>rw[wbs_no l h hk];exact Nat.le_of_lt h1
def wonF:Nat->List UInt8->Int
 | 0,_=>0
 | f+1,l=>if l=[] then 0 else if zaA (zaD l) then wonF f (l.drop (dec l).2) else zaD l
theorem wonF_any:∀(f g:Nat) (l:List UInt8),l.length<=f->l.length<=g->wonF f l=wonF g l
 | 0,0,_,_,_=>rfl
 | 0,g+1,l,hf,hg=>by
  have:l=[]:=List.length_eq_zero_iff.1 (by omega)
  subst this;rfl
 | f+1,0,l,hf,hg=>by
  have:l=[]:=List.length_eq_zero_iff.1 (by omega)
  subst this;rfl
 | f+1,g+1,l,hf,hg=>by
  unfold wonF
  by_cases h:l=[]
  ·rw[if_pos h,if_pos h]
  ·have:=dec_ge l h
   rw[if_neg h,if_neg h,wonF_any f g _ (by rw[List.length_drop];omega) (by rw[List.length_drop];omega)]
def won (l:List UInt8):Int:=wonF l.length l
theorem won_yes (l:List UInt8) (h:l≠ []) (hk:zaA (zaD l)=true):won l=won (l.drop (dec l).2):=by
 have h1:=dec_ge l h;have hp:0<l.length:=List.length_pos_iff.2 h;unfold won;rw[wonF_any l.length (l.length - 1+1) l (by omega) (by omega)]
 conv=>lhs;unfold wonF
 rw[if_neg h,if_pos hk];exact wonF_any _ _ _ (by rw[List.length_drop];omega) (Nat.le_refl _)
theorem won_no (l:List UInt8) (h:l≠ []) (hk:zaA (zaD l)=false):won l=zaD l:=by
 have hp:0<l.length:=List.length_pos_iff.2 h;unfold won;obtain⟨n,hn⟩:∃n,l.length=n+1:=⟨l.length - 1,by omega⟩
 rw[hn];unfold wonF;rw[if_neg h,if_neg (by rw[hk];simp)]
def wodF:Nat->List UInt8->Bool->Bool
 | 0,_,o=>o
 | f+1,l,o=>if l=[] then o else if wlast l==7 then wodF f (ltl l) (!o) else if zaA (wlast l) then wodF f (ltl l) o else o
theorem zcQ:∀(f g:Nat) (l:List UInt8) (o:Bool),l.length<=f->l.length<=g->wodF f l o=wodF g l o
 | 0,0,_,_,_,_=>rfl
 | 0,g+1,l,o,hf,hg=>by
  have:l=[]:=List.length_eq_zero_iff.1 (by omega)
  subst this;rfl
 | f+1,0,l,o,hf,hg=>by
  have:l=[]:=List.length_eq_zero_iff.1 (by omega)
  subst this;rfl
 | f+1,g+1,l,o,hf,hg=>by
  unfold wodF
  by_cases h:l=[]
  ·rw[if_pos h,if_pos h]
  ·have:=zbN l h
   rw[if_neg h,if_neg h,zcQ f g (ltl l) (!o) (by omega) (by omega),zcQ f g (ltl l) o (by omega) (by omega)]
def wod (l:List UInt8) (o:Bool):Bool:=wodF l.length l o
theorem wod_step (l:List UInt8) (o:Bool) (h:l≠ []):wod l o=if wlast l==7 then wod (ltl l) (!o) else if zaA (wlast l) then wod (ltl l) o else o:=by
 have h1:=zbN l h;unfold wod;rw[zcQ l.length (l.length - 1+1) l o (by omega) (by omega)]
 conv=>lhs;unfold wodF
 rw[if_neg h,zcQ _ (ltl l).length (ltl l) (!o) (by omega) (Nat.le_refl _),zcQ _ (ltl l).length (ltl l) o (by omega) (Nat.le_refl _)]
def wjoin (s:List UInt8) (p:Nat):Bool:=
 if wtog (wbs (s.take p)).1 (zaD (s.drop p)) then true else
 if (wbs (s.take p)).1==7&&zaD (s.drop p)==7 then wod (s.take p) false else
 if wmid (zaD (s.drop p)) then wbri (wbs (s.take p)).1 (zaD (s.drop p)) (won (s.drop (p+(dec (s.drop p)).2))) else
 if wmid (wbs (s.take p)).1 then wbri (wbs (s.take (wbs (s.take p)).2)).1 (wbs (s.take p)).1 (zaD (s.drop p)) else false
def wcut (s:List UInt8) (p:Nat):Bool:=
 if wlast (s.take p)==1&&zaD (s.drop p)==2 then false else if wends (wlast (s.take p)) then true else if wends (zaD (s.drop p)) then true else
 if wlast (s.take p)==5&&zaD (s.drop p)==19 then false else if wlast (s.take p)==18&&zaD (s.drop p)==18 then false else
 if zaA (zaD (s.drop p)) then false else !wjoin s p
end Wd
namespace Wd
open Go.RowKit
theorem zcS (c:Int) (w:World):Calls Tryz.prog 79 #[.int .i64 c] w fun e w'=>e= .returned (.bool (wends c))/\w'=w:=by
 obtain⟨v,hv⟩:∃v,wends c=v:=⟨_,rfl⟩;rw[hv];unfold wends at hv
 cases h1:(c==1)<;>cases h2:(c==2)<;>cases h3:(c==3)
 all_goals
  rw[h1,h2,h3] at hv;have HV:=hid hv;clear hv;go_enter Tryz.func79,Tryz.ntmps79;go_wp2;go_ret;exact⟨by rw[<- HV.out];rfl,rfl⟩
theorem zbf (c:Int) (w:World):Calls Tryz.prog 68 #[.int .i64 c] w fun e w'=>e= .returned (.bool (zaA c))/\w'=w:=by
 obtain⟨v,hv⟩:∃v,zaA c=v:=⟨_,rfl⟩;rw[hv];unfold zaA at hv
 cases h1:(c==4)<;>cases h2:(c==6)<;>cases h3:(c==5)
 all_goals
  rw[h1,h2,h3] at hv;have HV:=hid hv;clear hv;go_enter Tryz.func68,Tryz.ntmps68;go_wp2;go_ret;exact⟨by rw[<- HV.out];rfl,rfl⟩
theorem wletter_any (c:Int) (w:World):Calls Tryz.prog 82 #[.int .i64 c] w fun e w'=>e= .returned (.bool (zaC c))/\w'=w:=by
 obtain⟨v,hv⟩:∃v,zaC c=v:=⟨_,rfl⟩;rw[hv];unfold zaC at hv
 cases h1:(c==10)<;>cases h2:(c==9)
 all_goals
  rw[h1,h2] at hv;have HV:=hid hv;clear hv;go_enter Tryz.func82,Tryz.ntmps82;go_wp2;go_ret;exact⟨by rw[<- HV.out];rfl,rfl⟩
theorem zaq (c:Int) (v:Bool) (w:World) (h:zaC c=v):Calls Tryz.prog 82 #[.int .i64 c] w fun e w'=>e= .returned (.bool v)/\w'=w:=by
 rw[<- h];exact wletter_any c w
theorem wmakes_any (c:Int) (w:World):Calls Tryz.prog 55 #[.int .i64 c] w fun e w'=>e= .returned (.bool (wmakes c))/\w'=w:=by
 obtain⟨v,hv⟩:∃v,wmakes c=v:=⟨_,rfl⟩;rw[hv];unfold wmakes at hv
 cases hl:zaC c<;>cases h1:(c==8)<;>cases h2:(c==16)
 all_goals
  rw[hl,h1,h2] at hv;have HV:=hid hv;clear hv;go_enter Tryz.func55,Tryz.ntmps55;go_wp2_with (go_at_call 82;refine(zaq _ _ _ hl).mono ?_;rintro e w1 ⟨rfl,hw1⟩;obtain rfl:=hw1.symm;clear hw1);go_ret;exact⟨by rw[<- HV.out];rfl,rfl⟩
theorem wmakes_v (c:Int) (v:Bool) (w:World) (h:wmakes c=v):Calls Tryz.prog 55 #[.int .i64 c] w fun e w'=>e= .returned (.bool v)/\w'=w:=by
 rw[<- h];exact wmakes_any c w
theorem zdS (c:Int) (w:World):Calls Tryz.prog 120 #[.int .i64 c] w fun e w'=>e= .returned (.bool (wmid c))/\w'=w:=by
 obtain⟨v,hv⟩:∃v,wmid c=v:=⟨_,rfl⟩;rw[hv];unfold wmid at hv
 cases h1:(c==14)<;>cases h2:(c==15)<;>cases h3:(c==13)<;>cases h4:(c==11)<;>cases h5:(c==12)
 all_goals
  rw[h1,h2,h3,h4,h5] at hv;have HV:=hid hv;clear hv;go_enter Tryz.func120,Tryz.ntmps120;go_wp2;go_ret;exact⟨by rw[<- HV.out];rfl,rfl⟩
theorem wtog_any (a b:Int) (w:World):Calls Tryz.prog 118 #[.int .i64 a,.int .i64 b] w fun e w'=>e= .returned (.bool (wtog a b))/\w'=w:=by
 obtain⟨v,hv⟩:∃v,wtog a b=v:=⟨_,rfl⟩;rw[hv];unfold wtog at hv
 cases h0:(a==10)
 ·cases h1:(a==16)
  ·cases h2:(a==9)
   ·cases h3:(a==8)
    ·cases h4:(a==17)
     ·rw[h0,h1,h2,h3,h4] at hv;have HV:=hid hv;clear hv;go_enter Tryz.func118,Tryz.ntmps118;go_wp2;go_ret;exact⟨by rw[<- HV.out];rfl,rfl⟩
     ·cases hm:wmakes b<;>cases h5:(b==17)<;>(have hm2:=hm;unfold wmakes at hm2;rw[h0,h1,h2,h3,h4,hm2,h5] at hv;clear hm2;have HV:=hid hv;clear hv;go_enter Tryz.func118,Tryz.ntmps118;go_wp2_with ((go_at_call 55;refine(wmakes_v _ _ _ hm).mono ?_;rintro e w1 ⟨rfl,hw1⟩;obtain rfl:=hw1.symm;clear hw1));go_ret;exact⟨by rw[<- HV.out];rfl,rfl⟩)
    ·cases h5:(b==8)<;>cases h6:(b==17)<;>(rw[h0,h1,h2,h3,h5,h6] at hv;have HV:=hid hv;clear hv;go_enter Tryz.func118,Tryz.ntmps118;go_wp2;go_ret;exact⟨by rw[<- HV.out];rfl,rfl⟩)
   ·cases hl:zaC b<;>cases h5:(b==16)<;>cases h6:(b==17)<;>cases h7:(b==11)<;>(rw[h0,h1,h2,hl,h5,h6,h7] at hv;have HV:=hid hv;clear hv;go_enter Tryz.func118,Tryz.ntmps118;go_wp2_with (go_at_call 82;refine(zaq _ _ _ hl).mono ?_;rintro e w1 ⟨rfl,hw1⟩;obtain rfl:=hw1.symm;clear hw1);go_ret;exact⟨by rw[<- HV.out];rfl,rfl⟩)
  ·cases hl:zaC b<;>cases h5:(b==16)<;>cases h6:(b==17)<;>(rw[h0,h1,hl,h5,h6] at hv;have HV:=hid hv;clear hv;go_enter Tryz.func118,Tryz.ntmps118;go_wp2_with (go_at_call 82;refine(zaq _ _ _ hl).mono ?_;rintro e w1 ⟨rfl,hw1⟩;obtain rfl:=hw1.symm;clear hw1);go_ret;exact⟨by rw[<- HV.out];rfl,rfl⟩)
 ·cases hl:zaC b<;>cases h5:(b==16)<;>cases h6:(b==17)<;>(rw[h0,hl,h5,h6] at hv;have HV:=hid hv;clear hv;go_enter Tryz.func118,Tryz.ntmps118;go_wp2_with (go_at_call 82;refine(zaq _ _ _ hl).mono ?_;rintro e w1 ⟨rfl,hw1⟩;obtain rfl:=hw1.symm;clear hw1);go_ret;exact⟨by rw[<- HV.out];rfl,rfl⟩)
end Wd
namespace Wd
open Go.RowKit
theorem wbri_any (a m b:Int) (w:World):Calls Tryz.prog 121 #[.int .i64 a,.int .i64 m,.int .i64 b] w fun e w'=>e= .returned (.bool (wbri a m b))/\w'=w:=by
 obtain⟨v,hv⟩:∃v,wbri a m b=v:=⟨_,rfl⟩;rw[hv];unfold wbri at hv
 cases la:zaC a
 ·cases da:(a==16)<;>cases db:(b==16)<;>rw[la,da,db] at hv
  all_goals
   cases h0:(m==14)
   ·cases h1:(m==15)
    ·cases h2:(m==13)
     ·cases h3:(m==11)
      ·cases h4:(m==12)
       ·rw[h0,h1,h2,h3,h4] at hv;have HV:=hid hv;clear hv;go_enter Tryz.func121,Tryz.ntmps121;go_wp2_with fail;go_at_call 82;refine(zaq _ _ _ la).mono ?_;rintro e w1 ⟨rfl,hw1⟩;obtain rfl:=hw1.symm;clear hw1;go_wp2_with fail;go_ret;exact⟨by rw[<- HV.out];rfl,rfl⟩
       ·cases h5:(a==9)<;>cases h6:(b==9)<;>(rw[h0,h1,h2,h3,h4,h5,h6] at hv;have HV:=hid hv;clear hv;go_enter Tryz.func121,Tryz.ntmps121;go_wp2_with fail;go_at_call 82;refine(zaq _ _ _ la).mono ?_;rintro e w1 ⟨rfl,hw1⟩;obtain rfl:=hw1.symm;clear hw1;go_wp2_with fail;go_ret;exact⟨by rw[<- HV.out];rfl,rfl⟩)
      ·rw[h0,h1,h2,h3] at hv;have HV:=hid hv;clear hv;go_enter Tryz.func121,Tryz.ntmps121;go_wp2_with fail;go_at_call 82;refine(zaq _ _ _ la).mono ?_;rintro e w1 ⟨rfl,hw1⟩;obtain rfl:=hw1.symm;clear hw1;go_wp2_with fail;go_ret;exact⟨by rw[<- HV.out];rfl,rfl⟩
     ·rw[h0,h1,h2] at hv;have HV:=hid hv;clear hv;go_enter Tryz.func121,Tryz.ntmps121;go_wp2_with fail;go_at_call 82;refine(zaq _ _ _ la).mono ?_;rintro e w1 ⟨rfl,hw1⟩;obtain rfl:=hw1.symm;clear hw1;go_wp2_with fail;go_ret;exact⟨by rw[<- HV.out];rfl,rfl⟩
    ·rw[h0,h1] at hv;have HV:=hid hv;clear hv;go_enter Tryz.func121,Tryz.ntmps121;go_wp2_with fail;go_at_call 82;refine(zaq _ _ _ la).mono ?_;rintro e w1 ⟨rfl,hw1⟩;obtain rfl:=hw1.symm;clear hw1;go_wp2_with fail;go_ret;exact⟨by rw[<- HV.out];rfl,rfl⟩
   ·rw[h0] at hv;have HV:=hid hv;clear hv;go_enter Tryz.func121,Tryz.ntmps121;go_wp2_with fail;go_at_call 82;refine(zaq _ _ _ la).mono ?_;rintro e w1 ⟨rfl,hw1⟩;obtain rfl:=hw1.symm;clear hw1;go_wp2_with fail;go_ret;exact⟨by rw[<- HV.out];rfl,rfl⟩
 ·cases lb:zaC b<;>cases da:(a==16)<;>cases db:(b==16)<;>rw[la,lb,da,db] at hv
  all_goals
   cases h0:(m==14)
   ·cases h1:(m==15)
    ·cases h2:(m==13)
     ·cases h3:(m==11)
      ·cases h4:(m==12)
       ·rw[h0,h1,h2,h3,h4] at hv;have HV:=hid hv;clear hv;go_enter Tryz.func121,Tryz.ntmps121;go_wp2_with fail;go_at_call 82;refine(zaq _ _ _ la).mono ?_;rintro e w1 ⟨rfl,hw1⟩;obtain rfl:=hw1.symm;clear hw1;go_wp2_with fail;go_at_call 82;refine(zaq _ _ _ lb).mono ?_;rintro e w2 ⟨rfl,hw1⟩;obtain rfl:=hw1.symm;clear hw1;go_wp2_with fail;go_ret;exact⟨by rw[<- HV.out];rfl,rfl⟩
       ·cases h5:(a==9)<;>cases h6:(b==9)<;>(rw[h0,h1,h2,h3,h4,h5,h6] at hv;have HV:=hid hv;clear hv;go_enter Tryz.func121,Tryz.ntmps121;go_wp2_with fail;go_at_call 82;refine(zaq _ _ _ la).mono ?_;rintro e w1 ⟨rfl,hw1⟩;obtain rfl:=hw1.symm;clear hw1;go_wp2_with fail;go_at_call 82;refine(zaq _ _ _ lb).mono ?_;rintro e w2 ⟨rfl,hw1⟩;obtain rfl:=hw1.symm;clear hw1;go_wp2_with fail;go_ret;exact⟨by rw[<- HV.out];rfl,rfl⟩)
      ·rw[h0,h1,h2,h3] at hv;have HV:=hid hv;clear hv;go_enter Tryz.func121,Tryz.ntmps121;go_wp2_with fail;go_at_call 82;refine(zaq _ _ _ la).mono ?_;rintro e w1 ⟨rfl,hw1⟩;obtain rfl:=hw1.symm;clear hw1;go_wp2_with fail;go_at_call 82;refine(zaq _ _ _ lb).mono ?_;rintro e w2 ⟨rfl,hw1⟩;obtain rfl:=hw1.symm;clear hw1;go_wp2_with fail;go_ret;exact⟨by rw[<- HV.out];rfl,rfl⟩
     ·rw[h0,h1,h2] at hv;have HV:=hid hv;clear hv;go_enter Tryz.func121,Tryz.ntmps121;go_wp2_with fail;go_at_call 82;refine(zaq _ _ _ la).mono ?_;rintro e w1 ⟨rfl,hw1⟩;obtain rfl:=hw1.symm;clear hw1;go_wp2_with fail;go_at_call 82;refine(zaq _ _ _ lb).mono ?_;rintro e w2 ⟨rfl,hw1⟩;obtain rfl:=hw1.symm;clear hw1;go_wp2_with fail;go_ret;exact⟨by rw[<- HV.out];rfl,rfl⟩
    ·rw[h0,h1] at hv;have HV:=hid hv;clear hv;go_enter Tryz.func121,Tryz.ntmps121;go_wp2_with fail;go_at_call 82;refine(zaq _ _ _ la).mono ?_;rintro e w1 ⟨rfl,hw1⟩;obtain rfl:=hw1.symm;clear hw1;go_wp2_with fail;go_at_call 82;refine(zaq _ _ _ lb).mono ?_;rintro e w2 ⟨rfl,hw1⟩;obtain rfl:=hw1.symm;clear hw1;go_wp2_with fail;go_ret;exact⟨by rw[<- HV.out];rfl,rfl⟩
   ·rw[h0] at hv;have HV:=hid hv;clear hv;go_enter Tryz.func121,Tryz.ntmps121;go_wp2_with fail;go_at_call 82;refine(zaq _ _ _ la).mono ?_;rintro e w1 ⟨rfl,hw1⟩;obtain rfl:=hw1.symm;clear hw1;go_wp2_with fail;go_at_call 82;refine(zaq _ _ _ lb).mono ?_;rintro e w2 ⟨rfl,hw1⟩;obtain rfl:=hw1.symm;clear hw1;go_wp2_with fail;go_ret;exact⟨by rw[<- HV.out];rfl,rfl⟩
end Wd
section
open Go.RowKit
theorem start_eq (b q:Int) (w:World) (hb:b=q) (h0:0<=q) (h1:q<256):
  Calls Tryz.prog 115 #[.int .u8 b] w fun e w'=>e= .returned (.bool (Lib.runeStart q))/\w'=w:=by
 subst hb;exact Tryz.utf8_RuneStart b w h0 h1
set_option maxRecDepth 100000 in
theorem begin_any (l:List UInt8) (p:Nat) (w:World) (hp:p<l.length) (hl:l.length<=1000000000000) (hT:Lib.Utf8Tabs 0 1 w) (h2:2<=w.heap.size):
  Calls Tryz.prog 77 #[.string ⟨l.toArray⟩,.int .i64 p] w fun e w'=>e= .returned (.int .i64 (bgF l p 4))/\Below w.heap.size w w':=by
 have HT:=hid hT;clear hT;go_enter Tryz.func77,Tryz.ntmps77;go_wp2;go_loopw [5] (fun fr wr=>∃(f:Nat) (z:Int),fr= .int .i64 z/\z=(p:Int) - (4 - f)/\f<=4/\ -1<=z/\Hid (bgF l p f=bgF l p 4)/\Below w.heap.size w wr) (fun fr _=>(intOf fr+1).toNat)
 case atStart=>exact⟨4,_,rfl,by omega,by omega,by omega,rfl,Below.refl _ _⟩
 case round=>
  obtain⟨f,z,rfl,hz,hf4,hz1,HF,hB⟩:=hrel
  by_cases hf:p<4 - f
  ·have HR:=hid (HF.out.symm.trans (bgF_out l p f hf))
   obtain rfl:z= -1:=by omega
   clear hz;go_wp2;go_ret;exact⟨by rw[HR.out];rfl,hB⟩
  cases f with
  | zero=>
   have HR:=hid (HF.out.symm);have hz':z=(p:Int) - 4:=by omega
   have HZ:=hid hz';have c1:¬(p:Int) - 4<z:=by omega
   clear hz hz'
   by_cases c2:0<=z
   all_goals
    go_wp2;go_ret;exact⟨by rw[HR.out];rfl,hB⟩
  | succ f=>
   obtain⟨t,ht⟩:∃t:Nat,t+(3 - f)=p:=⟨p - (3 - f),by omega⟩
   obtain rfl:z=t:=by omega
   have hlt:t<l.length:=by omega
   have c1:(p:Int) - 4<t:=by omega
   have htp:t<=p:=by omega
   have hsz:t<(⟨l.toArray⟩:ByteArray).size:=by show t<l.toArray.size;simpa using hlt
   have HZ:=hid hz;have HTP:=hid ht;obtain⟨b0,b1⟩:=byt_bd l t;have HT1:=hid (tabs_below HT.out h2 hB);have hw2:2<=wr.heap.size:=by have:=hB.size;omega
   clear hz ht hf
   cases hr:Lib.runeStart (byt l t) with
   | false=>
    have HM:=hid (zbq l p f t HTP.out hr);go_wp2_with (go_at_call 115;refine(start_eq _ (byt l t) _ (byt_eq l t hsz) b0 b1).mono ?_;rintro e w' ⟨rfl,rfl⟩);go_roundw
    case rel=>exact⟨f,_,rfl,by have:=HZ.out;omega,by omega,by omega,(HM.out.symm.trans HF.out),hB⟩
    case measure=>simp[intOf]
   | true=>
    have h4:=dec_le4 (l.drop t)
    by_cases hn:p<t+(dec (l.drop t)).2
    ·have HR:=hid (HF.out.symm.trans (bgF_in l p f t HTP.out hr hn))
     go_wp2_with (go_at_call 115;refine(start_eq _ (byt l t) _ (byt_eq l t hsz) b0 b1).mono ?_;rintro e w' ⟨rfl,rfl⟩);refine(decode_eq _ (l.drop t) _ (ext_drop l t) (by exact HT1.out)).mono ?_
     rintro e w1 ⟨rfl,hb⟩
     generalize (dec (l.drop t)).1=rr at *
     generalize (dec (l.drop t)).2=nn at *
     clear hr HT1 HT HF HZ HTP b0 b1 hsz;go_wp2;go_ret;exact⟨by rw[HR.out];rfl,hB.trans (hb.mono hB.size)⟩
    ·have HR:=hid (HF.out.symm.trans (bgF_off l p f t HTP.out hr hn))
     go_wp2_with (go_at_call 115;refine(start_eq _ (byt l t) _ (byt_eq l t hsz) b0 b1).mono ?_;rintro e w' ⟨rfl,rfl⟩);refine(decode_eq _ (l.drop t) _ (ext_drop l t) (by exact HT1.out)).mono ?_
     rintro e w1 ⟨rfl,hb⟩
     generalize (dec (l.drop t)).1=rr at *
     generalize (dec (l.drop t)).2=nn at *
     clear hr HT1 HT HF HZ HTP b0 b1 hsz;go_wp2;go_ret;exact⟨by rw[HR.out];rfl,hB.trans (hb.mono hB.size)⟩
end
end Go.Proofs.YtokpjifnlifafaaGreatDoor
