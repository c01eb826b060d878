/- TxMath, WdDb: parts of the proof, joined. -/
import Derived.Test.YtbbapnpdfcgjnaaGreatDoorWBase
import Derived.Test.YtbbapnpdfcgjnaaGreatDoorWDcE
open List renaming length_eq_zero_iff->sD, drop_of_length_le->sE, take_succ_cons->sG, length_cons->sH
set_option maxHeartbeats 64000000
namespace Go.Proofs.YtbbapnpdfcgjnaaGreatDoor
section
def ent:Nat->List (Nat×Nat)->List Dc.rK
 |_,[]=>[]
 |p,x::X=>((x.1:Int),p,p+x.2)::ent (p+x.2) X
theorem zjt(l:List UInt8):∀(n p:Nat),l.length-p<=n->p<=l.length->Dc.cls l.length (Dc.plr l p)=ent p (rl (l.drop p))
 |0,p,h,hp=>by rw[Dc.gK l p (by omega),sE (by omega)];rfl
 |n+1,p,h,hp=>by
  by_cases hlt:p<l.length
  ·have hne:=aY l p hlt;have w1:=kj l p hlt;have w2:=zlH l p hlt;have ih:=zjt l n (p+dY l p) (by omega) w2;rw[Dc.fT l p hlt,ca l p hlt,bD _ hne,List.drop_drop];show Dc.cls l.length ((p,((dec (l.drop p)).1:Int))::Dc.plr l (p+dY l p))=(((dec (l.drop p)).1:Int),p,p+dY l p)::ent (p+dY l p) (rl (l.drop (p+dY l p)));rw[Dc.cls,ih];congr 3;by_cases h5:p+dY l p<l.length
   ·rw[Dc.fT l _ h5];rfl
   ·rw[Dc.gK l _ h5];show l.length=_;omega
  ·rw[Dc.gK l p hlt,sE (by omega)];rfl
theorem zhR(l:List UInt8):Dc.txt l=ent 0 (rl l):=by have h:=zjt l l.length 0 (by omega) (by omega);rw[List.drop_zero]at h;exact h
theorem zji:∀(X:List (Nat×Nat))(p:Nat),(ent p X).length=X.length
 |[],_=>rfl
 |x::X,p=>by rw[ent,sH,sH,zji X]
theorem zoS:∀(X:List (Nat×Nat))(p k:Nat)(x:Nat×Nat),X[k]?=some x->(ent p X)[k]?=some ((x.1:Int),p+nC (X.take k),p+nC (X.take (k+1)))
 |[],_,_,_,h=>by cases h
 |y::X,p,0,x,h=>by cases h;simp[ent,nC]
 |y::X,p,k+1,x,h=>by have ih:=zoS X (p+y.2) k x (by simpa using h);rw[ent,List.getElem?_cons_succ,ih,sG,sG,iC,iC];simp only[Option.some.injEq,Prod.mk.injEq,true_and];omega
theorem zbe(l:List UInt8):(Dc.txt l).length=(rl l).length:=by rw[zhR,zji]
def lz(l:List UInt8)(k:Nat):Nat:=nC ((rl l).take k)
theorem zqM(l:List UInt8)(k:Nat)(h:(rl l).length<=k):lz l k=l.length:=by unfold lz;rw[List.take_of_length_le h,zbq l.length l (Nat.le_refl _)]
theorem znq(X:List (Nat×Nat)):∀(k:Nat),nC (X.take k)<=nC X:=fun k=>by
 conv=>rhs;rw[<-List.take_append_drop k X,oA]
 omega
theorem zuz(l:List UInt8)(k:Nat):lz l k<=l.length:=by have h:=znq (rl l) k;rw[zbq l.length l (Nat.le_refl _)]at h;exact h
theorem pX(l:List UInt8)(k:Nat)(x:Nat×Nat)(h:(rl l)[k]?=some x):lz l (k+1)=lz l k+x.2:=by obtain⟨hk,rfl⟩:=List.getElem?_eq_some_iff.1 h;unfold lz;rw[List.take_succ_eq_append_getElem hk,oA,iC,zqL];rfl
theorem kq(l:List UInt8)(k:Nat)(x:Nat×Nat)(h:(rl l)[k]?=some x):(Dc.txt l)[k]?=some ((x.1:Int),lz l k,lz l (k+1)):=by rw[zhR,zoS (rl l) 0 k x h];simp[lz]
theorem rl_take(l:List UInt8)(k:Nat)(h:k<=(rl l).length):rl (l.take (lz l k))=(rl l).take k:=(pL k l h).1
theorem rl_drop(l:List UInt8)(k:Nat)(h:k<=(rl l).length):rl (l.drop (lz l k))=(rl l).drop k:=(pL k l h).2
theorem zqF(l:List UInt8):∀x∈rl l,x.1<=1114111:=by
 have H:∀(n:Nat)(l:List UInt8),l.length<=n->∀x∈rl l,x.1<=1114111:=by
  intro n
  induction n with
  |zero=>intro l h x hx;rw[sD.1 (by omega:l.length=0)]at hx;cases hx
  |succ n ih=>
   intro l h x hx;by_cases hl:l=[]
   ·subst hl;cases hx
   ·rw[bD l hl]at hx;have w1:=dec_ge l hl;rcases List.mem_cons.1 hx with rfl|hx
    ·exact dec_rune l hl
    ·exact ih (l.drop (dec l).2) (by rw[List.length_drop];have:l.length≠0:=fun e=>hl (sD.1 e);omega) x hx
 exact H l.length l (Nat.le_refl _)
end
namespace Dc
open Go.RowKit
def wdP:List UInt8:=[85,43,48,48,48,68,32,59,32,67,114,10,85,43,48,48,48,65,32,59,32,76,102,10,85,43,48,48,48,66,32,85,43,48,48,48,67,32,85,43,48,48,56,53,32,85,43,50,48,50,56,32,85,43,50,48,50,57,32,59,32,78,101,119,108,105,110,101,10,85,43,48,51,48,48,45,85,43,48,51,54,70,32,85,43,48,53,57,49,45,85,43,48,53,66,68,32,85,43,50,48,48,67,32,85,43,51,48,57,57,45,85,43,51,48,57,65,32,85,43,70,69,48,48,45,85,43,70,69,48,70,32,85,43,49,70,51,70,66,45,85,43,49,70,51,70,70,32,59,32,69,120,116,101,110,100,10,85,43,50,48,48,68,32,59,32,90,119,106,10,85,43,48,48,65,68,32,85,43,50,48,48,69,32,85,43,50,48,48,70,32,85,43,50,48,54,48,32,85,43,70,69,70,70,32,59,32,70,111,114,109,97,116,10,85,43,49,70,49,69,54,45,85,43,49,70,49,70,70,32,59,32,82,101,103,105,111,110,10,85,43,51,48,65,49,45,85,43,51,48,70,65,32,85,43,51,48,70,67,32,85,43,70,70,54,54,45,85,43,70,70,57,68,32,59,32,75,97,116,97,107,97,110,97,10,85,43,48,53,68,48,45,85,43,48,53,69,65,32,59,32,72,101,98,114,101,119,10,85,43,48,48,52,49,45,85,43,48,48,53,65,32,85,43,48,48,54,49,45,85,43,48,48,55,65,32,85,43,48,48,65,65,32,85,43,48,48,66,53,32,85,43,48,48,67,48,45,85,43,48,48,68,54,32,85,43,48,48,68,56,45,85,43,48,48,70,54,32,85,43,48,48,70,56,45,85,43,48,50,65,70,32,85,43,48,51,55,48,45,85,43,48,51,55,51,32,85,43,48,51,56,54,32,85,43,48,51,56,56,45,85,43,48,52,56,49,32,85,43,48,52,56,65,45,85,43,48,53,53,54,32,85,43,48,54,50,48,45,85,43,48,54,52,65,32,85,43,49,69,48,48,45,85,43,49,70,66,67,32,85,43,65,67,48,48,45,85,43,68,55,65,51,32,85,43,70,66,48,48,45,85,43,70,66,48,54,32,59,32,76,101,116,116,101,114,10,85,43,48,48,50,55,32,59,32,81,117,111,116,101,10,85,43,48,48,50,50,32,59,32,68,111,117,98,108,101,10,85,43,48,48,50,69,32,85,43,50,48,49,56,32,85,43,50,48,49,57,32,59,32,77,105,100,78,117,109,76,101,116,10,85,43,48,48,51,65,32,85,43,48,48,66,55,32,59,32,77,105,100,76,101,116,116,101,114,10,85,43,48,48,50,67,32,85,43,48,48,51,66,32,85,43,48,54,54,67,32,59,32,77,105,100,78,117,109,10,85,43,48,48,51,48,45,85,43,48,48,51,57,32,85,43,48,54,54,48,45,85,43,48,54,54,57,32,59,32,68,105,103,105,116,10,85,43,48,48,53,70,32,85,43,50,48,51,70,32,59,32,76,111,119,10,85,43,48,48,50,48,32,85,43,50,48,48,48,45,85,43,50,48,48,54,32,85,43,51,48,48,48,32,59,32,83,112,97,99,101,10,85,43,48,48,65,57,32,85,43,48,48,65,69,32,85,43,50,54,48,48,45,85,43,50,55,66,70,32,85,43,49,70,51,48,48,45,85,43,49,70,51,70,65,32,85,43,49,70,52,48,48,45,85,43,49,70,54,52,70,32,85,43,49,70,54,56,48,45,85,43,49,70,54,70,70,32,59,32,80,105,99,116,10]
def od:List (List UInt8):=[[79,116,104,101,114],[67,114],[76,102],[78,101,119,108,105,110,101],[69,120,116,101,110,100],[90,119,106],[70,111,114,109,97,116],[82,101,103,105,111,110],[75,97,116,97,107,97,110,97],[72,101,98,114,101,119],[76,101,116,116,101,114],[81,117,111,116,101],[68,111,117,98,108,101],[77,105,100,78,117,109,76,101,116],[77,105,100,76,101,116,116,101,114],[77,105,100,78,117,109],[68,105,103,105,116],[76,111,119],[83,112,97,99,101],[80,105,99,116]]
def wdS:List Tr:=[(10,10,2),(11,12,3),(13,13,1),(32,32,18),(34,34,12),(39,39,11),(44,44,15),(46,46,13),(48,57,16),(58,58,14),(59,59,15),(65,90,10),(95,95,17),(97,122,10),(133,133,3),(169,169,19),(170,170,10),(173,173,6),(174,174,19),(181,181,10),(183,183,14),(192,214,10),(216,246,10),(248,687,10),(768,879,4),(880,883,10),(902,902,10),(904,1153,10),(1162,1366,10),(1425,1469,4),(1488,1514,9),(1568,1610,10),(1632,1641,16),(1644,1644,15),(7680,8124,10),(8192,8198,18),(8204,8204,4),(8205,8205,5),(8206,8207,6),(8216,8217,13),(8232,8233,3),(8255,8255,17),(8288,8288,6),(9728,10175,19),(12288,12288,18),(12441,12442,4),(12449,12538,8),(12540,12540,8),(44032,55203,10),(64256,64262,10),(65024,65039,4),(65279,65279,6),(65382,65437,8),(127462,127487,7),(127744,127994,19),(127995,127999,4),(128000,128591,19),(128640,128767,19)]
def wdW:List Tr:=[(0,9,0),(10,10,2),(11,12,3),(13,13,1),(14,31,0),(32,32,18),(33,33,0),(34,34,12),(35,38,0),(39,39,11),(40,43,0),(44,44,15),(45,45,0),(46,46,13),(47,47,0),(48,57,16),(58,58,14),(59,59,15),(60,64,0),(65,90,10),(91,94,0),(95,95,17),(96,96,0),(97,122,10),(123,132,0),(133,133,3),(134,168,0),(169,169,19),(170,170,10),(171,172,0),(173,173,6),(174,174,19),(175,180,0),(181,181,10),(182,182,0),(183,183,14),(184,191,0),(192,214,10),(215,215,0),(216,246,10),(247,247,0),(248,687,10),(688,767,0),(768,879,4),(880,883,10),(884,901,0),(902,902,10),(903,903,0),(904,1153,10),(1154,1161,0),(1162,1366,10),(1367,1424,0),(1425,1469,4),(1470,1487,0),(1488,1514,9),(1515,1567,0),(1568,1610,10),(1611,1631,0),(1632,1641,16),(1642,1643,0),(1644,1644,15),(1645,7679,0),(7680,8124,10),(8125,8191,0),(8192,8198,18),(8199,8203,0),(8204,8204,4),(8205,8205,5),(8206,8207,6),(8208,8215,0),(8216,8217,13),(8218,8231,0),(8232,8233,3),(8234,8254,0),(8255,8255,17),(8256,8287,0),(8288,8288,6),(8289,9727,0),(9728,10175,19),(10176,12287,0),(12288,12288,18),(12289,12440,0),(12441,12442,4),(12443,12448,0),(12449,12538,8),(12539,12539,0),(12540,12540,8),(12541,44031,0),(44032,55203,10),(55204,64255,0),(64256,64262,10),(64263,65023,0),(65024,65039,4),(65040,65278,0),(65279,65279,6),(65280,65381,0),(65382,65437,8),(65438,127461,0),(127462,127487,7),(127488,127743,0),(127744,127994,19),(127995,127999,4),(128000,128591,19),(128592,128639,0),(128640,128767,19),(128768,1114111,0)]
set_option maxRecDepth 100000 in
theorem zse:nw wdP=((0,0),od,wdS):=by kernel_rfl
set_option maxRecDepth 100000 in
theorem zlL:whl wdS=wdW:=by kernel_rfl
theorem zfU:nT 0 wdW 1114112:=qF _ _ _ (by kernel_rfl)
theorem zfV:∀g∈wdW,g.2.2<od.length:=zhl (by kernel_rfl)
theorem zdd(r:Int):aR r=chn 0 r [(97,122,10),(65,90,10),(32,32,18),(48,57,16),(13,13,1),(10,10,2),(11,11,3),(12,12,3),(39,39,11),(34,34,12),(46,46,13),(58,58,14),(44,44,15),(59,59,15),(95,95,17)]:=by unfold aR;simp only[zcl,chn]
theorem zcZ(r:Int):bi r=chn 0 r [(170,170,10),(181,181,10),(192,214,10),(216,246,10),(248,687,10),(133,133,3),(169,169,19),(174,174,19),(173,173,6),(183,183,14)]:=by unfold bi;simp only[zcl,chn]
theorem pg(r:Int)(h:0<=r):aB r=chn 0 r [(0,879,4),(1425,1469,4),(0,883,10),(902,902,10),(904,1153,10),(1162,1366,10),(1568,1610,10),(7680,8124,10),(1488,1514,9),(1632,1641,16),(1644,1644,15)]:=by
 unfold aB;simp only[chn];by_cases c0:0<=r/\r<=879
 ·rw[if_pos (show r<=879 by omega),if_pos c0]
 rw[if_neg (show ¬(r<=879) by omega),if_neg c0];by_cases c1:1425<=r/\r<=1469
 ·rw[if_pos c1,if_pos c1]
 rw[if_neg c1,if_neg c1];by_cases c2:0<=r/\r<=883
 ·rw[if_pos (show r<=883 by omega),if_pos c2]
 rw[if_neg (show ¬(r<=883) by omega),if_neg c2];by_cases c3:902<=r/\r<=902
 ·rw[if_pos (show r=902 by omega),if_pos c3]
 rw[if_neg (show ¬(r=902) by omega),if_neg c3];by_cases c4:904<=r/\r<=1153
 ·rw[if_pos c4,if_pos c4]
 rw[if_neg c4,if_neg c4];by_cases c5:1162<=r/\r<=1366
 ·rw[if_pos c5,if_pos c5]
 rw[if_neg c5,if_neg c5];by_cases c6:1568<=r/\r<=1610
 ·rw[if_pos c6,if_pos c6]
 rw[if_neg c6,if_neg c6];by_cases c7:7680<=r/\r<=8124
 ·rw[if_pos c7,if_pos c7]
 rw[if_neg c7,if_neg c7];by_cases c8:1488<=r/\r<=1514
 ·rw[if_pos c8,if_pos c8]
 rw[if_neg c8,if_neg c8];by_cases c9:1632<=r/\r<=1641
 ·rw[if_pos c9,if_pos c9]
 rw[if_neg c9,if_neg c9];by_cases c10:1644<=r/\r<=1644
 ·rw[if_pos (show r=1644 by omega),if_pos c10]
 rw[if_neg (show ¬(r=1644) by omega),if_neg c10]
theorem zaY(r:Int)(h:0<=r):bm r=chn 0 r [(8204,8204,4),(8205,8205,5),(8206,8206,6),(8207,8207,6),(8288,8288,6),(8216,8216,13),(8217,8217,13),(8232,8232,3),(8233,8233,3),(8255,8255,17),(0,8198,18)]:=by
 unfold bm;simp only[chn];by_cases c0:8204<=r/\r<=8204
 ·rw[if_pos (show r=8204 by omega),if_pos c0]
 rw[if_neg (show ¬(r=8204) by omega),if_neg c0];by_cases c1:8205<=r/\r<=8205
 ·rw[if_pos (show r=8205 by omega),if_pos c1]
 rw[if_neg (show ¬(r=8205) by omega),if_neg c1];by_cases c2:8206<=r/\r<=8206
 ·rw[if_pos (show r=8206 by omega),if_pos c2]
 rw[if_neg (show ¬(r=8206) by omega),if_neg c2];by_cases c3:8207<=r/\r<=8207
 ·rw[if_pos (show r=8207 by omega),if_pos c3]
 rw[if_neg (show ¬(r=8207) by omega),if_neg c3];by_cases c4:8288<=r/\r<=8288
 ·rw[if_pos (show r=8288 by omega),if_pos c4]
 rw[if_neg (show ¬(r=8288) by omega),if_neg c4];by_cases c5:8216<=r/\r<=8216
 ·rw[if_pos (show r=8216 by omega),if_pos c5]
 rw[if_neg (show ¬(r=8216) by omega),if_neg c5];by_cases c6:8217<=r/\r<=8217
 ·rw[if_pos (show r=8217 by omega),if_pos c6]
 rw[if_neg (show ¬(r=8217) by omega),if_neg c6];by_cases c7:8232<=r/\r<=8232
 ·rw[if_pos (show r=8232 by omega),if_pos c7]
 rw[if_neg (show ¬(r=8232) by omega),if_neg c7];by_cases c8:8233<=r/\r<=8233
 ·rw[if_pos (show r=8233 by omega),if_pos c8]
 rw[if_neg (show ¬(r=8233) by omega),if_neg c8];by_cases c9:8255<=r/\r<=8255
 ·rw[if_pos (show r=8255 by omega),if_pos c9]
 rw[if_neg (show ¬(r=8255) by omega),if_neg c9];by_cases c10:0<=r/\r<=8198
 ·rw[if_pos (show r<=8198 by omega),if_pos c10]
 rw[if_neg (show ¬(r<=8198) by omega),if_neg c10]
theorem zdb(r:Int):bI r=chn 0 r [(9728,10175,19),(12288,12288,18),(12441,12441,4),(12442,12442,4),(12449,12538,8),(12540,12540,8)]:=by unfold bI;simp only[zcl,chn]
theorem zfR(r:Int):bp r=chn 0 r [(64256,64262,10),(65024,65039,4),(127995,127999,4),(65279,65279,6),(65382,65437,8),(127462,127487,7),(127744,127994,19),(128000,128591,19),(128640,128767,19)]:=by unfold bp;simp only[zcl,chn]
theorem zfT(r:Int)(h0:0<=r)(h1:r<=1114111):bf r=(gtp r wdW:Int):=by
 unfold bf;by_cases c0:r<128
 ·rw[if_pos c0,zdd];exact dp _ _ 0 127 r (by omega) (by omega) _ 0 (by omega) (by kernel_rfl)
 by_cases c1:r<768
 ·rw[if_neg c0,if_pos c1,zcZ];exact dp _ _ 128 767 r (by omega) (by omega) _ 0 (by omega) (by kernel_rfl)
 by_cases c2:r<8192
 ·rw[if_neg c0,if_neg c1,if_pos c2,pg r h0];exact dp _ _ 768 8191 r (by omega) (by omega) _ 0 (by omega) (by kernel_rfl)
 by_cases c3:r<8448
 ·rw[if_neg c0,if_neg c1,if_neg c2,if_pos c3,zaY r h0];exact dp _ _ 8192 8447 r (by omega) (by omega) _ 0 (by omega) (by kernel_rfl)
 by_cases c4:r<44032
 ·rw[if_neg c0,if_neg c1,if_neg c2,if_neg c3,if_pos c4,zdb];exact dp _ _ 8448 44031 r (by omega) (by omega) _ 0 (by omega) (by kernel_rfl)
 by_cases c5:r<=55203
 ·rw[if_neg c0,if_neg c1,if_neg c2,if_neg c3,if_neg c4,if_pos c5];exact(show(10:Int)=chn 10 r []from rfl).trans (dp _ _ 44032 55203 r (by omega) (by omega) _ 0 (by omega) (by kernel_rfl))
 rw[if_neg c0,if_neg c1,if_neg c2,if_neg c3,if_neg c4,if_neg c5,zfR];exact dp _ _ 55204 1114111 r (by omega) (by omega) _ 0 (by omega) (by kernel_rfl)
end Dc
end Go.Proofs.YtbbapnpdfcgjnaaGreatDoor
