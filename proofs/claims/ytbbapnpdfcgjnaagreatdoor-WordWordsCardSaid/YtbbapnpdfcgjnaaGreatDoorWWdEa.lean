/- WdEa, WdMov, WdAro: parts of the proof, joined. -/
import Derived.Test.YtbbapnpdfcgjnaaGreatDoorWWdEdge
import Derived.Test.YtbbapnpdfcgjnaaGreatDoorWRngO
open Go.RowKit.Below renaming refl->sD
open Nat renaming le_refl->sE, eq_zero_or_pos->sH, le_of_lt->sI, zero_add->sM
open List renaming getElem?_cons_succ->sG, length_drop->sJ
open Array renaming getElem?_eq_some_iff->sK
open Go renaming World->sP, Calls->sQ
set_option maxHeartbeats 64000000
namespace Go.Proofs.YtbbapnpdfcgjnaaGreatDoor
namespace Wd
open Go.RowKit Go.Shelf Wt
open Sg (Pl zoU)
attribute [local go_sem] Oper.semAt_some
def wpG(s:List UInt8)(k:Nat):List (Nat×Nat):=Sg.byt s (Sg.pcF (wC s) (rl s).length k)
theorem pc(s:List UInt8)(k:Nat)(h:k<(rl s).length):wpG s k=(pos s k,pos s (Sg.nx (wC s) (rl s).length k))::wpG s (Sg.nx (wC s) (rl s).length k):=by unfold wpG;rw[Sg.iD h];rfl
theorem zaV(s:List UInt8)(k:Nat)(h:(rl s).length<=k):wpG s k=[]:=by unfold wpG;rw[Sg.lA h];rfl
theorem zql{p e:Nat}{P:List (Nat×Nat)}(h:Br.jH p e P):∀(k:Nat)(x:Nat×Nat),P[k]?=some x->(Br.kf p P)[k]?=some x.1/\(Br.kf p P)[k+1]?=some x.2:=by
 induction h with
 |nil=>intro k x hx;simp at hx
 | @cons p t e P k1 k2 ih=>
  intro k x hx;rw[Br.bW];cases k with
  |zero=>simp only[List.getElem?_cons_zero,Option.some.injEq]at hx;subst hx;exact⟨rfl,rfl⟩
  |succ k=>rw[sG]at hx;have:=ih k x hx;exact⟨by rw[sG];exact this.1,by rw[sG];exact this.2⟩
theorem zkm{p e:Nat}{P:List (Nat×Nat)}(h:Br.jH p e P):(Br.kf p P)[P.length]?=some e:=by
 induction h with
 |nil=>rfl
 |cons h1 _ ih=>rw[Br.bW,List.length_cons,sG];exact ih
theorem rM(l:List UInt8):∃L:List (Pl l),L.map Pl.v=jD l/\(∀k x,L[k]?=some x->(gD l)[k]?=some x.v.1/\(gD l)[k+1]?=some x.v.2/\x.v.1<x.v.2)∧
  (gD l).length-1=L.length/\(gD l).getD 0 0=0/\(gD l).getD L.length 0=l.length:=by
 obtain⟨L,hL⟩:=Sg.zgA l _ _ (bP l);have hlen:L.length=(jD l).length:=by rw[<-hL,List.length_map]
 by_cases hne:l=[]
 ·have h0:jD l=[]:=by
   have h:=bP l;rw[show l.length=0 by rw[hne];rfl]at h;cases hw:jD l with
   |nil=>rfl
   |cons x P=>rw[hw]at h;obtain⟨f,t⟩:=x;have:=h.mem (List.mem_cons_self ..);omega
  rw[h0]at hlen;have e:gD l=[]:=if_pos hne;rw[e];refine⟨L,hL,fun k x hx=>?_,hlen.symm,rfl,by rw[hlen,hne];rfl⟩;have:=(List.getElem?_eq_some_iff.1 hx).1;rw[hlen]at this;simp at this
 ·have e:gD l=gF l:=if_neg hne;rw[e];refine⟨L,hL,fun k x hx=>?_,by unfold gF Br.kf;simp;exact hlen.symm,rfl,?_⟩
  ·have hm:(jD l)[k]?=some x.v:=by rw[<-hL,List.getElem?_map,hx];rfl
   obtain⟨h1,h2⟩:=zql (bP l) k x.v hm;exact⟨h1,h2,((bP l).mem (List.mem_of_getElem? hm)).2.1⟩
  ·rw[List.getD_eq_getElem?_getD,hlen];have:=zkm (bP l);unfold gF;rw[this];rfl
end Wd
namespace Wd
open Go.RowKit Wt
def zbG(s:List UInt8)(p:Nat):Nat->Nat->Nat
 |0,_=>s.length
 |f+1,t=>if t<(s.drop p).length then (if 0<t/\fD s (p+t)=true then p+t else zbG s p f (t+(dec ((s.drop p).drop t)).2))else s.length
theorem lD(s:List UInt8)(p:Nat):∀(f g t:Nat),(s.drop p).length-t<=f->(s.drop p).length-t<=g->zbG s p f t=zbG s p g t
 |0,0,t,_,_=>rfl
 |0,g+1,t,hf,hg=>by unfold zbG;rw[if_neg (by omega)]
 |f+1,0,t,hf,hg=>by unfold zbG;rw[if_neg (by omega)]
 |f+1,g+1,t,hf,hg=>by
  unfold zbG;by_cases h:t<(s.drop p).length
  ·have h1:=dec_ge ((s.drop p).drop t) (aY _ t h);rw[if_pos h,if_pos h,lD s p f g (t+(dec ((s.drop p).drop t)).2) (by omega) (by omega)]
  ·rw[if_neg h,if_neg h]
def rD(s:List UInt8)(p t:Nat):Nat:=zbG s p ((s.drop p).length-t) t
theorem zew(s:List UInt8)(p t:Nat)(h:¬t<(s.drop p).length):rD s p t=s.length:=by unfold rD;rw[show(s.drop p).length-t=0 by omega];rfl
theorem zao(s:List UInt8)(p t:Nat)(h:t<(s.drop p).length)(h0:0<t)(hc:fD s (p+t)=true):rD s p t=p+t:=by unfold rD;rw[lD s p _ ((s.drop p).length-t-1+1) t (by omega) (by omega)];unfold zbG;rw[if_pos h,if_pos ⟨h0,hc⟩]
theorem jq(s:List UInt8)(p t:Nat)(h:t<(s.drop p).length)(hc:¬(0<t/\fD s (p+t)=true)):rD s p t=rD s p (t+(dec ((s.drop p).drop t)).2):=by
 have h1:=dec_ge ((s.drop p).drop t) (aY _ t h);unfold rD;rw[lD s p _ ((s.drop p).length-t-1+1) t (by omega) (by omega)]
 conv=>lhs;unfold zbG
 rw[if_pos h,if_neg hc];exact lD s p _ _ _ (by omega) (by omega)
def wsx(s:List UInt8)(p:Nat):Nat:=rD s p 0
theorem ziy(s:List UInt8)(i:Nat):∀(d j:Nat),(rl s).length-j<=d->i<j->j<=(rl s).length->rD s (pos s i) (pos s j-pos s i)=pos s (Sg.up (wC s) ((rl s).length-j) j)
 |d,j,hd,hij,hj=>by
  have hm:=cz s (j-i) i (by omega);rw[show i+(j-i)=j by omega]at hm;have hpp:pos s i+(pos s j-pos s i)=pos s j:=by omega
  by_cases hlt:j<(rl s).length
  ·cases d with
   |zero=>omega
   |succ d=>
    have hl:=cU s j hlt;have hin:pos s j-pos s i<(s.drop (pos s i)).length:=by rw[sJ];omega
    obtain⟨f,hf⟩:∃f,(rl s).length-j=f+1:=⟨(rl s).length-(j+1),by omega⟩;rw[hf];unfold Sg.up;cases hc:wC s j with
    |true=>rw[if_pos rfl,zao s _ _ hin (by omega) (by rw[hpp];exact hc),hpp]
    |false=>have hs:=cM s j hlt;have hs2:=dJ s j hlt;rw[if_neg (by simp),jq s _ _ hin (fun h=>by rw[hpp]at h;have h2:wC s j=true:=h.2;rw[hc]at h2;cases h2),List.drop_drop,hpp,show pos s j-pos s i+(dec (s.drop (pos s j))).2=pos s (j+1)-pos s i by omega,ziy s i d (j+1) (by omega) (by omega) hlt,show(rl s).length-(j+1)=f by omega]
  ·obtain rfl:j=(rl s).length:=by omega
   rw[Nat.sub_self];unfold Sg.up;rw[bY s _ (sE _)]at*;exact zew s _ _ (by rw[sJ];omega)
theorem zsU(s:List UInt8)(i:Nat)(hi:i<(rl s).length):wsx s (pos s i)=pos s (Sg.nx (wC s) (rl s).length i):=by have hl:=cU s i hi;have hs:=cM s i hi;have hs2:=dJ s i hi;unfold wsx Sg.nx;rw[jq s _ 0 (by rw[sJ];omega) (fun h=>by omega),List.drop_zero,sM,show(dec (s.drop (pos s i))).2=pos s (i+1)-pos s i by omega];exact ziy s i _ (i+1) (sE _) (by omega) hi
theorem ly(s:List UInt8)(z:Nat):∀k,k<=(rl s).length->z<pos s k->∃i,i<k/\pos s i<=z/\z<pos s (i+1)
 |0,_,h=>by rw[pW]at h;omega
 |k+1,hk,h=>by
  by_cases h2:z<pos s k
  ·obtain⟨i,h3,h4⟩:=ly s z k (by omega) h2;exact⟨i,by omega,h4⟩
  ·exact⟨k,by omega,by omega,h⟩
theorem zsR(s:List UInt8)(i z:Nat)(hi:i<(rl s).length)(h1:pos s i<=z)(h2:z<pos s (i+1)):nR s z 4=pos s i:=by obtain⟨P,hP⟩:=zbQ s i (sI hi);have hl:=cU s i hi;have hs:=cM s i hi;have hle:=dZ s (i+1) hi;rw[gN s _ hl]at hP;exact qO s z (pos s i) P (by omega) h1 (by unfold dY;omega) hP
theorem zjC(s:List UInt8)(i z:Nat)(hi:i<(rl s).length)(h1:pos s i<z)(h2:z<=pos s (i+1)):ft s (z:Int)=(pos s i:Nat):=by have hle:=dZ s (i+1) hi;unfold ft;rw[if_neg (by omega),if_neg (by omega),Int.toNat_natCast,zsR s i (z-1) hi (by omega) (by omega)]
theorem zuT(s:List UInt8)(i z:Nat)(hi:i<(rl s).length)(h1:pos s i<=z)(h2:z<pos s (i+1))(h0:0<z):isE s (z:Int)=(pos s i==z):=by have hle:=dZ s (i+1) hi;unfold isE;rw[if_neg (by omega),if_neg (by omega),Int.toNat_natCast,zsR s i z hi h1 h2]
theorem pb(s:List UInt8)(i:Nat)(hi:i<(rl s).length):(pos s (Sg.dn (wC s) i),pos s (Sg.nx (wC s) (rl s).length i))∈jD s:=by have h:=Sg.znu (C:=wC s) _ 0 i (sE _) (Nat.zero_le _) hi (.inl rfl);exact List.mem_map.2 ⟨_,h,rfl⟩
theorem dN(s:List UInt8){i j:Nat}(h:i<=j)(hj:j<=(rl s).length):pos s i<=pos s j:=by have:=cz s (j-i) i (by omega);rw[show i+(j-i)=j by omega]at this;omega
theorem zqd(s:List UInt8)(z p:Nat)(w:sP)(ht:na w)(hl:s.length<=1000000000)(hz:z<s.length)(hpz:p<=z)(hbk:ft s ((z+1:Nat):Int)=(p:Nat)):
  sQ Tryz.prog 18 #[.string ⟨s.toArray⟩,.int .i64 z] w fun e w'=>e=.returned (.int .i64 (wsx s p))/\Below w.heap.size w w':=by
 have HT:=aa ht;have HBK:ae (ft s ((z:Int)+1)=(p:Nat)):=aa (by rw[<-hbk,Int.natCast_add];rfl);have hp:p<s.length:=by omega
 obtain⟨l,hll⟩:=aj (s.drop p);have hdl:l.length=s.length-p:=by rw[hll];exact sJ
 have HLL:=aa hll;have HSZ:ae ((⟨l.toArray⟩:ByteArray).size=l.length):=aa (by show l.toArray.size=_;simp);clear ht hll hbk hpz;go_enter Tryz.func18,Tryz.ntmps18;go_wp2_with fail;refine(iX s _ w (by omega) HT.o.tabs HT.o.two).mono ?_;rintro e w0 ⟨rfl,be⟩;rw[HBK.o];have HB0:=aa (be.trans ((sD w.heap.size w0).alloc be.size (.stringIter ⟨l.toArray⟩ 0)));have HIT0:=aa (sP.iter_heap w0 ⟨l.toArray⟩ 0);have hw0:=be.size;clear be;go_wp2;rw[ext_drop,<-HLL.o];obtain⟨it,hit⟩:=aj w0.heap.size;rw[<-hit]at HIT0 hw0⊢;have HW0:=aa hw0;clear hit;go_loopw [6] (fun _ wr=>∃t:Nat,ae (wsx s p=rD s p t)/\ae (wr.heap[it]?=some (.stringIter ⟨l.toArray⟩ t))/\ae (Below w.heap.size w wr)) (fun _ wr=>l.length-wr.iterPos it)
 case atStart=>exact⟨0,rfl,HIT0,HB0⟩
 case round=>
  obtain⟨t,HP,HI,HB⟩:=hrel;have hin:it<wr.heap.size:=(sK.1 HI.o).1;by_cases hlt:t<l.length
  ·have hnx:=fL (P:=Tryz.prog) wr it ⟨l.toArray⟩ t 0 HI.o (by rw[HSZ.o];exact hlt);rw[ca l t hlt]at hnx;have d1:=dec_ge _ (aY l t hlt);obtain⟨nn,hnn⟩:=aj ((dec (l.drop t)).2);obtain⟨rr,hrr⟩:=aj ((dec (l.drop t)).1);rw[<-hnn]at hnx d1;rw[<-hrr]at hnx;have HNN:=aa hnn;obtain⟨w1,hw1⟩:=aj (wr.putObj it (.stringIter ⟨l.toArray⟩ (t+nn)));rw[<-hw1]at hnx;have HI1:ae (w1.heap[it]?=some (.stringIter ⟨l.toArray⟩ (t+nn))):=aa (by rw[hw1];exact sP.putObj_heap_same hin);have HB1:ae (Below w.heap.size w w1):=aa (by rw[hw1];exact HB.o.trans ⟨rfl,rfl,rfl,by simp[sP.putObj],fun j hj=>sP.putObj_heap_other (by have:=HW0.o;omega)⟩);have HM:ae (l.length-wr.iterPos it=l.length-t):=aa (by unfold sP.iterPos;rw[HI.o]);have hin1:it<w1.heap.size:=(sK.1 HI1.o).1;have hlt':t<(s.drop p).length:=by rw[<-HLL.o];exact hlt
   have HLT:=aa hlt';clear hnn hrr hw1 HI HB hlt';by_cases h0:0<t
   ·have h0i:(0:Int)<(t:Int):=by omega
    have hpt:p+t<=s.length:=by omega
    go_wp2_with fail;refine(kS s (p+t) w1 (HT.o.below HB1.o) hl hpt).mono ?_;rintro e w2 ⟨rfl,be⟩;have HB2:=aa (HB1.o.trans (be.mono HB1.o.size));have HI2:ae (w2.heap[it]?=some (.stringIter ⟨l.toArray⟩ (t+nn))):=aa ((be.block _ hin1).trans HI1.o);obtain⟨v,hv⟩:=aj (fD s (p+t));have HV:=aa hv;rw[<-hv];clear be hv HB1 HI1 hnx;cases v with
    |true=>have HE:=aa (HP.o.trans (zao s p t HLT.o h0 HV.o.symm));go_wp2;go_ret;exact⟨by rw[HE.o];simp,HB2.o⟩
    |false=>
     have HE:=aa (HP.o.trans (jq s p t HLT.o (fun h=>by rw[<-HV.o]at h;cases h.2)));go_wp2;go_roundw
     case rel=>exact⟨t+nn,(by show _=_;rw[HE.o,HNN.o,HLL.o]),HI2,HB2⟩
     case measure=>rw[HM.o];unfold sP.iterPos;rw[HI2.o];simp only[];omega
   ·have h00:t=0:=by omega
    have HE:=aa (HP.o.trans (jq s p t HLT.o (fun h=>h0 h.1)));have HT0:=aa h00;have h0i:¬(0:Int)<(t:Int):=by omega
    clear h00;go_wp2;go_roundw
    case rel=>exact⟨t+nn,(by show _=_;rw[HE.o,HNN.o,HLL.o]),HI1,HB1⟩
    case measure=>rw[HM.o];unfold sP.iterPos;rw[HI1.o];simp only[];omega
  ·have hnx:=dG (P:=Tryz.prog) wr it ⟨l.toArray⟩ t 0 HI.o (by rw[HSZ.o];exact hlt);have HE:=aa (HP.o.trans (zew s p t (by rw[<-HLL.o];exact hlt)));go_wp2;go_ret;exact⟨by rw[HE.o];rfl,HB.o⟩
theorem zhL(s:List UInt8)(z:Int)(w:sP)(ht:na w)(hl:s.length<=1000000000):
  sQ Tryz.prog 18 #[.string ⟨s.toArray⟩,.int .i64 z] w fun e w'=>e=.returned (.int .i64 (Br.abv z s.length (gF s):Nat))/\Below w.heap.size w w':=by
 by_cases h0:z<0
 ·have HN:ae (Br.abv z s.length (gF s)=0):=aa (Br.zrU (by omega) _);rw[HN.o];clear HN ht;go_enter Tryz.func18,Tryz.ntmps18;go_wp2;go_ret;exact⟨rfl,sD _ _⟩
 by_cases h1:(s.length:Int)<=z
 ·have HN:ae (Br.abv z s.length (gF s)=s.length):=aa ((bP s).abv_high h1 _);rw[HN.o];clear HN ht;go_enter Tryz.func18,Tryz.ntmps18;go_wp2;go_ret;exact⟨rfl,sD _ _⟩
 obtain⟨p,rfl⟩:∃p:Nat,z=p:=⟨z.toNat,by omega⟩;obtain⟨i,hi,h2,h3⟩:=ly s p (rl s).length (sE _) (by rw[bY s _ (sE _)];omega);have h4:=dN s (Sg.fj (wC s) i) (sI hi);have h5:=dN s (i:=i+1) (Sg.dS (wC s) (rl s).length i) (Sg.eu hi);have e:Br.abv (p:Int) s.length (gF s)=pos s (Sg.nx (wC s) (rl s).length i):=(bP s).abv_in (pb s i hi) (by omega) (by omega) _;rw[e,<-zsU s i hi];exact zqd s p (pos s i) w ht hl (by omega) h2 (zjC s i (p+1) hi (by omega) (by omega))
theorem zqc(s:List UInt8)(z i:Nat)(w:sP)(ht:na w)(hl:s.length<=1000000000)(hz:z<=s.length)(hi:i<(rl s).length)(h1:pos s i<z)(h2:z<=pos s (i+1)):
  sQ Tryz.prog 20 #[.string ⟨s.toArray⟩,.int .i64 z] w fun e w'=>e=.returned (.int .i64 (pos s (Sg.dn (wC s) i):Nat))/\Below w.heap.size w w':=by
 have HT:=aa ht;have HB:=aa (zjC s i z hi h1 h2);have H1:=aa h1;have hzi:¬(s.length:Int)<(z:Int):=by omega
 clear ht h1 h2;go_enter Tryz.func20,Tryz.ntmps20;go_wp2;go_loopw [1] (fun fr wr=>∃(p j:Nat),fr=.int .i64 p/\ae (j<(rl s).length)/\ae (ft s (p:Int)=(pos s j:Nat))/\ae (Sg.dn (wC s) i=Sg.dn (wC s) j)/\ae (pos s j<p)/\ae (Below w.heap.size w wr)) (fun fr _=>(intOf fr).toNat)
 case atStart=>exact⟨z,i,rfl,hi,HB,rfl,H1,sD _ _⟩
 case round=>
  obtain⟨p,j,rfl,HJ,HBK,HD,HLT,HBl⟩:=hrel;go_wp2_with fail;refine(iX s (p:Int) wr (by omega) (HT.o.below HBl.o).tabs (HT.o.below HBl.o).two).mono ?_;rintro e w1 ⟨rfl,be⟩;rw[HBK.o];have HB1:=aa (HBl.o.trans (be.mono HBl.o.size));have hpl:=cU s j HJ.o;have HC:ae (wC s j=fD s (pos s j)):=aa rfl;obtain⟨q,hq⟩:=aj (pos s j);have HQ:=aa hq;have hlt:=HLT.o;rw[<-hq]at hlt hpl HC;rw[<-hq];clear be hq HBl HLT;by_cases h0:q=0
  ·subst h0;have HE:=aa (show pos s (Sg.dn (wC s) i)=0 by
    have hj0:j=0:=by
     rcases sH j with h|h
     ·exact h
     ·have h1:=cz s j 0 (by have:=HJ.o;omega);have h2:=HQ.o;rw[sM]at h1;omega
    rw[HD.o,hj0];rfl)
   go_wp2;go_ret;exact⟨by rw[HE.o];rfl,HB1.o⟩
  ·have h0i:¬(q:Int)=0:=by omega
   have b0:((q:Int)==0)=false:=beq_eq_false_iff_ne.2 h0i;go_wp2_with fail;refine(kS s q w1 (HT.o.below HB1.o) hl (by omega)).mono ?_;rintro e w2 ⟨rfl,be⟩;have HB2:=aa (HB1.o.trans (be.mono HB1.o.size));obtain⟨v,hv⟩:=aj (fD s q);rw[<-hv]at HC;rw[<-hv];clear be hv HB1;obtain⟨j',hj'⟩:∃j',j=j'+1:=⟨j-1,by
    rcases sH j with h|h
    ·exfalso;have h2:=HQ.o;rw[h,pW]at h2;omega
    ·omega⟩
   subst hj';cases v with
   |true=>have HE:=aa (show pos s (Sg.dn (wC s) i)=q by rw[HD.o];unfold Sg.dn;rw[if_pos HC.o,<-HQ.o]);go_wp2;go_ret;exact⟨by rw[HE.o];rfl,HB2.o⟩
   |false=>
    have HD2:=aa (show Sg.dn (wC s) i=Sg.dn (wC s) j' by
     rw[HD.o]
     conv=>lhs;unfold Sg.dn
     rw[if_neg (by rw[HC.o];simp)])
    have HBK2:ae (ft s (q:Int)=(pos s j':Nat)):=aa (by rw[HQ.o];exact qR s j' (by have:=HJ.o;omega));have HLT2:ae (pos s j'<q):=aa (by rw[HQ.o];exact dJ s j' (by have:=HJ.o;omega));have HJ2:ae (j'<(rl s).length):=aa (by have:=HJ.o;omega);go_wp2;go_roundw
    case rel=>exact⟨q,j',rfl,HJ2,HBK2,HD2,HLT2,HB2⟩
    case measure=>simp[intOf];omega
theorem rN(s:List UInt8)(z:Int)(w:sP)(ht:na w)(hl:s.length<=1000000000):
  sQ Tryz.prog 20 #[.string ⟨s.toArray⟩,.int .i64 z] w fun e w'=>e=.returned (.int .i64 (Br.q7 z 0 (gF s):Nat))/\Below w.heap.size w w':=by
 by_cases h1:(s.length:Int)<z
 ·have HN:ae (Br.q7 z 0 (gF s)=s.length):=aa ((bP s).blw_high h1 _);rw[HN.o];clear HN ht;go_enter Tryz.func20,Tryz.ntmps20;go_wp2;go_ret;exact⟨rfl,sD _ _⟩
 by_cases h0:z<=0
 ·have HN:ae (Br.q7 z 0 (gF s)=0):=aa ((bP s).blw_low (by omega) _);have HT:=aa ht;rw[HN.o];have HBK:ae (ft s z=0):=aa (by unfold ft;rw[if_pos (by omega)]);clear HN ht;go_enter Tryz.func20,Tryz.ntmps20;go_wp2;go_loopw [1] (fun fr wr=>fr=.int .i64 z/\wr=w) (fun _ _=>0)
  case atStart=>exact⟨rfl,rfl⟩
  case round=>obtain⟨rfl,rfl⟩:=hrel;go_wp2_with fail;refine(iX s z wr (by omega) HT.o.tabs HT.o.two).mono ?_;rintro e w1 ⟨rfl,be⟩;rw[HBK.o];have HB1:=aa be;clear be;go_wp2;go_ret;exact⟨rfl,HB1.o⟩
 obtain⟨p,rfl⟩:∃p:Nat,z=p:=⟨z.toNat,by omega⟩;obtain⟨i,hi,h2,h3⟩:=ly s (p-1) (rl s).length (sE _) (by rw[bY s _ (sE _)];omega);have h4:=dN s (Sg.fj (wC s) i) (sI hi);have h5:=dN s (i:=i+1) (Sg.dS (wC s) (rl s).length i) (Sg.eu hi);have e:Br.q7 (p:Int) 0 (gF s)=pos s (Sg.dn (wC s) i):=(bP s).blw_in (pb s i hi) (by omega) (by omega) _;rw[e];exact zqc s p i w ht hl (by omega) hi (by omega) (by omega)
theorem zcX(s:List UInt8)(z:Int)(w:sP)(ht:na w)(hl:s.length<=1000000000):
  sQ Tryz.prog 16 #[.string ⟨s.toArray⟩,.int .i64 z] w fun e w'=>e=.returned (.bool (!s.isEmpty&&(gF s).any fun x=>(x:Int)==z))/\Below w.heap.size w w':=by
 have HT:=aa ht;clear ht;by_cases hne:s=[]
 ·subst hne;clear HT;by_cases h0:z<=0
  ·go_enter Tryz.func16,Tryz.ntmps16;go_wp2;go_ret;exact⟨rfl,sD _ _⟩
  ·have h1:(0:Int)<=z:=by omega
   go_enter Tryz.func16,Tryz.ntmps16;go_wp2;go_ret;exact⟨rfl,sD _ _⟩
 have he:s.isEmpty=false:=by simpa using hne
 have h9:0<s.length:=List.length_pos_iff.2 hne;rw[he,Bool.not_false,Bool.true_and];have HNE:=aa hne;clear hne;by_cases h0:z<0
 ·have HN:ae (((gF s).any fun x=>(x:Int)==z)=false):=aa (by unfold gF;rw[(bP s).is_out (.inl (by omega))];simp;omega);rw[HN.o];have e0:(z==0)=false:=by simp;omega
  have e1:(z==(s.length:Int))=false:=by simp;omega
  have hz0:z<=0:=by omega
  clear HN HT;go_enter Tryz.func16,Tryz.ntmps16;go_wp2;go_ret;exact⟨rfl,sD _ _⟩
 by_cases h1:(s.length:Int)<=z
 ·have HN:ae (((gF s).any fun x=>(x:Int)==z)=decide ((s.length:Int)=z)):=aa ((bP s).is_out (.inr h1));rw[HN.o];have e0:(z==0)=false:=by simp;omega
  have hz0:¬z<=0:=by omega
  clear HN HT h0;by_cases hz:z=(s.length:Int)
  ·subst hz;go_enter Tryz.func16,Tryz.ntmps16;go_wp2;go_ret;exact⟨by simp,sD _ _⟩
  ·have e1:(z==(s.length:Int))=false:=by simpa using hz
   have e2:decide ((s.length:Int)=z)=false:=decide_eq_false (fun h=>hz h.symm);rw[e2];clear e2;go_enter Tryz.func16,Tryz.ntmps16;go_wp2;go_ret;exact⟨rfl,sD _ _⟩
 obtain⟨p,rfl⟩:∃p:Nat,z=p:=⟨z.toNat,by omega⟩;obtain⟨i,hi,h2,h3⟩:=ly s p (rl s).length (sE _) (by rw[bY s _ (sE _)];omega);have h4:=dN s (Sg.fj (wC s) i) (sI hi);have h5:=dN s (i:=i+1) (Sg.dS (wC s) (rl s).length i) (Sg.eu hi);have HN:ae (((gF s).any fun x=>(x:Int)==(p:Int))=decide ((pos s (Sg.dn (wC s) i):Int)=p)):=aa ((bP s).is_in (pb s i hi) (by omega) (by omega));rw[HN.o];clear HN h4 h5;by_cases hp0:p=0
 ·subst hp0;have HE:=aa (show decide ((pos s (Sg.dn (wC s) i):Int)=((0:Nat):Int))=true by
   have hi0:i=0:=by
    rcases sH i with h|h
    ·exact h
    ·have h6:=cz s i 0 (by omega);rw[sM]at h6;omega
   rw[hi0];rfl)
  rw[HE.o];clear HE HT h2 h3 h0 h1;go_enter Tryz.func16,Tryz.ntmps16;go_wp2;go_ret;exact⟨rfl,sD _ _⟩
 have hz0:¬(p:Int)<=0:=by omega
 have HI:=aa (zuT s i p hi h2 h3 (by omega));clear h0;by_cases hpe:pos s i=p
 ·have HE:=aa (show fD s p=decide ((pos s (Sg.dn (wC s) i):Int)=p) by
   obtain⟨i',rfl⟩:∃i',i=i'+1:=⟨i-1,by
    rcases sH i with h|h
    ·rw[h,pW]at hpe;omega
    ·omega⟩
   unfold Sg.dn;cases hc:wC s (i'+1)with
   |true=>rw[if_pos rfl,hpe,decide_eq_true rfl,<-hpe];exact hc
   |false=>have h6:=dN s (Sg.fj (wC s) i') (by omega);have h7:=dJ s i' (by omega);rw[if_neg (by simp),decide_eq_false (by omega),<-hpe];exact hc)
  have HI2:ae (isE s (p:Int)=true):=aa (by rw[HI.o,hpe];simp);rw[<-HE.o];clear HI HE h2 h3 hpe;go_enter Tryz.func16,Tryz.ntmps16;go_wp2_with fail;refine(znZ s (p:Int) w (by omega) HT.o.tabs HT.o.two).mono ?_;rintro e w1 ⟨rfl,be⟩;rw[HI2.o];have HB1:=aa be;clear be;go_wp2_with fail;refine(kS s p w1 (HT.o.below HB1.o) hl (by omega)).mono ?_;rintro e w2 ⟨rfl,be⟩;have HB2:=aa (HB1.o.trans (be.mono HB1.o.size));obtain⟨v,hv⟩:=aj (fD s p);have HVV:=aa hv;rw[<-hv];clear be hv;cases v<;>(go_wp2;go_ret;exact⟨by rw[<-HVV.o];rfl,HB2.o⟩)
 ·have HE:ae (decide ((pos s (Sg.dn (wC s) i):Int)=p)=false):=aa (decide_eq_false (by have h6:=dN s (Sg.fj (wC s) i) (sI hi);omega));have HI2:ae (isE s (p:Int)=false):=aa (by rw[HI.o];simpa using hpe);rw[HE.o];clear HI HE h2 h3 hpe;go_enter Tryz.func16,Tryz.ntmps16;go_wp2_with fail;refine(znZ s (p:Int) w (by omega) HT.o.tabs HT.o.two).mono ?_;rintro e w1 ⟨rfl,be⟩;rw[HI2.o];have HB1:=aa be;clear be;go_wp2;go_ret;exact⟨rfl,HB1.o⟩
end Wd
namespace Wd
open Go.RowKit Wt
theorem zdz(s:List UInt8)(z:Int)(w:sP)(ht:na w)(hl:s.length<=1000000000):
  sQ Tryz.prog 14 #[.string ⟨s.toArray⟩,.int .i64 z] w fun e w'=>e=.returned (.tuple #[.int .i64 ((Br.arn z (gF s)).1:Nat),.int .i64 ((Br.arn z (gF s)).2:Nat)])/\Below w.heap.size w w':=by
 by_cases h0:z<0
 ·rw[show Br.arn z (gF s)=(0,0)from(bP s).arn_out (.inl (by omega))];clear ht;go_enter Tryz.func14,Tryz.ntmps14;go_wp2;go_ret2;exact⟨rfl,sD _ _⟩
 by_cases h1:(s.length:Int)<=z
 ·rw[show Br.arn z (gF s)=(0,0)from(bP s).arn_out (.inr h1)];clear ht;go_enter Tryz.func14,Tryz.ntmps14;go_wp2;go_ret2;exact⟨rfl,sD _ _⟩
 obtain⟨p,rfl⟩:∃p:Nat,z=p:=⟨z.toNat,by omega⟩;obtain⟨i,hi,h2,h3⟩:=ly s p (rl s).length (sE _) (by rw[bY s _ (sE _)];omega);have h4:=dN s (Sg.fj (wC s) i) (sI hi);have h5:=dN s (i:=i+1) (Sg.dS (wC s) (rl s).length i) (Sg.eu hi);have hm:=pb s i hi;have HP:=aa (fun(W:sP)(h:na W)=>rN s ((p:Int)+1) W h hl);have HX:=aa (fun(W:sP)(h:na W)=>zhL s (p:Int) W h hl);rw[show Br.q7 ((p:Int)+1) 0 (gF s)=pos s (Sg.dn (wC s) i)from(bP s).blw_in hm (by omega) (by omega) _]at HP;rw[show Br.abv (p:Int) s.length (gF s)=pos s (Sg.nx (wC s) (rl s).length i)from(bP s).abv_in hm (by omega) (by omega) _]at HX;rw[show Br.arn (p:Int) (gF s)=(pos s (Sg.dn (wC s) i),pos s (Sg.nx (wC s) (rl s).length i))from(bP s).arn_in hm (by omega) (by omega)];obtain⟨f,hf⟩:=aj (pos s (Sg.dn (wC s) i));obtain⟨t,htt⟩:=aj (pos s (Sg.nx (wC s) (rl s).length i));rw[<-hf]at HP⊢;rw[<-htt]at HX⊢;have HT:=aa ht;have wz:IntKind.i64.wrap ((p:Int)+1)=(p:Int)+1:=by unfold IntKind.wrap IntKind.bits IntKind.signed;simp;omega
 clear ht hm h4 h5 h2 h3 hf htt;go_enter Tryz.func14,Tryz.ntmps14;go_wp2_with fail;refine(HP.o w HT.o).mono ?_;rintro e w1 ⟨rfl,be⟩;have HB1:=aa be;clear be;go_wp2_with fail;refine(HX.o w1 (HT.o.below HB1.o)).mono ?_;rintro e w2 ⟨rfl,be⟩;have HB2:=aa (HB1.o.trans (be.mono HB1.o.size));clear be;go_wp2;go_ret2;exact⟨rfl,HB2.o⟩
end Wd
end Go.Proofs.YtbbapnpdfcgjnaaGreatDoor
