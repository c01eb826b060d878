/- DcB: parts of the proof, joined. -/
import Derived.ChangeSlices
import Derived.Laws.AppendOwnNone
import Derived.Lib.ValidLaws
import Derived.Shelf.Unicode.DecodeAny
import Derived.Test.YtbbapnpdfcgjnaaGreatDoorWDcA
open List renaming drop_eq_getElem_cons->sD, drop_of_length_le->sH, takeWhile_prefix->sJ, takeWhile_cons->sL, length_append->sN, length_cons->sP
open Option.some renaming injEq->sE
open Go.Utf8 renaming decode->sG
open ByteArray renaming data_extract->sI, ext->sT
open Nat renaming le_refl->sK, le_trans->sU
open Go.Lib renaming width_pos->sM, decodeGo->sO
set_option maxHeartbeats 64000000
namespace Go.Proofs.YtbbapnpdfcgjnaaGreatDoor
namespace Dc
open Go.RowKit
theorem zit(l:List Rg):∀(j:Nat)(u:Value),(aH l)[j]?=some u->∃k g,l[k]?=some g/\((j=k*2/\u=.int .i32 g.1)\/(j=k*2+1/\u=.int .i32 g.2)):=by
 induction l with
 |nil=>intro j u h;cases h
 |cons x l ih=>
  intro j u h;have e:aH (x::l)=.int .i32 x.1:: .int .i32 x.2::aH l:=rfl;rw[e]at h
  match j,h with
  |0,h=>cases h;exact⟨0,x,rfl,.inl ⟨rfl,rfl⟩⟩
  |1,h=>cases h;exact⟨0,x,rfl,.inr ⟨rfl,rfl⟩⟩
  |j+2,h=>
   obtain⟨k,g,hk,hj⟩:=ih j u h;refine⟨k+1,g,hk,?_⟩;rcases hj with ⟨h1,h2⟩|⟨h1,h2⟩
   ·exact .inl ⟨by omega,h2⟩
   ·exact .inr ⟨by omega,h2⟩
theorem zni(l:List Rg):∀u∈aH l,u.oneCell'=true:=fun u hu=>by obtain⟨j,hj⟩:=List.getElem?_of_mem hu;obtain⟨k,g,_,h⟩:=zit l j u hj;rcases h with ⟨_,h⟩|⟨_,h⟩<;>(rw[h];rfl)
theorem zrT(a:Addr)(k:Nat):a.add (k+1)=⟨(a.add k).block,(a.add k).off+1,none⟩:=by
 unfold Addr.add;rw[if_neg (by omega)];split
 ·rename_i h;subst h;rfl
 ·rfl
theorem zeg(l m:List Rg):aH (l++m)=aH l++aH m:=by unfold aH;simp
theorem dF{P:Program}{w:World}{ops:Array Oper}{rest:List Oper}{o:Oper}{a:Act}{Q:Exit->Act->World->Prop}(hgd:o.guard=none)(s x:Operand)(t:TypeId)
  (ho:o.op=.call {callee:=.builtin .append,args:=#[s,x],argTypes:=#[t,t]})
  (base:Nat) (e:TypeId) (i:TypeInfo) (z:Value) (bytes:Nat) (ht:P.underlying t=some (.slice e)) (hi:P.info? e=some i) (hz:i.zero=some z)
  (hsize:i.size=2) (hby:i.bytes=bytes) (hzs:z.cells.size=2)
  (v:Value) (n:Nat) (xs:List Value) (hs:a.eval s=v) (hown:w.ownsRow base e 2 v n xs)
  (ao:Option Addr) (cap:Nat) (l:List Rg) (hx:a.eval x=.slice ao l.length cap) (hcap:ao=none->cap=0) (hl:RdR w ao l)
  (h63:n+l.length<=maxLen) (hbytes:(n+l.length)*bytes<=140737488355328) (hbase:base<=w.heap.size)
  (h:∀v' w',w'.ownsRow base e 2 v' (n+l.length) (xs++aH l)->w.grownBy w' v.ownBlock->wpList P ops Q rest (a.put o.dst v') w'):wpList P ops Q (o::rest) a w:=by
 cases ao with
 |none=>
  have hn:l=[]:=by
   cases l with
   |nil=>rfl
   |cons y ys=>obtain⟨a',h',_⟩:=hl 0 y rfl;cases h'
  subst hn;rw[hcap rfl]at hx;exact wpList_append_own_none hgd s x t ho base e i 2 ht hi v n xs hs hown hx (h v w (by simpa[aH]using hown) (World.grownBy.refl _ _))
 |some ad=>
  refine wpList_append_own w hgd s x t ho base e i z 2 bytes ht hi hz hsize hby hzs (by decide) v n xs hs hown ad l.length cap (aH l) hx (kZ l) (fun j u hj=>?_) (zni l) h63 hbytes hbase (fun v' w' a b _=>h v' w' a b);obtain⟨k,g,hk,hc⟩:=zit l j u hj;obtain⟨a',h',_,h2,h3⟩:=hl k g hk;cases h';rcases hc with ⟨rfl,rfl⟩|⟨rfl,rfl⟩
  ·exact h2
  ·rw[zrT];exact h3
end Dc
namespace Dc
open Go.RowKit
theorem p8:∀(l:List Rg)(lo hi:Int),(ia lo hi l).length<=l.length+1
 |[],_,_=>by simp[ia]
 |g::t,lo,hi=>by
  unfold ia;split
  ·have:=p8 t g.1 g.2;simp;omega
  ·have:=p8 t lo (max hi g.2);simp;omega
theorem ziV:∀(l:List Rg)(x:Rg),(ins x l).length=l.length+1
 |[],_=>rfl
 |y::t,x=>by
  unfold ins;split
  ·simp[ziV t x]
  ·simp
theorem zav:∀(l s:List Rg),(l.foldl (fun s x=>ins x s) s).length=l.length+s.length
 |[],s=>by simp
 |x::l,s=>by rw[List.foldl_cons,zav l,ziV];simp;omega
theorem zbK(l:List Rg):(oE l).length<=l.length:=by
 have h1:(cut l).length<=l.length:=by unfold cut;exact sU (List.length_filter_le _ _) (by simp)
 have h2:(zaw (cut l)).length=(cut l).length:=by unfold zaw;rw[zav];simp
 unfold oE;generalize zaw (cut l)=s at*;cases s with
 |nil=>simp[mrg]
 |cons g t=>have:=p8 t g.1 g.2;simp at h2;show(ia g.1 g.2 t).length<=_;omega
theorem znF:∀{l:List Rg} {b:Int} {j:Nat} {g:Rg},nfF b l->l[j]?=some g->b<=g.1/\g.1<=g.2/\g.2<=cJ
 |[],_,_,_,_,h=>by cases h
 |x::l,b,0,g,hs,h=>by cases h;exact⟨hs.1,hs.2.1,hs.2.2.1⟩
 |x::l,b,j+1,g,hs,h=>by have h1:=znF hs.2.2.2 (show l[j]?=some g from h);have:=hs.1;have:=hs.2.1;exact⟨by omega,h1.2⟩
def nt(l:List Rg):List Rg:=ntF 0 (oE l)
theorem zwC(l:List Rg):nf (nt l):=zgF (d8 l) (by omega) (Int.le_refl _) (Int.le_refl _)
theorem zwD(l:List Rg)(r:Int):aI r (nt l) ↔ 0<=r/\r<=cJ/\¬bU r l:=by unfold nt;rw[znA r (d8 l) (Int.le_refl _),d9]
def Ntm(n O:List Rg)(k:Nat)(lo:Int):Prop:=O++ntF lo (n.drop k)=ntF 0 n
theorem Ntm.yes{n O:List Rg}{k:Nat}{lo:Int}(hk:k<n.length)(h:Ntm n O k lo)(hc:lo<n[k].1):Ntm n (O++[(lo,n[k].1-1)]) (k+1) (n[k].2+1):=by
 unfold Ntm at*;rw[<-h,sD hk]
 conv=>rhs;rw[ntF]
 rw[if_pos hc];simp
theorem Ntm.no{n O:List Rg}{k:Nat}{lo:Int}(hk:k<n.length)(h:Ntm n O k lo)(hc:¬lo<n[k].1):Ntm n O (k+1) (n[k].2+1):=by
 unfold Ntm at*;rw[<-h,sD hk]
 conv=>rhs;rw[ntF]
 rw[if_neg hc]
theorem Ntm.done{n O:List Rg}{k:Nat}{lo:Int}(hk:¬k<n.length)(h:Ntm n O k lo):(lo<=cJ->O++[(lo,cJ)]=ntF 0 n)/\(¬lo<=cJ->O=ntF 0 n):=by
 unfold Ntm at h;rw[sH (by omega)]at h;rw[show ntF lo []=if lo<=cJ then [(lo,cJ)]else []from rfl]at h;constructor
 ·intro hl;rw[if_pos hl]at h;exact h
 ·intro hl;rw[if_neg hl]at h;simpa using h
theorem gq(w:World)(g:Rg)(m:Nat)(hm:w.heap.size=m):∀j u,(rgc g)[j]?=some u->(w.alloc (.cells #[.int .i32 g.1,.int .i32 g.2] 146)).cell? ((⟨m,0,none⟩:Addr).add j)=some u:=by subst hm;exact zbM w g 146
end Dc
namespace Dc
def nE(a b:List Rg):List Rg:=oE (a++b)
theorem zkJ(r:Int)(a b:List Rg):bU r (a++b) ↔ bU r a\/bU r b:=by
 unfold bU;rw[qn];constructor
 ·rintro ⟨h1,h2,h3|h3⟩
  ·exact .inl ⟨h1,h2,h3⟩
  ·exact .inr ⟨h1,h2,h3⟩
 ·rintro (⟨h1,h2,h3⟩|⟨h1,h2,h3⟩)
  ·exact⟨h1,h2,.inl h3⟩
  ·exact⟨h1,h2,.inr h3⟩
theorem zuE(a b:List Rg)(r:Int):aI r (nE a b) ↔ bU r a\/bU r b:=by unfold nE;rw[d9,zkJ]
end Dc
namespace Dc
open Go.RowKit
theorem zky(w:World)(e:TypeId)(size:Nat):(w.alloc (.cells #[] e)).ownsRow w.heap.size e size (.slice (some ⟨w.heap.size,0,none⟩) 0 0) 0 []:=
 ⟨by simp,.inr ⟨w.heap.size,0,#[],rfl,sK _,heap_alloc_new w _,sK _,by simp[maxLen],by simp,by simp⟩⟩
theorem eI{w:World}{B:Nat}{v:Value}{l:List Rg}(h:w.ownsRow B 146 2 v l.length (aH l)):∃ao cap,v=.slice ao l.length cap/\RdR w ao l/\(ao=none->cap=0):=by
 obtain⟨ao,cap,e,hr⟩:=zbu h;refine⟨ao,cap,e,hr,fun hn=>?_⟩;rcases h.2 with ⟨h1,_⟩|⟨gg,cc,cur,h1,_⟩
 ·rw[e]at h1;injection h1
 ·rw[e,hn]at h1;cases h1
theorem zir(ao bo:Option Addr)(ac bc:Nat)(a b:List Rg)(w:World)(ha:RdR w ao a)(hb:RdR w bo b)(hac:ao=none->ac=0)(hbc:bo=none->bc=0)(h1:a.length<=40000)(h2:b.length<=40000):
  Calls Tryz.prog 139 #[.slice ao a.length ac,.slice bo b.length bc] w fun e w'=>∃v,e=.returned v/\w'.ownsRow w.heap.size 146 2 v (nE a b).length (aH (nE a b))/\Below w.heap.size w w':=by
 obtain⟨i0,hi,hz0,hz1,hz2⟩:=info_parts Tryz.infoRange;have o0:=zky w 146 2;have hB0:=(Below.refl w.heap.size w).alloc (sK _) (.cells #[] 146);have HE0:=aa (ha.below hB0);have HF:=aa hb;have HAC:=aa hac;have HBC:=aa hbc;clear ha hb hac hbc;go_enter Tryz.func139,Tryz.ntmps139;go_wp2_with (at_builtin;refine dF rfl _ _ 125 rfl w.heap.size 146 i0 (.agg #[.int .i32 0,.int .i32 0]) 8 Tryz.underlying125 hi hz0 hz1 hz2 (by rfl) (.slice (some ⟨w.heap.size,0,none⟩) 0 0) 0 [] (by rfl) o0 ao ac a rfl HAC.o HE0.o (by unfold maxLen;omega) (by omega) (by simp) ?_);intro v1 w1 o1 gr1;have hB1:Below w.heap.size w w1:=hB0.grown gr1 (by simp) (fun k hk=>(o0.lt k hk).1);have hs1:=hB1.size;have o1':w1.ownsRow w.heap.size 146 2 v1 a.length (aH a):=by simpa using o1
 have HF1:=aa (HF.o.below hB1);clear gr1 o0 HE0 o1 hB0;go_wp2_with (at_builtin;refine dF rfl _ _ 125 rfl w.heap.size 146 i0 (.agg #[.int .i32 0,.int .i32 0]) 8 Tryz.underlying125 hi hz0 hz1 hz2 (by rfl) _ a.length (aH a) rfl o1' bo bc b rfl HBC.o HF1.o (by unfold maxLen;omega) (by omega) (by omega) ?_);intro v2 w2 o2 gr2;have hB2:Below w.heap.size w w2:=hB1.grown gr2 hs1 (fun k hk=>(o1'.lt k hk).1);have HB2:=aa hB2;have o2':w2.ownsRow w.heap.size 146 2 v2 (a++b).length (aH (a++b)):=by rw[zeg,sN];exact o2
 have HOR:ae (nE a b=oE (a++b)):=aa rfl;have hcl:(a++b).length<=80000:=by rw[sN];omega
 obtain⟨c,hc⟩:=aj (a++b);rw[<-hc]at o2' HOR hcl;clear hc;obtain⟨co,cc,rfl,hr2,_⟩:=eI o2';have HN:=aa (mB co cc c w2 hr2 (by omega));rw[<-HOR.o]at HN;clear o2 o2' o1' gr2 hB1 hB2 hr2;go_wp2_with fail;refine HN.o.mono ?_;rintro e w3 ⟨v3,rfl,o3,hb3⟩;have HO:=aa (aZ o3 HB2.o.size);have HB3:=aa (HB2.o.trans (hb3.mono HB2.o.size));clear o3 hb3 HN;go_wp2;go_ret;exact⟨_,rfl,HO.o,HB3.o⟩
end Dc
namespace Dc
open Go.RowKit
def jn(l:List Tr)(g:Tr):List Tr:=
 match l.getLast? with
 |some z=>if z.2.2=g.2.2 then l.dropLast++[(z.1,g.2.1,g.2.2)]else l++[g]
 |none=>[g]
theorem zgX(g:Tr):jn [] g=[g]:=rfl
theorem jw(Q:List Tr)(z g:Tr):jn (Q++[z]) g=if z.2.2=g.2.2 then Q++[(z.1,g.2.1,g.2.2)]else Q++[z]++[g]:=by
 have h:(Q++[z]).getLast? =some z:=by simp
 unfold jn;rw[h];dsimp only;split
 ·simp
 ·rfl
theorem zuR(o:List Tr)(g:Tr):(jn o g).length<=o.length+1:=by
 rcases List.eq_nil_or_concat o with rfl|⟨Q,z,rfl⟩
 ·simp[jn]
 ·rw[List.concat_eq_append,jw];split<;>simp
def gp(o:List Tr)(nx:Nat)(g:Tr):List Tr:=if nx<g.1 then o++[(nx,g.1-1,0)]else o
def whF(o:List Tr)(nx:Nat):List Tr->List Tr
 |[]=>if nx<=1114111 then o++[(nx,1114111,0)]else o
 |g::R=>whF (jn (gp o nx g) g) (g.2.1+1) R
def whl(L:List Tr):List Tr:=whF [] 0 L
theorem zuX(o:List Tr)(nx:Nat)(g:Tr):(gp o nx g).length<=o.length+1:=by unfold gp;split<;>simp
theorem zhN:∀(L o:List Tr)(nx:Nat),(whF o nx L).length<=o.length+2*L.length+1
 |[],o,nx=>by unfold whF;split<;>simp
 |g::R,o,nx=>by have h1:=zhN R (jn (gp o nx g) g) (g.2.1+1);have h2:=zuR (gp o nx g) g;have h3:=zuX o nx g;show(whF (jn (gp o nx g) g) (g.2.1+1) R).length<=_;simp;omega
end Dc
namespace Dc
def Rs:Nat->List Tr->Prop
 |_,[]=>True
 |b,g::R=>b<=g.1/\g.1<=g.2.1/\g.2.1<=1114111/\Rs (g.2.1+1) R
end Dc
namespace Dc
open Go.RowKit
def gtp(r:Int):List Tr->Nat
 |[]=>0
 |g::R=>if (g.2.1:Int)<r then gtp r R else g.2.2
def cQ(r:Int):Int:=if r<0\/1114111<r then 65533 else r
end Dc
namespace Dc
def iy:List Tr->Tr->Option (Tr×List Tr)
 |[],g=>some (g,[])
 |h::R,g=>if h.1<=g.2.1 then (if h.2.2=g.2.2 then iy R (min g.1 h.1,max g.2.1 h.2.1,g.2.2)else none)else some (g,h::R)
def gG:List Tr->Tr->Option (List Tr)
 |[],g=>some [g]
 |h::R,g=>if (h.2.1:Int)<(g.1:Int)then (gG R g).map (h::·)else (iy (h::R) g).map fun x=>x.1::x.2
theorem zqD:∀(L:List Tr)(a b:Nat),a<=b->Rs b L->Rs a L
 |[],_,_,_,_=>trivial
 |_::_,_,_,hab,h=>⟨sU hab h.1,h.2⟩
theorem zii:∀(D:List Tr)(g:Tr)(b:Nat)(x:Tr)(R:List Tr),Rs b D->b<=g.1->g.1<=g.2.1->g.2.1<=1114111->iy D g=some (x,R)->b<=x.1/\x.1<=x.2.1/\x.2.1<=1114111/\Rs (x.2.1+1) R
 |[],g,b,x,R,_,h1,h2,h3,he=>by simp only[iy,sE,Prod.mk.injEq]at he;obtain⟨rfl,rfl⟩:=he;exact⟨h1,h2,h3,trivial⟩
 |h::D,g,b,x,R,hR,h1,h2,h3,he=>by
  obtain⟨r1,r2,r3,r4⟩:=hR;unfold iy at he;split at he
  ·split at he
   ·exact zii D (min g.1 h.1,max g.2.1 h.2.1,g.2.2) b x R (zqD D b (h.2.1+1) (by omega) r4) (by show b<=min g.1 h.1;omega) (by show min g.1 h.1<=max g.2.1 h.2.1;omega) (by show max g.2.1 h.2.1<=1114111;omega) he
   ·cases he
  ·rename_i hc;simp only[sE,Prod.mk.injEq]at he;obtain⟨rfl,rfl⟩:=he;exact⟨h1,h2,h3,by omega,r2,r3,r4⟩
theorem zbo:∀(S:List Tr)(g:Tr)(b:Nat)(S':List Tr),Rs b S->b<=g.1->g.1<=g.2.1->g.2.1<=1114111->gG S g=some S'->Rs b S'
 |[],g,b,S',_,h1,h2,h3,he=>by simp only[gG,sE]at he;subst he;exact⟨h1,h2,h3,trivial⟩
 |h::S,g,b,S',hR,h1,h2,h3,he=>by
  obtain⟨r1,r2,r3,r4⟩:=hR;unfold gG at he;split at he
  ·rename_i hc;cases hs:gG S g with
   |none=>rw[hs]at he;cases he
   |some T=>rw[hs]at he;simp only[Option.map_some,sE]at he;subst he;exact⟨r1,r2,r3,zbo S g (h.2.1+1) T r4 (by omega) h2 h3 hs⟩
  ·cases hs:iy (h::S) g with
   |none=>rw[hs]at he;cases he
   |some x=>rw[hs]at he;simp only[Option.map_some,sE]at he;subst he;obtain⟨p1,p2,p3,p4⟩:=zii (h::S) g b x.1 x.2 ⟨r1,r2,r3,r4⟩ h1 h2 h3 hs;exact⟨p1,p2,p3,p4⟩
end Dc
namespace Dc
open Go.RowKit
def tbl(b:UInt8):UInt8:=if b=9 then 32 else b
end Dc
namespace Dc
def eh(c:UInt8):Bool:=(decide (48<=c.toNat)&&decide (c.toNat<=57))||(decide (65<=c.toNat)&&decide (c.toNat<=70))
theorem lL(c:UInt8):eh c=true ↔ (48<=c.toNat/\c.toNat<=57)\/(65<=c.toNat/\c.toNat<=70):=by unfold eh;simp
def hxV(c:UInt8):Nat:=if c.toNat<=57 then c.toNat-48 else c.toNat-55
def iJ:Nat->List UInt8->Nat
 |a,[]=>a
 |a,c::t=>iJ (a*16+hxV c) t
theorem zoi{c:UInt8}(h:eh c=true):hxV c<16:=by rw[lL]at h;unfold hxV;split<;>omega
theorem zog:∀(t:List UInt8)(a:Nat),(∀c,c∈t->eh c=true)->iJ a t<(a+1)*16 ^ t.length
 |[],a,_=>by simp[iJ]
 |c::t,a,h=>by have h1:=zoi (h c (by simp));have h2:=zog t (a*16+hxV c) (fun d hd=>h d (by simp[hd]));have h3:(a*16+hxV c+1)*16 ^ t.length<=((a+1)*16)*16 ^ t.length:=Nat.mul_le_mul_right _ (by omega);rw[show iJ a (c::t)=iJ (a*16+hxV c) t from rfl,sP,Nat.pow_succ];rw[Nat.mul_comm (16 ^ t.length) 16,<-Nat.mul_assoc];omega
def gy(l:List UInt8)(b:Nat):Nat:=((l.drop b).takeWhile eh).length
theorem zrd{l:List UInt8}{e:Nat}(he:e<l.length)(h:eh l[e]=true):gy l e=gy l (e+1)+1:=by unfold gy;rw[sD he,sL,if_pos h,sP]
theorem zuV{l:List UInt8}{e:Nat}(he:e<l.length)(h:¬eh l[e]=true):gy l e=0:=by unfold gy;rw[sD he,sL,if_neg h];rfl
theorem zre{l:List UInt8}{e:Nat}(he:¬e<l.length):gy l e=0:=by unfold gy;rw[sH (by omega)];rfl
theorem zuW(l:List UInt8)(b:Nat):gy l b<=l.length-b:=by unfold gy;have:=(sJ (l:=l.drop b) eh).length_le;simpa using this
theorem zoh(l:List UInt8)(b:Nat):(l.drop b).take (gy l b)=(l.drop b).takeWhile eh:=by exact(List.prefix_iff_eq_take.1 (sJ (l:=l.drop b) eh)).symm
theorem zrf(l:List UInt8)(b:Nat):∀c,c∈(l.drop b).take (gy l b)->eh c=true:=fun c hc=>by rw[zoh]at hc;exact List.all_eq_true.1 (List.all_takeWhile (p:=eh) (l:=l.drop b)) c hc
def cdd(l:List UInt8)(at':Nat):Int×Nat×Int:=
 if gy l (at'+2)<4\/6<gy l (at'+2)then (0,at',21)
 else if 1114111<iJ 0 ((l.drop (at'+2)).take (gy l (at'+2)))then (0,at',22)
 else ((iJ 0 ((l.drop (at'+2)).take (gy l (at'+2))):Nat),at'+2+gy l (at'+2),0)
end Dc
namespace Dc
open Go.RowKit
theorem zrc(l:List UInt8)(hl:l.length<=6)(hx:∀c,c∈l->eh c=true):iJ 0 l<=16777215:=by
 have h1:=zog l 0 hx;have h2:16 ^ l.length<=16 ^ 6:=Nat.pow_le_pow_right (by omega) hl;have h3:(16:Nat) ^ 6=16777216:=by decide
 omega
def pre(l p:List UInt8):Bool:=decide (l.take p.length=p)
end Dc
namespace Dc
open Go.RowKit
theorem zci(l:List UInt8)(b k:Nat):(⟨l.toArray⟩:ByteArray).extract b (b+k)=⟨((l.drop b).take k).toArray⟩:=by apply sT;simp[sI,List.extract_eq_take_drop]
end Dc
namespace Dc
open Go.RowKit
def dec(l:List UInt8):Nat×Nat:=if l=[]then (0,0)else sO ⟨l.toArray⟩
theorem dec_le4(l:List UInt8):(dec l).2<=4:=by
 unfold dec;split
 ·simp
 ·unfold sO;split
  ·simp
  ·unfold sG;simp only[]
   repeat' split
   all_goals simp
theorem ext_drop(l:List UInt8)(t:Nat):(⟨l.toArray⟩:ByteArray).extract t l.length=⟨(l.drop t).toArray⟩:=by apply sT;simp[sI,List.take_of_length_le]
def qtd(l:List UInt8)(p:Nat):Int×Nat×Int:=
 if (dec (l.drop (p+1))).2=0\/p+1+(dec (l.drop (p+1))).2=l.length\/l.getD (p+1+(dec (l.drop (p+1))).2) 0≠39 then (0,p,21)
 else if Lib.validD ((l.drop (p+1)).take (dec (l.drop (p+1))).2)=false then (0,p+1,23)
 else (((dec (l.drop (p+1))).1:Nat),p+1+(dec (l.drop (p+1))).2+1,0)
theorem dec_eqL(l:List UInt8)(h:l≠ []):dec l=Lib.decodeL l:=by
 unfold dec;rw[if_neg h];unfold sO;have hs:(⟨l.toArray⟩:ByteArray).size=l.length:=by show l.toArray.size=_;simp
 rw[if_neg (by rw[hs];exact fun e=>h (List.length_eq_zero_iff.1 e))];rfl
theorem dec_ge(l:List UInt8)(h:l≠ []):1<=(dec l).2:=by rw[dec_eqL l h];exact Lib.decodeL_width l
theorem dec_le(l:List UInt8)(h:l≠ []):(dec l).2<=l.length:=by rw[dec_eqL l h];exact Lib.decodeL_le l h
theorem dec_rune(l:List UInt8)(h:l≠ []):(dec l).1<=1114111:=by rw[dec_eqL l h];exact Lib.decodeL_rune l
theorem mW(l:List UInt8):(dec l).2<=l.length:=by
 by_cases h:l=[]
 ·subst h;exact sK 0
 ·exact dec_le l h
end Dc
namespace Dc
open Go.RowKit
def stp(l:List UInt8):Nat:=if l.getD 0 0=39/\0<(dec (l.drop 1)).2/\1+(dec (l.drop 1)).2<l.length/\l.getD (1+(dec (l.drop 1)).2) 0=39 then (dec (l.drop 1)).2+2 else 1
theorem oh(l:List UInt8):1<=stp l:=by unfold stp;split<;>omega
theorem stp_le(l:List UInt8)(h:l≠ []):stp l<=l.length:=by
 have h1:1<=l.length:=by cases l with|nil=>exact absurd rfl h|cons=>simp
 unfold stp;split
 ·rename_i h5;omega
 ·exact h1
def iO(c:UInt8)(l:List UInt8):Nat->Nat->Nat
 |0,t=>t
 |f+1,t=>if t<l.length/\l.getD t 0≠c then iO c l f (t+stp (l.drop t))else t
def fi(c:UInt8)(l:List UInt8):Nat:=iO c l (l.length+1) 0
theorem zoF(c:UInt8)(l:List UInt8):∀(f t:Nat),t<=l.length->iO c l f t<=l.length
 |0,_,h=>h
 |f+1,t,h=>by
  show(if _ then iO c l f (t+stp (l.drop t))else t)<=_;split
  ·rename_i h5;refine zoF c l f _ ?_;have h6:=stp_le (l.drop t) (fun e=>by have h7:=congrArg List.length e;simp at h7;omega);simp only[List.length_drop]at h6;omega
  ·exact h
theorem zcf(c:UInt8)(l:List UInt8):fi c l<=l.length:=zoF c l _ 0 (Nat.zero_le _)
end Dc
namespace Dc
open Go.RowKit
def two(o:Option Int):Value:=.tuple #[.int .i32 (o.getD 0),.bool o.isSome]
end Dc
namespace Dc
open Go.RowKit
def zer:Nat->List UInt8->Nat->List (Nat×Int)
 |0,_,_=>[]
 |n+1,l,t=>if t<l.length then (t,((sG ⟨l.toArray⟩ t).1:Int))::zer n l (t+(sG ⟨l.toArray⟩ t).2)else []
def plr(l:List UInt8)(t:Nat):List (Nat×Int):=zer (l.length-t) l t
theorem zeq(l:List UInt8):∀(n m t:Nat),l.length-t<=n->l.length-t<=m->zer n l t=zer m l t
 |0,0,_,_,_=>rfl
 |0,m+1,t,h,_=>by unfold zer;rw[if_neg (by omega)]
 |n+1,0,t,_,h=>by unfold zer;rw[if_neg (by omega)]
 |n+1,m+1,t,h,h'=>by
  unfold zer;have hw:=sM ⟨l.toArray⟩ t;split
  ·rw[zeq l n m (t+(sG ⟨l.toArray⟩ t).2) (by omega) (by omega)]
  ·rfl
theorem fT(l:List UInt8)(t:Nat)(h:t<l.length):plr l t=(t,((sG ⟨l.toArray⟩ t).1:Int))::plr l (t+(sG ⟨l.toArray⟩ t).2):=by
 have hw:=sM ⟨l.toArray⟩ t;unfold plr;rw[show l.length-t=(l.length-t-1)+1 by omega]
 conv=>lhs;unfold zer
 rw[if_pos h,zeq l (l.length-t-1) (l.length-(t+(sG ⟨l.toArray⟩ t).2)) _ (by omega) (by omega)]
theorem gK(l:List UInt8)(t:Nat)(h:¬t<l.length):plr l t=[]:=by unfold plr;rw[show l.length-t=0 by omega];rfl
theorem zbB(l:List UInt8):∀(n t:Nat),l.length-t<=n->(plr l t).length<=l.length-t
 |0,t,h=>by rw[gK l t (by omega)];simp
 |n+1,t,h=>by
  by_cases ht:t<l.length
  ·have hw:=sM ⟨l.toArray⟩ t;have:=zbB l n (t+(sG ⟨l.toArray⟩ t).2) (by omega);rw[fT l t ht];simp;omega
  ·rw[gK l t ht];simp
end Dc
end Go.Proofs.YtbbapnpdfcgjnaaGreatDoor
