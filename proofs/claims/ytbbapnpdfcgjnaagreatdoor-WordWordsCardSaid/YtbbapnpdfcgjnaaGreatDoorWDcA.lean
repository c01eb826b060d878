/- DcA: parts of the proof, joined. -/
import Derived.Deep.AppendLies
import Derived.Lib.MapLaws
import Derived.BigQuiet
import Derived.WalkLawsBesides
import Derived.WalkSpells
import Derived.Lib.BufferMore
import Derived.Test.YtbbapnpdfcgjnaaGreatDoorProg
import Derived.Test.YtbbapnpdfcgjnaaGreatDoorWZz
open List renaming mem_append->sD, getElem?_eq_getElem->sE, take_succ_eq_append_getElem->sI, drop_eq_getElem_cons->sJ, length_take->sL, getElem?_append_right->sO, take_of_length_le->sT, length_set->sU, getElem?_eq_some_iff->sV, length_eq_zero_iff->sX, mem_filter->sZ, set_append_right->ta, take_append_drop->tc, mem_cons->te, length_append->tf, mem_map->tj, any_eq_true->tq, getElem_mem->tu, take_set->tB
open Or renaming inr->sG, inl->sH
open Go renaming World->sK, Value->sN, below_drewN->sR, cell_of_row->td, TypeId->tg, wpList_append_own->tp
open Go.Lib renaming heap_setCell_same->sM
open Array renaming getElem?_eq_some_iff->sP
open Go.RowKit renaming intOf->sQ, Below->tz
open Int renaming lt_or_le->sS, le_refl->sW
open Go.IntKind renaming wrap_i64->sY, i64->tw
set_option maxHeartbeats 64000000
namespace Go.Proofs.YtbbapnpdfcgjnaaGreatDoor
namespace Dc
open Go.RowKit
end Dc
namespace Dc
abbrev Rg:=Int×Int
def cJ:Int:=1114111
def aI(r:Int):List Rg->Prop
 |[]=>False
 |g::l=>(g.1<=r/\r<=g.2)\/aI r l
def nfF(b:Int):List Rg->Prop
 |[]=>True
 |g::l=>b<=g.1/\g.1<=g.2/\g.2<=cJ/\nfF (g.2+2) l
def nf(l:List Rg):Prop:=nfF 0 l
theorem dA:∀{l:List Rg} {b r:Int},nfF b l->aI r l->b<=r
 |[],_,_,_,h=>h.elim
 |g::l,b,r,hn,h=>by
  obtain⟨h1,h2,_,h4⟩:=hn;rcases h with ⟨a,_⟩|h
  ·omega
  ·have:=dA h4 h;omega
theorem lK:∀{l:List Rg} {b r:Int},nfF b l->aI r l->r<=cJ
 |[],_,_,_,h=>h.elim
 |g::l,b,r,hn,h=>by
  obtain⟨_,_,h3,h4⟩:=hn;rcases h with ⟨_,a⟩|h
  ·omega
  ·exact lK h4 h
theorem zgH:∀{l l':List Rg} {b b':Int},nfF b l->nfF b' l'->(∀r,aI r l ↔ aI r l')->l=l'
 |[],[],_,_,_,_,_=>rfl
 |[],g::l',_,_,_,hn,h=>by have:aI g.1 []:=(h g.1).2 (sH ⟨sW _,hn.2.1⟩);exact this.elim
 |g::l,[],_,_,hn,_,h=>by have:aI g.1 []:=(h g.1).1 (sH ⟨sW _,hn.2.1⟩);exact this.elim
 |g::l,g'::l',b,b',hn,hn',h=>by
  obtain⟨_,h2,_,h4⟩:=hn;obtain⟨_,h2',_,h4'⟩:=hn';have a1:g'.1<=g.1:=by
   rcases(h g.1).1 (sH ⟨sW _,h2⟩)with ⟨a,_⟩|a
   ·exact a
   ·have:=dA h4' a;omega
  have a2:g.1<=g'.1:=by
   rcases(h g'.1).2 (sH ⟨sW _,h2'⟩)with ⟨a,_⟩|a
   ·exact a
   ·have:=dA h4 a;omega
  have a3:g'.2<=g.2:=by
   rcases sS g.2 g'.2 with hlt|hle
   ·exfalso;rcases(h (g.2+1)).2 (sH ⟨by omega,by omega⟩)with ⟨_,a⟩|a
    ·omega
    ·have:=dA h4 a;omega
   ·exact hle
  have a4:g.2<=g'.2:=by
   rcases sS g'.2 g.2 with hlt|hle
   ·exfalso;rcases(h (g'.2+1)).1 (sH ⟨by omega,by omega⟩)with ⟨_,a⟩|a
    ·omega
    ·have:=dA h4' a;omega
   ·exact hle
  have eg:g=g':=Prod.ext (by omega) (by omega);subst eg;have et:l=l':=zgH h4 h4' (fun r=>⟨fun hr=>by
   have hge:=dA h4 hr;rcases(h r).1 (sG hr)with ⟨_,a⟩|a
   ·omega
   ·exact a,fun hr=>by
   have hge:=dA h4' hr;rcases(h r).2 (sG hr)with ⟨_,a⟩|a
   ·omega
   ·exact a⟩)
  rw[et]
def ia(lo hi:Int):List Rg->List Rg
 |[]=>[(lo,hi)]
 |g::t=>if hi+1<g.1 then (lo,hi)::ia g.1 g.2 t else ia lo (max hi g.2) t
def mrg:List Rg->List Rg
 |[]=>[]
 |g::t=>ia g.1 g.2 t
def srt(b:Int):List Rg->Prop
 |[]=>True
 |g::t=>b<=g.1/\g.1<=g.2/\g.2<=cJ/\srt g.1 t
theorem zbO:∀{l:List Rg} {b lo hi:Int},b<=lo->lo<=hi->hi<=cJ->srt lo l->nfF b (ia lo hi l)
 |[],_,_,_,h1,h2,h3,_=>⟨h1,h2,h3,trivial⟩
 |g::t,b,lo,hi,h1,h2,h3,hs=>by
  obtain⟨s1,s2,s3,s4⟩:=hs;unfold ia;split
  ·exact⟨h1,h2,h3,zbO (by omega) s2 s3 s4⟩
  ·refine zbO h1 (by omega) (by omega) ?_;cases t with
   |nil=>trivial
   |cons x t=>exact⟨by have:=s4.1;omega,s4.2⟩
theorem zbP:∀{l:List Rg} {lo hi:Int} (r:Int),lo<=hi->srt lo l->(aI r (ia lo hi l) ↔ (lo<=r/\r<=hi)\/aI r l)
 |[],_,_,_,_,_=>by simp[ia,aI]
 |g::t,lo,hi,r,h2,hs=>by
  obtain⟨s1,s2,s3,s4⟩:=hs;unfold ia;split
  ·rename_i hc;show((lo<=r/\r<=hi)\/aI r (ia g.1 g.2 t)) ↔ _;rw[zbP r s2 s4];exact Iff.rfl
  ·rename_i hc;have st:srt lo t:=by
    cases t with
    |nil=>trivial
    |cons x t=>exact⟨by have:=s4.1;omega,s4.2⟩
   rw[zbP r (by omega) st];show _ ↔ (lo<=r/\r<=hi)\/(g.1<=r/\r<=g.2)\/aI r t;constructor
   ·rintro (⟨a,b⟩|h)
    ·rcases sS hi r with hr|hr
     ·exact sG (sH ⟨by omega,by omega⟩)
     ·exact sH ⟨a,hr⟩
    ·exact sG (sG h)
   ·rintro (⟨a,b⟩|⟨a,b⟩|h)
    ·exact sH ⟨a,by omega⟩
    ·exact sH ⟨by omega,by omega⟩
    ·exact sG h
theorem znI{l:List Rg}(h:srt 0 l):nf (mrg l):=by
 cases l with
 |nil=>trivial
 |cons g t=>exact zbO h.1 h.2.1 h.2.2.1 h.2.2.2
theorem znJ{l:List Rg}(h:srt 0 l)(r:Int):aI r (mrg l) ↔ aI r l:=by
 cases l with
 |nil=>exact Iff.rfl
 |cons g t=>exact zbP r h.2.1 h.2.2.2
def zcq(g:Rg):Rg:=(max g.1 0,min g.2 cJ)
def cut(l:List Rg):List Rg:=(l.map zcq).filter fun g=>decide (g.1<=g.2)
def bU(r:Int)(l:List Rg):Prop:=0<=r/\r<=cJ/\aI r l
theorem bK{r:Int}:∀{l:List Rg},aI r l ↔ ∃g,g∈l/\g.1<=r/\r<=g.2
 |[]=>by simp[aI]
 |g::l=>by simp[aI,bK (l:=l)]
theorem zvf{l:List Rg}{r:Int}:aI r (cut l) ↔ bU r l:=by
 unfold bU;rw[bK,bK];unfold cut;constructor
 ·rintro ⟨g,hg,h1,h2⟩;rw[sZ,tj]at hg;obtain⟨⟨x,hx,rfl⟩,_⟩:=hg;unfold zcq at h1 h2;dsimp only at h1 h2;unfold cJ at*;exact⟨by omega,by omega,x,hx,by omega,by omega⟩
 ·rintro ⟨h0,h1,x,hx,h2,h3⟩;refine⟨zcq x,sZ.2 ⟨tj.2 ⟨x,hx,rfl⟩,?_⟩,?_,?_⟩
  ·unfold zcq cJ at*;simp;omega
  ·unfold zcq;dsimp only;omega
  ·unfold zcq;dsimp only;omega
def ntF(lo:Int):List Rg->List Rg
 |[]=>if lo<=cJ then [(lo,cJ)]else []
 |g::t=>if lo<g.1 then (lo,g.1-1)::ntF (g.2+1) t else ntF (g.2+1) t
theorem zgF:∀{l:List Rg} {lo b c:Int},nfF b l->b<=lo+1->lo<=b->c<=lo->nfF c (ntF lo l)
 |[],lo,b,c,_,_,_,hc=>by
  unfold ntF;split
  ·exact⟨hc,by omega,sW _,trivial⟩
  ·trivial
 |g::t,lo,b,c,hn,h1,h2,hc=>by
  obtain⟨n1,n2,n3,n4⟩:=hn;unfold ntF;split
  ·exact⟨hc,by omega,by dsimp only;omega,zgF n4 (by omega) (by omega) (by dsimp only;omega)⟩
  ·exact zgF n4 (by omega) (by omega) (by omega)
theorem znA:∀{l:List Rg} {lo b:Int} (r:Int),nfF b l->lo<=b->(aI r (ntF lo l) ↔ lo<=r/\r<=cJ/\¬aI r l)
 |[],lo,b,r,_,_=>by
  unfold ntF;split
  ·simp[aI]
  ·rename_i h;simp only[aI,not_false_eq_true,and_true,false_iff];omega
 |g::t,lo,b,r,hn,h2=>by
  obtain⟨n1,n2,n3,n4⟩:=hn;have ih:=znA (lo:=g.2+1) r n4 (by omega);have key:∀x:Int,aI x t->g.2+2<=x:=fun x hx=>dA n4 hx;unfold ntF;split
  ·show((lo<=r/\r<=g.1-1)\/aI r (ntF (g.2+1) t)) ↔ _;rw[ih];show _ ↔ lo<=r/\r<=cJ/\¬((g.1<=r/\r<=g.2)\/aI r t);constructor
   ·rintro (⟨a,b⟩|⟨a,b,c⟩)
    ·exact⟨a,by omega,fun h=>h.elim (fun⟨x,_⟩=>by omega) (fun x=>by have:=key r x;omega)⟩
    ·exact⟨by omega,b,fun h=>h.elim (fun⟨_,x⟩=>by omega) c⟩
   ·rintro ⟨a,b,c⟩;rcases sS r g.1 with hr|hr
    ·exact sH ⟨a,by omega⟩
    ·refine sG ⟨?_,b,fun x=>c (sG x)⟩;rcases sS g.2 r with hr2|hr2
     ·omega
     ·exact(c (sH ⟨hr,hr2⟩)).elim
  ·rw[ih];show _ ↔ lo<=r/\r<=cJ/\¬((g.1<=r/\r<=g.2)\/aI r t);constructor
   ·rintro ⟨a,b,c⟩;exact⟨by omega,b,fun h=>h.elim (fun⟨_,x⟩=>by omega) c⟩
   ·rintro ⟨a,b,c⟩;refine⟨?_,b,fun x=>c (sG x)⟩;rcases sS g.2 r with hr2|hr2
    ·omega
    ·exact(c (sH ⟨by omega,hr2⟩)).elim
end Dc
namespace Dc
open Go.RowKit
theorem add_blk(a:Addr)(k:Nat):(a.add k).block=a.block:=by unfold Addr.add;split<;>rfl
def RdR(w:sK)(ao:Option Addr)(l:List Rg):Prop:=
 ∀(k:Nat)(g:Rg),l[k]?=some g->∃a:Addr,ao=some a/\a.block<w.heap.size/\w.cell? (a.add (k*2))=some (.int .i32 g.1)/\w.cell? ⟨(a.add (k*2)).block,(a.add (k*2)).off+1,none⟩=some (.int .i32 g.2)
theorem RdR.below{w w':sK}{ao:Option Addr}{l:List Rg}(h:RdR w ao l)(hb:tz w.heap.size w w'):RdR w' ao l:=fun k g hk=>by obtain⟨a,h1,h2,h3,h4⟩:=h k g hk;exact⟨a,h1,Nat.lt_of_lt_of_le h2 hb.size,(hb.cell (p:=a.add (k*2)) (by rw[add_blk];exact h2)).trans h3,(hb.cell (p:=⟨(a.add (k*2)).block,(a.add (k*2)).off+1,none⟩) (show(a.add (k*2)).block<_ by rw[add_blk];exact h2)).trans h4⟩
def rH(r:Int)(l:List Rg):Bool:=l.any fun g=>decide (g.1<=r)&&decide (r<=g.2)
theorem zoo(r:Int)(l:List Rg):rH r l=true ↔ aI r l:=by unfold rH;rw[bK,tq];simp
def gQ(r:Int)(l:List Rg):Bool:=decide (0<=r)&&(decide (r<=cJ)&&rH r l)
theorem zon(r:Int)(l:List Rg):gQ r l=true ↔ bU r l:=by unfold gQ bU;rw[Bool.and_eq_true,Bool.and_eq_true,decide_eq_true_iff,decide_eq_true_iff,zoo]
theorem zpx(r:Int)(l:List Rg)(k:Nat)(hk:k<l.length)(h:rH r (l.take k)=false):rH r (l.take (k+1))=(decide (l[k].1<=r)&&decide (r<=l[k].2)):=by unfold rH at*;rw[sI hk,List.any_append,h];simp
theorem zrP(r:Int)(l:List Rg)(k:Nat)(hk:k<l.length)(h:(decide (l[k].1<=r)&&decide (r<=l[k].2))=true):rH r l=true:=by unfold rH;rw[tq];exact⟨l[k],tu hk,h⟩
end Dc
namespace Dc
open Go.RowKit Go.Maps Go.WideMaps
def nms(l:List (List UInt8)):List sN:=l.map fun b=>.string ⟨b.toArray⟩
theorem p7(l:List (List UInt8))(b:List UInt8):nms (l++[b])=nms l++[.string ⟨b.toArray⟩]:=by simp[nms]
def gz(b:List UInt8)(U:List (List UInt8)):List (List UInt8)×Nat:=if b∈U then (U,U.idxOf b)else (U++[b],U.length)
end Dc
namespace Dc
open Go.RowKit
theorem pM(ao:Option Addr)(ac:Nat)(l:List Rg)(r:Int)(w:sK)(ha:RdR w ao l)(hl:l.length<=1000000000000):
  Calls Tryz.prog 126 #[.slice ao l.length ac,.int .i32 r] w fun e w'=>e=.returned (.bool (gQ r l))/\w'=w:=by
 have HA:=aa ha;clear ha;go_enter Tryz.func126,Tryz.ntmps126;go_wp2;go_loopw [5] (fun i wr=>∃k:Nat,k<=l.length/\i=.int .i64 k/\ae (gQ r (l.take k)=false)/\wr=w) (fun i _=>l.length-(sQ i).toNat)
 case atStart=>exact⟨0,by omega,rfl,by show gQ r []=false;simp[gQ,rH],rfl⟩
 case round=>
  obtain⟨k,hk,rfl,HN,hwr⟩:=hrel;obtain rfl:=hwr.symm;clear hwr;by_cases hlt:k<l.length
  ·obtain⟨a,rfl,ha,a0,a1⟩:=HA.o k l[k] (sE hlt);have HY:=aa (zrP r l k hlt);have HT:=aa (zpx r l k hlt);generalize l[k].1=z0 at*;generalize l[k].2=z1 at*;by_cases h0:0<=r
   ·by_cases h1:r<=1114111
    ·have HN':ae (rH r (l.take k)=false):=aa (by have h:=HN.o;unfold gQ cJ at h;simpa[h0,h1]using h);by_cases e1:z0<=r
     ·by_cases e2:r<=z1
      ·have HZ:ae (gQ r l=true):=aa (by unfold gQ cJ;rw[HY.o (by simp[e1,e2])];simp[h0,h1]);go_wp2;go_ret;exact⟨by rw[HZ.o];rfl,rfl⟩
      ·have HZ:ae (gQ r (l.take (k+1))=false):=aa (by unfold gQ;rw[HT.o HN'.o];simp;omega);go_wp2;go_roundw
       case rel=>exact⟨k+1,by omega,by go_num,HZ,by first|rfl|trivial⟩
       case measure=>simp[sQ];omega
     ·have HZ:ae (gQ r (l.take (k+1))=false):=aa (by unfold gQ;rw[HT.o HN'.o];simp;omega);go_wp2;go_roundw
      case rel=>exact⟨k+1,by omega,by go_num,HZ,by first|rfl|trivial⟩
      case measure=>simp[sQ];omega
    ·have HZ:ae (gQ r (l.take (k+1))=false):=aa (by unfold gQ cJ;simp[h1]);go_wp2;go_roundw
     case rel=>exact⟨k+1,by omega,by go_num,HZ,by first|rfl|trivial⟩
     case measure=>simp[sQ];omega
   ·have HZ:ae (gQ r (l.take (k+1))=false):=aa (by unfold gQ;simp[h0]);go_wp2;go_roundw
    case rel=>exact⟨k+1,by omega,by go_num,HZ,by first|rfl|trivial⟩
    case measure=>simp[sQ];omega
  ·have HZ:ae (gQ r l=false):=aa (by have h:=HN.o;rw[sT (by omega)]at h;exact h);go_wp2;go_ret;exact⟨by rw[HZ.o];rfl,rfl⟩
end Dc
namespace Dc
open Go.RowKit
theorem Tryz.infoRange:(Tryz.prog.info? 146).map (fun i=>(i.zero,i.size,i.bytes))=some (some (.agg #[.int .i32 0,.int .i32 0]),2,8):=by kernel_rfl
def rgc(g:Rg):List sN:=[.int .i32 g.1,.int .i32 g.2]
def aH(l:List Rg):List sN:=l.flatMap rgc
theorem dh(l:List Rg)(g:Rg):aH (l++[g])=aH l++rgc g:=by simp[aH]
theorem kZ:∀l:List Rg,(aH l).length=l.length*2
 |[]=>rfl
 |g::l=>by show(rgc g++aH l).length=_;rw[tf,kZ l,List.length_cons];show 2+_=_;omega
theorem ez(g:Rg):∀u∈rgc g,u.oneCell'=true:=by intro u hu;simp[rgc]at hu;rcases hu with rfl|rfl<;>rfl
theorem zef:∀(l:List Rg)(k:Nat)(g:Rg),l[k]?=some g->(aH l)[k*2]?=some (.int .i32 g.1)/\(aH l)[k*2+1]?=some (.int .i32 g.2)
 |[],_,_,h=>by cases h
 |x::l,0,g,h=>by cases h;exact⟨rfl,rfl⟩
 |x::l,k+1,g,h=>by
  have ih:=zef l k g h;have e1:(k+1)*2=k*2+2:=by omega
  show(rgc x++aH l)[(k+1)*2]?=_/\(rgc x++aH l)[(k+1)*2+1]?=_;rw[e1,sO (by simp[rgc]),sO (by simp[rgc])];simpa[rgc]using ih
theorem zee:∀(l:List Rg)(i:Nat)(g:Rg),i<l.length->((aH l).set (i*2) (.int .i32 g.1)).set (i*2+1) (.int .i32 g.2)=aH (l.set i g)
 |[],_,_,h=>by simp at h
 |x::l,0,g,_=>rfl
 |x::l,i+1,g,h=>by
  have ih:=zee l i g (by simpa using h);have e1:(i+1)*2=i*2+2:=by omega
  show((rgc x++aH l).set ((i+1)*2) _).set ((i+1)*2+1) _=rgc x++aH (l.set i g);rw[<-ih,e1];rfl
theorem fR{w:sK}{B:Nat}{v:sN}{l:List Rg}(h:w.ownsRow B 146 2 v l.length (aH l)):∃ao cap,v=.slice ao l.length cap/\(0<l.length->∃g,ao=some ⟨g,0,none⟩/\B<=g/\g<w.heap.size)∧
  ∀(k:Nat)(x:Rg),l[k]?=some x->∃g,ao=some ⟨g,0,none⟩/\g<w.heap.size/\w.cell? ⟨g,k*2,none⟩=some (.int .i32 x.1)/\w.cell? ⟨g,k*2+1,none⟩=some (.int .i32 x.2):=by
 rcases h.2 with ⟨h1,h2⟩|⟨g,cap,cur,h1,h2,h3,h4,h5,h6,h7⟩
 ·have hl:l=[]:=sX.1 h2;subst hl;exact⟨none,0,h1,fun h=>by simp at h,fun k x hk=>by cases hk⟩
 ·have hg:=(sP.1 h3).1;refine⟨some ⟨g,0,none⟩,cap,h1,fun _=>⟨g,rfl,h2,hg⟩,fun k x hk=>⟨g,rfl,hg,?_⟩⟩;obtain⟨e1,e2⟩:=zef l k x hk;have hc:∀j u,(aH l)[j]?=some u->w.cell? ⟨g,j,none⟩=some u:=fun j u hj=>by have:=h.cells (g:=g) (by rw[h1];rfl) j u hj;rw[show(⟨g,0,none⟩:Addr).add j=⟨g,j,none⟩ by unfold Addr.add;split<;>simp_all]at this;exact this
  exact⟨hc _ _ e1,hc _ _ e2⟩
theorem kw{w:sK}{B g n cap:Nat}{l:List Rg}(h:w.ownsRow B 146 2 (.slice (some ⟨g,0,none⟩) n cap) l.length (aH l))(j:Nat):w.frozen? ⟨g,j,none⟩=false:=by
 rcases h.2 with ⟨h1,_⟩|⟨g',cap',cur,h1,_,h3,_⟩
 ·cases h1
 ·cases h1;exact frozen_of_row w g j cur 146 h3
theorem zio{w:sK}{B g n cap:Nat}{l:List Rg}(h:w.ownsRow B 146 2 (.slice (some ⟨g,0,none⟩) n cap) l.length (aH l))(i:Nat)(x:Rg)(hi:i<l.length):
  ((w.setCell ⟨g,i*2,none⟩ (.int .i32 x.1)).setCell ⟨g,i*2+1,none⟩ (.int .i32 x.2)).ownsRow B 146 2 (.slice (some ⟨g,0,none⟩) n cap) (l.set i x).length (aH (l.set i x)):=by
 rcases h.2 with ⟨h1,_⟩|⟨g',cap',cur,h1,h2,h3,h4,h5,h6,h7⟩
 ·cases h1
 ·cases h1;have s1:=sM (i:=i*2) h3 (.int .i32 x.1);have s2:=sM (i:=i*2+1) s1 (.int .i32 x.2);rw[sU];refine⟨?_,sG ⟨g,cap,_,rfl,h2,s2,h4,h5,by simp[h6],?_⟩⟩
  ·rw[kZ,sU]
  ·rw[<-zee l i x hi,<-h7];simp[tB]
end Dc
namespace Dc
open Go.RowKit
theorem zbM(w:sK)(g:Rg)(T:tg):∀j u,(rgc g)[j]?=some u->(w.alloc (.cells #[.int .i32 g.1,.int .i32 g.2] T)).cell? ((⟨w.heap.size,0,none⟩:Addr).add j)=some u:=fun j u hj=>by rw[show(⟨w.heap.size,0,none⟩:Addr).add j=⟨w.heap.size,j,none⟩ by unfold Addr.add;split<;>simp_all];rw[td _ w.heap.size j #[.int .i32 g.1,.int .i32 g.2] T (0,0) (show(w.heap.push _)[w.heap.size]?=_ by simp)];rw[<-hj];simp[rgc]
def cH(l:List Rg)(i:Nat)(y:Rg):List Rg:=l.take i++y::l.drop i
theorem fZ(l:List Rg)(i:Nat)(y:Rg)(h:i<=l.length):(cH l i y).length=l.length+1:=by unfold cH;simp;omega
theorem zol(l:List Rg)(y:Rg):cH l l.length y=l++[y]:=by unfold cH;simp
theorem zok(l:List Rg)(i k:Nat)(y:Rg)(h:i<=l.length)(hk:k<i):(cH l i y)[k]?=l[k]? :=by unfold cH;rw[List.getElem?_append_left (by rw[sL];omega),List.getElem?_take_of_lt hk]
theorem zeU(l:List Rg)(i:Nat)(y x:Rg)(h:i<=l.length):(cH l i y).set i x=cH l i x:=by
 unfold cH;rw[ta _ _ (by rw[sL];omega)];have:i-(l.take i).length=0:=by rw[sL];omega
 rw[this];rfl
theorem zkU(l:List Rg)(i:Nat)(h:i+1<=l.length):cH l (i+1) l[i]=cH l i l[i]:=by unfold cH;rw[sI (by omega),List.append_assoc,sJ (show i<l.length by omega)];rfl
theorem zrh(l:List Rg)(i:Nat)(y:Rg)(h:i<=l.length):(cH l i y)[i]?=some y:=by
 unfold cH;rw[sO (by rw[sL];omega)];have:i-(l.take i).length=0:=by rw[sL];omega
 rw[this];rfl
theorem pK{w:sK}{B g n cap:Nat}{l:List Rg}(h:w.ownsRow B 146 2 (.slice (some ⟨g,0,none⟩) n cap) l.length (aH l))(k:Nat)(x:Rg)(hk:l[k]?=some x):
  w.cell? ⟨g,k*2,none⟩=some (.int .i32 x.1)/\w.cell? ⟨g,k*2+1,none⟩=some (.int .i32 x.2):=by
 obtain⟨ao,cap',e,_,hc⟩:=fR h;cases e;obtain⟨g',e',_,h1,h2⟩:=hc k x hk;cases e';exact⟨h1,h2⟩
set_option maxRecDepth 100000 in
theorem oy(B:Nat)(v:sN)(l:List Rg)(x:Rg)(w:sK)(h:w.ownsRow B 146 2 v l.length (aH l))(hB:B<=w.heap.size)(hl:l.length<=1000000):
  Calls Tryz.prog 180 #[v,.agg #[.int .i32 x.1,.int .i32 x.2]] w fun e w'=>∃(v':sN)(p:Nat),e=.returned v'/\p<=l.length/\(∀(j:Nat)(g:Rg),p<=j->l[j]?=some g->x.1<g.1)/\(∀(j:Nat)(g:Rg),j+1=p->l[j]?=some g->g.1<=x.1)∧
   w'.ownsRow B 146 2 v' (cH l p x).length (aH (cH l p x))/\tz B w w':=by
 obtain⟨i0,hi,hz0,hz1,hz2⟩:=info_parts Tryz.infoRange;obtain⟨x0,x1⟩:=x;go_enter Tryz.func180,Tryz.ntmps180;go_wp2_with (at_builtin;refine wpList_append_lies _ rfl _ _ 125 rfl B 146 i0 (.agg #[.int .i32 0,.int .i32 0]) 2 8 Tryz.underlying125 hi hz0 hz1 hz2 rfl (by decide) _ _ _ rfl ((h.alloc _).alloc _) ⟨w.heap.size+1,0,none⟩ 1 1 (rgc (x0,x1)) rfl rfl ?c1 ?c2 (by decide) ?c3 ?c4 ?c5 (w.heap.size+1+1) (by simp) ?_)
 case c1=>have hn:=zbM (w.alloc (.cells #[.int .i32 x0,.int .i32 x1] 146)) (x0,x1) 146;rw[sK.size_alloc]at hn;exact hn
 case c2=>exact ez _
 case c3=>unfold maxLen;omega
 case c4=>omega
 case c5=>simp;omega
 intro g cap w1 o1 gr1 hlie hg1;have hb1:tz B w w1:=(((tz.refl B w).alloc hB _).alloc (by simp;omega) _).grown gr1 (by simp;omega) (fun k hk=>(h.lt k hk).1);have hbox:w1.heap[w.heap.size]?=some (.cells #[.int .i32 x0,.int .i32 x1] 146 (0,0)):=by rw[gr1.block w.heap.size (by simp;omega) (fun e=>by have:=(h.lt _ e.symm).2;omega),tz.heap_alloc _ _ _ (by simp)];show(w.heap.push _)[w.heap.size]?=_;simp
 have o1':w1.ownsRow B 146 2 (.slice (some ⟨g,0,none⟩) (l.length+1) cap) (cH l l.length (x0,x1)).length (aH (cH l l.length (x0,x1))):=by rw[zol,dh,tf];exact o1
 have hgne:g≠w.heap.size:=by
  rcases hlie with e|e
  ·have:=(h.lt g e).2;omega
  ·omega
 have hgB:B<=g:=by
  rcases hlie with e|e
  ·exact(h.lt g e).1
  ·omega
 have HB1:=aa hb1;have HBX:=aa hbox;clear hbox hb1 o1 gr1 hlie h hg1;go_wp2;go_loopw [5] (fun i wr=>∃(k:Nat)(y:Rg),k<=l.length/\i=.int .i64 k/\ae (wr.ownsRow B 146 2 (.slice (some ⟨g,0,none⟩) (l.length+1) cap) (cH l k y).length (aH (cH l k y)))/\ae (∀(j:Nat)(z:Rg),k<=j->l[j]?=some z->x0<z.1)/\ae (wr.heap[w.heap.size]?=some (.cells #[.int .i32 x0,.int .i32 x1] 146 (0,0)))/\ae (tz B w wr)) (fun i _=>(sQ i).toNat)
 case atStart=>exact⟨l.length,(x0,x1),by omega,by go_num,o1',fun j z hj hz=>(by rw[List.getElem?_eq_none hj]at hz;cases hz),HBX,HB1⟩
 case round=>
  obtain⟨k,y,hk,rfl,HO,HG,HX,HB⟩:=hrel;obtain⟨p0,p1⟩:=pK HO.o k y (zrh l k y hk);have q0:=kw HO.o (k*2);have q1:=kw HO.o (k*2+1);have b0:wr.cell? ⟨w.heap.size,0,none⟩=some (.int .i32 x0):=by rw[td wr w.heap.size 0 _ 146 (0,0) HX.o];rfl
  have b1:wr.cell? ⟨w.heap.size,1,none⟩=some (.int .i32 x1):=by rw[td wr w.heap.size 1 _ 146 (0,0) HX.o];rfl
  have HFIN:=aa (show((wr.setCell ⟨g,k*2,none⟩ (.int .i32 x0)).setCell ⟨g,k*2+1,none⟩ (.int .i32 x1)).ownsRow B 146 2 (.slice (some ⟨g,0,none⟩) (l.length+1) cap) (cH l k (x0,x1)).length (aH (cH l k (x0,x1))) by have:=zio HO.o k (x0,x1) (by rw[fZ l k y hk];omega);rw[zeU l k y (x0,x1) hk]at this;exact this);by_cases hk0:k=0
  ·have t0:decide ((0:Int)<(k:Int))=false:=by simp;omega
   have t1:¬0<k:=by omega
   have HK0:=aa hk0;clear hk0;go_wp2_with fail;go_quiet (fail);go_wp2;go_ret;exact⟨_,k,rfl,hk,HG.o,fun j z hj=>(by have:=HK0.o;omega),HFIN.o,((sR HB.o _).setCell (p:=⟨g,k*2,none⟩) hgB _).setCell (p:=⟨g,k*2+1,none⟩) hgB _⟩
  ·obtain⟨j,hj⟩:∃j,k=j+1:=⟨k-1,by omega⟩;have hjl:j<l.length:=by omega
   have HLJ:ae (l[j]?=some l[j]):=aa (sE hjl);obtain⟨r0,r1⟩:=pK HO.o j l[j] (by rw[zok l k j y hk (by omega)];exact HLJ.o);have t0:decide ((0:Int)<(k:Int))=true:=by simp;omega
   have t1:0<k:=by omega
   have esub:(k:Int)-1=(j:Int):=by omega
   have ewr:tw.wrap ((k:Int)-1)=(j:Int):=by rw[sY];omega
   have ewr2:tw.wrap (j:Int)=(j:Int):=by rw[sY];omega
   have i1:(0:Int)<=(j:Int):=by omega
   have i2:(j:Int)<(l.length:Int)+1:=by omega
   have i3:(k:Int)<(l.length:Int)+1:=by omega
   have HSH:=aa (show((wr.setCell ⟨g,k*2,none⟩ (.int .i32 l[j].1)).setCell ⟨g,k*2+1,none⟩ (.int .i32 l[j].2)).ownsRow B 146 2 (.slice (some ⟨g,0,none⟩) (l.length+1) cap) (cH l j l[j]).length (aH (cH l j l[j])) by have:=zio HO.o k l[j] (by rw[fZ l k y hk];omega);rw[zeU l k y l[j] hk]at this;subst hj;rw[zkU l j (by omega)]at this;exact this);have HLJ2:ae (∀z:Rg,l[j]?=some z->z.1=l[j].1):=aa (fun z hz=>by rw[HLJ.o]at hz;cases hz;rfl);have HJ:=aa hj;obtain⟨ej,hej⟩:=aj (l[j]);rw[<-hej]at r0 r1 HSH HLJ2;clear hej hj hk0 HLJ;obtain⟨e0,e1⟩:=ej;dsimp only at r0 r1 HSH HLJ2;by_cases hgt:x0<e0
   ·have HXS:ae (((wr.setCell ⟨g,k*2,none⟩ (.int .i32 e0)).setCell ⟨g,k*2+1,none⟩ (.int .i32 e1)).heap[w.heap.size]?=some (.cells #[.int .i32 x0,.int .i32 x1] 146 (0,0))):=aa (((tz.heap_setCell _ _ _ _ (show w.heap.size≠g from fun e=>hgne e.symm)).trans (tz.heap_setCell _ _ _ _ (show w.heap.size≠g from fun e=>hgne e.symm))).trans HX.o);clear HFIN;go_wp2_with fail;go_quiet (fail);go_wp2;go_roundw
    case rel=>exact⟨j,(e0,e1),by omega,by go_num,HSH.o,fun jj z hjj hz=>(by
     by_cases e:jj=j
     ·subst e;rw[HLJ2.o z hz];exact hgt
     ·exact HG.o jj z (by have:=HJ.o;omega) hz),HXS.o,((sR HB.o _).setCell (p:=⟨g,k*2,none⟩) hgB _).setCell (p:=⟨g,k*2+1,none⟩) hgB _⟩
    case measure=>simp[sQ];have:=HJ.o;omega
   ·clear HSH;go_wp2_with fail;go_quiet (fail);clear esub ewr ewr2 i1 i2 t0 r0 r1;go_wp2;go_ret;exact⟨_,k,rfl,hk,HG.o,fun jj z hjj hz=>(by
     have e:jj=j:=by have:=HJ.o;omega
     subst e;rw[HLJ2.o z hz];omega),HFIN.o,((sR HB.o _).setCell (p:=⟨g,k*2,none⟩) hgB _).setCell (p:=⟨g,k*2+1,none⟩) hgB _⟩
end Dc
namespace Dc
open Go.RowKit Go.Maps Go.WideMaps
theorem aO{w:sK}{b:Nat}{o:Obj}(h:w.heap[b]?=some o):b<w.heap.size:=(sP.1 h).1
theorem cD(w:sK)(o:Obj)(b:Nat)(h:b<w.heap.size):(w.alloc o).heap[b]?=w.heap[b]? :=by show(w.heap.push o)[b]?=_;rw[Array.getElem?_push];rw[if_neg (by omega)]
theorem heap_alloc_new(w:sK)(o:Obj):(w.alloc o).heap[w.heap.size]?=some o:=by show(w.heap.push o)[w.heap.size]?=_;simp
def oth:List UInt8:=[79,116,104,101,114]
theorem bj{w:sK}{B t s n:Nat}{v:sN}{xs:List sN}(h:w.ownsRow B t s v n xs)(b:Nat)(c:Array sN)(t':tg)(hb:w.heap[b]?=some (.cells c t' (0,0)))(ht:t≠t'):v.ownBlock≠some b:=fun e=>by
 rcases h.2 with ⟨h0,_⟩|⟨g,cap,cur,hv,_,hg,_⟩
 ·rw[h0]at e;cases e
 ·rw[hv]at e;have:g=b:=by simpa[sN.ownBlock]using e
  subst this;rw[hg]at hb;injection hb with hb;injection hb with _ h2 _;exact ht h2
theorem cy{w w':sK}{B t s n:Nat}{v:sN}{xs:List sN}(h:w.ownsRow B t s v n xs)(e:∀b,v.ownBlock=some b->w'.heap[b]?=w.heap[b]?):w'.ownsRow B t s v n xs:=by
 refine⟨h.1,?_⟩;rcases h.2 with h'|⟨q,cap,cur,hv,hB,hg,rest⟩
 ·exact .inl h'
 ·exact .inr ⟨q,cap,cur,hv,hB,(e q (by rw[hv];rfl)).trans hg,rest⟩
section
variable {B P K:Nat} {U:List (List UInt8)} {nv pv:sN} {w w':sK}
theorem cell_row(w:sK)(b j:Nat)(l:List sN)(t:tg)(v:sN)(h:w.heap[b]?=some (.cells l.toArray t (0,0)))(hv:l[j]?=some v):w.cell? ⟨b,j,none⟩=some v:=by rw[td w b j l.toArray t (0,0) h];simpa using hv
end
end Dc
namespace Dc
open Go.RowKit Go.Maps Go.WideMaps
theorem Tryz.infoStr:(Tryz.prog.info? 9).map (fun i=>(i.zero,i.size,i.bytes))=some (some (.string ⟨#[]⟩),1,16):=by kernel_rfl
theorem zgK(w:sK)(b:ByteArray)(T:tg):∀j u,[sN.string b][j]?=some u->(w.alloc (.cells #[.string b] T)).cell? ((⟨w.heap.size,0,none⟩:Addr).add j)=some u:=sK.news_of_block (cs:=#[.string b]) (heap_alloc_new w _)
theorem zbi(b:ByteArray):∀v∈ [sN.string b],v.oneCell'=true:=fun v hv=>by simp at hv;subst hv;rfl
theorem set_row(w:sK)(b j:Nat)(l:List sN)(t:tg)(u:sN)(h:w.heap[b]?=some (.cells l.toArray t (0,0))):(w.setCell ⟨b,j,none⟩ u).heap[b]?=some (.cells (l.set j u).toArray t (0,0)):=by have:=sM (i:=j) h u;rw[this];simp
theorem frozen_row{w:sK}{b:Nat}{l:Array sN}{t:tg}(h:w.heap[b]?=some (.cells l t (0,0)))(j:Nat):w.frozen? ⟨b,j,none⟩=false:=by unfold sK.frozen?;simp only[h];simp
end Dc
namespace Dc
open Go.RowKit
abbrev Tr:=Nat×Nat×Nat
theorem lC{w w':sK}{B e size n:Nat}{v:sN}{xs:List sN}(h:w.ownsRow B e size v n xs)(hb:tz w.heap.size w w'):w'.ownsRow B e size v n xs:=by
 refine⟨h.1,?_⟩;rcases h.2 with h'|⟨q,cap,cur,hv,hB,hg,rest⟩
 ·exact .inl h'
 ·exact .inr ⟨q,cap,cur,hv,hB,(hb.block q (sP.1 hg).1).trans hg,rest⟩
theorem iE{B n:Nat}{e:tg}{k:Nat}{v:sN}{xs:List sN}{w:sK}(h:w.ownsRow B e k v n xs):∃ao c,v=.slice ao n c:=by
 rcases h.2 with ⟨rfl,h5⟩|⟨q',qc,_,rfl,_⟩
 ·exact⟨none,0,by rw[h5]⟩
 ·exact⟨_,qc,rfl⟩
end Dc
namespace Dc
open Go.RowKit
def RdN(w:sK)(ao:Option Addr)(U:List (List UInt8)):Prop:=∀k b,U[k]?=some b->∃a,ao=some a/\a.block<w.heap.size/\w.cell? (a.add k)=some (.string ⟨b.toArray⟩)
theorem ll{B n:Nat}{w:sK}{U:List (List UInt8)}{v:sN}(h:w.ownsRow B 9 1 v n (nms U))(hn:n=U.length):∃ao ac,v=.slice ao n ac/\RdN w ao U:=by
 by_cases h0:U.length=0
 ·obtain⟨ao,ac,rfl⟩:=iE h;exact⟨ao,ac,rfl,fun k b hk=>by have h5:=(sV.1 hk).1;omega⟩
 ·obtain⟨q,cap,rfl,_,hq⟩:=h.form (by omega);refine⟨_,_,rfl,fun k b hk=>?_⟩;have hk':=(sV.1 hk).1;refine⟨_,rfl,hq,?_⟩;have h5:=h.cellAt k (by omega);have e:(⟨q,0,none⟩:Addr).add k=⟨q,k,none⟩:=by simp[Addr.add];exact fun h=>h.symm
  rw[e,h5];unfold nms;rw[List.getElem?_map,hk];rfl
end Dc
namespace Dc
open Go.RowKit
def clx(U:List (List UInt8))(b:List UInt8):Int:=if b∈U then (U.idxOf b:Int)else 0
def cly(U:List (List UInt8))(b:List UInt8):Bool:=decide (b∈U)
theorem zod(U:List (List UInt8))(b:List UInt8)(k:Nat)(hk:k<U.length)(h:U[k]=b)(hn:b ∉ U.take k):U.idxOf b=k:=by have e:U=U.take k++U.drop k:=(tc k U).symm;rw[e,List.idxOf_append,if_neg hn,sJ hk,h,List.idxOf_cons_self,sL];omega
set_option maxRecDepth 100000 in
theorem pS(Q:Nat)(no:Option Addr)(nc n:Nat)(U:List (List UInt8))(b:List UInt8)(w:sK)(h0:w.cell? ⟨Q,0,none⟩=some (.slice no n nc))(hU:RdN w no U)(hn:n=U.length)(hl:n<=1000000):
  Calls Tryz.prog 137 #[.pointer (some ⟨Q,0,none⟩),.string ⟨b.toArray⟩] w fun e w'=>e=.returned (.tuple #[.int .i64 (clx U b),.bool (cly U b)])/\w'=w:=by
 have HU:=aa hU;have HN:=aa hn;clear hU hn;go_enter Tryz.func137,Tryz.ntmps137;go_wp2;go_loopw [6] (fun x wr=>∃k:Nat,k<=n/\x=.int .i64 (k:Int)/\ae (b ∉ U.take k)/\wr=w) (fun x _=>n-(sQ x).toNat)
 case atStart=>exact⟨0,by omega,rfl,by show b ∉ U.take 0;simp,rfl⟩
 case round=>
  obtain⟨k,hk,rfl,HE,hw⟩:=hrel;subst hw;by_cases hlt:k<n
  ·have i3:(k:Int)<(n:Int):=by omega
   have i0':(0:Int)<=(k:Int):=by omega
   have hkU:k<U.length:=by have h5:=HN.o;omega
   obtain⟨a,rfl,ha,a0⟩:=HU.o k U[k] (sE hkU);have HY:=aa (fun h=>zod U b k hkU h HE.o);have HM:=aa (tu hkU);have HT:=aa (sI hkU);generalize U[k]=u at a0 HY HM HT;clear hkU;by_cases hub:u=b
   ·have HI:=aa (HY.o hub);subst hub;have HD1:ae (clx U u=(k:Int)):=aa (by unfold clx;rw[if_pos HM.o,HI.o]);have HD2:ae (cly U u=true):=aa (decide_eq_true HM.o);clear HM;go_wp2;go_ret2;exact⟨by rw[HD1.o,HD2.o];rfl,rfl⟩
   ·have HZ:=aa (show b ∉ U.take (k+1) by rw[HT.o,sD,not_or];exact⟨HE.o,fun h=>hub (List.mem_singleton.1 h).symm⟩);have hne:(u==b)=false:=beq_eq_false_iff_ne.2 hub;go_wp2;go_roundw
    case rel=>exact⟨k+1,by omega,by go_num,HZ,trivial⟩
    case measure=>simp[sQ];omega
  ·have i3:¬(k:Int)<(n:Int):=by omega
   have HZ:=aa (show b ∉ U by have h5:=HE.o;rw[sT (by have h6:=HN.o;omega)]at h5;exact h5);have HD1:ae (clx U b=0):=aa (by unfold clx;rw[if_neg HZ.o]);have HD2:ae (cly U b=false):=aa (decide_eq_false HZ.o);go_wp2;go_ret2;exact⟨by rw[HD1.o,HD2.o];rfl,rfl⟩
end Dc
namespace Dc
theorem zmQ:∀{l:List Rg} {b:Int} {j:Nat} {g:Rg},srt b l->l[j]?=some g->b<=g.1
 |[],_,_,_,_,h=>by cases h
 |x::l,b,0,g,hs,h=>by cases h;exact hs.1
 |x::l,b,j+1,g,hs,h=>by have h1:=zmQ hs.2.2.2 (show l[j]?=some g from h);have:=hs.1;omega
theorem iu:∀(l:List Rg)(p:Nat)(b:Int)(x:Rg),srt b l->p<=l.length->b<=x.1->x.1<=x.2->x.2<=cJ->(∀(j:Nat)(g:Rg),p<=j->l[j]?=some g->x.1<g.1)->(∀(j:Nat)(g:Rg),j+1=p->l[j]?=some g->g.1<=x.1)->srt b (cH l p x)
 |l,0,b,x,hs,_,h1,h2,h3,h4,_=>by
  show srt b (x::l);refine⟨h1,h2,h3,?_⟩;cases l with
  |nil=>trivial
  |cons g t=>exact⟨by have:=h4 0 g (Nat.le_refl _) rfl;omega,hs.2⟩
 |[],p+1,_,_,_,hp,_,_,_,_,_=>by simp at hp
 |g::t,p+1,b,x,hs,hp,h1,h2,h3,h4,h5=>by
  show srt b (g::cH t p x);obtain⟨s1,s2,s3,s4⟩:=hs;have hgx:g.1<=x.1:=by
   cases p with
   |zero=>exact h5 0 g rfl rfl
   |succ q=>
    have hq:q<t.length:=by simp at hp;omega
    have e:=sE hq;have h6:=h5 (q+1) t[q] rfl e;have h7:=zmQ s4 e;omega
  exact⟨s1,s2,s3,iu t p g.1 x s4 (by simp at hp;omega) hgx h2 h3 (fun j y hj hy=>h4 (j+1) y (by omega) hy) (fun j y hj hy=>h5 (j+1) y (by omega) hy)⟩
theorem zkS(l:List Rg)(p:Nat)(x:Rg)(r:Int):aI r (cH l p x) ↔ (x.1<=r/\r<=x.2)\/aI r l:=by
 have hm:∀g,g∈cH l p x ↔ g=x\/g∈l:=fun g=>by
  unfold cH;have h:=tc p l;constructor
  ·intro hg;rcases sD.1 hg with h1|h1
   ·exact sG (List.mem_of_mem_take h1)
   ·rcases te.1 h1 with h2|h2
    ·exact sH h2
    ·exact sG (List.mem_of_mem_drop h2)
  ·rintro (h1|h1)
   ·exact sD.2 (sG (te.2 (sH h1)))
   ·rw[<-h]at h1;rcases sD.1 h1 with h2|h2
    ·exact sD.2 (sH h2)
    ·exact sD.2 (sG (te.2 (sG h2)))
 rw[bK,bK];constructor
 ·rintro ⟨g,hg,h1⟩;rcases(hm g).1 hg with rfl|hg
  ·exact sH h1
  ·exact sG ⟨g,hg,h1⟩
 ·rintro (h1|⟨g,hg,h1⟩)
  ·exact⟨x,(hm x).2 (sH rfl),h1⟩
  ·exact⟨g,(hm g).2 (sG hg),h1⟩
def ins(x:Rg):List Rg->List Rg
 |[]=>[x]
 |y::t=>if y.1<=x.1 then y::ins x t else x::y::t
def zaw(l:List Rg):List Rg:=l.foldl (fun s x=>ins x s) []
theorem zif:∀(l:List Rg)(b:Int)(x:Rg),srt b l->b<=x.1->x.1<=x.2->x.2<=cJ->srt b (ins x l)
 |[],_,_,_,h1,h2,h3=>⟨h1,h2,h3,trivial⟩
 |y::t,b,x,hs,h1,h2,h3=>by
  obtain⟨s1,s2,s3,s4⟩:=hs;unfold ins;split
  ·rename_i h;exact⟨s1,s2,s3,zif t y.1 x s4 h h2 h3⟩
  ·rename_i h;exact⟨h1,h2,h3,by omega,s2,s3,s4⟩
theorem zeO:∀(l:List Rg)(x:Rg)(r:Int),aI r (ins x l) ↔ (x.1<=r/\r<=x.2)\/aI r l
 |[],_,_=>by simp[ins,aI]
 |y::t,x,r=>by
  unfold ins;split
  ·show((y.1<=r/\r<=y.2)\/aI r (ins x t)) ↔ _;rw[zeO t x r];show _ ↔ _\/(y.1<=r/\r<=y.2)\/aI r t;constructor
   ·rintro (h|h|h)
    ·exact sG (sH h)
    ·exact sH h
    ·exact sG (sG h)
   ·rintro (h|h|h)
    ·exact sG (sH h)
    ·exact sH h
    ·exact sG (sG h)
  ·exact Iff.rfl
theorem qm:∀(l s:List Rg),(∀g,g∈l->0<=g.1/\g.1<=g.2/\g.2<=cJ)->srt 0 s->srt 0 (l.foldl (fun s x=>ins x s) s)/\∀r,aI r (l.foldl (fun s x=>ins x s) s) ↔ aI r l\/aI r s
 |[],s,_,hs=>⟨hs,fun r=>by simp[aI]⟩
 |x::l,s,hv,hs=>by
  have hx:=hv x (List.mem_cons_self);have h:=qm l (ins x s) (fun g hg=>hv g (List.mem_cons_of_mem _ hg)) (zif s 0 x hs hx.1 hx.2.1 hx.2.2);refine⟨h.1,fun r=>?_⟩;rw[List.foldl_cons,h.2 r,zeO];show _ ↔ ((x.1<=r/\r<=x.2)\/aI r l)\/aI r s;constructor
  ·rintro (h|h|h)
   ·exact sH (sG h)
   ·exact sH (sH h)
   ·exact sG h
  ·rintro ((h|h)|h)
   ·exact sG (sH h)
   ·exact sH h
   ·exact sG (sG h)
theorem zlf(l:List Rg):∀g,g∈cut l->0<=g.1/\g.1<=g.2/\g.2<=cJ:=fun g hg=>by
 unfold cut at hg;rw[sZ,tj]at hg;obtain⟨⟨x,_,rfl⟩,h⟩:=hg;have h2:(zcq x).1<=(zcq x).2:=by simpa using h
 refine⟨?_,h2,?_⟩<;>unfold zcq<;>dsimp only<;>omega
def oE(l:List Rg):List Rg:=mrg (zaw (cut l))
theorem mO(l:List Rg):srt 0 (zaw (cut l))/\∀r,aI r (zaw (cut l)) ↔ bU r l:=by have h:=qm (cut l) [] (zlf l) trivial;exact⟨h.1,fun r=>by show aI r ((cut l).foldl (fun s x=>ins x s) []) ↔ _;rw[h.2 r,zvf];simp[aI]⟩
theorem d8(l:List Rg):nf (oE l):=znI (mO l).1
theorem d9(l:List Rg)(r:Int):aI r (oE l) ↔ bU r l:=by unfold oE;rw[znJ (mO l).1,(mO l).2]
theorem zqR{s l:List Rg}(h:srt 0 s)(hi:∀r,aI r s ↔ bU r l):mrg s=oE l:=
 zgH (znI h) (d8 l) (fun r=>by rw[znJ h,d9,hi])
def Mid(s out:List Rg)(k:Nat):Prop:=(k=0/\out=[])\/∃(P:List Rg)(lo hi:Int),out=P++[(lo,hi)]/\P++ia lo hi (s.drop k)=mrg s
theorem Mid.start(s:List Rg):Mid s [] 0:=sH ⟨rfl,rfl⟩
theorem Mid.first{s:List Rg}(h:0<s.length):Mid s [s[0]] 1:=by
 refine sG ⟨[],s[0].1,s[0].2,rfl,?_⟩;cases s with
 |nil=>simp at h
 |cons g t=>rfl
theorem Mid.more{s P:List Rg}{lo hi:Int}{k:Nat}(hk:k<s.length)(h:P++ia lo hi (s.drop k)=mrg s)(hc:hi+1<s[k].1):Mid s (P++[(lo,hi)]++[s[k]]) (k+1):=by
 refine sG ⟨P++[(lo,hi)],s[k].1,s[k].2,rfl,?_⟩;rw[<-h,sJ hk]
 conv=>rhs;unfold ia
 rw[if_pos hc];simp
theorem Mid.join{s P:List Rg}{lo hi:Int}{k:Nat}(hk:k<s.length)(h:P++ia lo hi (s.drop k)=mrg s)(hc:¬hi+1<s[k].1):Mid s (P++[(lo,max hi s[k].2)]) (k+1):=by
 refine sG ⟨P,lo,max hi s[k].2,rfl,?_⟩;rw[<-h,sJ hk]
 conv=>rhs;unfold ia
 rw[if_neg hc]
theorem Mid.done{s out:List Rg}{k:Nat}(h:Mid s out k)(hk:¬k<s.length):out=mrg s:=by
 rcases h with ⟨rfl,rfl⟩|⟨P,lo,hi,rfl,h⟩
 ·have:s=[]:=sX.1 (by omega);subst this;rfl
 ·rw[List.drop_of_length_le (by omega)]at h;exact h
end Dc
namespace Dc
open Go.RowKit
theorem qn(a b:List Rg)(r:Int):aI r (a++b) ↔ aI r a\/aI r b:=by
 rw[bK,bK,bK];constructor
 ·rintro ⟨g,hg,h⟩;rcases sD.1 hg with h1|h1
  ·exact sH ⟨g,h1,h⟩
  ·exact sG ⟨g,h1,h⟩
 ·rintro (⟨g,hg,h⟩|⟨g,hg,h⟩)
  ·exact⟨g,sD.2 (sH hg),h⟩
  ·exact⟨g,sD.2 (sG hg),h⟩
theorem qb(l:List Rg)(k:Nat)(hk:k<l.length)(r:Int):bU r (l.take (k+1)) ↔ bU r (l.take k)\/(0<=r/\r<=cJ/\l[k].1<=r/\r<=l[k].2):=by
 unfold bU;rw[sI hk,qn];show(0<=r/\r<=cJ/\(aI r (l.take k)\/((l[k].1<=r/\r<=l[k].2)\/False))) ↔ _;rw[or_false];constructor
 ·rintro ⟨a,b,c|c⟩
  ·exact sH ⟨a,b,c⟩
  ·exact sG ⟨a,b,c⟩
 ·rintro (⟨a,b,c⟩|⟨a,b,c⟩)
  ·exact⟨a,b,sH c⟩
  ·exact⟨a,b,sG c⟩
theorem zmL{l s:List Rg}{k:Nat}{c0 c1:Int}{p:Nat}(hk:k<l.length)(h:∀r,aI r s ↔ bU r (l.take k))(hc:∀r,(c0<=r/\r<=c1) ↔ (0<=r/\r<=cJ/\l[k].1<=r/\r<=l[k].2)):
  ∀r,aI r (cH s p (c0,c1)) ↔ bU r (l.take (k+1)):=fun r=>by
 rw[zkS,qb l k hk,h r];show(c0<=r/\r<=c1)\/_ ↔ _;rw[hc r];exact Or.comm
theorem zqt{l s:List Rg}{k:Nat}(hk:k<l.length)(h:∀r,aI r s ↔ bU r (l.take k))(hc:∀r,¬(0<=r/\r<=cJ/\l[k].1<=r/\r<=l[k].2)):
  ∀r,aI r s ↔ bU r (l.take (k+1)):=fun r=>by
 rw[qb l k hk,h r];exact⟨sH,fun x=>x.elim id (fun y=>(hc r y).elim)⟩
theorem zaj:∀(l:List Rg)(i:Nat)(a b c:Int),l[i]?=some (a,c)->(aH l).set (i*2+1) (.int .i32 b)=aH (l.set i (a,b))
 |[],_,_,_,_,h=>by cases h
 |x::l,0,a,b,c,h=>by cases h;rfl
 |x::l,i+1,a,b,c,h=>by
  have ih:=zaj l i a b c h;have e1:(i+1)*2=i*2+2:=by omega
  show(rgc x++aH l).set ((i+1)*2+1) _=rgc x++aH (l.set i (a,b));rw[<-ih,e1];rfl
theorem znc{w:sK}{B g n cap:Nat}{l:List Rg}(h:w.ownsRow B 146 2 (.slice (some ⟨g,0,none⟩) n cap) l.length (aH l))(i:Nat)(a b c:Int)(hi:l[i]?=some (a,c)):
  (w.setCell ⟨g,i*2+1,none⟩ (.int .i32 b)).ownsRow B 146 2 (.slice (some ⟨g,0,none⟩) n cap) (l.set i (a,b)).length (aH (l.set i (a,b))):=by
 rcases h.2 with ⟨h1,_⟩|⟨g',cap',cur,h1,h2,h3,h4,h5,h6,h7⟩
 ·cases h1
 ·cases h1;have s1:=sM (i:=i*2+1) h3 (.int .i32 b);rw[sU];refine⟨?_,sG ⟨g,cap,_,rfl,h2,s1,h4,h5,by simp[h6],?_⟩⟩
  ·rw[kZ,sU]
  ·rw[<-zaj l i a b c hi,<-h7];simp[tB]
theorem aZ{w:sK}{B B':Nat}{e:tg}{size:Nat}{v:sN}{n:Nat}{xs:List sN}(h:w.ownsRow B e size v n xs)(hB:B'<=B):w.ownsRow B' e size v n xs:=by
 refine⟨h.1,?_⟩;rcases h.2 with h0|⟨g,cap,cur,hv,hb,hg,hr⟩
 ·exact sH h0
 ·exact sG ⟨g,cap,cur,hv,Nat.le_trans hB hb,hg,hr⟩
theorem zmR:∀{l:List Rg} {b:Int} {j:Nat} {g:Rg},srt b l->l[j]?=some g->b<=g.1/\g.1<=g.2/\g.2<=cJ
 |[],_,_,_,_,h=>by cases h
 |x::l,b,0,g,hs,h=>by cases h;exact⟨hs.1,hs.2.1,hs.2.2.1⟩
 |x::l,b,j+1,g,hs,h=>by have h1:=zmR hs.2.2.2 (show l[j]?=some g from h);have:=hs.1;exact⟨by omega,h1.2⟩
theorem bJ(l:List Rg)(x:Rg):(l++[x]).length=l.length+1:=by simp
theorem zmS(P:List Rg)(x y:Rg):(P++[x]).set P.length y=P++[y]:=by rw[ta _ _ (Nat.le_refl _),Nat.sub_self];rfl
set_option maxRecDepth 100000 in
theorem mB(ao:Option Addr)(ac:Nat)(l:List Rg)(w:sK)(ha:RdR w ao l)(hl:l.length<=100000):
  Calls Tryz.prog 162 #[.slice ao l.length ac] w fun e w'=>∃v,e=.returned v/\w'.ownsRow w.heap.size 146 2 v (oE l).length (aH (oE l))/\tz w.heap.size w w':=by
 obtain⟨i0,hi,hz0,hz1,hz2⟩:=info_parts Tryz.infoRange;have HA:=aa ha;clear ha;go_enter Tryz.func162,Tryz.ntmps162;go_wp2;go_loopw [3,4] (fun v i wr=>∃(k:Nat)(s:List Rg),k<=l.length/\i=.int .i64 k/\ae (wr.ownsRow w.heap.size 146 2 v s.length (aH s))/\ae (srt 0 s)/\ae (∀r,aI r s ↔ bU r (l.take k))/\s.length<=k/\tz w.heap.size w wr) (fun _ i _=>l.length-(sQ i).toNat)
 case atStart=>exact⟨0,[],by omega,rfl,sK.ownsRow_nil _ _ _ _,trivial,fun r=>by simp[aI,bU],by simp,tz.refl _ _⟩
 case round=>
  obtain⟨k,s,hk,rfl,HO,HS,HM,hsk,hB⟩:=hrel;have hws:=hB.size;by_cases hlt:k<l.length
  ·obtain⟨a,rfl,ha,a0,a1⟩:=HA.o.below hB k l[k] (sE hlt);have HY:=aa (fun(c0 c1:Int)(p:Nat)=>zmL (c0:=c0) (c1:=c1) (p:=p) hlt HM.o);have HN:=aa (zqt hlt HM.o);generalize l[k].1=z0 at*;generalize l[k].2=z1 at*;by_cases h0:z0<0
   ·by_cases h1:1114111<z1
    ·by_cases hc:(0:Int)<=1114111
     ·go_wp2_with (go_at_call 180;refine(oy w.heap.size u3 s (0,1114111) (wr.alloc (.cells #[.int .i32 0,.int .i32 1114111] 146)) (HO.o.alloc _) (by simp;omega) (by omega)).mono ?_;rintro e w2 ⟨v2,p,rfl,hp,g1,g2,o2,b2⟩;have HO2:=aa o2;have HS2:=aa (iu s p 0 (0,1114111) HS.o hp (by dsimp only;omega) (by dsimp only;omega) (by unfold cJ;dsimp only;omega) g1 g2);have hlen:=fZ s p (0,1114111) hp;clear o2 g1 g2);go_roundw
      case rel=>exact⟨k+1,cH s p (0,1114111),by omega,by go_num,HO2,HS2,HY.o 0 1114111 p (fun r=>by unfold cJ;omega),by omega,(hB.alloc hB.size _).trans b2⟩
      case measure=>simp[sQ];omega
     ·exact absurd (show(0:Int)<=1114111 by omega) hc
    ·by_cases hc:(0:Int)<=z1
     ·go_wp2_with (go_at_call 180;refine(oy w.heap.size u3 s (0,z1) (wr.alloc (.cells #[.int .i32 0,.int .i32 z1] 146)) (HO.o.alloc _) (by simp;omega) (by omega)).mono ?_;rintro e w2 ⟨v2,p,rfl,hp,g1,g2,o2,b2⟩;have HO2:=aa o2;have HS2:=aa (iu s p 0 (0,z1) HS.o hp (by dsimp only;omega) (by dsimp only;omega) (by unfold cJ;dsimp only;omega) g1 g2);have hlen:=fZ s p (0,z1) hp;clear o2 g1 g2);go_roundw
      case rel=>exact⟨k+1,cH s p (0,z1),by omega,by go_num,HO2,HS2,HY.o 0 z1 p (fun r=>by unfold cJ;omega),by omega,(hB.alloc hB.size _).trans b2⟩
      case measure=>simp[sQ];omega
     ·have HN2:=aa (HN.o (fun r=>by unfold cJ;omega));go_wp2;go_roundw
      case rel=>exact⟨k+1,s,by omega,by go_num,HO.o.alloc _,HS,HN2,by omega,hB.alloc hB.size _⟩
      case measure=>simp[sQ];omega
   ·by_cases h1:1114111<z1
    ·by_cases hc:(z0:Int)<=1114111
     ·go_wp2_with (go_at_call 180;refine(oy w.heap.size u3 s (z0,1114111) (wr.alloc (.cells #[.int .i32 z0,.int .i32 1114111] 146)) (HO.o.alloc _) (by simp;omega) (by omega)).mono ?_;rintro e w2 ⟨v2,p,rfl,hp,g1,g2,o2,b2⟩;have HO2:=aa o2;have HS2:=aa (iu s p 0 (z0,1114111) HS.o hp (by dsimp only;omega) (by dsimp only;omega) (by unfold cJ;dsimp only;omega) g1 g2);have hlen:=fZ s p (z0,1114111) hp;clear o2 g1 g2);go_roundw
      case rel=>exact⟨k+1,cH s p (z0,1114111),by omega,by go_num,HO2,HS2,HY.o z0 1114111 p (fun r=>by unfold cJ;omega),by omega,(hB.alloc hB.size _).trans b2⟩
      case measure=>simp[sQ];omega
     ·have HN2:=aa (HN.o (fun r=>by unfold cJ;omega));go_wp2;go_roundw
      case rel=>exact⟨k+1,s,by omega,by go_num,HO.o.alloc _,HS,HN2,by omega,hB.alloc hB.size _⟩
      case measure=>simp[sQ];omega
    ·by_cases hc:(z0:Int)<=z1
     ·go_wp2_with (go_at_call 180;refine(oy w.heap.size u3 s (z0,z1) (wr.alloc (.cells #[.int .i32 z0,.int .i32 z1] 146)) (HO.o.alloc _) (by simp;omega) (by omega)).mono ?_;rintro e w2 ⟨v2,p,rfl,hp,g1,g2,o2,b2⟩;have HO2:=aa o2;have HS2:=aa (iu s p 0 (z0,z1) HS.o hp (by dsimp only;omega) (by dsimp only;omega) (by unfold cJ;dsimp only;omega) g1 g2);have hlen:=fZ s p (z0,z1) hp;clear o2 g1 g2);go_roundw
      case rel=>exact⟨k+1,cH s p (z0,z1),by omega,by go_num,HO2,HS2,HY.o z0 z1 p (fun r=>by unfold cJ;omega),by omega,(hB.alloc hB.size _).trans b2⟩
      case measure=>simp[sQ];omega
     ·have HN2:=aa (HN.o (fun r=>by unfold cJ;omega));go_wp2;go_roundw
      case rel=>exact⟨k+1,s,by omega,by go_num,HO.o.alloc _,HS,HN2,by omega,hB.alloc hB.size _⟩
      case measure=>simp[sQ];omega
  ·have HM2:ae (∀r,aI r s ↔ bU r l):=aa (by have h:=HM.o;rw[sT (by omega)]at h;exact h);have HNR:=aa (zqR HS.o HM2.o);obtain⟨so,sc,hu3,_,hrd⟩:=fR HO.o;subst hu3;have HRD:=aa hrd;obtain⟨nr,hnr⟩:=aj wr.heap.size;obtain⟨Wr,hWr⟩:=aj wr;rw[<-hWr]at HRD hB hws;have HB0:=aa hB;have hs5:s.length<=100000:=by omega
   clear hrd HM HM2 HO hB;rw[<-hWr];clear hWr hnr;go_wp2;clear hlt hk hsk;go_loopw [6,7] (fun v i wq=>∃(k:Nat)(O:List Rg),k<=s.length/\i=.int .i64 k/\ae (wq.ownsRow Wr.heap.size 146 2 v O.length (aH O))/\ae (Mid s O k)/\O.length<=k/\ae (∀g,g∈O->0<=g.2/\g.2<=1114111)/\ae (tz Wr.heap.size Wr wq)) (fun _ i _=>s.length-(sQ i).toNat)
   case atStart=>exact⟨0,[],by omega,rfl,sK.ownsRow_nil _ _ _ _,Mid.start s,by simp,fun g hg=>(by cases hg),tz.refl _ _⟩
   case round=>
    obtain⟨k,O,hk,rfl,HO,HMi,hok,HBD,HB⟩:=hrel;have hbs:=HB.o.size;by_cases hlt:k<s.length
    ·obtain⟨gs,rfl,hgs,y0,y1⟩:=HRD.o k s[k] (sE hlt);obtain⟨b1,b2,b3⟩:=zmR HS.o (sE hlt);unfold cJ at b3;replace y0:=(HB.o.cell (p:=⟨gs,k*2,none⟩) hgs).trans y0;replace y1:=(HB.o.cell (p:=⟨gs,k*2+1,none⟩) hgs).trans y1;rcases HMi.o with ⟨hk0,hO⟩|⟨Q,lo,hi',hO,hQ⟩
     ·subst hO;have HFI:ae (Mid s [s[k]] (k+1)):=aa (by subst hk0;exact Mid.first hlt);obtain⟨oo,oc,hu6,_,_⟩:=fR HO.o;subst hu6;obtain⟨f0,hf0⟩:=aj (s[k].1);obtain⟨f1,hf1⟩:=aj (s[k].2);have HF1:ae (Mid s [(f0,f1)] (k+1)):=aa (by have e:s[k]=(f0,f1):=Prod.ext hf0.symm hf1.symm;have h:=HFI.o;rw[e]at h;exact h);rw[<-hf0]at y0 b1 b2;rw[<-hf1]at y1 b2 b3;clear hf0 hf1 HFI hk0 HMi hok HBD;go_wp2_with fail;go_quiet (fail);go_wp2_with (at_builtin;refine tp _ rfl _ _ 125 rfl Wr.heap.size 146 i0 (.agg #[.int .i32 0,.int .i32 0]) 2 8 Tryz.underlying125 hi hz0 hz1 hz2 rfl (by decide) (.slice oo 0 oc) 0 [] rfl ((show(wr.drewN nq).ownsRow Wr.heap.size 146 2 (.slice oo 0 oc) 0 []from HO.o).alloc _) ⟨wr.heap.size,0,none⟩ 1 1 (rgc (f0,f1)) rfl rfl ?c1 ?c2 ?c3 ?c4 ?c5 ?_)
      case c1=>exact zbM (wr.drewN nq) (f0,f1) 146
      case c2=>exact ez _
      case c3=>unfold maxLen;omega
      case c4=>omega
      case c5=>simp;omega
      intro v2 w2 o2 gr2 _;have HO2:ae (w2.ownsRow Wr.heap.size 146 2 v2 [(f0,f1)].length (aH [(f0,f1)])):=aa o2;have HB2:=aa (((sR HB.o nq).alloc (by simp;omega) (.cells #[.int .i32 f0,.int .i32 f1] 146)).grown gr2 (by simp;omega) (fun j hj=>(HO.o.lt j hj).1));clear o2 gr2;go_wp2;go_roundw
      case rel=>exact⟨k+1,[(f0,f1)],by omega,by go_num,HO2,HF1,by simp,fun g hg=>(by simp at hg;subst hg;exact⟨by dsimp only;omega,b3⟩),HB2⟩
      case measure=>simp[sQ];omega
     ·subst hO;obtain⟨oo,oc,hu6,hog,_⟩:=fR HO.o;obtain⟨g,hoo,hgB,hgl⟩:=hog (by simp);subst hoo;subst hu6;obtain⟨p0,p1⟩:=pK HO.o Q.length (lo,hi') (by simp);have q1:=kw HO.o (Q.length*2+1);have hbd:=HBD.o (lo,hi') (by simp);obtain⟨n,hn⟩:=aj Q.length;have hOl:(Q++[(lo,hi')]).length=n+1:=by rw[hn];simp
      have HJ:=aa (fun hc=>Mid.join hlt hQ hc);have HMo:=aa (fun hc=>Mid.more hlt hQ hc);obtain⟨f0,hf0⟩:=aj (s[k].1);obtain⟨f1,hf1⟩:=aj (s[k].2);rw[<-hf0]at y0 b1 b2;rw[<-hf1]at y1 b2 b3;rw[<-hn]at p0 p1 q1;dsimp only at hbd p0 p1;have es:s[k]=(f0,f1):=Prod.ext hf0.symm hf1.symm;rw[<-hf0,<-hf1]at HJ;rw[<-hf0,es]at HMo;have HQL:=aa hn;have HOL:=aa hOl;clear hf0 hf1 es hn HMi hQ;have HO1:ae (wr.ownsRow Wr.heap.size 146 2 (.slice (some ⟨g,0,none⟩) (n+1) oc) (Q++[(lo,hi')]).length (aH (Q++[(lo,hi')]))):=aa (by have h:=HO.o;rw[hOl]at h⊢;exact h);rw[hOl]at hok⊢;clear hOl HO;have t0:decide ((0:Int)<(n:Int)+1)=true:=decide_eq_true (by omega);have esub:((n:Int)+1)-1=(n:Int):=by omega
      have ewr:tw.wrap (n:Int)=(n:Int):=by rw[sY];omega
      have ew32:IntKind.i32.wrap (hi'+1)=hi'+1:=by rw[IntKind.wrap_i32];omega
      have i1:(0:Int)<=(n:Int):=by omega
      have i2:(n:Int)<(n:Int)+1:=by omega
      have i3:(k:Int)<(s.length:Int):=by omega
      by_cases hc:hi'+1<f0
      ·have HF2:=aa (HMo.o hc);clear HJ HMo;go_wp2_with fail;go_quiet (fail);go_wp2_with (at_builtin;refine tp _ rfl _ _ 125 rfl Wr.heap.size 146 i0 (.agg #[.int .i32 0,.int .i32 0]) 2 8 Tryz.underlying125 hi hz0 hz1 hz2 rfl (by decide) (.slice (some ⟨g,0,none⟩) (n+1) oc) (Q++[(lo,hi')]).length (aH (Q++[(lo,hi')])) rfl ((show(wr.drewN nq).ownsRow Wr.heap.size 146 2 (.slice (some ⟨g,0,none⟩) (n+1) oc) (Q++[(lo,hi')]).length (aH (Q++[(lo,hi')]))from HO1.o).alloc _) ⟨wr.heap.size,0,none⟩ 1 1 (rgc (f0,f1)) rfl rfl ?c1 ?c2 ?c3 ?c4 ?c5 ?_)
       case c1=>exact zbM (wr.drewN nq) (f0,f1) 146
       case c2=>exact ez _
       case c3=>rw[HOL.o];unfold maxLen;omega
       case c4=>rw[HOL.o];omega
       case c5=>simp;omega
       intro v2 w2 o2 gr2 _;have HO2:ae (w2.ownsRow Wr.heap.size 146 2 v2 (Q++[(lo,hi')]++[(f0,f1)]).length (aH (Q++[(lo,hi')]++[(f0,f1)]))):=aa (by rw[dh,bJ,bJ];exact o2);have HB2:=aa (((sR HB.o nq).alloc (by simp;omega) (.cells #[.int .i32 f0,.int .i32 f1] 146)).grown gr2 (by simp;omega) (fun j hj=>(HO1.o.lt j hj).1));have hl2:(Q++[(lo,hi')]++[(f0,f1)]).length<=k+1:=by rw[bJ (Q++[(lo,hi')]),HOL.o];omega
       have HBD2:ae (∀x,x∈Q++[(lo,hi')]++[(f0,f1)]->0<=x.2/\x.2<=1114111):=aa (fun x hx=>by
        rcases sD.1 hx with h|h
        ·exact HBD.o x h
        ·simp at h;subst h;exact⟨by dsimp only;omega,b3⟩)
       clear o2 gr2;go_wp2;go_roundw
       case rel=>exact⟨k+1,Q++[(lo,hi')]++[(f0,f1)],by omega,by go_num,HO2,HF2,hl2,HBD2,HB2⟩
       case measure=>simp[sQ];omega
      ·have HF2:=aa (HJ.o hc);clear HJ HMo;by_cases hm:hi'<f1
       ·have HST:=aa (show(wr.setCell ⟨g,n*2+1,none⟩ (.int .i32 f1)).ownsRow Wr.heap.size 146 2 (.slice (some ⟨g,0,none⟩) (n+1) oc) (Q++[(lo,f1)]).length (aH (Q++[(lo,f1)])) by have h:=znc HO1.o n lo f1 hi' (by rw[HQL.o];simp);rw[HQL.o,zmS,<-HQL.o]at h;exact h);have HF3:ae (Mid s (Q++[(lo,f1)]) (k+1)):=aa (by have h:=HF2.o;rw[show max hi' f1=f1 by omega]at h;exact h);have hl2:(Q++[(lo,f1)]).length<=k+1:=by have:=HQL.o;simp;omega
        have HBD2:ae (∀x,x∈Q++[(lo,f1)]->0<=x.2/\x.2<=1114111):=aa (fun x hx=>by
         rcases sD.1 hx with h|h
         ·exact HBD.o x (sD.2 (sH h))
         ·simp at h;subst h;exact⟨by dsimp only;omega,b3⟩)
        go_wp2_with fail;go_quiet (fail);go_wp2_with fail;go_quiet (fail);go_wp2;go_roundw
        case rel=>exact⟨k+1,Q++[(lo,f1)],by omega,by go_num,HST.o,HF3,hl2,HBD2,(sR HB.o _).setCell (p:=⟨g,n*2+1,none⟩) hgB _⟩
        case measure=>simp[sQ];omega
       ·have HF3:ae (Mid s (Q++[(lo,hi')]) (k+1)):=aa (by have h:=HF2.o;rw[show max hi' f1=hi' by omega]at h;exact h);go_wp2_with fail;go_quiet (fail);go_wp2_with fail;go_quiet (fail);go_wp2;go_roundw
        case rel=>exact⟨k+1,Q++[(lo,hi')],by omega,by go_num,HO1.o,HF3,by rw[HOL.o];omega,HBD,sR HB.o _⟩
        case measure=>simp[sQ];omega
    ·have HD:=aa (HMi.o.done hlt);go_wp2;go_ret;exact⟨_,rfl,by rw[<-HNR.o,<-HD.o];exact aZ HO.o HB0.o.size,HB0.o.trans (HB.o.mono HB0.o.size)⟩
end Dc
namespace Dc
open Go.RowKit
theorem zbu{w:sK}{B:Nat}{v:sN}{l:List Rg}(h:w.ownsRow B 146 2 v l.length (aH l)):∃ao cap,v=.slice ao l.length cap/\RdR w ao l:=by
 obtain⟨ao,cap,e,_,hc⟩:=fR h;refine⟨ao,cap,e,fun k g hk=>?_⟩;obtain⟨b,rfl,h1,h2,h3⟩:=hc k g hk;have ea:(⟨b,0,none⟩:Addr).add (k*2)=⟨b,k*2,none⟩:=by unfold Addr.add;split<;>simp_all
 exact⟨_,rfl,h1,by rw[ea];exact h2,by rw[ea];exact h3⟩
end Dc
end Go.Proofs.YtbbapnpdfcgjnaaGreatDoor
