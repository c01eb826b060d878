/- DcA: parts of the proof, joined. -/
import Derived.Deep.AppendLies
import Derived.Lib.MapLaws
import Derived.BigQuiet
import Derived.WalkLawsBesides
import Derived.WalkSpells
import Derived.Lib.BufferMore
import Derived.Test.YtbbapnpdfcgjnaaGreatDoorProg
import Derived.Test.YtbbapnpdfcgjnaaGreatDoorEZz
open List renaming mem_append->sR, getElem?_eq_getElem->sS, take_succ_eq_append_getElem->sV, drop_eq_getElem_cons->sW, length_take->sY, getElem?_append_right->tc, take_of_length_le->ti, length_set->tj, getElem?_eq_some_iff->tk, length_eq_zero_iff->tp, mem_filter->tr, set_append_right->tt, take_append_drop->tu, mem_cons->tz, length_append->tA, mem_map->tD, any_eq_true->tH, getElem_mem->tJ, take_set->tN
open Or renaming inr->sT, inl->sU
open Go renaming World->sX, Value->ta, below_drewN->tf, cell_of_row->tw, TypeId->tB, wpList_append_own->tG
open Go.Lib renaming heap_setCell_same->sZ
open Array renaming getElem?_eq_some_iff->td
open Go.RowKit renaming intOf->te, Below->tL
open Int renaming lt_or_le->tg, le_refl->tn
open Go.IntKind renaming wrap_i64->tq, i64->tK
set_option maxHeartbeats 64000000
namespace Go.Proofs.YtbbapnpdfcgjnaaGreatDoor
namespace Dc
open Go.RowKit
end Dc
namespace Dc
abbrev Rg:=Int×Int
def cR:Int:=1114111
def aL(r:Int):List Rg->Prop
 |[]=>False
 |g::l=>(g.1<=r/\r<=g.2)\/aL r l
def nfF(b:Int):List Rg->Prop
 |[]=>True
 |g::l=>b<=g.1/\g.1<=g.2/\g.2<=cR/\nfF (g.2+2) l
def nf(l:List Rg):Prop:=nfF 0 l
theorem dw:∀{l:List Rg} {b r:Int},nfF b l->aL r l->b<=r
 |[],_,_,_,h=>h.elim
 |g::l,b,r,hn,h=>by
  obtain⟨h1,h2,_,h4⟩:=hn
  rcases h with ⟨a,_⟩|h
  ·omega
  ·have:=dw h4 h;omega
theorem lq:∀{l:List Rg} {b r:Int},nfF b l->aL r l->r<=cR
 |[],_,_,_,h=>h.elim
 |g::l,b,r,hn,h=>by
  obtain⟨_,_,h3,h4⟩:=hn
  rcases h with ⟨_,a⟩|h
  ·omega
  ·exact lq h4 h
theorem zfM:∀{l l':List Rg} {b b':Int},nfF b l->nfF b' l'->(∀r,aL r l ↔ aL r l')->l=l'
 |[],[],_,_,_,_,_=>rfl
 |[],g::l',_,_,_,hn,h=>by
  have:aL g.1 []:=(h g.1).2 (sU ⟨tn _,hn.2.1⟩);exact this.elim
 |g::l,[],_,_,hn,_,h=>by
  have:aL g.1 []:=(h g.1).1 (sU ⟨tn _,hn.2.1⟩);exact this.elim
 |g::l,g'::l',b,b',hn,hn',h=>by
  obtain⟨_,h2,_,h4⟩:=hn;obtain⟨_,h2',_,h4'⟩:=hn';have a1:g'.1<=g.1:=by
   rcases(h g.1).1 (sU ⟨tn _,h2⟩)with ⟨a,_⟩|a
   ·exact a
   ·have:=dw h4' a;omega
  have a2:g.1<=g'.1:=by
   rcases(h g'.1).2 (sU ⟨tn _,h2'⟩)with ⟨a,_⟩|a
   ·exact a
   ·have:=dw h4 a;omega
  have a3:g'.2<=g.2:=by
   rcases tg g.2 g'.2 with hlt|hle
   ·exfalso
    rcases(h (g.2+1)).2 (sU ⟨by omega,by omega⟩)with ⟨_,a⟩|a
    ·omega
    ·have:=dw h4 a;omega
   ·exact hle
  have a4:g.2<=g'.2:=by
   rcases tg g'.2 g.2 with hlt|hle
   ·exfalso
    rcases(h (g'.2+1)).1 (sU ⟨by omega,by omega⟩)with ⟨_,a⟩|a
    ·omega
    ·have:=dw h4' a;omega
   ·exact hle
  have eg:g=g':=Prod.ext (by omega) (by omega)
  subst eg;have et:l=l':=zfM h4 h4' (fun r=>⟨fun hr=>by
   have hge:=dw h4 hr
   rcases(h r).1 (sT hr)with ⟨_,a⟩|a
   ·omega
   ·exact a,fun hr=>by
   have hge:=dw h4' hr
   rcases(h r).2 (sT hr)with ⟨_,a⟩|a
   ·omega
   ·exact a⟩)
  rw[et]
def gT(lo hi:Int):List Rg->List Rg
 |[]=>[(lo,hi)]
 |g::t=>if hi+1<g.1 then (lo,hi)::gT g.1 g.2 t else gT lo (max hi g.2) t
def mrg:List Rg->List Rg
 |[]=>[]
 |g::t=>gT g.1 g.2 t
def srt(b:Int):List Rg->Prop
 |[]=>True
 |g::t=>b<=g.1/\g.1<=g.2/\g.2<=cR/\srt g.1 t
theorem zaH:∀{l:List Rg} {b lo hi:Int},b<=lo->lo<=hi->hi<=cR->srt lo l->nfF b (gT lo hi l)
 |[],_,_,_,h1,h2,h3,_=>⟨h1,h2,h3,trivial⟩
 |g::t,b,lo,hi,h1,h2,h3,hs=>by
  obtain⟨s1,s2,s3,s4⟩:=hs;unfold gT
  split
  ·exact⟨h1,h2,h3,zaH (by omega) s2 s3 s4⟩
  ·refine zaH h1 (by omega) (by omega) ?_
   cases t with
   |nil=>trivial
   |cons x t=>exact⟨by have:=s4.1;omega,s4.2⟩
theorem zaI:∀{l:List Rg} {lo hi:Int} (r:Int),lo<=hi->srt lo l->(aL r (gT lo hi l) ↔ (lo<=r/\r<=hi)\/aL r l)
 |[],_,_,_,_,_=>by simp[gT,aL]
 |g::t,lo,hi,r,h2,hs=>by
  obtain⟨s1,s2,s3,s4⟩:=hs;unfold gT
  split
  ·rename_i hc
   show((lo<=r/\r<=hi)\/aL r (gT g.1 g.2 t)) ↔ _
   rw[zaI r s2 s4];exact Iff.rfl
  ·rename_i hc
   have st:srt lo t:=by
    cases t with
    |nil=>trivial
    |cons x t=>exact⟨by have:=s4.1;omega,s4.2⟩
   rw[zaI r (by omega) st]
   show _ ↔ (lo<=r/\r<=hi)\/(g.1<=r/\r<=g.2)\/aL r t
   constructor
   ·rintro (⟨a,b⟩|h)
    ·rcases tg hi r with hr|hr
     ·exact sT (sU ⟨by omega,by omega⟩)
     ·exact sU ⟨a,hr⟩
    ·exact sT (sT h)
   ·rintro (⟨a,b⟩|⟨a,b⟩|h)
    ·exact sU ⟨a,by omega⟩
    ·exact sU ⟨by omega,by omega⟩
    ·exact sT h
theorem zmk{l:List Rg}(h:srt 0 l):nf (mrg l):=by
 cases l with
 |nil=>trivial
 |cons g t=>exact zaH h.1 h.2.1 h.2.2.1 h.2.2.2
theorem zml{l:List Rg}(h:srt 0 l)(r:Int):aL r (mrg l) ↔ aL r l:=by
 cases l with
 |nil=>exact Iff.rfl
 |cons g t=>exact zaI r h.2.1 h.2.2.2
def zbn(g:Rg):Rg:=(max g.1 0,min g.2 cR)
def cut(l:List Rg):List Rg:=(l.map zbn).filter fun g=>decide (g.1<=g.2)
def bW(r:Int)(l:List Rg):Prop:=0<=r/\r<=cR/\aL r l
theorem bL{r:Int}:∀{l:List Rg},aL r l ↔ ∃g,g∈l/\g.1<=r/\r<=g.2
 |[]=>by simp[aL]
 |g::l=>by simp[aL,bL (l:=l)]
theorem zvR{l:List Rg}{r:Int}:aL r (cut l) ↔ bW r l:=by
 unfold bW;rw[bL,bL];unfold cut
 constructor
 ·rintro ⟨g,hg,h1,h2⟩
  rw[tr,tD]at hg;obtain⟨⟨x,hx,rfl⟩,_⟩:=hg;unfold zbn at h1 h2
  dsimp only at h1 h2
  unfold cR at*;exact⟨by omega,by omega,x,hx,by omega,by omega⟩
 ·rintro ⟨h0,h1,x,hx,h2,h3⟩
  refine⟨zbn x,tr.2 ⟨tD.2 ⟨x,hx,rfl⟩,?_⟩,?_,?_⟩
  ·unfold zbn cR at*;simp;omega
  ·unfold zbn;dsimp only;omega
  ·unfold zbn;dsimp only;omega
def ntF(lo:Int):List Rg->List Rg
 |[]=>if lo<=cR then [(lo,cR)]else []
 |g::t=>if lo<g.1 then (lo,g.1-1)::ntF (g.2+1) t else ntF (g.2+1) t
theorem zfK:∀{l:List Rg} {lo b c:Int},nfF b l->b<=lo+1->lo<=b->c<=lo->nfF c (ntF lo l)
 |[],lo,b,c,_,_,_,hc=>by
  unfold ntF
  split
  ·exact⟨hc,by omega,tn _,trivial⟩
  ·trivial
 |g::t,lo,b,c,hn,h1,h2,hc=>by
  obtain⟨n1,n2,n3,n4⟩:=hn;unfold ntF
  split
  ·exact⟨hc,by omega,by dsimp only;omega,zfK n4 (by omega) (by omega) (by dsimp only;omega)⟩
  ·exact zfK n4 (by omega) (by omega) (by omega)
theorem zmb:∀{l:List Rg} {lo b:Int} (r:Int),nfF b l->lo<=b->(aL r (ntF lo l) ↔ lo<=r/\r<=cR/\¬aL r l)
 |[],lo,b,r,_,_=>by
  unfold ntF
  split
  ·simp[aL]
  ·rename_i h
   simp only[aL,not_false_eq_true,and_true,false_iff]
   omega
 |g::t,lo,b,r,hn,h2=>by
  obtain⟨n1,n2,n3,n4⟩:=hn;have ih:=zmb (lo:=g.2+1) r n4 (by omega)
  have key:∀x:Int,aL x t->g.2+2<=x:=fun x hx=>dw n4 hx
  unfold ntF
  split
  ·show((lo<=r/\r<=g.1-1)\/aL r (ntF (g.2+1) t)) ↔ _
   rw[ih]
   show _ ↔ lo<=r/\r<=cR/\¬((g.1<=r/\r<=g.2)\/aL r t)
   constructor
   ·rintro (⟨a,b⟩|⟨a,b,c⟩)
    ·exact⟨a,by omega,fun h=>h.elim (fun⟨x,_⟩=>by omega) (fun x=>by have:=key r x;omega)⟩
    ·exact⟨by omega,b,fun h=>h.elim (fun⟨_,x⟩=>by omega) c⟩
   ·rintro ⟨a,b,c⟩
    rcases tg r g.1 with hr|hr
    ·exact sU ⟨a,by omega⟩
    ·refine sT ⟨?_,b,fun x=>c (sT x)⟩
     rcases tg g.2 r with hr2|hr2
     ·omega
     ·exact(c (sU ⟨hr,hr2⟩)).elim
  ·rw[ih]
   show _ ↔ lo<=r/\r<=cR/\¬((g.1<=r/\r<=g.2)\/aL r t)
   constructor
   ·rintro ⟨a,b,c⟩
    exact⟨by omega,b,fun h=>h.elim (fun⟨_,x⟩=>by omega) c⟩
   ·rintro ⟨a,b,c⟩
    refine⟨?_,b,fun x=>c (sT x)⟩
    rcases tg g.2 r with hr2|hr2
    ·omega
    ·exact(c (sU ⟨by omega,hr2⟩)).elim
end Dc
namespace Dc
open Go.RowKit
theorem add_blk(a:Addr)(k:Nat):(a.add k).block=a.block:=by unfold Addr.add;split<;>rfl
def RdR(w:sX)(ao:Option Addr)(l:List Rg):Prop:=
 ∀(k:Nat)(g:Rg),l[k]?=some g->∃a:Addr,ao=some a/\a.block<w.heap.size/\w.cell? (a.add (k*2))=some (.int .i32 g.1)/\w.cell? ⟨(a.add (k*2)).block,(a.add (k*2)).off+1,none⟩=some (.int .i32 g.2)
theorem RdR.below{w w':sX}{ao:Option Addr}{l:List Rg}(h:RdR w ao l)(hb:tL w.heap.size w w'):RdR w' ao l:=fun k g hk=>by
 obtain⟨a,h1,h2,h3,h4⟩:=h k g hk;exact⟨a,h1,Nat.lt_of_lt_of_le h2 hb.size,(hb.cell (p:=a.add (k*2)) (by rw[add_blk];exact h2)).trans h3,(hb.cell (p:=⟨(a.add (k*2)).block,(a.add (k*2)).off+1,none⟩) (show(a.add (k*2)).block<_ by rw[add_blk];exact h2)).trans h4⟩
def qM(r:Int)(l:List Rg):Bool:=l.any fun g=>decide (g.1<=r)&&decide (r<=g.2)
theorem znT(r:Int)(l:List Rg):qM r l=true ↔ aL r l:=by
 unfold qM;rw[bL,tH]
 simp
def gM(r:Int)(l:List Rg):Bool:=decide (0<=r)&&(decide (r<=cR)&&qM r l)
theorem znS(r:Int)(l:List Rg):gM r l=true ↔ bW r l:=by
 unfold gM bW;rw[Bool.and_eq_true,Bool.and_eq_true,decide_eq_true_iff,decide_eq_true_iff,znT]
theorem zoZ(r:Int)(l:List Rg)(k:Nat)(hk:k<l.length)(h:qM r (l.take k)=false):qM r (l.take (k+1))=(decide (l[k].1<=r)&&decide (r<=l[k].2)):=by
 unfold qM at*;rw[sV hk,List.any_append,h]
 simp
theorem zrz(r:Int)(l:List Rg)(k:Nat)(hk:k<l.length)(h:(decide (l[k].1<=r)&&decide (r<=l[k].2))=true):qM r l=true:=by
 unfold qM;rw[tH];exact⟨l[k],tJ hk,h⟩
end Dc
namespace Dc
open Go.RowKit Go.Maps Go.WideMaps
def nms(l:List (List UInt8)):List ta:=l.map fun b=>.string ⟨b.toArray⟩
theorem pn(l:List (List UInt8))(b:List UInt8):nms (l++[b])=nms l++[.string ⟨b.toArray⟩]:=by simp[nms]
def gy(b:List UInt8)(U:List (List UInt8)):List (List UInt8)×Nat:=if b∈U then (U,U.idxOf b)else (U++[b],U.length)
end Dc
namespace Dc
open Go.RowKit
theorem oT(ao:Option Addr)(ac:Nat)(l:List Rg)(r:Int)(w:sX)(ha:RdR w ao l)(hl:l.length<=1000000000000):
  Calls Tryz.prog 126 #[.slice ao l.length ac,.int .i32 r] w fun e w'=>e=.returned (.bool (gM r l))/\w'=w:=by
 have HA:=aa ha;clear ha;go_enter Tryz.func126,Tryz.ntmps126;go_wp2;go_loopw [5] (fun i wr=>∃k:Nat,k<=l.length/\i=.int .i64 k/\ae (gM r (l.take k)=false)/\wr=w) (fun i _=>l.length-(te i).toNat)
 case atStart=>exact⟨0,by omega,rfl,by show gM r []=false;simp[gM,qM],rfl⟩
 case round=>
  obtain⟨k,hk,rfl,HN,hwr⟩:=hrel;obtain rfl:=hwr.symm;clear hwr
  by_cases hlt:k<l.length
  ·obtain⟨a,rfl,ha,a0,a1⟩:=HA.o k l[k] (sS hlt)
   have HY:=aa (zrz r l k hlt);have HT:=aa (zoZ r l k hlt)
   generalize l[k].1=z0 at*
   generalize l[k].2=z1 at*
   by_cases h0:0<=r
   ·by_cases h1:r<=1114111
    ·have HN':ae (qM r (l.take k)=false):=aa (by have h:=HN.o;unfold gM cR at h;simpa[h0,h1]using h)
     by_cases e1:z0<=r
     ·by_cases e2:r<=z1
      ·have HZ:ae (gM r l=true):=aa (by unfold gM cR;rw[HY.o (by simp[e1,e2])];simp[h0,h1])
       go_wp2;go_ret;exact⟨by rw[HZ.o];rfl,rfl⟩
      ·have HZ:ae (gM r (l.take (k+1))=false):=aa (by unfold gM;rw[HT.o HN'.o];simp;omega)
       go_wp2;go_roundw
       case rel=>exact⟨k+1,by omega,by go_num,HZ,by first|rfl|trivial⟩
       case measure=>simp[te];omega
     ·have HZ:ae (gM r (l.take (k+1))=false):=aa (by unfold gM;rw[HT.o HN'.o];simp;omega)
      go_wp2;go_roundw
      case rel=>exact⟨k+1,by omega,by go_num,HZ,by first|rfl|trivial⟩
      case measure=>simp[te];omega
    ·have HZ:ae (gM r (l.take (k+1))=false):=aa (by unfold gM cR;simp[h1])
     go_wp2;go_roundw
     case rel=>exact⟨k+1,by omega,by go_num,HZ,by first|rfl|trivial⟩
     case measure=>simp[te];omega
   ·have HZ:ae (gM r (l.take (k+1))=false):=aa (by unfold gM;simp[h0])
    go_wp2;go_roundw
    case rel=>exact⟨k+1,by omega,by go_num,HZ,by first|rfl|trivial⟩
    case measure=>simp[te];omega
  ·have HZ:ae (gM r l=false):=aa (by have h:=HN.o;rw[ti (by omega)]at h;exact h)
   go_wp2;go_ret;exact⟨by rw[HZ.o];rfl,rfl⟩
end Dc
namespace Dc
open Go.RowKit
theorem Tryz.infoRange:(Tryz.prog.info? 146).map (fun i=>(i.zero,i.size,i.bytes))=some (some (.agg #[.int .i32 0,.int .i32 0]),2,8):=by kernel_rfl
def rgc(g:Rg):List ta:=[.int .i32 g.1,.int .i32 g.2]
def aK(l:List Rg):List ta:=l.flatMap rgc
theorem db(l:List Rg)(g:Rg):aK (l++[g])=aK l++rgc g:=by simp[aK]
theorem kJ:∀l:List Rg,(aK l).length=l.length*2
 |[]=>rfl
 |g::l=>by
  show(rgc g++aK l).length=_
  rw[tA,kJ l,List.length_cons]
  show 2+_=_
  omega
theorem eb(g:Rg):∀u∈rgc g,u.oneCell'=true:=by intro u hu;simp[rgc]at hu;rcases hu with rfl|rfl<;>rfl
theorem zcu:∀(l:List Rg)(k:Nat)(g:Rg),l[k]?=some g->(aK l)[k*2]?=some (.int .i32 g.1)/\(aK l)[k*2+1]?=some (.int .i32 g.2)
 |[],_,_,h=>by cases h
 |x::l,0,g,h=>by cases h;exact⟨rfl,rfl⟩
 |x::l,k+1,g,h=>by
  have ih:=zcu l k g h;have e1:(k+1)*2=k*2+2:=by omega
  show(rgc x++aK l)[(k+1)*2]?=_/\(rgc x++aK l)[(k+1)*2+1]?=_
  rw[e1,tc (by simp[rgc]),tc (by simp[rgc])]
  simpa[rgc]using ih
theorem zct:∀(l:List Rg)(i:Nat)(g:Rg),i<l.length->((aK l).set (i*2) (.int .i32 g.1)).set (i*2+1) (.int .i32 g.2)=aK (l.set i g)
 |[],_,_,h=>by simp at h
 |x::l,0,g,_=>rfl
 |x::l,i+1,g,h=>by
  have ih:=zct l i g (by simpa using h)
  have e1:(i+1)*2=i*2+2:=by omega
  show((rgc x++aK l).set ((i+1)*2) _).set ((i+1)*2+1) _=rgc x++aK (l.set i g)
  rw[<- ih,e1]
  rfl
theorem fJ{w:sX}{B:Nat}{v:ta}{l:List Rg}(h:w.ownsRow B 146 2 v l.length (aK l)):∃ao cap,v=.slice ao l.length cap/\(0<l.length->∃g,ao=some ⟨g,0,none⟩/\B<=g/\g<w.heap.size)∧
  ∀(k:Nat)(x:Rg),l[k]?=some x->∃g,ao=some ⟨g,0,none⟩/\g<w.heap.size/\w.cell? ⟨g,k*2,none⟩=some (.int .i32 x.1)/\w.cell? ⟨g,k*2+1,none⟩=some (.int .i32 x.2):=by
 rcases h.2 with ⟨h1,h2⟩|⟨g,cap,cur,h1,h2,h3,h4,h5,h6,h7⟩
 ·have hl:l=[]:=tp.1 h2
  subst hl;exact⟨none,0,h1,fun h=>by simp at h,fun k x hk=>by cases hk⟩
 ·have hg:=(td.1 h3).1
  refine⟨some ⟨g,0,none⟩,cap,h1,fun _=>⟨g,rfl,h2,hg⟩,fun k x hk=>⟨g,rfl,hg,?_⟩⟩
  obtain⟨e1,e2⟩:=zcu l k x hk;have hc:∀j u,(aK l)[j]?=some u->w.cell? ⟨g,j,none⟩=some u:=fun j u hj=>by
   have:=h.cells (g:=g) (by rw[h1];rfl) j u hj
   rw[show(⟨g,0,none⟩:Addr).add j=⟨g,j,none⟩ by unfold Addr.add;split<;>simp_all]at this
   exact this
  exact⟨hc _ _ e1,hc _ _ e2⟩
theorem ka{w:sX}{B g n cap:Nat}{l:List Rg}(h:w.ownsRow B 146 2 (.slice (some ⟨g,0,none⟩) n cap) l.length (aK l))(j:Nat):w.frozen? ⟨g,j,none⟩=false:=by
 rcases h.2 with ⟨h1,_⟩|⟨g',cap',cur,h1,_,h3,_⟩
 ·cases h1
 ·cases h1
  exact frozen_of_row w g j cur 146 h3
theorem zht{w:sX}{B g n cap:Nat}{l:List Rg}(h:w.ownsRow B 146 2 (.slice (some ⟨g,0,none⟩) n cap) l.length (aK l))(i:Nat)(x:Rg)(hi:i<l.length):
  ((w.setCell ⟨g,i*2,none⟩ (.int .i32 x.1)).setCell ⟨g,i*2+1,none⟩ (.int .i32 x.2)).ownsRow B 146 2 (.slice (some ⟨g,0,none⟩) n cap) (l.set i x).length (aK (l.set i x)):=by
 rcases h.2 with ⟨h1,_⟩|⟨g',cap',cur,h1,h2,h3,h4,h5,h6,h7⟩
 ·cases h1
 ·cases h1
  have s1:=sZ (i:=i*2) h3 (.int .i32 x.1);have s2:=sZ (i:=i*2+1) s1 (.int .i32 x.2);rw[tj];refine⟨?_,sT ⟨g,cap,_,rfl,h2,s2,h4,h5,by simp[h6],?_⟩⟩
  ·rw[kJ,tj]
  ·rw[<- zct l i x hi,<- h7]
   simp[tN]
end Dc
namespace Dc
open Go.RowKit
theorem zaF(w:sX)(g:Rg)(T:tB):∀j u,(rgc g)[j]?=some u->(w.alloc (.cells #[.int .i32 g.1,.int .i32 g.2] T)).cell? ((⟨w.heap.size,0,none⟩:Addr).add j)=some u:=fun j u hj=>by
 rw[show(⟨w.heap.size,0,none⟩:Addr).add j=⟨w.heap.size,j,none⟩ by unfold Addr.add;split<;>simp_all]
 rw[tw _ w.heap.size j #[.int .i32 g.1,.int .i32 g.2] T (0,0) (show(w.heap.push _)[w.heap.size]?=_ by simp)]
 rw[<- hj]
 simp[rgc]
def cP(l:List Rg)(i:Nat)(y:Rg):List Rg:=l.take i++y::l.drop i
theorem fR(l:List Rg)(i:Nat)(y:Rg)(h:i<=l.length):(cP l i y).length=l.length+1:=by unfold cP;simp;omega
theorem znQ(l:List Rg)(y:Rg):cP l l.length y=l++[y]:=by unfold cP;simp
theorem znP(l:List Rg)(i k:Nat)(y:Rg)(h:i<=l.length)(hk:k<i):(cP l i y)[k]?=l[k]? :=by
 unfold cP;rw[List.getElem?_append_left (by rw[sY];omega),List.getElem?_take_of_lt hk]
theorem zez(l:List Rg)(i:Nat)(y x:Rg)(h:i<=l.length):(cP l i y).set i x=cP l i x:=by
 unfold cP;rw[tt _ _ (by rw[sY];omega)]
 have:i-(l.take i).length=0:=by rw[sY];omega
 rw[this];rfl
theorem zkl(l:List Rg)(i:Nat)(h:i+1<=l.length):cP l (i+1) l[i]=cP l i l[i]:=by
 unfold cP;rw[sV (by omega),List.append_assoc,sW (show i<l.length by omega)]
 rfl
theorem zqR(l:List Rg)(i:Nat)(y:Rg)(h:i<=l.length):(cP l i y)[i]?=some y:=by
 unfold cP;rw[tc (by rw[sY];omega)]
 have:i-(l.take i).length=0:=by rw[sY];omega
 rw[this];rfl
theorem oS{w:sX}{B g n cap:Nat}{l:List Rg}(h:w.ownsRow B 146 2 (.slice (some ⟨g,0,none⟩) n cap) l.length (aK l))(k:Nat)(x:Rg)(hk:l[k]?=some x):
  w.cell? ⟨g,k*2,none⟩=some (.int .i32 x.1)/\w.cell? ⟨g,k*2+1,none⟩=some (.int .i32 x.2):=by
 obtain⟨ao,cap',e,_,hc⟩:=fJ h
 cases e
 obtain⟨g',e',_,h1,h2⟩:=hc k x hk
 cases e'
 exact⟨h1,h2⟩
set_option maxRecDepth 100000 in
theorem nP(B:Nat)(v:ta)(l:List Rg)(x:Rg)(w:sX)(h:w.ownsRow B 146 2 v l.length (aK l))(hB:B<=w.heap.size)(hl:l.length<=1000000):
  Calls Tryz.prog 180 #[v,.agg #[.int .i32 x.1,.int .i32 x.2]] w fun e w'=>∃(v':ta)(p:Nat),e=.returned v'/\p<=l.length/\(∀(j:Nat)(g:Rg),p<=j->l[j]?=some g->x.1<g.1)/\(∀(j:Nat)(g:Rg),j+1=p->l[j]?=some g->g.1<=x.1)∧
   w'.ownsRow B 146 2 v' (cP l p x).length (aK (cP l p x))/\tL B w w':=by
 obtain⟨i0,hi,hz0,hz1,hz2⟩:=info_parts Tryz.infoRange;obtain⟨x0,x1⟩:=x;go_enter Tryz.func180,Tryz.ntmps180;go_wp2_with (at_builtin;refine wpList_append_lies _ rfl _ _ 125 rfl B 146 i0 (.agg #[.int .i32 0,.int .i32 0]) 2 8 Tryz.underlying125 hi hz0 hz1 hz2 rfl (by decide) _ _ _ rfl ((h.alloc _).alloc _) ⟨w.heap.size+1,0,none⟩ 1 1 (rgc (x0,x1)) rfl rfl ?c1 ?c2 (by decide) ?c3 ?c4 ?c5 (w.heap.size+1+1) (by simp) ?_)
 case c1=>
  have hn:=zaF (w.alloc (.cells #[.int .i32 x0,.int .i32 x1] 146)) (x0,x1) 146;rw[sX.size_alloc]at hn;exact hn
 case c2=>exact eb _
 case c3=>unfold maxLen;omega
 case c4=>omega
 case c5=>simp;omega
 intro g cap w1 o1 gr1 hlie hg1;have hb1:tL B w w1:=(((tL.refl B w).alloc hB _).alloc (by simp;omega) _).grown gr1 (by simp;omega) (fun k hk=>(h.lt k hk).1)
 have hbox:w1.heap[w.heap.size]?=some (.cells #[.int .i32 x0,.int .i32 x1] 146 (0,0)):=by
  rw[gr1.block w.heap.size (by simp;omega) (fun e=>by have:=(h.lt _ e.symm).2;omega),tL.heap_alloc _ _ _ (by simp)]
  show(w.heap.push _)[w.heap.size]?=_
  simp
 have o1':w1.ownsRow B 146 2 (.slice (some ⟨g,0,none⟩) (l.length+1) cap) (cP l l.length (x0,x1)).length (aK (cP l l.length (x0,x1))):=by rw[znQ,db,tA];exact o1
 have hgne:g≠w.heap.size:=by
  rcases hlie with e|e
  ·have:=(h.lt g e).2;omega
  ·omega
 have hgB:B<=g:=by
  rcases hlie with e|e
  ·exact(h.lt g e).1
  ·omega
 have HB1:=aa hb1;have HBX:=aa hbox;clear hbox hb1 o1 gr1 hlie h hg1;go_wp2;go_loopw [5] (fun i wr=>∃(k:Nat)(y:Rg),k<=l.length/\i=.int .i64 k/\ae (wr.ownsRow B 146 2 (.slice (some ⟨g,0,none⟩) (l.length+1) cap) (cP l k y).length (aK (cP l k y)))/\ae (∀(j:Nat)(z:Rg),k<=j->l[j]?=some z->x0<z.1)/\ae (wr.heap[w.heap.size]?=some (.cells #[.int .i32 x0,.int .i32 x1] 146 (0,0)))/\ae (tL B w wr)) (fun i _=>(te i).toNat)
 case atStart=>exact⟨l.length,(x0,x1),by omega,by go_num,o1',fun j z hj hz=>(by rw[List.getElem?_eq_none hj]at hz;cases hz),HBX,HB1⟩
 case round=>
  obtain⟨k,y,hk,rfl,HO,HG,HX,HB⟩:=hrel;obtain⟨p0,p1⟩:=oS HO.o k y (zqR l k y hk);have q0:=ka HO.o (k*2);have q1:=ka HO.o (k*2+1);have b0:wr.cell? ⟨w.heap.size,0,none⟩=some (.int .i32 x0):=by rw[tw wr w.heap.size 0 _ 146 (0,0) HX.o];rfl
  have b1:wr.cell? ⟨w.heap.size,1,none⟩=some (.int .i32 x1):=by rw[tw wr w.heap.size 1 _ 146 (0,0) HX.o];rfl
  have HFIN:=aa (show((wr.setCell ⟨g,k*2,none⟩ (.int .i32 x0)).setCell ⟨g,k*2+1,none⟩ (.int .i32 x1)).ownsRow B 146 2 (.slice (some ⟨g,0,none⟩) (l.length+1) cap) (cP l k (x0,x1)).length (aK (cP l k (x0,x1))) by
   have:=zht HO.o k (x0,x1) (by rw[fR l k y hk];omega)
   rw[zez l k y (x0,x1) hk]at this;exact this)
  by_cases hk0:k=0
  ·have t0:decide ((0:Int)<(k:Int))=false:=by simp;omega
   have t1:¬0<k:=by omega
   have HK0:=aa hk0;clear hk0;go_wp2_with fail;go_quiet (fail);go_wp2;go_ret;exact⟨_,k,rfl,hk,HG.o,fun j z hj=>(by have:=HK0.o;omega),HFIN.o,((tf HB.o _).setCell (p:=⟨g,k*2,none⟩) hgB _).setCell (p:=⟨g,k*2+1,none⟩) hgB _⟩
  ·obtain⟨j,hj⟩:∃j,k=j+1:=⟨k-1,by omega⟩
   have hjl:j<l.length:=by omega
   have HLJ:ae (l[j]?=some l[j]):=aa (sS hjl);obtain⟨r0,r1⟩:=oS HO.o j l[j] (by rw[znP l k j y hk (by omega)];exact HLJ.o)
   have t0:decide ((0:Int)<(k:Int))=true:=by simp;omega
   have t1:0<k:=by omega
   have esub:(k:Int)-1=(j:Int):=by omega
   have ewr:tK.wrap ((k:Int)-1)=(j:Int):=by rw[tq];omega
   have ewr2:tK.wrap (j:Int)=(j:Int):=by rw[tq];omega
   have i1:(0:Int)<=(j:Int):=by omega
   have i2:(j:Int)<(l.length:Int)+1:=by omega
   have i3:(k:Int)<(l.length:Int)+1:=by omega
   have HSH:=aa (show((wr.setCell ⟨g,k*2,none⟩ (.int .i32 l[j].1)).setCell ⟨g,k*2+1,none⟩ (.int .i32 l[j].2)).ownsRow B 146 2 (.slice (some ⟨g,0,none⟩) (l.length+1) cap) (cP l j l[j]).length (aK (cP l j l[j])) by
    have:=zht HO.o k l[j] (by rw[fR l k y hk];omega)
    rw[zez l k y l[j] hk]at this;subst hj;rw[zkl l j (by omega)]at this
    exact this)
   have HLJ2:ae (∀z:Rg,l[j]?=some z->z.1=l[j].1):=aa (fun z hz=>by rw[HLJ.o]at hz;cases hz;rfl)
   have HJ:=aa hj;obtain⟨ej,hej⟩:=am (l[j]);rw[<- hej]at r0 r1 HSH HLJ2;clear hej hj hk0 HLJ;obtain⟨e0,e1⟩:=ej
   dsimp only at r0 r1 HSH HLJ2
   by_cases hgt:x0<e0
   ·have HXS:ae (((wr.setCell ⟨g,k*2,none⟩ (.int .i32 e0)).setCell ⟨g,k*2+1,none⟩ (.int .i32 e1)).heap[w.heap.size]?=some (.cells #[.int .i32 x0,.int .i32 x1] 146 (0,0))):=aa (((tL.heap_setCell _ _ _ _ (show w.heap.size≠g from fun e=>hgne e.symm)).trans (tL.heap_setCell _ _ _ _ (show w.heap.size≠g from fun e=>hgne e.symm))).trans HX.o)
    clear HFIN;go_wp2_with fail;go_quiet (fail);go_wp2;go_roundw
    case rel=>exact⟨j,(e0,e1),by omega,by go_num,HSH.o,fun jj z hjj hz=>(by
     by_cases e:jj=j
     ·subst e;rw[HLJ2.o z hz];exact hgt
     ·exact HG.o jj z (by have:=HJ.o;omega) hz),HXS.o,((tf HB.o _).setCell (p:=⟨g,k*2,none⟩) hgB _).setCell (p:=⟨g,k*2+1,none⟩) hgB _⟩
    case measure=>simp[te];have:=HJ.o;omega
   ·clear HSH
    go_wp2_with fail;go_quiet (fail);clear esub ewr ewr2 i1 i2 t0 r0 r1;go_wp2;go_ret;exact⟨_,k,rfl,hk,HG.o,fun jj z hjj hz=>(by
     have e:jj=j:=by have:=HJ.o;omega
     subst e;rw[HLJ2.o z hz];omega),HFIN.o,((tf HB.o _).setCell (p:=⟨g,k*2,none⟩) hgB _).setCell (p:=⟨g,k*2+1,none⟩) hgB _⟩
end Dc
namespace Dc
open Go.RowKit Go.Maps Go.WideMaps
theorem aM{w:sX}{b:Nat}{o:Obj}(h:w.heap[b]?=some o):b<w.heap.size:=(td.1 h).1
theorem cG(w:sX)(o:Obj)(b:Nat)(h:b<w.heap.size):(w.alloc o).heap[b]?=w.heap[b]? :=by
 show(w.heap.push o)[b]?=_
 rw[Array.getElem?_push];rw[if_neg (by omega)]
theorem heap_alloc_new(w:sX)(o:Obj):(w.alloc o).heap[w.heap.size]?=some o:=by
 show(w.heap.push o)[w.heap.size]?=_
 simp
def oth:List UInt8:=[79,116,104,101,114]
theorem bg{w:sX}{B t s n:Nat}{v:ta}{xs:List ta}(h:w.ownsRow B t s v n xs)(b:Nat)(c:Array ta)(t':tB)(hb:w.heap[b]?=some (.cells c t' (0,0)))(ht:t≠t'):v.ownBlock≠some b:=fun e=>by
 rcases h.2 with ⟨h0,_⟩|⟨g,cap,cur,hv,_,hg,_⟩
 ·rw[h0]at e;cases e
 ·rw[hv]at e
  have:g=b:=by simpa[ta.ownBlock]using e
  subst this;rw[hg]at hb
  injection hb with hb
  injection hb with _ h2 _
  exact ht h2
theorem cE{w w':sX}{B t s n:Nat}{v:ta}{xs:List ta}(h:w.ownsRow B t s v n xs)(e:∀b,v.ownBlock=some b->w'.heap[b]?=w.heap[b]?):w'.ownsRow B t s v n xs:=by
 refine⟨h.1,?_⟩
 rcases h.2 with h'|⟨q,cap,cur,hv,hB,hg,rest⟩
 ·exact .inl h'
 ·exact .inr ⟨q,cap,cur,hv,hB,(e q (by rw[hv];rfl)).trans hg,rest⟩
section
variable {B P K:Nat} {U:List (List UInt8)} {nv pv:ta} {w w':sX}
theorem cell_row(w:sX)(b j:Nat)(l:List ta)(t:tB)(v:ta)(h:w.heap[b]?=some (.cells l.toArray t (0,0)))(hv:l[j]?=some v):w.cell? ⟨b,j,none⟩=some v:=by
 rw[tw w b j l.toArray t (0,0) h]
 simpa using hv
end
end Dc
namespace Dc
open Go.RowKit Go.Maps Go.WideMaps
theorem Tryz.infoStr:(Tryz.prog.info? 9).map (fun i=>(i.zero,i.size,i.bytes))=some (some (.string ⟨#[]⟩),1,16):=by kernel_rfl
theorem zfP(w:sX)(b:ByteArray)(T:tB):∀j u,[ta.string b][j]?=some u->(w.alloc (.cells #[.string b] T)).cell? ((⟨w.heap.size,0,none⟩:Addr).add j)=some u:=sX.news_of_block (cs:=#[.string b]) (heap_alloc_new w _)
theorem zaa(b:ByteArray):∀v∈ [ta.string b],v.oneCell'=true:=fun v hv=>by
 simp at hv;subst hv;rfl
theorem set_row(w:sX)(b j:Nat)(l:List ta)(t:tB)(u:ta)(h:w.heap[b]?=some (.cells l.toArray t (0,0))):(w.setCell ⟨b,j,none⟩ u).heap[b]?=some (.cells (l.set j u).toArray t (0,0)):=by
 have:=sZ (i:=j) h u;rw[this]
 simp
theorem frozen_row{w:sX}{b:Nat}{l:Array ta}{t:tB}(h:w.heap[b]?=some (.cells l t (0,0)))(j:Nat):w.frozen? ⟨b,j,none⟩=false:=by
 unfold sX.frozen?
 simp only[h]
 simp
end Dc
namespace Dc
open Go.RowKit
abbrev Tr:=Nat×Nat×Nat
theorem kT{w w':sX}{B e size n:Nat}{v:ta}{xs:List ta}(h:w.ownsRow B e size v n xs)(hb:tL w.heap.size w w'):w'.ownsRow B e size v n xs:=by
 refine⟨h.1,?_⟩
 rcases h.2 with h'|⟨q,cap,cur,hv,hB,hg,rest⟩
 ·exact .inl h'
 ·exact .inr ⟨q,cap,cur,hv,hB,(hb.block q (td.1 hg).1).trans hg,rest⟩
theorem io{B n:Nat}{e:tB}{k:Nat}{v:ta}{xs:List ta}{w:sX}(h:w.ownsRow B e k v n xs):∃ao c,v=.slice ao n c:=by
 rcases h.2 with ⟨rfl,h5⟩|⟨q',qc,_,rfl,_⟩
 ·exact⟨none,0,by rw[h5]⟩
 ·exact⟨_,qc,rfl⟩
end Dc
namespace Dc
open Go.RowKit
def RdN(w:sX)(ao:Option Addr)(U:List (List UInt8)):Prop:=∀k b,U[k]?=some b->∃a,ao=some a/\a.block<w.heap.size/\w.cell? (a.add k)=some (.string ⟨b.toArray⟩)
theorem nN{B n:Nat}{w:sX}{U:List (List UInt8)}{v:ta}(h:w.ownsRow B 9 1 v n (nms U))(hn:n=U.length):∃ao ac,v=.slice ao n ac/\RdN w ao U:=by
 by_cases h0:U.length=0
 ·obtain⟨ao,ac,rfl⟩:=io h
  exact⟨ao,ac,rfl,fun k b hk=>by have h5:=(tk.1 hk).1;omega⟩
 ·obtain⟨q,cap,rfl,_,hq⟩:=h.form (by omega)
  refine⟨_,_,rfl,fun k b hk=>?_⟩
  have hk':=(tk.1 hk).1;refine⟨_,rfl,hq,?_⟩;have h5:=h.cellAt k (by omega)
  have e:(⟨q,0,none⟩:Addr).add k=⟨q,k,none⟩:=by simp[Addr.add];exact fun h=>h.symm
  rw[e,h5];unfold nms;rw[List.getElem?_map,hk]
  rfl
end Dc
namespace Dc
open Go.RowKit
def clx(U:List (List UInt8))(b:List UInt8):Int:=if b∈U then (U.idxOf b:Int)else 0
def cly(U:List (List UInt8))(b:List UInt8):Bool:=decide (b∈U)
theorem znJ(U:List (List UInt8))(b:List UInt8)(k:Nat)(hk:k<U.length)(h:U[k]=b)(hn:b ∉ U.take k):U.idxOf b=k:=by
 have e:U=U.take k++U.drop k:=(tu k U).symm;rw[e,List.idxOf_append,if_neg hn,sW hk,h,List.idxOf_cons_self,sY];omega
set_option maxRecDepth 100000 in
theorem zfz(Q:Nat)(no:Option Addr)(nc n:Nat)(U:List (List UInt8))(b:List UInt8)(w:sX)(h0:w.cell? ⟨Q,0,none⟩=some (.slice no n nc))(hU:RdN w no U)(hn:n=U.length)(hl:n<=1000000):
  Calls Tryz.prog 137 #[.pointer (some ⟨Q,0,none⟩),.string ⟨b.toArray⟩] w fun e w'=>e=.returned (.tuple #[.int .i64 (clx U b),.bool (cly U b)])/\w'=w:=by
 have HU:=aa hU;have HN:=aa hn;clear hU hn;go_enter Tryz.func137,Tryz.ntmps137;go_wp2;go_loopw [6] (fun x wr=>∃k:Nat,k<=n/\x=.int .i64 (k:Int)/\ae (b ∉ U.take k)/\wr=w) (fun x _=>n-(te x).toNat)
 case atStart=>exact⟨0,by omega,rfl,by show b ∉ U.take 0;simp,rfl⟩
 case round=>
  obtain⟨k,hk,rfl,HE,hw⟩:=hrel;subst hw
  by_cases hlt:k<n
  ·have i3:(k:Int)<(n:Int):=by omega
   have i0':(0:Int)<=(k:Int):=by omega
   have hkU:k<U.length:=by have h5:=HN.o;omega
   obtain⟨a,rfl,ha,a0⟩:=HU.o k U[k] (sS hkU);have HY:=aa (fun h=>znJ U b k hkU h HE.o)
   have HM:=aa (tJ hkU);have HT:=aa (sV hkU)
   generalize U[k]=u at a0 HY HM HT
   clear hkU
   by_cases hub:u=b
   ·have HI:=aa (HY.o hub)
    subst hub;have HD1:ae (clx U u=(k:Int)):=aa (by unfold clx;rw[if_pos HM.o,HI.o])
    have HD2:ae (cly U u=true):=aa (decide_eq_true HM.o);clear HM;go_wp2;go_ret2;exact⟨by rw[HD1.o,HD2.o];rfl,rfl⟩
   ·have HZ:=aa (show b ∉ U.take (k+1) by
     rw[HT.o,sR,not_or];exact⟨HE.o,fun h=>hub (List.mem_singleton.1 h).symm⟩)
    have hne:(u==b)=false:=beq_eq_false_iff_ne.2 hub;go_wp2;go_roundw
    case rel=>exact⟨k+1,by omega,by go_num,HZ,trivial⟩
    case measure=>simp[te];omega
  ·have i3:¬(k:Int)<(n:Int):=by omega
   have HZ:=aa (show b ∉ U by
    have h5:=HE.o;rw[ti (by have h6:=HN.o;omega)]at h5
    exact h5)
   have HD1:ae (clx U b=0):=aa (by unfold clx;rw[if_neg HZ.o])
   have HD2:ae (cly U b=false):=aa (decide_eq_false HZ.o);go_wp2;go_ret2;exact⟨by rw[HD1.o,HD2.o];rfl,rfl⟩
end Dc
namespace Dc
theorem zll:∀{l:List Rg} {b:Int} {j:Nat} {g:Rg},srt b l->l[j]?=some g->b<=g.1
 |[],_,_,_,_,h=>by cases h
 |x::l,b,0,g,hs,h=>by cases h;exact hs.1
 |x::l,b,j+1,g,hs,h=>by
  have h1:=zll hs.2.2.2 (show l[j]?=some g from h)
  have:=hs.1;omega
theorem ib:∀(l:List Rg)(p:Nat)(b:Int)(x:Rg),srt b l->p<=l.length->b<=x.1->x.1<=x.2->x.2<=cR->(∀(j:Nat)(g:Rg),p<=j->l[j]?=some g->x.1<g.1)->(∀(j:Nat)(g:Rg),j+1=p->l[j]?=some g->g.1<=x.1)->srt b (cP l p x)
 |l,0,b,x,hs,_,h1,h2,h3,h4,_=>by
  show srt b (x::l)
  refine⟨h1,h2,h3,?_⟩
  cases l with
  |nil=>trivial
  |cons g t=>exact⟨by have:=h4 0 g (Nat.le_refl _) rfl;omega,hs.2⟩
 |[],p+1,_,_,_,hp,_,_,_,_,_=>by simp at hp
 |g::t,p+1,b,x,hs,hp,h1,h2,h3,h4,h5=>by
  show srt b (g::cP t p x)
  obtain⟨s1,s2,s3,s4⟩:=hs;have hgx:g.1<=x.1:=by
   cases p with
   |zero=>exact h5 0 g rfl rfl
   |succ q=>
    have hq:q<t.length:=by simp at hp;omega
    have e:=sS hq;have h6:=h5 (q+1) t[q] rfl e;have h7:=zll s4 e;omega
  exact⟨s1,s2,s3,ib t p g.1 x s4 (by simp at hp;omega) hgx h2 h3 (fun j y hj hy=>h4 (j+1) y (by omega) hy) (fun j y hj hy=>h5 (j+1) y (by omega) hy)⟩
theorem zkj(l:List Rg)(p:Nat)(x:Rg)(r:Int):aL r (cP l p x) ↔ (x.1<=r/\r<=x.2)\/aL r l:=by
 have hm:∀g,g∈cP l p x ↔ g=x\/g∈l:=fun g=>by
  unfold cP;have h:=tu p l
  constructor
  ·intro hg
   rcases sR.1 hg with h1|h1
   ·exact sT (List.mem_of_mem_take h1)
   ·rcases tz.1 h1 with h2|h2
    ·exact sU h2
    ·exact sT (List.mem_of_mem_drop h2)
  ·rintro (h1|h1)
   ·exact sR.2 (sT (tz.2 (sU h1)))
   ·rw[<- h]at h1
    rcases sR.1 h1 with h2|h2
    ·exact sR.2 (sU h2)
    ·exact sR.2 (sT (tz.2 (sT h2)))
 rw[bL,bL]
 constructor
 ·rintro ⟨g,hg,h1⟩
  rcases(hm g).1 hg with rfl|hg
  ·exact sU h1
  ·exact sT ⟨g,hg,h1⟩
 ·rintro (h1|⟨g,hg,h1⟩)
  ·exact⟨x,(hm x).2 (sU rfl),h1⟩
  ·exact⟨g,(hm g).2 (sT hg),h1⟩
def ins(x:Rg):List Rg->List Rg
 |[]=>[x]
 |y::t=>if y.1<=x.1 then y::ins x t else x::y::t
def rW(l:List Rg):List Rg:=l.foldl (fun s x=>ins x s) []
theorem zhn:∀(l:List Rg)(b:Int)(x:Rg),srt b l->b<=x.1->x.1<=x.2->x.2<=cR->srt b (ins x l)
 |[],_,_,_,h1,h2,h3=>⟨h1,h2,h3,trivial⟩
 |y::t,b,x,hs,h1,h2,h3=>by
  obtain⟨s1,s2,s3,s4⟩:=hs;unfold ins
  split
  ·rename_i h;exact⟨s1,s2,s3,zhn t y.1 x s4 h h2 h3⟩
  ·rename_i h;exact⟨h1,h2,h3,by omega,s2,s3,s4⟩
theorem zes:∀(l:List Rg)(x:Rg)(r:Int),aL r (ins x l) ↔ (x.1<=r/\r<=x.2)\/aL r l
 |[],_,_=>by simp[ins,aL]
 |y::t,x,r=>by
  unfold ins
  split
  ·show((y.1<=r/\r<=y.2)\/aL r (ins x t)) ↔ _
   rw[zes t x r]
   show _ ↔ _\/(y.1<=r/\r<=y.2)\/aL r t
   constructor
   ·rintro (h|h|h)
    ·exact sT (sU h)
    ·exact sU h
    ·exact sT (sT h)
   ·rintro (h|h|h)
    ·exact sT (sU h)
    ·exact sU h
    ·exact sT (sT h)
  ·exact Iff.rfl
theorem pO:∀(l s:List Rg),(∀g,g∈l->0<=g.1/\g.1<=g.2/\g.2<=cR)->srt 0 s->srt 0 (l.foldl (fun s x=>ins x s) s)/\∀r,aL r (l.foldl (fun s x=>ins x s) s) ↔ aL r l\/aL r s
 |[],s,_,hs=>⟨hs,fun r=>by simp[aL]⟩
 |x::l,s,hv,hs=>by
  have hx:=hv x (List.mem_cons_self);have h:=pO l (ins x s) (fun g hg=>hv g (List.mem_cons_of_mem _ hg)) (zhn s 0 x hs hx.1 hx.2.1 hx.2.2)
  refine⟨h.1,fun r=>?_⟩
  rw[List.foldl_cons,h.2 r,zes]
  show _ ↔ ((x.1<=r/\r<=x.2)\/aL r l)\/aL r s
  constructor
  ·rintro (h|h|h)
   ·exact sU (sT h)
   ·exact sU (sU h)
   ·exact sT h
  ·rintro ((h|h)|h)
   ·exact sT (sU h)
   ·exact sU h
   ·exact sT (sT h)
theorem zkw(l:List Rg):∀g,g∈cut l->0<=g.1/\g.1<=g.2/\g.2<=cR:=fun g hg=>by
 unfold cut at hg;rw[tr,tD]at hg;obtain⟨⟨x,_,rfl⟩,h⟩:=hg;have h2:(zbn x).1<=(zbn x).2:=by simpa using h
 refine⟨?_,h2,?_⟩<;>unfold zbn<;>dsimp only<;>omega
def nV(l:List Rg):List Rg:=mrg (rW (cut l))
theorem mw(l:List Rg):srt 0 (rW (cut l))/\∀r,aL r (rW (cut l)) ↔ bW r l:=by
 have h:=pO (cut l) [] (zkw l) trivial;exact⟨h.1,fun r=>by
  show aL r ((cut l).foldl (fun s x=>ins x s) []) ↔ _
  rw[h.2 r,zvR]
  simp[aL]⟩
theorem dW(l:List Rg):nf (nV l):=zmk (mw l).1
theorem dX(l:List Rg)(r:Int):aL r (nV l) ↔ bW r l:=by
 unfold nV;rw[zml (mw l).1,(mw l).2]
theorem zqy{s l:List Rg}(h:srt 0 s)(hi:∀r,aL r s ↔ bW r l):mrg s=nV l:=
 zfM (zmk h) (dW l) (fun r=>by rw[zml h,dX,hi])
def Mid(s out:List Rg)(k:Nat):Prop:=(k=0/\out=[])\/∃(P:List Rg)(lo hi:Int),out=P++[(lo,hi)]/\P++gT lo hi (s.drop k)=mrg s
theorem Mid.start(s:List Rg):Mid s [] 0:=sU ⟨rfl,rfl⟩
theorem Mid.first{s:List Rg}(h:0<s.length):Mid s [s[0]] 1:=by
 refine sT ⟨[],s[0].1,s[0].2,rfl,?_⟩
 cases s with
 |nil=>simp at h
 |cons g t=>rfl
theorem Mid.more{s P:List Rg}{lo hi:Int}{k:Nat}(hk:k<s.length)(h:P++gT lo hi (s.drop k)=mrg s)(hc:hi+1<s[k].1):Mid s (P++[(lo,hi)]++[s[k]]) (k+1):=by
 refine sT ⟨P++[(lo,hi)],s[k].1,s[k].2,rfl,?_⟩;rw[<- h,sW hk]
 conv=>rhs;unfold gT
 rw[if_pos hc]
 simp
theorem Mid.join{s P:List Rg}{lo hi:Int}{k:Nat}(hk:k<s.length)(h:P++gT lo hi (s.drop k)=mrg s)(hc:¬hi+1<s[k].1):Mid s (P++[(lo,max hi s[k].2)]) (k+1):=by
 refine sT ⟨P,lo,max hi s[k].2,rfl,?_⟩;rw[<- h,sW hk]
 conv=>rhs;unfold gT
 rw[if_neg hc]
theorem Mid.done{s out:List Rg}{k:Nat}(h:Mid s out k)(hk:¬k<s.length):out=mrg s:=by
 rcases h with ⟨rfl,rfl⟩|⟨P,lo,hi,rfl,h⟩
 ·have:s=[]:=tp.1 (by omega)
  subst this;rfl
 ·rw[List.drop_of_length_le (by omega)]at h
  exact h
end Dc
namespace Dc
open Go.RowKit
theorem pP(a b:List Rg)(r:Int):aL r (a++b) ↔ aL r a\/aL r b:=by
 rw[bL,bL,bL]
 constructor
 ·rintro ⟨g,hg,h⟩
  rcases sR.1 hg with h1|h1
  ·exact sU ⟨g,h1,h⟩
  ·exact sT ⟨g,h1,h⟩
 ·rintro (⟨g,hg,h⟩|⟨g,hg,h⟩)
  ·exact⟨g,sR.2 (sU hg),h⟩
  ·exact⟨g,sR.2 (sT hg),h⟩
theorem py(l:List Rg)(k:Nat)(hk:k<l.length)(r:Int):bW r (l.take (k+1)) ↔ bW r (l.take k)\/(0<=r/\r<=cR/\l[k].1<=r/\r<=l[k].2):=by
 unfold bW;rw[sV hk,pP]
 show(0<=r/\r<=cR/\(aL r (l.take k)\/((l[k].1<=r/\r<=l[k].2)\/False))) ↔ _
 rw[or_false]
 constructor
 ·rintro ⟨a,b,c|c⟩
  ·exact sU ⟨a,b,c⟩
  ·exact sT ⟨a,b,c⟩
 ·rintro (⟨a,b,c⟩|⟨a,b,c⟩)
  ·exact⟨a,b,sU c⟩
  ·exact⟨a,b,sT c⟩
theorem zlg{l s:List Rg}{k:Nat}{c0 c1:Int}{p:Nat}(hk:k<l.length)(h:∀r,aL r s ↔ bW r (l.take k))(hc:∀r,(c0<=r/\r<=c1) ↔ (0<=r/\r<=cR/\l[k].1<=r/\r<=l[k].2)):
  ∀r,aL r (cP s p (c0,c1)) ↔ bW r (l.take (k+1)):=fun r=>by
 rw[zkj,py l k hk,h r]
 show(c0<=r/\r<=c1)\/_ ↔ _
 rw[hc r];exact Or.comm
theorem zpX{l s:List Rg}{k:Nat}(hk:k<l.length)(h:∀r,aL r s ↔ bW r (l.take k))(hc:∀r,¬(0<=r/\r<=cR/\l[k].1<=r/\r<=l[k].2)):
  ∀r,aL r s ↔ bW r (l.take (k+1)):=fun r=>by
 rw[py l k hk,h r];exact⟨sU,fun x=>x.elim id (fun y=>(hc r y).elim)⟩
theorem rx:∀(l:List Rg)(i:Nat)(a b c:Int),l[i]?=some (a,c)->(aK l).set (i*2+1) (.int .i32 b)=aK (l.set i (a,b))
 |[],_,_,_,_,h=>by cases h
 |x::l,0,a,b,c,h=>by cases h;rfl
 |x::l,i+1,a,b,c,h=>by
  have ih:=rx l i a b c h;have e1:(i+1)*2=i*2+2:=by omega
  show(rgc x++aK l).set ((i+1)*2+1) _=rgc x++aK (l.set i (a,b))
  rw[<- ih,e1]
  rfl
theorem zlz{w:sX}{B g n cap:Nat}{l:List Rg}(h:w.ownsRow B 146 2 (.slice (some ⟨g,0,none⟩) n cap) l.length (aK l))(i:Nat)(a b c:Int)(hi:l[i]?=some (a,c)):
  (w.setCell ⟨g,i*2+1,none⟩ (.int .i32 b)).ownsRow B 146 2 (.slice (some ⟨g,0,none⟩) n cap) (l.set i (a,b)).length (aK (l.set i (a,b))):=by
 rcases h.2 with ⟨h1,_⟩|⟨g',cap',cur,h1,h2,h3,h4,h5,h6,h7⟩
 ·cases h1
 ·cases h1
  have s1:=sZ (i:=i*2+1) h3 (.int .i32 b);rw[tj];refine⟨?_,sT ⟨g,cap,_,rfl,h2,s1,h4,h5,by simp[h6],?_⟩⟩
  ·rw[kJ,tj]
  ·rw[<- rx l i a b c hi,<- h7]
   simp[tN]
theorem aX{w:sX}{B B':Nat}{e:tB}{size:Nat}{v:ta}{n:Nat}{xs:List ta}(h:w.ownsRow B e size v n xs)(hB:B'<=B):w.ownsRow B' e size v n xs:=by
 refine⟨h.1,?_⟩
 rcases h.2 with h0|⟨g,cap,cur,hv,hb,hg,hr⟩
 ·exact sU h0
 ·exact sT ⟨g,cap,cur,hv,Nat.le_trans hB hb,hg,hr⟩
theorem zlm:∀{l:List Rg} {b:Int} {j:Nat} {g:Rg},srt b l->l[j]?=some g->b<=g.1/\g.1<=g.2/\g.2<=cR
 |[],_,_,_,_,h=>by cases h
 |x::l,b,0,g,hs,h=>by cases h;exact⟨hs.1,hs.2.1,hs.2.2.1⟩
 |x::l,b,j+1,g,hs,h=>by
  have h1:=zlm hs.2.2.2 (show l[j]?=some g from h)
  have:=hs.1;exact⟨by omega,h1.2⟩
theorem bK(l:List Rg)(x:Rg):(l++[x]).length=l.length+1:=by simp
theorem zln(P:List Rg)(x y:Rg):(P++[x]).set P.length y=P++[y]:=by
 rw[tt _ _ (Nat.le_refl _),Nat.sub_self];rfl
set_option maxRecDepth 100000 in
theorem lY(ao:Option Addr)(ac:Nat)(l:List Rg)(w:sX)(ha:RdR w ao l)(hl:l.length<=100000):
  Calls Tryz.prog 162 #[.slice ao l.length ac] w fun e w'=>∃v,e=.returned v/\w'.ownsRow w.heap.size 146 2 v (nV l).length (aK (nV l))/\tL w.heap.size w w':=by
 obtain⟨i0,hi,hz0,hz1,hz2⟩:=info_parts Tryz.infoRange;have HA:=aa ha;clear ha;go_enter Tryz.func162,Tryz.ntmps162;go_wp2;go_loopw [3,4] (fun v i wr=>∃(k:Nat)(s:List Rg),k<=l.length/\i=.int .i64 k/\ae (wr.ownsRow w.heap.size 146 2 v s.length (aK s))/\ae (srt 0 s)/\ae (∀r,aL r s ↔ bW r (l.take k))/\s.length<=k/\tL w.heap.size w wr) (fun _ i _=>l.length-(te i).toNat)
 case atStart=>exact⟨0,[],by omega,rfl,sX.ownsRow_nil _ _ _ _,trivial,fun r=>by simp[aL,bW],by simp,tL.refl _ _⟩
 case round=>
  obtain⟨k,s,hk,rfl,HO,HS,HM,hsk,hB⟩:=hrel;have hws:=hB.size
  by_cases hlt:k<l.length
  ·obtain⟨a,rfl,ha,a0,a1⟩:=HA.o.below hB k l[k] (sS hlt)
   have HY:=aa (fun(c0 c1:Int)(p:Nat)=>zlg (c0:=c0) (c1:=c1) (p:=p) hlt HM.o)
   have HN:=aa (zpX hlt HM.o)
   generalize l[k].1=z0 at*
   generalize l[k].2=z1 at*
   by_cases h0:z0<0
   ·by_cases h1:1114111<z1
    ·by_cases hc:(0:Int)<=1114111
     ·go_wp2_with (go_at_call 180;refine(nP w.heap.size u3 s (0,1114111) (wr.alloc (.cells #[.int .i32 0,.int .i32 1114111] 146)) (HO.o.alloc _) (by simp;omega) (by omega)).mono ?_;rintro e w2 ⟨v2,p,rfl,hp,g1,g2,o2,b2⟩;have HO2:=aa o2;have HS2:=aa (ib s p 0 (0,1114111) HS.o hp (by dsimp only;omega) (by dsimp only;omega) (by unfold cR;dsimp only;omega) g1 g2);have hlen:=fR s p (0,1114111) hp;clear o2 g1 g2)
      go_roundw
      case rel=>exact⟨k+1,cP s p (0,1114111),by omega,by go_num,HO2,HS2,HY.o 0 1114111 p (fun r=>by unfold cR;omega),by omega,(hB.alloc hB.size _).trans b2⟩
      case measure=>simp[te];omega
     ·exact absurd (show(0:Int)<=1114111 by omega) hc
    ·by_cases hc:(0:Int)<=z1
     ·go_wp2_with (go_at_call 180;refine(nP w.heap.size u3 s (0,z1) (wr.alloc (.cells #[.int .i32 0,.int .i32 z1] 146)) (HO.o.alloc _) (by simp;omega) (by omega)).mono ?_;rintro e w2 ⟨v2,p,rfl,hp,g1,g2,o2,b2⟩;have HO2:=aa o2;have HS2:=aa (ib s p 0 (0,z1) HS.o hp (by dsimp only;omega) (by dsimp only;omega) (by unfold cR;dsimp only;omega) g1 g2);have hlen:=fR s p (0,z1) hp;clear o2 g1 g2)
      go_roundw
      case rel=>exact⟨k+1,cP s p (0,z1),by omega,by go_num,HO2,HS2,HY.o 0 z1 p (fun r=>by unfold cR;omega),by omega,(hB.alloc hB.size _).trans b2⟩
      case measure=>simp[te];omega
     ·have HN2:=aa (HN.o (fun r=>by unfold cR;omega))
      go_wp2;go_roundw
      case rel=>exact⟨k+1,s,by omega,by go_num,HO.o.alloc _,HS,HN2,by omega,hB.alloc hB.size _⟩
      case measure=>simp[te];omega
   ·by_cases h1:1114111<z1
    ·by_cases hc:(z0:Int)<=1114111
     ·go_wp2_with (go_at_call 180;refine(nP w.heap.size u3 s (z0,1114111) (wr.alloc (.cells #[.int .i32 z0,.int .i32 1114111] 146)) (HO.o.alloc _) (by simp;omega) (by omega)).mono ?_;rintro e w2 ⟨v2,p,rfl,hp,g1,g2,o2,b2⟩;have HO2:=aa o2;have HS2:=aa (ib s p 0 (z0,1114111) HS.o hp (by dsimp only;omega) (by dsimp only;omega) (by unfold cR;dsimp only;omega) g1 g2);have hlen:=fR s p (z0,1114111) hp;clear o2 g1 g2)
      go_roundw
      case rel=>exact⟨k+1,cP s p (z0,1114111),by omega,by go_num,HO2,HS2,HY.o z0 1114111 p (fun r=>by unfold cR;omega),by omega,(hB.alloc hB.size _).trans b2⟩
      case measure=>simp[te];omega
     ·have HN2:=aa (HN.o (fun r=>by unfold cR;omega))
      go_wp2;go_roundw
      case rel=>exact⟨k+1,s,by omega,by go_num,HO.o.alloc _,HS,HN2,by omega,hB.alloc hB.size _⟩
      case measure=>simp[te];omega
    ·by_cases hc:(z0:Int)<=z1
     ·go_wp2_with (go_at_call 180;refine(nP w.heap.size u3 s (z0,z1) (wr.alloc (.cells #[.int .i32 z0,.int .i32 z1] 146)) (HO.o.alloc _) (by simp;omega) (by omega)).mono ?_;rintro e w2 ⟨v2,p,rfl,hp,g1,g2,o2,b2⟩;have HO2:=aa o2;have HS2:=aa (ib s p 0 (z0,z1) HS.o hp (by dsimp only;omega) (by dsimp only;omega) (by unfold cR;dsimp only;omega) g1 g2);have hlen:=fR s p (z0,z1) hp;clear o2 g1 g2)
      go_roundw
      case rel=>exact⟨k+1,cP s p (z0,z1),by omega,by go_num,HO2,HS2,HY.o z0 z1 p (fun r=>by unfold cR;omega),by omega,(hB.alloc hB.size _).trans b2⟩
      case measure=>simp[te];omega
     ·have HN2:=aa (HN.o (fun r=>by unfold cR;omega))
      go_wp2;go_roundw
      case rel=>exact⟨k+1,s,by omega,by go_num,HO.o.alloc _,HS,HN2,by omega,hB.alloc hB.size _⟩
      case measure=>simp[te];omega
  ·have HM2:ae (∀r,aL r s ↔ bW r l):=aa (by have h:=HM.o;rw[ti (by omega)]at h;exact h)
   have HNR:=aa (zqy HS.o HM2.o);obtain⟨so,sc,hu3,_,hrd⟩:=fJ HO.o;subst hu3;have HRD:=aa hrd;obtain⟨nr,hnr⟩:=am wr.heap.size;obtain⟨Wr,hWr⟩:=am wr;rw[<- hWr]at HRD hB hws;have HB0:=aa hB;have hs5:s.length<=100000:=by omega
   clear hrd HM HM2 HO hB;rw[<- hWr];clear hWr hnr;go_wp2;clear hlt hk hsk;go_loopw [6,7] (fun v i wq=>∃(k:Nat)(O:List Rg),k<=s.length/\i=.int .i64 k/\ae (wq.ownsRow Wr.heap.size 146 2 v O.length (aK O))/\ae (Mid s O k)/\O.length<=k/\ae (∀g,g∈O->0<=g.2/\g.2<=1114111)/\ae (tL Wr.heap.size Wr wq)) (fun _ i _=>s.length-(te i).toNat)
   case atStart=>exact⟨0,[],by omega,rfl,sX.ownsRow_nil _ _ _ _,Mid.start s,by simp,fun g hg=>(by cases hg),tL.refl _ _⟩
   case round=>
    obtain⟨k,O,hk,rfl,HO,HMi,hok,HBD,HB⟩:=hrel;have hbs:=HB.o.size
    by_cases hlt:k<s.length
    ·obtain⟨gs,rfl,hgs,y0,y1⟩:=HRD.o k s[k] (sS hlt)
     obtain⟨b1,b2,b3⟩:=zlm HS.o (sS hlt);unfold cR at b3
     replace y0:=(HB.o.cell (p:=⟨gs,k*2,none⟩) hgs).trans y0
     replace y1:=(HB.o.cell (p:=⟨gs,k*2+1,none⟩) hgs).trans y1
     rcases HMi.o with ⟨hk0,hO⟩|⟨Q,lo,hi',hO,hQ⟩
     ·subst hO
      have HFI:ae (Mid s [s[k]] (k+1)):=aa (by subst hk0;exact Mid.first hlt)
      obtain⟨oo,oc,hu6,_,_⟩:=fJ HO.o;subst hu6;obtain⟨f0,hf0⟩:=am (s[k].1);obtain⟨f1,hf1⟩:=am (s[k].2);have HF1:ae (Mid s [(f0,f1)] (k+1)):=aa (by have e:s[k]=(f0,f1):=Prod.ext hf0.symm hf1.symm;have h:=HFI.o;rw[e]at h;exact h)
      rw[<- hf0]at y0 b1 b2;rw[<- hf1]at y1 b2 b3;clear hf0 hf1 HFI hk0 HMi hok HBD;go_wp2_with fail;go_quiet (fail);go_wp2_with (at_builtin;refine tG _ rfl _ _ 125 rfl Wr.heap.size 146 i0 (.agg #[.int .i32 0,.int .i32 0]) 2 8 Tryz.underlying125 hi hz0 hz1 hz2 rfl (by decide) (.slice oo 0 oc) 0 [] rfl ((show(wr.drewN nq).ownsRow Wr.heap.size 146 2 (.slice oo 0 oc) 0 []from HO.o).alloc _) ⟨wr.heap.size,0,none⟩ 1 1 (rgc (f0,f1)) rfl rfl ?c1 ?c2 ?c3 ?c4 ?c5 ?_)
      case c1=>exact zaF (wr.drewN nq) (f0,f1) 146
      case c2=>exact eb _
      case c3=>unfold maxLen;omega
      case c4=>omega
      case c5=>simp;omega
      intro v2 w2 o2 gr2 _;have HO2:ae (w2.ownsRow Wr.heap.size 146 2 v2 [(f0,f1)].length (aK [(f0,f1)])):=aa o2;have HB2:=aa (((tf HB.o nq).alloc (by simp;omega) (.cells #[.int .i32 f0,.int .i32 f1] 146)).grown gr2 (by simp;omega) (fun j hj=>(HO.o.lt j hj).1))
      clear o2 gr2;go_wp2;go_roundw
      case rel=>exact⟨k+1,[(f0,f1)],by omega,by go_num,HO2,HF1,by simp,fun g hg=>(by simp at hg;subst hg;exact⟨by dsimp only;omega,b3⟩),HB2⟩
      case measure=>simp[te];omega
     ·subst hO
      obtain⟨oo,oc,hu6,hog,_⟩:=fJ HO.o;obtain⟨g,hoo,hgB,hgl⟩:=hog (by simp)
      subst hoo;subst hu6;obtain⟨p0,p1⟩:=oS HO.o Q.length (lo,hi') (by simp)
      have q1:=ka HO.o (Q.length*2+1);have hbd:=HBD.o (lo,hi') (by simp)
      obtain⟨n,hn⟩:=am Q.length;have hOl:(Q++[(lo,hi')]).length=n+1:=by rw[hn];simp
      have HJ:=aa (fun hc=>Mid.join hlt hQ hc)
      have HMo:=aa (fun hc=>Mid.more hlt hQ hc)
      obtain⟨f0,hf0⟩:=am (s[k].1);obtain⟨f1,hf1⟩:=am (s[k].2);rw[<- hf0]at y0 b1 b2;rw[<- hf1]at y1 b2 b3;rw[<- hn]at p0 p1 q1
      dsimp only at hbd p0 p1
      have es:s[k]=(f0,f1):=Prod.ext hf0.symm hf1.symm;rw[<- hf0,<- hf1]at HJ;rw[<- hf0,es]at HMo;have HQL:=aa hn;have HOL:=aa hOl;clear hf0 hf1 es hn HMi hQ;have HO1:ae (wr.ownsRow Wr.heap.size 146 2 (.slice (some ⟨g,0,none⟩) (n+1) oc) (Q++[(lo,hi')]).length (aK (Q++[(lo,hi')]))):=aa (by have h:=HO.o;rw[hOl]at h⊢;exact h)
      rw[hOl]at hok⊢;clear hOl HO;have t0:decide ((0:Int)<(n:Int)+1)=true:=decide_eq_true (by omega)
      have esub:((n:Int)+1)-1=(n:Int):=by omega
      have ewr:tK.wrap (n:Int)=(n:Int):=by rw[tq];omega
      have ew32:IntKind.i32.wrap (hi'+1)=hi'+1:=by rw[IntKind.wrap_i32];omega
      have i1:(0:Int)<=(n:Int):=by omega
      have i2:(n:Int)<(n:Int)+1:=by omega
      have i3:(k:Int)<(s.length:Int):=by omega
      by_cases hc:hi'+1<f0
      ·have HF2:=aa (HMo.o hc)
       clear HJ HMo;go_wp2_with fail;go_quiet (fail);go_wp2_with (at_builtin;refine tG _ rfl _ _ 125 rfl Wr.heap.size 146 i0 (.agg #[.int .i32 0,.int .i32 0]) 2 8 Tryz.underlying125 hi hz0 hz1 hz2 rfl (by decide) (.slice (some ⟨g,0,none⟩) (n+1) oc) (Q++[(lo,hi')]).length (aK (Q++[(lo,hi')])) rfl ((show(wr.drewN nq).ownsRow Wr.heap.size 146 2 (.slice (some ⟨g,0,none⟩) (n+1) oc) (Q++[(lo,hi')]).length (aK (Q++[(lo,hi')]))from HO1.o).alloc _) ⟨wr.heap.size,0,none⟩ 1 1 (rgc (f0,f1)) rfl rfl ?c1 ?c2 ?c3 ?c4 ?c5 ?_)
       case c1=>exact zaF (wr.drewN nq) (f0,f1) 146
       case c2=>exact eb _
       case c3=>rw[HOL.o];unfold maxLen;omega
       case c4=>rw[HOL.o];omega
       case c5=>simp;omega
       intro v2 w2 o2 gr2 _;have HO2:ae (w2.ownsRow Wr.heap.size 146 2 v2 (Q++[(lo,hi')]++[(f0,f1)]).length (aK (Q++[(lo,hi')]++[(f0,f1)]))):=aa (by rw[db,bK,bK];exact o2)
       have HB2:=aa (((tf HB.o nq).alloc (by simp;omega) (.cells #[.int .i32 f0,.int .i32 f1] 146)).grown gr2 (by simp;omega) (fun j hj=>(HO1.o.lt j hj).1))
       have hl2:(Q++[(lo,hi')]++[(f0,f1)]).length<=k+1:=by rw[bK (Q++[(lo,hi')]),HOL.o];omega
       have HBD2:ae (∀x,x∈Q++[(lo,hi')]++[(f0,f1)]->0<=x.2/\x.2<=1114111):=aa (fun x hx=>by
        rcases sR.1 hx with h|h
        ·exact HBD.o x h
        ·simp at h;subst h;exact⟨by dsimp only;omega,b3⟩)
       clear o2 gr2;go_wp2;go_roundw
       case rel=>exact⟨k+1,Q++[(lo,hi')]++[(f0,f1)],by omega,by go_num,HO2,HF2,hl2,HBD2,HB2⟩
       case measure=>simp[te];omega
      ·have HF2:=aa (HJ.o hc)
       clear HJ HMo
       by_cases hm:hi'<f1
       ·have HST:=aa (show(wr.setCell ⟨g,n*2+1,none⟩ (.int .i32 f1)).ownsRow Wr.heap.size 146 2 (.slice (some ⟨g,0,none⟩) (n+1) oc) (Q++[(lo,f1)]).length (aK (Q++[(lo,f1)])) by
         have h:=zlz HO1.o n lo f1 hi' (by rw[HQL.o];simp)
         rw[HQL.o,zln,<- HQL.o]at h;exact h)
        have HF3:ae (Mid s (Q++[(lo,f1)]) (k+1)):=aa (by have h:=HF2.o;rw[show max hi' f1=f1 by omega]at h;exact h)
        have hl2:(Q++[(lo,f1)]).length<=k+1:=by have:=HQL.o;simp;omega
        have HBD2:ae (∀x,x∈Q++[(lo,f1)]->0<=x.2/\x.2<=1114111):=aa (fun x hx=>by
         rcases sR.1 hx with h|h
         ·exact HBD.o x (sR.2 (sU h))
         ·simp at h;subst h;exact⟨by dsimp only;omega,b3⟩)
        go_wp2_with fail;go_quiet (fail);go_wp2_with fail;go_quiet (fail);go_wp2;go_roundw
        case rel=>exact⟨k+1,Q++[(lo,f1)],by omega,by go_num,HST.o,HF3,hl2,HBD2,(tf HB.o _).setCell (p:=⟨g,n*2+1,none⟩) hgB _⟩
        case measure=>simp[te];omega
       ·have HF3:ae (Mid s (Q++[(lo,hi')]) (k+1)):=aa (by have h:=HF2.o;rw[show max hi' f1=hi' by omega]at h;exact h)
        go_wp2_with fail;go_quiet (fail);go_wp2_with fail;go_quiet (fail);go_wp2;go_roundw
        case rel=>exact⟨k+1,Q++[(lo,hi')],by omega,by go_num,HO1.o,HF3,by rw[HOL.o];omega,HBD,tf HB.o _⟩
        case measure=>simp[te];omega
    ·have HD:=aa (HMi.o.done hlt)
     go_wp2;go_ret;exact⟨_,rfl,by rw[<- HNR.o,<- HD.o];exact aX HO.o HB0.o.size,HB0.o.trans (HB.o.mono HB0.o.size)⟩
end Dc
namespace Dc
open Go.RowKit
theorem zao{w:sX}{B:Nat}{v:ta}{l:List Rg}(h:w.ownsRow B 146 2 v l.length (aK l)):∃ao cap,v=.slice ao l.length cap/\RdR w ao l:=by
 obtain⟨ao,cap,e,_,hc⟩:=fJ h;refine⟨ao,cap,e,fun k g hk=>?_⟩
 obtain⟨b,rfl,h1,h2,h3⟩:=hc k g hk;have ea:(⟨b,0,none⟩:Addr).add (k*2)=⟨b,k*2,none⟩:=by unfold Addr.add;split<;>simp_all
 exact⟨_,rfl,h1,by rw[ea];exact h2,by rw[ea];exact h3⟩
end Dc
end Go.Proofs.YtbbapnpdfcgjnaaGreatDoor
