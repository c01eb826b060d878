/- Ev2, Ev3, Ev4, Ev5, Ev6, Ev7, Ev8: parts of the proof, joined. -/
import Derived.Laws.IdiomCopy
import Derived.Test.YtbbapnpdfcgjnaaGreatDoorWEv1
open Go renaming Value->sD, Program->sJ, TypeId->sL, Operand->sN, run_underlying->tf, execOp->tu, World->tw, loadCellsFrom->tG, TypeDesc->tL, TypeInfo->tY, BinOp->uk
open Go.Result renaming andThen->sE
open Nat renaming le_refl->sG, add_mul->sT, eq_zero_or_pos->sV, add_assoc->sZ, add_zero->tq, lt_or_ge->uh, zero_mul->uj
open Go.Sem renaming run_bind->sH
open Go.Builtin renaming firstCells->sI, append_->sQ, nextslicecap->sU, lenOf->tF, zeroCells->tM, growBy->t6
open Array renaming getElem?_eq_some_iff->sK, getElem?_toList->sR, getElem?_setIfInBounds->tc, ext_getElem?->td, toList_setIfInBounds->te, toArray_toList->tz, getElem?_push->tC, range->ul
open Go.Op renaming equalIn->sM
open List renaming length_append->sO, getElem?_toArray->sX, getElem?_eq_some_iff->tg, getElem?_cons_zero->tj, getElem?_cons_succ->tk, length_take->tn, length_drop->tp, take_of_length_le->tr, drop_take->tA, drop_zero->tB, getElem?_take->tH, getElem?_drop->tI, append_assoc->tJ, size_toArray->tK, length_cons->tN, cons_append->tO, take->tP, drop_drop->tV, take_take->tW, mem_cons->ua
open Bool renaming false_eq_true->sP, and_eq_true->sY, or_eq_true->tU, not_false->t7
open Go.Instr renaming sliceBounds->sS, sureAddr->sW, sliceAt->ta, sliceBound->ti, makeInterface->tD, indexAt->tE, buildSlice->tQ, slice->tS, build->tT, fill->tZ, storeAt->ud, fieldAt->ue, extract->uf, loadAt->ug, field->um
open Go.World renaming cell?->tR, frozen?->t8
set_option maxHeartbeats 64000000
namespace Go.Proofs.YtbbapnpdfcgjnaaGreatDoor
section
namespace Ev
variable {P:sJ} {μ:Mu} {A:AW} {w:tw}
theorem WR.lt(W:WR μ A w){i:Nat}{o:bz}{l:qX}(hg:A.get i=some o)(hm:μ i=some l):l.b<w.heap.size:=by obtain⟨o1,h2,_⟩:=W.has i o l hg hm;exact(sK.1 h2).1
theorem WR.upd(W:WR μ A w){i:Nat}{l:qX}{o0 o:bz}{o':Obj}(hg:A.get i=some o0)(hm:μ i=some l)(ho:OR μ l o o'):
  WR μ (A.set i (some o)) {w with heap:=w.heap.setIfInBounds l.b o'}/\bG μ A w μ (A.set i (some o)) {w with heap:=w.heap.setIfInBounds l.b o'}:=by
 have hlt:=W.lt hg hm;constructor
 ·refine⟨fun j oj l1 hj h1=>?_,fun j m oj om lj lm hj hl h1 h2 h3=>?_,W.dom⟩
  ·rw[AW.get_set]at hj;split at hj
   ·rename_i e;subst e;cases hj;rw[hm]at h1;cases h1;exact⟨o',by simp[hlt],ho⟩
   ·rename_i e;obtain⟨o1,h2,h3⟩:=W.has j oj l1 hj h1;refine⟨o1,?_,h3⟩;have:l.b≠l1.b:=fun hb=>e (W.inj j i oj o0 l1 l hj hg h1 hm hb.symm);simp[this,h2]
  ·rw[AW.get_set]at hj hl;have get':∀n on,(if n=i then some o else A.get n)=some on->∃on',A.get n=some on':=fun n on h=>by
    split at h
    ·rename_i e;subst e;exact⟨_,hg⟩
    ·exact⟨_,h⟩
   obtain⟨x,hx⟩:=get' j oj hj;obtain⟨y,hy⟩:=get' m om hl;exact W.inj j m x y lj lm hx hy h1 h2 h3
 ·refine⟨Le.refl _,by simp,rfl,rfl,rfl,fun b' hb' hn=>?_,fun j oj lj hj h1=>?_,sG _,fun _ _=>rfl⟩
  ·have:l.b≠b':=hn i o0 l hg hm;simp[this]
  ·rw[AW.get_set]at hj;split at hj
   ·rename_i e;subst e;exact .inr ⟨j,o0,lj,hg,h1,rfl⟩
   ·exact .inr ⟨j,oj,lj,hj,h1,rfl⟩
def Mu.add(μ:Mu)(i:Nat)(x:qX):Mu:=⟨fun j=>if j=i/\iK i=none then some x else μ j,fun g s hg=>by
 by_cases e:g=i
 ·subst e;rw[if_neg (fun h=>by rw[h.2]at hg;cases hg)];exact μ.glob g s hg
 ·rw[if_neg (fun h=>e h.1)];exact μ.glob g s hg⟩
theorem Mu.add_ne{μ:Mu}{i j:Nat}{x:qX}(h:j≠i):(μ.add i x) j=μ j:=if_neg (fun hh=>h hh.1)
theorem Mu.add_get{μ:Mu}{i:Nat}{x:qX}(h:μ i=none):(μ.add i x) i=some x:=by
 refine if_pos ⟨rfl,?_⟩;cases hg:iK i with
 |none=>rfl
 |some s=>rw[μ.glob i s hg]at h;cases h
theorem Mu.add_le{μ:Mu}{i:Nat}{x:qX}(h:μ i=none):Le μ (μ.add i x):=fun j y hj=>by
 by_cases e:j=i
 ·subst e;rw[h]at hj;cases hj
 ·rw[Mu.add_ne e];exact hj
theorem WR.new(W:WR μ A w){d sz k:Nat}{o:bz}{o':Obj}(ho:OR (μ.add A.next ⟨w.heap.size,d,sz,k⟩) ⟨w.heap.size,d,sz,k⟩ o o'):
  WR (μ.add A.next ⟨w.heap.size,d,sz,k⟩) (A.push o) {w with heap:=w.heap.push o'}/\bG μ A w (μ.add A.next ⟨w.heap.size,d,sz,k⟩) (A.push o) {w with heap:=w.heap.push o'}:=by
 have hd:=W.dom A.next (sG _)
 have hle:Le μ (μ.add A.next ⟨w.heap.size,d,sz,k⟩):=Mu.add_le hd;constructor
 ·refine⟨fun j oj l1 hj h1=>?_,fun j m oj om lj lm hj hl h1 h2 h3=>?_,fun i hi=>?_⟩
  ·rw[AW.get_push]at hj;split at hj
   ·rename_i e;subst e;cases hj;rw[Mu.add_get hd]at h1;cases h1;exact⟨o',by simp,ho⟩
   ·rename_i e;rw[Mu.add_ne e]at h1;obtain⟨o1,h2,h3⟩:=W.has j oj l1 hj h1;refine⟨o1,?_,h3.mono hle⟩;have:=(sK.1 h2).1;simp[tC,h2];omega
  ·rw[AW.get_push]at hj hl;by_cases ej:j=A.next
   ·by_cases el:m=A.next
    ·rw[ej,el]
    ·rw[if_neg el]at hl;subst ej;rw[Mu.add_get hd]at h1;cases h1;have h4:μ m=some lm:=by rw[Mu.add_ne el]at h2;exact h2
     have:=W.lt hl h4;simp only at h3;omega
   ·rw[if_neg ej]at hj;have h5:μ j=some lj:=by rw[Mu.add_ne ej]at h1;exact h1
    by_cases el:m=A.next
    ·subst el;rw[Mu.add_get hd]at h2;cases h2;have:=W.lt hj h5;simp only at h3;omega
    ·rw[if_neg el]at hl;have h4:μ m=some lm:=by rw[Mu.add_ne el]at h2;exact h2
     exact W.inj j m oj om lj lm hj hl h5 h4 h3
  ·have:i≠A.next:=by simp only[AW.push]at hi;omega
   rw[Mu.add_ne this];exact W.dom i (by simp only[AW.push]at hi;omega)
 ·refine⟨hle,by simp,rfl,rfl,rfl,fun b' hb' hn=>?_,fun j oj lj hj h1=>?_,by simp[AW.push],fun i hi=>Mu.add_ne (by omega)⟩
  ·simp[tC];omega
  ·rw[AW.get_push]at hj;split at hj
   ·rename_i e;subst e;rw[Mu.add_get hd]at h1;cases h1;exact .inl (sG _)
   ·rename_i e;exact .inr ⟨j,oj,lj,hj,by rw[Mu.add_ne e]at h1;exact h1,rfl⟩
theorem WR.drawn(W:WR μ A w)(n:Nat):WR μ A {w with drawn:=n}/\bG μ A w μ A {w with drawn:=n}:=
 ⟨⟨W.has,W.inj,W.dom⟩,⟨Le.refl _,sG _,rfl,rfl,rfl,fun _ _ _=>rfl,fun i o l h h'=>.inr ⟨i,o,l,h,h',rfl⟩,sG _,fun _ _=>rfl⟩⟩
theorem WR.cells(W:WR μ A w){i:Nat}{l:qX}{vs:List sD}{t:sL}{op:Bool}{fz:Option Nat}{es:Nat}(hm:μ i=some l)(hg:A.get i=some (.cells vs t op fz es)):
  ∃c fr,w.heap[l.b]?=some (.cells c t fr)/\c.size=l.sz/\l.d+vs.length<=l.sz/\(op=false->l.d=0/\vs.length=l.sz)/\es=l.k/\LR μ vs ((c.toList.drop l.d).take vs.length)/\FZ fz fr l.d l.sz:=by
 obtain⟨o',h6,h7⟩:=W.has _ _ l hg hm;obtain⟨c,fr,rfl,h8⟩:=h7;exact⟨c,fr,h6,h8⟩
theorem gT(b o i:Nat):(⟨b,o,none⟩:Addr).add i=⟨b,o+i,none⟩:=by unfold Addr.add;split<;>simp_all
theorem AR.add{a a':Addr}(hr:AR μ a a')(n:Nat):AR μ (a.add n) (a'.add n):=by obtain⟨h1,l,h4,rfl⟩:=hr;obtain⟨b,o,s⟩:=a;simp only at h1 h4⊢;subst h1;rw[gT,gT];exact⟨rfl,l,h4,by simp[sZ]⟩
theorem iL{c:Array sD}{d n i:Nat}{v:sD}(h:((c.toList.drop d).take n)[i]?=some v):c[d+i]?=some v:=by
 rw[tH]at h;split at h
 ·rw[tI]at h;rw[<-sR];exact h
 ·cases h
theorem znN(W:WR μ A w){a a':Addr}{vs:List sD}{t:sL}{op:Bool}{fz:Option Nat}{es:Nat}{v:sD}(hr:AR μ a a')(hg:A.get a.block=some (.cells vs t op fz es))(hv:vs[a.off]?=some v):
  ∃v',w.cell? a'=some v'/\VR μ v v':=by
 obtain⟨h1,l,hm,rfl⟩:=hr;obtain⟨c,fr,h6,h8,h9,h10,hk,h11,h12⟩:=W.cells hm hg;obtain⟨v',h13,h14⟩:=h11.get hv;exact⟨v',by simp[tR,h6,iL h13],h14⟩
theorem eN(W:WR μ A w){a a':Addr}{vs:List sD}{t:sL}{op:Bool}{fz:Option Nat}{es:Nat}{n:Nat}(hr:AR μ a a')(hg:A.get a.block=some (.cells vs t op fz es))(hn:a.off+n<=vs.length):
  ∃xs':List sD,(loadCells a' n).run P w=.ok xs'.toArray w/\LR μ ((vs.drop a.off).take n) xs':=by
 obtain⟨h1,l,hm,rfl⟩:=hr;obtain⟨c,fr,h6,h8,h9,h10,hk,h11,h12⟩:=W.cells hm hg;have hL:=(h11.drop a.off).take n;have hlen:((((c.toList.drop l.d).take vs.length).drop a.off).take n).length=n:=by rw[hL.len];simp;omega
 refine⟨(((c.toList.drop l.d).take vs.length).drop a.off).take n,?_,hL⟩;have:=run_loadCells_list (P:=P) w ⟨l.b,l.d+a.off,none⟩ ((((c.toList.drop l.d).take vs.length).drop a.off).take n) (fun j v hj=>?_)
 ·rw[hlen]at this;exact this
 ·rw[tH]at hj;split at hj
  ·rw[tI]at hj;rw[gT];simp[tR,h6,sZ,iL hj]
  ·cases hj
theorem zkG:∀{v v':sD},VR μ v v'->v'.oneCell'=v.oneCell'
 |.bool _,_,r|.int _ _,_,r|.float _ _,_,r|.string _,_,r|.pointer none,_,r|.slice none _ _,_,r|.map none,_,r|.nilFunc,_,r|.nilIface,_,r=>by simp only[VR]at r;subst r;rfl
 |.pointer (some a),_,r=>by simp only[VR]at r;obtain⟨a',rfl,_⟩:=r;rfl
 |.slice (some a) n c,_,r=>by simp only[VR]at r;obtain⟨a',c',rfl,_⟩:=r;rfl
 |.map (some a),_,r=>by simp only[VR]at r;obtain⟨l,rfl,_⟩:=r;rfl
 |.func (.func f) ⟨x⟩ ⟨y⟩,_,r=>by simp only[VR]at r;obtain⟨x',y',rfl,_⟩:=r;rfl
 |.func (.method _) _ _,_,r|.func (.methodOf _ _) _ _,_,r|.func (.via _ _ _ _) _ _,_,r|.chan _,_,r|.complex _ _ _,_,r=>by simp[VR]at r
 |.func (.yield i) _ _,_,r=>by simp only[VR]at r;obtain⟨_,_,l,rfl,_⟩:=r;rfl
 |.iface t u,_,r=>by simp only[VR]at r;obtain⟨u',rfl,_⟩:=r;rfl
 |.agg ⟨xs⟩,_,r=>by simp only[VR]at r;obtain⟨u',rfl,_⟩:=r;rfl
 |.tuple ⟨xs⟩,_,r=>by simp only[VR]at r;obtain⟨u',rfl,_⟩:=r;rfl
def aV(vs:List sD)(o:Nat)(xs:List sD):List sD:=vs.take o++xs++vs.drop (o+xs.length)
theorem eH{vs xs:List sD}{o:Nat}(h:o+xs.length<=vs.length):(aV vs o xs).length=vs.length:=by simp[aV];omega
def zlx:Option Nat->Nat->Bool
 |none,_=>true
 |some n,o=>n<=o
theorem np{cur rest:List sD}{o:Nat}{v:sD}(h:o<cur.length):aV (cur.set o v) (o+1) rest=aV cur o (v::rest):=by
 have e1:(cur.set o v).take (o+1)=cur.take o++[v]:=by rw[List.take_add_one,List.take_set_of_le (sG _)];simp[h]
 have e2:(cur.set o v).drop (o+1+rest.length)=cur.drop (o+1+rest.length):=List.drop_set_of_lt (by omega);simp only[aV,e1,e2,tN,tJ,tO,List.nil_append];rw[show o+1+rest.length=o+(rest.length+1) by omega]
theorem ku(g o:Nat)(t:sL)(fr:Nat×Nat):∀(vs:List sD)(i:Nat)(cur:Array sD)(w:tw),w.heap[g]?=some (.cells cur t fr)->(∀j,j<vs.length->¬(fr.1<=o+i+j/\o+i+j<fr.2))->o+i+vs.length<=cur.size->(∀v∈vs,v.oneCell'=true)->
  (storeCells ⟨g,o,none⟩ vs i).run P w=.ok () {w with heap:=w.heap.setIfInBounds g (.cells (aV cur.toList (o+i) vs).toArray t fr)}
 |[],i,cur,w,hg,_,_,_=>by
  have hlt:=(sK.1 hg).1;have:w.heap.setIfInBounds g (.cells cur t fr)=w.heap:=by
   apply td;intro j;rw[tc];split
   ·rename_i e;subst e;simp[hlt];exact((sK.1 hg).2).symm
   ·rfl
  simp only[storeCells,aV,List.append_nil,List.length_nil,tq,List.take_append_drop,tz,this];rfl
 |v::rest,i,cur,w,hg,hf,hl,h1=>by
  have hlt:=(sK.1 hg).1;have hi:o+i<cur.size:=by simp at hl;omega
  have hcell:w.cell? ⟨g,o+i,none⟩=some cur[o+i]:=by simp[tR,hg,hi]
  have hfro:w.frozen? ⟨g,o+i,none⟩=false:=by have h5:=hf 0 (by simp);obtain⟨lo,hi'⟩:=fr;simp only[t8,hg,Bool.and_eq_false_iff,decide_eq_false_iff_not];simp only[tq]at h5;omega
  have hset:w.setCell ⟨g,o+i,none⟩ v={w with heap:=w.heap.setIfInBounds g (.cells (cur.setIfInBounds (o+i) v) t fr)}:=by
   unfold tw.setCell;congr 1;apply td;intro j;rw[Array.getElem?_modify,tc];by_cases e:g=j
   ·subst e;simp[hlt];have:=(sK.1 hg).2;rw[this]
   ·simp[e]
  have hst:(store ((⟨g,o,none⟩:Addr).add i) v).run P w=.ok () {w with heap:=w.heap.setIfInBounds g (.cells (cur.setIfInBounds (o+i) v) t fr)}:=by rw[gT,run_store P w _ v _ (h1 v (by simp))];simp[hcell,hfro,hset]
  have ih:=ku g o t fr rest (i+1) (cur.setIfInBounds (o+i) v) {w with heap:=w.heap.setIfInBounds g (.cells (cur.setIfInBounds (o+i) v) t fr)} (by simp[hlt]) (fun j hj=>by have h5:=hf (j+1) (by simp;omega);rwa [show o+i+(j+1)=o+(i+1)+j by omega]at h5) (by simp at hl⊢;omega) (fun x hx=>h1 x (by simp[hx]));simp only[storeCells,sH,hst,sE,ih];congr 2;rw[Array.setIfInBounds_setIfInBounds];congr 2;apply congrArg;rw[te,sZ o i 1 |>.symm];exact np (by simpa using hi)
theorem LR.all1{xs xs':List sD}(hx:LR μ xs xs')(h1:xs.all (·.oneCell')=true):∀v∈xs',v.oneCell'=true:=fun v hv=>by obtain⟨i,hi⟩:=List.getElem?_of_mem hv;have hil:i<xs'.length:=(tg.1 hi).1;rw[hx.len]at hil;obtain⟨v',h5,h7⟩:=hx.get (List.getElem?_eq_getElem hil);rw[hi]at h5;cases h5;rw[zkG h7];exact List.all_eq_true.1 h1 _ (List.getElem_mem hil)
theorem nu{c xs:List sD}{d o:Nat}(h:d+o+xs.length<=c.length):(aV c (d+o) xs).drop d=aV (c.drop d) o xs:=by
 simp only[aV,tJ];rw[List.drop_append,tA,tV];have e1:(tP (d+o) c).length=d+o:=by simp;omega
 rw[e1,show d+o-d=o by omega,show d-(d+o)=0 by omega,tB,show d+(o+xs.length)=d+o+xs.length by omega]
theorem zdM{c xs:List sD}{n o:Nat}(h:o+xs.length<=n)(hn:n<=c.length):(aV c o xs).take n=aV (c.take n) o xs:=by
 simp only[aV];have e1:tP o (tP n c)=tP o c:=by rw[tW];congr 1;omega
 rw[e1,List.take_append,tr (by simp;omega)];congr 1;rw[tA];congr 1;simp;omega
theorem fa(W:WR μ A w){a a':Addr}{vs xs xs':List sD}{t:sL}{op:Bool}{fz:Option Nat}{es:Nat}(hr:AR μ a a')(hg:A.get a.block=some (.cells vs t op fz es))(hx:LR μ xs xs')(h1:xs.all (·.oneCell')=true)
  (hn:a.off+xs.length<=vs.length) (hf:zlx fz a.off=true):
  ∃w',(storeCells a' xs').run P w=.ok () w'/\WR μ (A.set a.block (some (.cells (aV vs a.off xs) t op fz es))) w'/\bG μ A w μ (A.set a.block (some (.cells (aV vs a.off xs) t op fz es))) w':=by
 obtain⟨hs,l,hm,rfl⟩:=hr;obtain⟨c,fr,h6,h8,h9,h10,hk,h11,h12⟩:=W.cells hm hg;have hcl:c.toList.length=l.sz:=by simpa using h8
 have hrun:=ku (P:=P) l.b (l.d+a.off) t fr xs' 0 c w h6 (fun j hj=>by
  rw[hx.len]at hj;cases fz with
  |none=>simp only[FZ]at h12;subst h12;simp
  |some n=>simp only[FZ]at h12;simp only[zlx,decide_eq_true_eq]at hf;rw[show l.d+a.off+0+j=l.d+(a.off+j) by omega,h12 _ (by omega)];omega) (by rw[hx.len];omega) (hx.all1 h1)
 refine⟨_,hrun,W.upd hg hm ?_⟩;simp only[tq];refine⟨_,fr,rfl,?_,?_,?_,hk,?_,h12⟩
 ·simp only[tK];rw[eH (by rw[hx.len];omega)];exact hcl
 ·rw[eH hn];exact h9
 ·rw[eH hn];exact h10
 ·rw[eH hn];rw[show(aV c.toList (l.d+a.off) xs').toArray.toList=aV c.toList (l.d+a.off) xs' from rfl,nu (by rw[hx.len];omega),zdM (by rw[hx.len];exact hn) (by simp;omega)];simp only[aV,hx.len];exact((h11.take _).append hx).append (h11.drop _)
end Ev
end
section
namespace Ev
variable {P:sJ} {μ:Mu} {A:AW} {w:tw}
abbrev bR:=Tr sD
def TR(μ:Mu)(l:bR)(l':List sD):Prop:=∀(t:Nat)(v:sD),l.get t=some v->∃v',l'[t]?=some v'/\VR μ v v'
theorem TR.mono{μ μ':Mu}{l:bR}{l':List sD}(h:Le μ μ')(r:TR μ l l'):TR μ' l l':=fun t v hv=>by obtain⟨v',h1,h2⟩:=r t v hv;exact⟨v',h1,h2.mono h⟩
noncomputable def zjb(v:sD):Bool:=sD.casesOn (motive_1:=fun _=>Bool) v (fun _=>true) (fun _ _=>true) (fun _ _=>true) (fun _ _ _=>false) (fun _=>true)
 (fun a=>Option.rec (motive:=fun _=>Bool) true (fun _=>false) a) (fun a _ _=>Option.rec (motive:=fun _=>Bool) true (fun _=>false) a) (fun a=>Option.rec (motive:=fun _=>Bool) true (fun _=>false) a)
 (fun _=>false) (fun _ _ _=>false) true (fun _ _=>false) true (fun _=>false) (fun _=>false)
theorem kI{v:sD}(h:zjb v=true):bS v=true:=by
 cases v with
 |pointer a=>cases a<;>first|rfl|cases h
 |slice a n c=>cases a<;>first|rfl|cases h
 |map a=>cases a<;>first|rfl|cases h
 |bool _=>rfl
 |int _ _=>rfl
 |float _ _=>rfl
 |string _=>rfl
 |nilFunc=>rfl
 |nilIface=>rfl
 |complex _ _ _=>cases h
 |chan _=>cases h
 |func _ _ _=>cases h
 |iface _ _=>cases h
 |agg _=>cases h
 |tuple _=>cases h
noncomputable def bE(l:bR):sN->Option sD
 |.tmp t=>l.get t
 |.const v=>if zjb v||bS v then some v else none
 |.global g=>match iK g with
  |some _=>some (.pointer (some ⟨g,0,none⟩))
  |none=>none
 |.func f=>some (.func (.func f) #[] #[])
theorem zxh{f:FuncId}:VR μ (.func (.func f) #[] #[]) (.func (.func f) #[] #[]):=by simp only[VR];exact⟨_,_,rfl,LR.nil,LR.nil⟩
theorem ar{l:bR}{a:Act}{x:sN}{v:sD}(h:TR μ l a.tmps.toList)(hx:bE l x=some v):VR μ v (a.eval x):=by
 cases x with
 |tmp t=>
  simp only[bE]at hx;obtain⟨v',h1,h2⟩:=h t v hx;have:a.tmps[t]?=some v':=by rw[<-sR];exact h1
  simp only[Act.eval];rw[Array.getD_eq_getD_getElem?,this];exact h2
 |const c=>
  simp only[bE]at hx;split at hx
  ·cases hx;rename_i hf;rw[tU]at hf;exact cq (hf.elim kI id)
  ·cases hx
 |global g=>
  simp only[bE]at hx;split at hx
  ·rename_i s hg;cases hx;simp only[VR];exact⟨_,rfl,rfl,_,μ.glob g s hg,rfl⟩
  ·cases hx
 |func f=>cases hx;exact zxh
noncomputable def zet(l:bR):List sN->Option (List sD)
 |[]=>some []
 |x::xs=>match bE l x,zet l xs with
  |some v,some vs=>some (v::vs)
  |_,_=>none
theorem jo{l:bR}{a:Act}(h:TR μ l a.tmps.toList):∀{xs:List sN} {vs:List sD},zet l xs=some vs->LR μ vs (xs.map a.eval)
 |[],_,hx=>by cases hx;exact LR.nil
 |x::xs,vs,hx=>by
  simp only[zet]at hx;split at hx
  ·rename_i v us h1 h2;cases hx;exact LR.cons (ar h h1) (jo h h2)
  ·cases hx
def Res(P:sJ)(ρ:sN->sD)(o:Oper)(w:tw)(v:sD)(w':tw):Prop:=
 (tu ρ o).run P w=.ok (.value v) w'\/((tu ρ o).run P w=.ok .skip w'/\v=undef)
def zhF(P:sJ)(ρ:sN->sD)(o:Oper)(μ:Mu)(A:AW)(w:tw)(v:sD)(A':AW):Prop:=
 ∃μ' v' w',Res P ρ o w v' w'/\VR μ' v v'/\WR μ' A' w'/\bG μ A w μ' A' w'
theorem zhF.same{ρ:sN->sD}{o:Oper}{v v':sD}(W:WR μ A w)(h:(tu ρ o).run P w=.ok (.value v') w)(hv:VR μ v v'):zhF P ρ o μ A w v A:=
 ⟨μ,v',w,.inl h,hv,W,bG.refl⟩
theorem dW:VR μ undef undef:=by simp only[undef,VR];exact⟨_,rfl,LR.nil⟩
theorem rT{t:sL}{i:tY}(h:P.info? t=some i):(typeInfo t).run P w=.ok i w:=by simp[typeInfo,h]
theorem rU{t:sL}{d:tL}(h:P.underlying t=some d):(underlying t).run P w=.ok d w:=tf h w
theorem rS{t:sL}{i:tY}(h:P.info? t=some i):(sizeOf t).run P w=.ok i.size w:=by simp[sizeOf,rT h]
theorem rZ{t:sL}{i:tY}{z:sD}(h:P.info? t=some i)(hz:i.zero=some z):(zeroValue t).run P w=.ok z w:=by simp[zeroValue,rT h,hz]
def zrR:tL->Bool
 |.struct _|.array _ _=>true
 |_=>false
theorem zqJ{t:sL}{d:tL}(h:P.underlying t=some d):(isAgg t).run P w=.ok (zrR d) w:=by simp only[isAgg,sH,rU h,sE];cases d<;>simp[zrR]
def oz{α:Type}(P:sJ):Sem α->Option α
 |.pure a=>some a
 |.program k=>oz P (k P)
 |_=>none
theorem pT{α:Type}:∀{s:Sem α} {a:α},oz P s=some a->s.run P w=.ok a w
 |.pure _,_,h=>by cases h;rfl
 |.program k,a,h=>by simp only[oz]at h;simp only[Sem.run];exact pT h
 |.load _ _ _,_,h|.store _ _ _ _,_,h|.new _ _,_,h|.shape _ _,_,h|.freeze _ _ _,_,h|.frozen _ _,_,h|.getObj _ _,_,h|.setObj _ _ _,_,h|.choose _ _,_,h|.sys _ _,_,h|.mark _ _,_,h|.halt _,_,h=>by cases h
def zbx:Op->Option (List sN)
 |.binOp _ _ x y _=>some [x,y]
 |.unOp _ _ x|.convert _ _ x=>some [x]
 |.index _ x y=>some [x,y]
 |.slice _ x none none none=>some [x]
 |.slice _ x (some y) none none|.slice _ x none (some y) none=>some [x,y]
 |.slice _ x (some y) (some z) none=>some [x,y,z]
 |.call {callee:=.builtin .len,args:=⟨[x]⟩,argTypes:=_}=>some [x]
 |.call {callee:=.builtin .max,args:=⟨[x,y]⟩,argTypes:=_}|.call {callee:=.builtin .min,args:=⟨[x,y]⟩,argTypes:=_}=>some [x,y]
 |_=>none
theorem zhg{ρ ρ':sN->sD}{o:Oper}{xs:List sN}(h:zbx o.op=some xs)(he:∀x∈xs,ρ x=ρ' x):tu ρ o=tu ρ' o:=by
 obtain⟨dst,op,type,pos,after,guard⟩:=o;simp only at h;unfold zbx at h;split at h<;>first
  |(cases h;simp only[ua,List.not_mem_nil,or_false,forall_eq_or_imp,forall_eq]at he;simp[tu,he,resolve];done)
  |(cases h;done)
def zwT:sD->Bool
 |.agg _=>true
 |_=>false
noncomputable def zoz(v:sD):Bool:=zjb v||(zwT v&&bS v)
theorem zhc{v:sD}(h:zoz v=true):bS v=true:=by unfold zoz at h;rw[tU,sY]at h;exact h.elim kI (·.2)
noncomputable def oP(l:bR):List sN->Bool
 |[]=>true
 |x::xs=>match bE l x with
  |some v=>zoz v&&oP l xs
  |none=>false
noncomputable def ρA(l:bR)(x:sN):sD:=(bE l x).getD undef
def nM(op:uk)(k:IntKind)(a b:Int):Option sD:=match op with
 |.add=>some (.int k (k.wrap (a+b)))
 |.sub=>some (.int k (k.wrap (a-b)))
 |.mul=>some (.int k (k.wrap (a*b)))
 |.eql=>some (.bool (a==b))
 |.neq=>some (.bool (a != b))
 |.lss=>some (.bool (decide (a<b)))
 |.leq=>some (.bool (decide (a<=b)))
 |.gtr=>some (.bool (decide (a>b)))
 |.geq=>some (.bool (decide (a≥b)))
 |_=>none
theorem zoI{op:uk}{k:IntKind}{t:sL}{x y:sN}{a b:Int}{v:sD}(h:nM op k a b=some v):(do eqGuard op t x y (.int k a) (.int k b);binOp op t (.int k a) (.int k b):Sem sD).run P w=.ok v w:=by
 unfold nM at h;split at h<;>first
  |(cases h;simp[eqGuard,binOp,Op.intArith,Op.intCmp];done)
  |cases h
theorem zhe{op:uk}{k:IntKind}{a b:Int}{v:sD}(h:nM op k a b=some v):bS v=true:=by
 unfold nM at h;split at h<;>first
  |(cases h;rfl)
  |cases h
def zkV:List UInt8->Nat->Option UInt8
 |[],_=>none
 |b::_,0=>some b
 |_::l,n+1=>zkV l n
theorem ziY:∀(l:List UInt8)(n:Nat),zkV l n=l[n]?
 |[],n=>by simp[zkV]
 |b::l,0=>rfl
 |b::l,n+1=>by rw[zkV,ziY l n];simp
def zjd(op:uk)(x y:sD):Option sD:=match x with
 |.int .i64 a=>match y with
  |.int .i64 b=>nM op .i64 a b
  |_=>none
 |.int .u8 a=>match y with
  |.int .u8 b=>nM op .u8 a b
  |_=>none
 |.int .i32 a=>match y with
  |.int .i32 b=>nM op .i32 a b
  |_=>none
 |_=>none
theorem zoJ{op:uk}{u z v:sD}(h:zjd op u z=some v):∃k a b,u=.int k a/\z=.int k b/\nM op k a b=some v:=by
 unfold zjd at h;split at h
 ·split at h
  ·exact⟨_,_,_,rfl,rfl,h⟩
  ·cases h
 ·split at h
  ·exact⟨_,_,_,rfl,rfl,h⟩
  ·cases h
 ·split at h
  ·exact⟨_,_,_,rfl,rfl,h⟩
  ·cases h
 ·cases h
theorem zot{s:ByteArray}{n:Nat}{b:UInt8}(h:zkV s.data.toList n=some b):s[n]?=some b:=by
 rw[ziY]at h;obtain⟨hn,hb⟩:=tg.1 h;have hn':n<s.size:=by simpa using hn
 rw[getElem?_pos s n hn'];exact congrArg some hb
noncomputable def zsG(P:sJ)(s d:sL)(x:sD):Option sD:=match x with
 |.int _ n=>match P.underlying s with
  |some _=>match P.underlying d with
   |some (.int k)=>some (.int k (k.wrap n))
   |_=>none
  |_=>none
 |_=>none
noncomputable def zsF(P:sJ)(t:sL)(x i:sD):Option sD:=match x with
 |.string s=>match i with
  |.int _ (.ofNat z)=>match P.underlying t with
   |some .string=>match zkV s.data.toList z with
    |some b=>some (.int .u8 (.ofNat b.toNat))
    |none=>none
   |_=>none
  |_=>none
 |_=>none
noncomputable def zjc(P:sJ)(l:bR)(o:Oper):Option sD:=match o.op with
 |.binOp op _ x y _=>match bE l x with
  |some a=>match bE l y with
   |some b=>zjd op a b
   |_=>none
  |_=>none
 |.convert s d x=>match bE l x with
  |some a=>zsG P s d a
  |_=>none
 |.index t x i=>match bE l x with
  |some a=>match bE l i with
   |some b=>zsF P t a b
   |_=>none
  |_=>none
 |_=>none
theorem zoH{l:bR}{a:Act}{o:Oper}{v:sD}(W:WR μ A w)(h:TR μ l a.tmps.toList)(hp:zjc P l o=some v):zhF P a.eval o μ A w v A:=by
 obtain⟨dst,op,type,pos,after,guard⟩:=o;unfold zjc at hp;simp only at hp;split at hp
 ·split at hp
  ·rename_i hx;split at hp
   ·rename_i hy;have e1:=ar h hx;have e2:=ar h hy;obtain⟨k,n,m,rfl,rfl,hq⟩:=zoJ hp;have e1:=cV rfl e1;have e2:=cV rfl e2;have h5:=fun t x y=>zoI (P:=P) (w:=w) (t:=t) (x:=x) (y:=y) hq;exact .same W (by simp only[tu,e1,e2,sH,sE,Sem.run_pure];simp only[sH,sE]at h5;simp only[h5]) (cq (zhe hq))
   ·cases hp
  ·cases hp
 ·split at hp
  ·rename_i hx;unfold zsG at hp;split at hp
   ·split at hp
    ·rename_i hs;split at hp
     ·rename_i hd;cases hp;have e1:=cV rfl (ar h hx);exact .same W (by simp[tu,e1,convert,tf hs,tf hd,Conv.intToInt]) (cq rfl)
     ·cases hp
    ·cases hp
   ·cases hp
  ·cases hp
 ·split at hp
  ·rename_i hx;split at hp
   ·rename_i hi;unfold zsF at hp;split at hp
    ·split at hp
     ·split at hp
      ·rename_i ht;split at hp
       ·rename_i hg;cases hp;have e1:=cV rfl (ar h hx);have e2:=cV rfl (ar h hi);have hg:=zot hg;exact .same W (by simp[tu,e1,e2,Instr.index,tf ht,asIntOf,hg]) (cq rfl)
       ·cases hp
      ·cases hp
     ·cases hp
    ·cases hp
   ·cases hp
  ·cases hp
 ·cases hp
noncomputable def zpD(P:sJ)(l:bR)(o:Oper):Option sD:=
 match zbx o.op with
 |some xs=>if oP l xs then
   match oz P (tu (fun|.const v=>v|x=>ρA l x) o)with
   |some (.value v)=>if zjb v then some v else none
   |_=>none
  else none
 |none=>none
theorem qv{l:bR}{a:Act}(h:TR μ l a.tmps.toList):∀{xs:List sN},oP l xs=true->∀x∈xs,ρA l x=a.eval x
 |[],_,_,hx=>by cases hx
 |x::xs,hf,y,hy=>by
  simp only[oP]at hf;split at hf
  ·rename_i v hv;rw[sY]at hf;rcases ua.1 hy with rfl|hy
   ·have:=cV (zhc hf.1) (ar h hv);simp[ρA,hv,this]
   ·exact qv h hf.2 y hy
  ·cases hf
theorem zpC{l:bR}{a:Act}{o:Oper}{v:sD}(W:WR μ A w)(h:TR μ l a.tmps.toList)(hp:zpD P l o=some v):zhF P a.eval o μ A w v A:=by
 unfold zpD at hp;split at hp
 ·rename_i xs iJ;split at hp
  ·rename_i hf;split at hp
   ·rename_i u hu;split at hp
    ·rename_i hfv;cases hp;refine .same W ?_ (cq (kI hfv));rw[<-zhg (ρ:=fun|.const v=>v|x=>ρA l x) iJ (fun x hx=>?_)]
     ·exact pT hu
     ·cases x with
      |const c=>rfl
      |_=>exact qv h hf _ hx
    ·cases hp
   ·cases hp
  ·cases hp
 ·cases hp
noncomputable def fx(P:sJ)(l:bR)(o:Oper):Option sD:=match zjc P l o with
 |some v=>some v
 |none=>zpD P l o
theorem gu{l:bR}{a:Act}{o:Oper}{v:sD}(W:WR μ A w)(h:TR μ l a.tmps.toList)(hp:fx P l o=some v):zhF P a.eval o μ A w v A:=by
 unfold fx at hp;split at hp
 ·cases hp;exact zoH W h (by assumption)
 ·exact zpC W h hp
def az:sD->List sD
 |.agg ⟨l⟩=>l
 |v=>[v]
theorem iV:∀{v v':sD},VR μ v v'->LR μ (az v) v'.cells.toList
 |.bool _,_,r|.int _ _,_,r|.float _ _,_,r|.string _,_,r|.pointer none,_,r|.slice none _ _,_,r|.map none,_,r|.nilFunc,_,r|.nilIface,_,r=>by have r':=r;simp only[VR]at r;subst r;exact LR.cons r' LR.nil
 |.pointer (some a),_,r=>by have r':=r;simp only[VR]at r;obtain⟨a',rfl,_⟩:=r;exact LR.cons r' LR.nil
 |.slice (some a) n c,_,r=>by have r':=r;simp only[VR]at r;obtain⟨a',c',rfl,_⟩:=r;exact LR.cons r' LR.nil
 |.map (some a),_,r=>by have r':=r;simp only[VR]at r;obtain⟨l,rfl,_⟩:=r;exact LR.cons r' LR.nil
 |.func (.func f) ⟨x⟩ ⟨y⟩,_,r=>by have r':=r;simp only[VR]at r;obtain⟨x',y',rfl,_⟩:=r;exact LR.cons r' LR.nil
 |.func (.method _) _ _,_,r|.func (.methodOf _ _) _ _,_,r|.func (.via _ _ _ _) _ _,_,r|.chan _,_,r|.complex _ _ _,_,r=>by simp[VR]at r
 |.func (.yield i) _ _,_,r=>by have r':=r;simp only[VR]at r;obtain⟨_,_,l,rfl,_⟩:=r;exact LR.cons r' LR.nil
 |.iface t u,_,r=>by have r':=r;simp only[VR]at r;obtain⟨u',rfl,_⟩:=r;exact LR.cons r' LR.nil
 |.agg ⟨xs⟩,_,r=>by simp only[VR]at r;obtain⟨u',rfl,h⟩:=r;exact h
 |.tuple ⟨xs⟩,_,r=>by have r':=r;simp only[VR]at r;obtain⟨u',rfl,_⟩:=r;exact LR.cons r' LR.nil
noncomputable def ma(P:sJ)(A:AW)(t:sL):sD->Option sD
 |.pointer (some a)=>match A.get a.block,P.underlying t with
  |some (.cells vs _ _ _ _),some d=>if zrR d then
    (match P.info? t with
    |some i=>if a.off+i.size<=vs.length then some (.agg ⟨(vs.drop a.off).take i.size⟩)else none
    |none=>none)
   else vs[a.off]?
  |_,_=>none
 |_=>none
theorem zaQ{t:sL}{a a':Addr}{v:sD}(W:WR μ A w)(hv:AR μ a a')(h:ma P A t (.pointer (some a))=some v):
  ∃v',(loadVar t a').run P w=.ok v' w/\VR μ v v':=by
 simp only[ma]at h;split at h
 ·rename_i vs ty op fz es d hg hd;split at h
  ·rename_i hagg;split at h
   ·rename_i i hi;split at h
    ·rename_i hn;cases h;obtain⟨xs',h1,h2⟩:=eN (P:=P) W hv hg hn;refine⟨.agg xs'.toArray,?_,?_⟩
     ·simp[loadVar,zqJ hd,hagg,rS hi,h1]
     ·simp only[VR];exact⟨_,rfl,h2⟩
    ·cases h
   ·cases h
  ·rename_i hagg;obtain⟨v',h1,h2⟩:=znN W hv hg h;refine⟨v',?_,h2⟩;simp only[loadVar,sH,zqJ hd,sE,hagg,sP,if_false,run_load,h1]
 ·cases h
theorem zpI{t:sL}{p p' v:sD}(W:WR μ A w)(hv:VR μ p p')(h:ma P A t p=some v):
  ∃v',(ug t p').run P w=.ok v' w/\VR μ v v':=by
 unfold ma at h;split at h
 ·rename_i a;simp only[VR]at hv;obtain⟨a',rfl,ha⟩:=hv;obtain⟨v',h1,h2⟩:=zaQ W ha (P:=P) (t:=t) (v:=v) (by unfold ma;exact h);exact⟨v',by simp[ug,sW,h1],h2⟩
 ·cases h
noncomputable def zcC(P:sJ)(A:AW)(t:sL)(v:sD):sD->Option AW
 |.pointer (some a)=>match A.get a.block,P.info? t with
  |some (.cells vs ty op fz es),some i=>
   if (az v).length=i.size/\(az v).all (·.oneCell')=true/\a.off+(az v).length<=vs.length/\zlx fz a.off=true then
    some (A.set a.block (some (.cells (aV vs a.off (az v)) ty op fz es)))
   else none
  |_,_=>none
 |_=>none
theorem zlo{t:sL}{p p' v v':sD}{A':AW}(W:WR μ A w)(hp:VR μ p p')(hv:VR μ v v')(h:zcC P A t v p=some A'):
  ∃w',(ud t p' v').run P w=.ok () w'/\WR μ A' w'/\bG μ A w μ A' w':=by
 unfold zcC at h;split at h
 ·rename_i a;simp only[VR]at hp;obtain⟨a',rfl,ha⟩:=hp;split at h
  ·rename_i vs ty op fz es i hg hi;split at h
   ·rename_i hc;obtain⟨h1,h2,h3,h4⟩:=hc;cases h;have hL:=iV hv;obtain⟨w',h5,h6⟩:=fa (P:=P) W ha hg hL h2 h3 h4;refine⟨w',?_,h6⟩;have hsz:v'.cells.size=i.size:=by rw[<-h1,<-hL.len];simp
    simp[ud,sW,storeVar,rS hi,hsz,h5]
   ·cases h
  ·cases h
 ·cases h
theorem zbN{cs cs':List sD}{t es:Nat}(W:WR μ A w)(h:LR μ cs cs'):
  ∃w',(newRow t cs'.toArray).run P w=.ok ⟨w.heap.size,0,none⟩ w'/\WR (μ.add A.next ⟨w.heap.size,0,cs.length,es⟩) (A.push (.cells cs t false none es)) w'/\bG μ A w (μ.add A.next ⟨w.heap.size,0,cs.length,es⟩) (A.push (.cells cs t false none es)) w':=by
 refine⟨{w with heap:=w.heap.push (.cells cs'.toArray t)},by simp[newRow],W.new ?_⟩;have hle:=Mu.add_le (x:=⟨w.heap.size,0,cs.length,es⟩) (W.dom A.next (sG _));refine⟨_,_,rfl,by simp[h.len],by simp,by simp,rfl,?_,rfl⟩;simp only[tB];rw[tr (by simp[h.len])];exact h.mono hle
theorem zcP{n:Nat}{l:qX}(h:μ n=none):AR (μ.add n l) ⟨n,0,none⟩ ⟨l.b,l.d,none⟩:=⟨rfl,l,Mu.add_get h,by simp⟩
def zfE(A:AW)(t:sL)(cs:List sD)(es:Nat):sD×AW:=(.pointer (some ⟨A.next,0,none⟩),A.push (.cells cs t false none es))
theorem zjH{t es:Nat}{v v':sD}(W:WR μ A w)(hv:VR μ v v'):
  ∃μ' p' w',(Instr.box t v').run P w=.ok p' w'/\VR μ' (zfE A t (az v) es).1 p'/\WR μ' (zfE A t (az v) es).2 w'/\bG μ A w μ' (zfE A t (az v) es).2 w':=by
 obtain⟨w',h1,h2,h3⟩:=zbN (P:=P) (t:=t) (es:=es) W (iV hv);have e:v'.cells.toList.toArray=v'.cells:=by simp
 rw[e]at h1;refine⟨_,_,w',by simp[Instr.box,newVar,h1];rfl,?_,h2,h3⟩;simp only[zfE,VR];exact⟨_,rfl,zcP (W.dom _ (sG _))⟩
end Ev
end
section
namespace Ev
variable {P:sJ} {μ:Mu} {A:AW} {w:tw}
def zcJ(P:sJ)(s:sL)(f:Nat):sD->Option sD
 |.pointer (some a)=>match P.underlying s with
  |some (.struct fields)=>match fields[f]? with
   |some fd=>match P.info? fd.type with
    |some i=>if i.size=0 then none else some (.pointer (some (a.add fd.offset)))
    |none=>none
   |none=>none
  |_=>none
 |_=>none
theorem zlt{s:sL}{f:Nat}{p p' v:sD}(hp:VR μ p p')(h:zcJ P s f p=some v):∃v',(ue s p' f).run P w=.ok v' w/\VR μ v v':=by
 unfold zcJ at h;split at h
 ·rename_i a;simp only[VR]at hp;obtain⟨a',rfl,ha⟩:=hp;split at h
  ·rename_i fields hd;split at h
   ·rename_i fd hf;split at h
    ·rename_i i hi;split at h
     ·cases h
     ·rename_i hz;cases h;refine⟨.pointer (some (a'.add fd.offset)),?_,?_⟩
      ·simp[ue,rU hd,hf,sW,fieldPlace,rS hi,hz]
      ·simp only[VR];exact⟨_,rfl,ha.add _⟩
    ·cases h
   ·cases h
  ·cases h
 ·cases h
theorem SR.addr{a a':Addr}{n c c':Nat}(h:SR μ a n c a' c')(hn:0<n):AR μ a a':=by
 rcases h with ⟨_,_,h⟩|⟨_,⟨h,_⟩|⟨h1,_,l,h2,h3,_⟩⟩
 ·exact h
 ·omega
 ·exact⟨h1,l,h2,h3⟩
def zcH(P:sJ)(t:sL)(x:sD):sD->Option sD
 |.int _ i=>match P.underlying t,x with
  |some (.slice elem),.slice (some a) len _=>match P.info? elem with
   |some ii=>if 0<=i/\i<len then some (.pointer (some (a.add (i.toNat*ii.size))))else none
   |none=>none
  |some (.array len elem),.pointer (some a)=>match P.info? elem with
   |some ii=>if 0<=i/\i<len then some (.pointer (some (a.add (i.toNat*ii.size))))else none
   |none=>none
  |_,_=>none
 |_=>none
theorem zlr{t:sL}{x x' ix ix' v:sD}(hx:VR μ x x')(hi:VR μ ix ix')(h:zcH P t x ix=some v):∃v',(tE t x' ix').run P w=.ok v' w/\VR μ v v':=by
 unfold zcH at h;split at h
 ·rename_i k i;simp only[VR]at hi;subst hi;split at h
  ·rename_i elem a len c hd;simp only[VR]at hx;obtain⟨a',c',rfl,hs⟩:=hx;split at h
   ·rename_i ii hii;split at h
    ·rename_i hc;cases h;have ha:=hs.addr (by omega);refine⟨.pointer (some (a'.add (i.toNat*ii.size))),?_,?_⟩
     ·simp[tE,asIntOf,rU hd,rS hii,hc]
     ·simp only[VR];exact⟨_,rfl,ha.add _⟩
    ·cases h
   ·cases h
  ·rename_i len elem a hd;simp only[VR]at hx;obtain⟨a',rfl,ha⟩:=hx;split at h
   ·rename_i ii hii;split at h
    ·rename_i hc;cases h;refine⟨.pointer (some (a'.add (i.toNat*ii.size))),?_,?_⟩
     ·simp[tE,asIntOf,rU hd,rS hii,hc,sW]
     ·simp only[VR];exact⟨_,rfl,ha.add _⟩
    ·cases h
   ·cases h
  ·cases h
 ·cases h
def bnd:Option sD->Nat->Nat->Option Nat
 |none,d,_=>some d
 |some (.int _ i),_,cJ=>if 0<=i/\i<=cJ then some i.toNat else none
 |_,_,_=>none
def OVR(μ:Mu):Option sD->Option sD->Prop
 |none,y=>y=none
 |some x,y=>∃x',y=some x'/\VR μ x x'
theorem zhq{x x':Option sD}{d cJ n:Nat}(hx:OVR μ x x')(h:bnd x d cJ=some n):(x=none/\x'=none/\n=d)\/(∃k i,x'=some (.int k i)/\0<=i/\i<=cJ/\n=i.toNat/\x.isSome=true):=by
 unfold bnd at h;split at h
 ·cases h;simp only[OVR]at hx;exact .inl ⟨rfl,hx,rfl⟩
 ·simp only[OVR,VR]at hx;obtain⟨_,rfl,rfl⟩:=hx;split at h
  ·rename_i hc;cases h;exact .inr ⟨_,_,rfl,hc.1,hc.2,rfl,rfl⟩
  ·cases h
 ·cases h
theorem gI{sl:Bool}{len cap:Nat}{lo lo' hi hi':Option sD}{l h cJ:Nat}(hlo:OVR μ lo lo')(hhi:OVR μ hi hi')(h1:bnd hi len cJ=some h)(h2:bnd lo 0 h=some l)(ht:cJ<=cap):
  (sS sl len cap lo' hi' none).run P w=.ok (l,h,cap) w:=by
 rcases zhq hhi h1 with ⟨_,rfl,rfl⟩|⟨k,i,rfl,h3,h4,rfl,_⟩
 ·rcases zhq hlo h2 with ⟨_,rfl,rfl⟩|⟨k,i,rfl,h3,h4,rfl,_⟩
  ·simp[sS]
  ·have:0<=i/\i<=(h:Int):=⟨h3,h4⟩;simp[sS,ti,asIntOf,this]
 ·have h5:0<=i/\i<=(cap:Int):=⟨h3,by omega⟩;rcases zhq hlo h2 with ⟨_,rfl,rfl⟩|⟨k',i',rfl,h6,h7,rfl,_⟩
  ·simp[sS,ti,asIntOf,h5]
  ·have h8:0<=i'/\i'<=(i.toNat:Int):=⟨h6,h7⟩;have h9:i'<=i:=by omega
   have h10:0<=i'/\i'<=max i 0:=⟨h6,by omega⟩;simp[sS,ti,asIntOf,h5,h8,h10]
noncomputable def zcD(P:sJ)(A:AW)(t:sL)(lo hi:Option sD):sD->Option sD
 |.slice none len cap=>match P.underlying t with
  |some (.slice elem)=>match P.info? elem,bnd hi len cap with
   |some _,some h=>match bnd lo 0 h with
    |some l=>some (.slice none (h-l) (cap-l))
    |none=>none
   |_,_=>none
  |_=>none
 |.slice (some a) len cap=>match P.underlying t with
  |some (.slice elem)=>match P.info? elem with
   |some ii=>
    if cap=px then
     match A.get a.block,bnd hi len len with
     |some (.cells _ _ _ _ es),some h=>match bnd lo 0 h with
      |some l=>if es=ii.size/\a.spot=none then some (.slice (some (a.add (l*ii.size))) (h-l) px)else none
      |none=>none
     |_,_=>none
    else if cap<px then
     match bnd hi len cap with
     |some h=>match bnd lo 0 h with
      |some l=>some (.slice (some (if cap=l then a else a.add (l*ii.size))) (h-l) (cap-l))
      |none=>none
     |none=>none
    else none
   |none=>none
  |_=>none
 |.pointer (some a)=>match P.underlying t with
  |some (.array n elem)=>match P.info? elem,bnd hi n n with
   |some ii,some h=>if n<px then match bnd lo 0 h with
    |some l=>some (.slice (some (if n=l then a else a.add (l*ii.size))) (h-l) (n-l))
    |none=>none
    else none
   |_,_=>none
  |_=>none
 |_=>none
theorem zhr{x:Option sD}{d cJ n:Nat}(h:bnd x d cJ=some n)(hd:d<=cJ):n<=cJ:=by
 unfold bnd at h;split at h
 ·cases h;exact hd
 ·split at h
  ·cases h;omega
  ·cases h
 ·cases h
theorem zlp{t:sL}{lo lo' hi hi':Option sD}{x x' v:sD}(W:WR μ A w)(hx:VR μ x x')(hlo:OVR μ lo lo')(hhi:OVR μ hi hi')(h:zcD P A t lo hi x=some v):∃v',(ta t x' lo' hi' none).run P w=.ok v' w/\VR μ v v':=by
 unfold zcD at h;split at h
 ·rename_i len cap;simp only[VR]at hx;subst hx;split at h
  ·rename_i elem hd;split at h
   ·rename_i i h0 hi1 hb;split at h
    ·rename_i l hl;cases h;refine⟨.slice none (h0-l) (cap-l),?_,by simp[VR]⟩;simp[ta,tS,rU hd,rS hi1,gI (sl:=true) hlo hhi hb hl (sG _)]
    ·cases h
   ·cases h
  ·cases h
 ·rename_i a len cap;simp only[VR]at hx;obtain⟨a',c',rfl,hs⟩:=hx;split at h
  ·rename_i elem hd;split at h
   ·rename_i ii hi1;split at h
    ·rename_i hu;split at h
     ·rename_i vs ty op fz es h0 hg hb;split at h
      ·rename_i l hl;split at h
       ·rename_i hes;cases h;obtain⟨hes,hsp⟩:=hes;have hl0:l<=h0:=zhr hl (Nat.zero_le _);have hh0:h0<=len:=zhr hb (sG _);have hlen:len<=c':=by
         rcases hs with ⟨h1,_⟩|⟨_,⟨h1,h2⟩|⟨_,h1,_⟩⟩
         ·exact absurd hu h1
         ·omega
         ·exact h1
        refine⟨.slice (if c'=l then some a' else some (a'.add (l*ii.size))) (h0-l) (c'-l),?_,?_⟩
        ·simp[ta,tS,rU hd,rS hi1,gI (sl:=true) (cap:=c') hlo hhi hb hl hlen]
        ·simp only[VR];by_cases hc:c'=l
         ·rw[if_pos hc];exact⟨a',c'-l,rfl,.inr ⟨rfl,.inl ⟨by omega,by omega⟩⟩⟩
         ·rw[if_neg hc];refine⟨_,_,rfl,.inr ⟨rfl,.inr ?_⟩⟩;rcases hs with ⟨h1,_⟩|⟨_,⟨h1,h2⟩|⟨h1,h2,lo1,h3,h4,h5⟩⟩
          ·exact absurd hu h1
          ·omega
          ·have hk:es=lo1.k:=by obtain⟨c,fr,_,_,_,_,hk,_⟩:=W.cells h3 hg;exact hk
           obtain⟨ab,ao,asp⟩:=a;simp only at hsp h3 h5 h4;subst hsp h4;rw[gT,gT];refine⟨rfl,by omega,lo1,h3,by simp[sZ],?_⟩;simp only;rw[hk]at hes;rw[<-hes];have:l*lo1.k+(c'-l)*lo1.k=c'*lo1.k:=by rw[<-sT];congr 1;omega
           omega
       ·cases h
      ·cases h
     ·cases h
    ·rename_i hu;split at h
     ·rename_i hlt;split at h
      ·rename_i h0 hb;split at h
       ·rename_i l hl;cases h;have hl0:l<=h0:=zhr hl (Nat.zero_le _);rcases hs with ⟨_,rfl,ha⟩|⟨h1,_⟩
        ·refine⟨.slice (if c'=l then some a' else some (a'.add (l*ii.size))) (h0-l) (c'-l),?_,?_⟩
         ·simp[ta,tS,rU hd,rS hi1,gI (sl:=true) (cap:=c') hlo hhi hb hl (sG _)]
         ·simp only[VR];by_cases hc:c'=l
          ·rw[if_pos hc,if_pos hc];exact⟨a',_,rfl,.inl ⟨by omega,rfl,ha⟩⟩
          ·rw[if_neg hc,if_neg hc];exact⟨_,_,rfl,.inl ⟨by omega,rfl,ha.add _⟩⟩
        ·exact absurd h1 hu
       ·cases h
      ·cases h
     ·cases h
   ·cases h
  ·cases h
 ·rename_i a;simp only[VR]at hx;obtain⟨a',rfl,ha⟩:=hx;split at h
  ·rename_i n elem hd;split at h
   ·rename_i ii h0 hi1 hb;split at h
    ·rename_i hlt;split at h
     ·rename_i l hl;cases h;refine⟨.slice (if n=l then some a' else some (a'.add (l*ii.size))) (h0-l) (n-l),?_,?_⟩
      ·simp only[ta,sH,rU hd,sE,sW,Sem.run_pure,gI (sl:=false) (cap:=n) hlo hhi hb hl (sG _),rS hi1];split<;>rfl
      ·simp only[VR];by_cases hc:n=l
       ·rw[if_pos hc,if_pos hc];exact⟨a',_,rfl,.inl ⟨by omega,rfl,ha⟩⟩
       ·rw[if_neg hc,if_neg hc];exact⟨_,_,rfl,.inl ⟨by omega,rfl,ha.add _⟩⟩
     ·cases h
    ·cases h
   ·cases h
  ·cases h
 ·cases h
end Ev
end
section
namespace Ev
variable {P:sJ} {μ:Mu} {A:AW} {w:tw}
def iI(place:Nat->Option (Nat×Nat)):List sD->List (Nat×sD)->Option (List sD)
 |cs,[]=>some cs
 |cs,(i,v)::r=>match place i with
  |none=>none
  |some (off,size)=>if (az v).length=size/\off+(az v).length<=cs.length then iI place (aV cs off (az v)) r else none
theorem ci:∀v:sD,v.cells.toList=az v
 |.agg _=>rfl
 |.bool _|.int _ _|.float _ _|.complex _ _ _|.string _|.pointer _|.slice _ _ _|.map _|.chan _|.func _ _ _|.nilFunc|.iface _ _|.nilIface|.tuple _=>rfl
theorem nJ:∀(l:List sD)(off i:Nat)(cs:Array sD),off+i+l.length<=cs.size->(l.zipIdx i).foldl (fun(cs:Array sD)(x:sD×Nat)=>cs.setIfInBounds (off+x.2) x.1) cs=(aV cs.toList (off+i) l).toArray
 |[],off,i,cs,_=>by simp[aV]
 |v::r,off,i,cs,h=>by simp only[tN]at h;simp only[List.zipIdx_cons,List.foldl_cons];rw[nJ r off (i+1) _ (by simp;omega),te,<-sZ,np (by simp;omega)]
theorem oQ(place:Nat->Option (Nat×Nat)):∀(ps:List (Nat×sD))(cs:Array sD)(r:List sD),iI place cs.toList ps=some r->tZ place cs ps=some r.toArray
 |[],cs,r,h=>by simp only[iI]at h;cases h;simp[tZ]
 |(i,v)::ps,cs,r,h=>by
  simp only[iI]at h;simp only[tZ];split at h
  ·cases h
  ·rename_i off size hp;rw[hp];split at h
   ·rename_i hc;obtain⟨h1,h2⟩:=hc;have hsz:v.cells.size=(az v).length:=by rw[<-ci];simp
    have hn:(decide (v.cells.size≠size)||decide (off+v.cells.size>cs.size))=false:=by simp only[Bool.or_eq_false_iff,decide_eq_false_iff_not];simp only[Array.length_toList]at h2;exact⟨by omega,by omega⟩
    simp only[hn,sP,if_false];apply oQ place ps;have e:(v.cells.zipIdx.foldl (fun cs (c,j)=>cs.setIfInBounds (off+j) c) cs).toList=aV cs.toList off (az v):=by rw[<-Array.foldl_toList,Array.toList_zipIdx,ci];have:=nJ (az v) off 0 cs (by simpa using h2);simp only[tq]at this;exact congrArg Array.toList this
    rw[e];exact h
   ·cases h
def PR(μ:Mu):List (Nat×sD)->List (Nat×sD)->Prop
 |[],l=>l=[]
 |(i,v)::r,l=>∃v' r',l=(i,v')::r'/\VR μ v v'/\PR μ r r'
theorem ju(place:Nat->Option (Nat×Nat)):∀{ps ps':List (Nat×sD)} {cs cs' r:List sD},PR μ ps ps'->LR μ cs cs'->iI place cs ps=some r->∃r',iI place cs' ps'=some r'/\LR μ r r'
 |[],ps',cs,cs',r,hp,hc,h=>by simp only[PR]at hp;subst hp;simp only[iI]at h;cases h;exact⟨cs',rfl,hc⟩
 |(i,v)::ps,ps',cs,cs',r,hp,hc,h=>by
  simp only[PR]at hp;obtain⟨v',ps'',rfl,hv,hp⟩:=hp;simp only[iI]at h⊢;split at h
  ·cases h
  ·rename_i off size hpl;have hL:=iV hv;rw[ci]at hL;split at h
   ·rename_i hcond;obtain⟨h1,h2⟩:=hcond;rw[if_pos ⟨by rw[hL.len];exact h1,by rw[hL.len,hc.len];exact h2⟩];refine ju place hp ?_ h;simp only[aV,hL.len];exact((hc.take _).append hL).append (hc.drop _)
   ·cases h
noncomputable def znw(l:bR):List (Nat×sN)->Option (List (Nat×sD))
 |[]=>some []
 |(i,x)::xs=>match bE l x,znw l xs with
  |some v,some vs=>some ((i,v)::vs)
  |_,_=>none
theorem zbF{l:bR}{a:Act}(h:TR μ l a.tmps.toList):∀{xs:List (Nat×sN)} {vs:List (Nat×sD)},znw l xs=some vs->PR μ vs (xs.map fun x=>(x.1,a.eval x.2))
 |[],_,hx=>by cases hx;simp[PR]
 |(i,x)::xs,vs,hx=>by
  simp only[znw]at hx;split at hx
  ·rename_i v us h1 h2;cases hx;simp only[PR,List.map_cons];exact⟨_,_,rfl,ar h h1,zbF h h2⟩
  ·cases hx
def jm(P:sJ):List Field->Option (List (Nat×Nat))
 |[]=>some []
 |f::fs=>match P.info? f.type,jm P fs with
  |some i,some r=>some ((f.offset,i.size)::r)
  |_,_=>none
theorem pH:∀{fs:List Field} {r:List (Nat×Nat)},jm P fs=some r->(fs.mapM fun f=>do pure (f.offset,<-sizeOf f.type):Sem (List (Nat×Nat))).run P w=.ok r w
 |[],r,h=>by simp only[jm]at h;cases h;rfl
 |f::fs,r,h=>by
  simp only[jm]at h;split at h
  ·rename_i i r' hi hr;cases h;have ih:=pH hr;simp only[List.mapM_cons,sH,rS hi,sE,Sem.run_pure,ih]
  ·cases h
theorem zdT{fs:Array Field}{r:List (Nat×Nat)}(h:jm P fs.toList=some r):(fs.mapM fun f=>do pure (f.offset,<-sizeOf f.type):Sem (Array (Nat×Nat))).run P w=.ok r.toArray w:=by rw[Array.mapM_eq_mapM_toList];simp only[Sem.run_map,pH h,sE]
noncomputable def zcK(P:sJ)(l:bR)(t:sL)(ps:List (Nat×sN)):Option sD:=
 match P.info? t,P.underlying t,znw l ps with
 |some i,some d,some vs=>match i.zero with
  |some z=>if bS z then
    match d with
    |.struct fields=>match jm P fields.toList with
     |some pl=>match iI (fun j=>pl[j]?) (az z) vs with
      |some cs=>some (.agg ⟨cs⟩)
      |none=>none
     |none=>none
    |.array _ elem=>match P.info? elem with
     |some ie=>match iI (fun j=>some (j*ie.size,ie.size)) (az z) vs with
      |some cs=>some (.agg ⟨cs⟩)
      |none=>none
     |none=>none
    |_=>none
   else none
  |none=>none
 |_,_,_=>none
theorem zlv{l:bR}{a:Act}{t:sL}{ps:Array (Nat×sN)}{v:sD}(hl:TR μ l a.tmps.toList)(h:zcK P l t ps.toList=some v):
  ∃v',(tT t (ps.map fun(i,x)=>(i,a.eval x))).run P w=.ok v' w/\VR μ v v':=by
 unfold zcK at h;split at h
 ·rename_i i d vs hi hd hvs;have hP:=zbF hl hvs;have eP:(ps.map fun(i,x)=>(i,a.eval x)).toList=ps.toList.map fun x=>(x.1,a.eval x.2):=by simp
  split at h
  ·rename_i z hz;split at h
   ·rename_i hfz;have hzz:LR μ (az z) z.cells.toList:=iV (cq hfz);split at h
    ·rename_i fields;split at h
     ·rename_i pl hpl;split at h
      ·rename_i cs hcs;cases h;obtain⟨r',h1,h2⟩:=ju _ hP hzz hcs;have h3:=oQ _ _ _ _ h1;refine⟨.agg r'.toArray,?_,by simp only[VR];exact⟨_,rfl,h2⟩⟩;have e2:(fun j:Nat=>pl.toArray[j]?)=fun j:Nat=>pl[j]? :=by funext j;simp
       simp only[tT,sH,rZ hi hz,sE,rU hd,zdT hpl,eP,e2,h3,Sem.run_pure]
      ·cases h
     ·cases h
    ·rename_i n elem;split at h
     ·rename_i ie hie;split at h
      ·rename_i cs hcs;cases h;obtain⟨r',h1,h2⟩:=ju _ hP hzz hcs;have h3:=oQ _ _ _ _ h1;refine⟨.agg r'.toArray,?_,by simp only[VR];exact⟨_,rfl,h2⟩⟩;simp only[tT,sH,rZ hi hz,sE,rU hd,rS hie,eP,h3,Sem.run_pure]
      ·cases h
     ·cases h
    ·cases h
   ·cases h
  ·cases h
 ·cases h
def cF:Nat->List sD->List sD
 |0,_=>[]
 |n+1,z=>z++cF n z
theorem zej(z:List sD):∀(n i:Nat),i<n*z.length->(cF n z)[i]?=z[i%z.length]?
 |0,i,h=>by simp at h
 |n+1,i,h=>by
  simp only[cF];have hz:0<z.length:=by
   rcases sV z.length with h0|h0
   ·rw[h0]at h;simp at h
   ·exact h0
  rcases uh i z.length with hi|hi
  ·rw[List.getElem?_append_left hi,Nat.mod_eq_of_lt hi]
  ·rw[List.getElem?_append_right hi,zej z n _ (by rw[sT]at h;omega)];congr 1;rw[Nat.mod_eq_sub_mod hi]
theorem lh(z:List sD):∀n,(cF n z).length=n*z.length
 |0=>by simp[cF]
 |n+1=>by simp[cF,lh z n,sT,Nat.add_comm]
theorem gJ(z:Array sD)(n:Nat):(ul (n*z.size)).map (fun i=>z[i%z.size]!)=(cF n z.toList).toArray:=by
 apply td;intro i;simp only[Array.getElem?_map,Array.getElem?_range,sX];rcases uh i (n*z.size)with h|h
 ·have hz:0<z.size:=by
   rcases sV z.size with h0|h0
   ·rw[h0]at h;simp at h
   ·exact h0
  have hm:=Nat.mod_lt i hz;rw[zej z.toList n i (by simpa using h)];simp[h,hm]
 ·rw[List.getElem?_eq_none (by rw[lh];simpa using h)];simp;omega
theorem lO:∀{a b:List sD},bF a=true->bF b=true->bF (a++b)=true
 |[],_,_,h=>h
 |x::a,b,h,h'=>by simp only[bF,sY,tO]at h⊢;exact⟨h.1,lO h.2 h'⟩
theorem kH{z:List sD}(h:bF z=true):∀n,bF (cF n z)=true
 |0=>rfl
 |n+1=>lO h (kH h n)
theorem nK{z:sD}(h:bS z=true):bF (az z)=true:=by
 cases z<;>first
  |(simp only[az,bF,sY];exact⟨h,trivial⟩)
  |(rename_i l;obtain⟨l⟩:=l;simpa[bS,az]using h)
noncomputable def fy(P:sJ)(A:AW)(l:bR)(t len:Nat)(ps:List (Nat×sN)):Option (sD×AW):=
 match P.underlying t,znw l ps with
 |some (.slice elem),some vs=>match P.info? elem with
  |some ie=>match ie.zero with
   |some z=>if bS z/\(az z).length=ie.size/\len*ie.size<=1000000/\ie.size≠0/\len<px then
     match iI (fun i=>some (i*ie.size,ie.size)) (cF len (az z)) vs with
     |some cs=>some (.slice (some ⟨A.next,0,none⟩) len len,A.push (.cells cs elem false none ie.size))
     |none=>none
    else none
   |none=>none
  |none=>none
 |_,_=>none
theorem qV{l:bR}{a:Act}{t len:Nat}{ps:Array (Nat×sN)}{v:sD}{A':AW}(W:WR μ A w)(hl:TR μ l a.tmps.toList)(h:fy P A l t len ps.toList=some (v,A')):
  ∃μ' v' w',(tQ t len (ps.map fun(i,x)=>(i,a.eval x))).run P w=.ok v' w'/\VR μ' v v'/\WR μ' A' w'/\bG μ A w μ' A' w':=by
 unfold fy at h;split at h
 ·rename_i elem vs hd hvs;have hP:=zbF hl hvs;have eP:(ps.map fun(i,x)=>(i,a.eval x)).toList=ps.toList.map fun x=>(x.1,a.eval x.2):=by simp
  split at h
  ·rename_i ie hie;split at h
   ·rename_i z hz;split at h
    ·rename_i hc;obtain⟨hfz,hzl,hlen,hne,hu⟩:=hc;split at h
     ·rename_i cs hcs;cases h;have hzz:LR μ (cF len (az z)) (cF len (az z)):=br (kH (nK hfz) _);obtain⟨r',h1,h2⟩:=ju _ hP hzz hcs;have e1:∀z0:Array sD,(len*ie.size=0\/z0=z.cells)->(ul (len*ie.size)).map (fun x=>z0[x%z0.size]!)=(cF len (az z)).toArray:=by
       intro z0 hz0;by_cases h0:len*ie.size=0
       ·have:len=0:=by
         rcases Nat.mul_eq_zero.1 h0 with h5|h5
         ·exact h5
         ·exact absurd h5 hne
        subst this;simp[cF]
       ·obtain rfl:=hz0.resolve_left h0;have:=gJ z.cells len;rw[show z.cells.size=ie.size by rw[<-hzl,<-ci];simp]at this⊢;rw[this,ci]
      have h3:=oQ (fun i=>some (i*ie.size,ie.size)) _ (cF len (az z)).toArray _ h1;obtain⟨w',h4,h5,h6⟩:=zbN (P:=P) (t:=elem) (es:=ie.size) W h2;refine⟨_,.slice (some ⟨w.heap.size,0,none⟩) len len,w',?_,?_,h5,h6⟩
      ·have hbig:¬len*ie.size>2 ^ 24:=by omega
       unfold tQ;simp only[sH,rU hd,rS hie,sE,hbig,if_false];by_cases h0:len*ie.size=0
       ·rw[if_pos h0];simp only[sH,Sem.run_pure,sE];rw[e1 #[] (.inl h0),eP,h3];simp only[sH,h4,sE,Sem.run_pure]
       ·rw[if_neg h0];simp only[sH,Sem.run_pure,sE,rZ hie hz];rw[e1 z.cells (.inr rfl),eP,h3];simp only[sH,h4,sE,Sem.run_pure]
      ·simp only[VR];exact⟨_,_,rfl,.inl ⟨by omega,rfl,zcP (W.dom _ (sG _))⟩⟩
     ·cases h
    ·cases h
   ·cases h
  ·cases h
 ·cases h
end Ev
end
section
namespace Ev
variable {P:sJ} {μ:Mu} {A:AW} {w:tw}
def zpG(P:sJ)(t:sL)(l:List sD)(off:Nat):Option sD:=
 match P.underlying t,P.info? t with
 |some d,some i=>if zrR d then some (.agg ⟨(l.drop off).take i.size⟩)else l[off]?
 |_,_=>none
theorem zpF{t off:Nat}{l:List sD}{l':Array sD}{v:sD}(hl:LR μ l l'.toList)(h:zpG P t l off=some v):∃v',(part t l' off).run P w=.ok v' w/\VR μ v v':=by
 unfold zpG at h;split at h
 ·rename_i d i hd hi;split at h
  ·rename_i hagg;cases h;refine⟨.agg (l'.extract off (off+i.size)),?_,?_⟩
   ·simp[part,zqJ hd,hagg,rS hi]
   ·simp only[VR];refine⟨_,rfl,?_⟩;rw[Array.toList_extract];simp only[List.extract];rw[show off+i.size-off=i.size by omega];exact(hl.drop _).take _
  ·rename_i hagg;obtain⟨v',h1,h2⟩:=hl.get h;refine⟨v',?_,h2⟩;have h3:l'[off]?=some v':=by rw[<-sR];exact h1
   simp[part,zqJ hd,hagg,h3]
 ·cases h
def o7(P:sJ)(t:sL)(f:Nat):sD->Option sD
 |.agg ⟨l⟩=>match P.underlying t with
  |some (.struct fields)=>match fields[f]? with
   |some fd=>zpG P fd.type l fd.offset
   |none=>none
  |_=>none
 |_=>none
theorem zhz{t f:Nat}{x x' v:sD}(hx:VR μ x x')(h:o7 P t f x=some v):∃v',(um t x' f).run P w=.ok v' w/\VR μ v v':=by
 unfold o7 at h;split at h
 ·rename_i l;simp only[VR]at hx;obtain⟨l',rfl,hl⟩:=hx;split at h
  ·rename_i fields hd;split at h
   ·rename_i fd hf;obtain⟨v',h1,h2⟩:=zpF (w:=w) hl h;exact⟨v',by simp[um,rU hd,hf,asAgg,h1],h2⟩
   ·cases h
  ·cases h
 ·cases h
def mb(i:Nat):sD->Option sD
 |.tuple ⟨l⟩=>l[i]?
 |_=>none
theorem zfG{i:Nat}{x x' v:sD}(hx:VR μ x x')(h:mb i x=some v):∃v',(uf x' i).run P w=.ok v' w/\VR μ v v':=by
 unfold mb at h;split at h
 ·simp only[VR]at hx;obtain⟨l',rfl,hl⟩:=hx;obtain⟨v',h1,h2⟩:=hl.get h;have h3:l'[i]?=some v':=by rw[<-sR];exact h1
  exact⟨v',by simp[uf,h3],h2⟩
 ·cases h
def zcI(P:sJ)(t:sL)(v:sD):Option sD:=
 match P.underlying t with
 |some (.interface _)|none=>none
 |some _=>some (.iface t v)
theorem zls{t:Nat}{x x' v:sD}(hx:VR μ x x')(h:zcI P t x=some v):∃v',(tD t x').run P w=.ok v' w/\VR μ v v':=by
 unfold zcI at h;split at h
 ·cases h
 ·cases h
 ·rename_i d hn hd;cases h;refine⟨.iface t x',?_,by simp only[VR];exact⟨_,rfl,hx⟩⟩;simp only[tD,sH,rU hd,sE];cases d<;>first|rfl|exact absurd hd (hn _)
def zbL:sD->Bool
 |.pointer (some _)|.func (.func _) _ _|.iface _ _=>true
 |_=>false
noncomputable def zfe(P:sJ)(A:AW)(t:sL):sD->sD->Option Bool
 |.pointer none,.pointer (some _)|.pointer (some _),.pointer none=>match P.underlying t with
  |some (.pointer _)=>some false
  |_=>none
 |.pointer (some a),.pointer (some b)=>match P.underlying t with
  |some (.pointer e)=>match P.info? e with
   |some i=>if i.size=0 then none else if a.block=b.block then some (a.off==b.off)else
     match A.get a.block,A.get b.block with
     |some (.cells _ _ _ none _),some (.cells _ _ _ none _)=>some false
     |_,_=>none
   |none=>none
  |_=>none
 |_,_=>none
theorem zfd{t d:Nat}{x x' y y':sD}{r:Bool}(W:WR μ A w)(hx:VR μ x x')(hy:VR μ y y')(h:zfe P A t x y=some r):(sM (d+1) t x' y').run P w=.ok r w:=by
 unfold zfe at h;split at h
 ·simp only[VR]at hx hy;subst hx;obtain⟨a',rfl,_⟩:=hy;split at h
  ·rename_i hd;cases h;simp[sM,rU hd]
  ·cases h
 ·simp only[VR]at hx hy;subst hy;obtain⟨a',rfl,_⟩:=hx;split at h
  ·rename_i hd;cases h;simp[sM,rU hd]
  ·cases h
 ·rename_i a b;simp only[VR]at hx hy;obtain⟨a',rfl,ha0,la,ha1,rfl⟩:=hx;obtain⟨b',rfl,hb0,lb,hb1,rfl⟩:=hy;split at h
  ·rename_i e hd;split at h
   ·rename_i i hi;split at h
    ·cases h
    ·rename_i hz;split at h
     ·rename_i hbl;cases h;rw[hbl,hb1]at ha1;cases ha1;have:(({block:=la.b,off:=la.d+a.off,spot:=none}:Addr)=={block:=la.b,off:=la.d+b.off,spot:=none})=(a.off==b.off):=by rw[Bool.eq_iff_iff];simp
      simp[sM,rU hd,rS hi,hz,sameAddr,this]
     ·rename_i hbl;split at h
      ·rename_i vs ty op es us ty' op' es' hga hgb;cases h;obtain⟨c1,fr1,h1,_,_,_,_,_,hf1⟩:=W.cells ha1 hga;obtain⟨c2,fr2,h2,_,_,_,_,_,hf2⟩:=W.cells hb1 hgb;simp only[FZ]at hf1 hf2;subst hf1 hf2;have hne:la.b≠lb.b:=fun hb=>hbl (W.inj _ _ _ _ _ _ hga hgb ha1 hb1 hb);simp[sM,rU hd,rS hi,hz,sameAddr,hne,t8,h1,h2,noView,viewAt,tw.shape?,mayBeOne,stringish]
      ·cases h
   ·cases h
  ·cases h
 ·cases h
def zjh(P:sJ)(t:sL):sD->sD->Option Bool
 |.slice none _ _,.slice (some _) _ _|.slice (some _) _ _,.slice none _ _=>match P.underlying t with
  |some (.slice _)=>some false
  |_=>none
 |.map none,.map (some _)|.map (some _),.map none=>match P.underlying t with
  |some (.map _ _)=>some false
  |_=>none
 |.nilFunc,.func (.func _) _ _|.func (.func _) _ _,.nilFunc=>match P.underlying t with
  |some (.func _ _ _)=>some false
  |_=>none
 |.nilIface,.iface _ _|.iface _ _,.nilIface=>match P.underlying t with
  |some (.interface _)=>some false
  |_=>none
 |_,_=>none
theorem zoP{t d:Nat}{x x' y y':sD}{r:Bool}(hx:VR μ x x')(hy:VR μ y y')(h:zjh P t x y=some r):(sM (d+1) t x' y').run P w=.ok r w:=by
 unfold zjh at h;split at h
 ·simp only[VR]at hx hy;subst hx;obtain⟨_,_,rfl,_⟩:=hy;split at h
  ·rename_i hd;cases h;simp[sM,rU hd]
  ·cases h
 ·simp only[VR]at hx hy;subst hy;obtain⟨_,_,rfl,_⟩:=hx;split at h
  ·rename_i hd;cases h;simp[sM,rU hd]
  ·cases h
 ·simp only[VR]at hx hy;subst hx;obtain⟨_,rfl,_⟩:=hy;split at h
  ·rename_i hd;cases h;simp[sM,rU hd]
  ·cases h
 ·simp only[VR]at hx hy;subst hy;obtain⟨_,rfl,_⟩:=hx;split at h
  ·rename_i hd;cases h;simp[sM,rU hd]
  ·cases h
 ·rename_i f x1 y1;obtain⟨x1⟩:=x1;obtain⟨y1⟩:=y1;simp only[VR]at hx hy;subst hx;obtain⟨_,_,rfl,_⟩:=hy;split at h
  ·rename_i hd;cases h;simp[sM,rU hd]
  ·cases h
 ·rename_i f x1 y1;obtain⟨x1⟩:=x1;obtain⟨y1⟩:=y1;simp only[VR]at hx hy;subst hy;obtain⟨_,_,rfl,_⟩:=hx;split at h
  ·rename_i hd;cases h;simp[sM,rU hd]
  ·cases h
 ·simp only[VR]at hx hy;subst hx;obtain⟨_,rfl,_⟩:=hy;split at h
  ·rename_i hd;cases h;simp[sM,rU hd]
  ·cases h
 ·simp only[VR]at hx hy;subst hy;obtain⟨_,rfl,_⟩:=hx;split at h
  ·rename_i hd;cases h;simp[sM,rU hd]
  ·cases h
 ·cases h
noncomputable def qA(P:sJ)(A:AW)(t:sL)(x y:sD):Option Bool:=
 match zfe P A t x y with
 |some r=>some r
 |none=>match zjh P t x y with
  |some r=>some r
  |none=>match P.underlying t,x,y with
   |some (.interface _),.iface tx vx,.iface ty vy=>if tx≠ty then some false else match P.info? tx with
    |some i=>if i.comparable then zfe P A tx vx vy else none
    |none=>none
   |_,_,_=>none
theorem zoR{t d:Nat}{x x' y y':sD}{r:Bool}(W:WR μ A w)(hx:VR μ x x')(hy:VR μ y y')(h:qA P A t x y=some r):(sM (d+1+1) t x' y').run P w=.ok r w:=by
 unfold qA at h;split at h
 ·rename_i r' hr;cases h;exact zfd W hx hy hr
 ·split at h
  ·rename_i r' hr;cases h;exact zoP hx hy hr
  ·split at h
   ·rename_i ms tx vx ty vy hd _ _;simp only[VR]at hx hy;obtain⟨vx',rfl,hvx⟩:=hx;obtain⟨vy',rfl,hvy⟩:=hy;split at h
    ·rename_i hne;cases h;rw[sM];simp only[sH,rU hd,sE,hne,if_true,Sem.run_pure,ne_eq,not_false_eq_true]
    ·rename_i hne;split at h
     ·rename_i i hi;split at h
      ·rename_i hcmp;have h1:=zfd (d:=d) W hvx hvy h;have hte:tx=ty:=by simpa using hne
       subst hte;rw[sM];simp only[sH,rU hd,sE,ne_eq,not_true,if_false,rT hi,hcmp,Bool.not_true,sP];exact h1
      ·cases h
     ·cases h
   ·cases h
theorem zoQ{t:Nat}{x x' y y':sD}{r:Bool}(W:WR μ A w)(hx:VR μ x x')(hy:VR μ y y')(h:qA P A t x y=some r):(Op.equal t x' y').run P w=.ok r w:=
 zoR (d:=9998) W hx hy h
def zaP:sD->Bool
 |.pointer _|.slice _ _ _|.map _|.func _ _ _|.nilFunc|.iface _ _=>true
 |_=>false
noncomputable def aEq(P:sJ)(A:AW)(op:uk)(t:sL)(x y:sD):Option sD:=
 if zaP x||zaP y then
  match op,qA P A t x y with
  |.eql,some r=>some (.bool r)
  |.neq,some r=>some (.bool (!r))
  |_,_=>none
 else none
theorem zff{t:Nat}{x y:sD}{r:Bool}(h:qA P A t x y=some r):(∃a b,x=.pointer a/\y=.pointer b)\/(∃a b c a' b' c',x=.slice a b c/\y=.slice a' b' c')\/(∃a b,x=.map a/\y=.map b)\/(∃f u v,x=.nilFunc/\y=.func f u v)\/(∃f u v,y=.nilFunc/\x=.func f u v)
  \/(∃a b,x=.nilIface/\y=.iface a b)\/(∃a b,y=.nilIface/\x=.iface a b)\/(∃a b c d,x=.iface a b/\y=.iface c d):=by
 unfold qA at h;split at h
 ·rename_i hr;unfold zfe at hr;split at hr<;>first|exact .inl ⟨_,_,rfl,rfl⟩|cases hr
 ·split at h
  ·rename_i hr;unfold zjh at hr;split at hr<;>first
    |exact .inr (.inl ⟨_,_,_,_,_,_,rfl,rfl⟩)
    |exact .inr (.inr (.inl ⟨_,_,rfl,rfl⟩))
    |exact .inr (.inr (.inr (.inl ⟨_,_,_,rfl,rfl⟩)))
    |exact .inr (.inr (.inr (.inr (.inl ⟨_,_,_,rfl,rfl⟩))))
    |exact .inr (.inr (.inr (.inr (.inr (.inl ⟨_,_,rfl,rfl⟩)))))
    |exact .inr (.inr (.inr (.inr (.inr (.inr (.inl ⟨_,_,rfl,rfl⟩))))))
    |cases hr
  ·split at h
   ·exact .inr (.inr (.inr (.inr (.inr (.inr (.inr ⟨_,_,_,_,rfl,rfl⟩))))))
   ·cases h
end Ev
end
section
namespace Ev
variable {P:sJ} {μ:Mu} {A:AW} {w:tw}
theorem WR.drop(W:WR μ A w)(i:Nat):WR μ (A.set i none) w/\bG μ A w μ (A.set i none) w:=by
 have get':∀n on,(A.set i none).get n=some on->A.get n=some on:=fun n on h=>by
  rw[AW.get_set]at h;split at h
  ·cases h
  ·exact h
 exact⟨⟨fun j oj l hj=>W.has j oj l (get' j oj hj),fun j m oj om lj lm hj hm h1 h2 h3=>W.inj j m oj om lj lm (get' _ _ hj) (get' _ _ hm) h1 h2 h3,W.dom⟩,
  ⟨Le.refl _,sG _,rfl,rfl,rfl,fun _ _ _=>rfl,fun j oj l hj hl=>.inr ⟨j,oj,l,get' _ _ hj,hl,rfl⟩,sG _,fun _ _=>rfl⟩⟩
theorem WR.swap(W:WR μ A w){i:Nat}{l l':qX}{o0 o:bz}{o':Obj}(hg:A.get i=some o0)(hm:μ i=some l)(hb:l'.b=l.b)(ho:OR (μ.add A.next l') l' o o'):
  WR (μ.add A.next l') ((A.set i none).push o) {w with heap:=w.heap.setIfInBounds l.b o'}/\bG μ A w (μ.add A.next l') ((A.set i none).push o) {w with heap:=w.heap.setIfInBounds l.b o'}:=by
 have hlt:=W.lt hg hm;have hd:=W.dom A.next (sG _)
 have hle:Le μ (μ.add A.next l'):=Mu.add_le hd;have hnx:(A.set i none).next=A.next:=rfl
 have get':∀n on,((A.set i none).push o).get n=some on->(n=A.next/\on=o)\/(n≠i/\n≠A.next/\A.get n=some on):=fun n on h=>by
  rw[AW.get_push,hnx]at h;split at h
  ·rename_i e;cases h;exact .inl ⟨e,rfl⟩
  ·rename_i e;rw[AW.get_set]at h;split at h
   ·cases h
   ·rename_i e2;exact .inr ⟨e2,e,h⟩
 have old:∀n,n≠A.next->(μ.add A.next l') n=μ n:=fun n hn=>Mu.add_ne hn
 constructor
 ·refine⟨fun j oj lj hj h4=>?_,fun j m oj om lj lm hj hm' h1 h2 h3=>?_,fun n hn=>?_⟩
  ·rcases get' j oj hj with ⟨rfl,rfl⟩|⟨h1,h2,h3⟩
   ·rw[Mu.add_get hd]at h4;cases h4;exact⟨o',by rw[hb];simp[hlt],ho⟩
   ·rw[old j h2]at h4;obtain⟨oj',h5,h6⟩:=W.has j oj lj h3 h4;refine⟨oj',?_,h6.mono hle⟩;have:l.b≠lj.b:=fun e=>h1 (W.inj j i oj o0 lj l h3 hg h4 hm e.symm);simp[this,h5]
  ·rcases get' j oj hj with ⟨rfl,rfl⟩|⟨h4,h5,h6⟩
   ·rcases get' m om hm' with ⟨rfl,rfl⟩|⟨h7,h8,h9⟩
    ·rfl
    ·rw[Mu.add_get hd]at h1;cases h1;rw[old m h8]at h2;exact absurd (W.inj m i om o0 lm l h9 hg h2 hm (by rw[<-h3,hb])) h7
   ·rw[old j h5]at h1;rcases get' m om hm' with ⟨rfl,rfl⟩|⟨h7,h8,h9⟩
    ·rw[Mu.add_get hd]at h2;cases h2;exact absurd (W.inj j i oj o0 lj l h6 hg h1 hm (by rw[h3,hb])) h4
    ·rw[old m h8]at h2;exact W.inj j m oj om lj lm h6 h9 h1 h2 h3
  ·have:n≠A.next:=by simp only[AW.push,hnx]at hn;omega
   rw[old n this];exact W.dom n (by simp only[AW.push,hnx]at hn;omega)
 ·refine⟨hle,by simp,rfl,rfl,rfl,fun b' hb' hn=>?_,fun j oj lj hj h1=>?_,by simp[AW.push,hnx],fun n hn=>old n (by omega)⟩
  ·have:l.b≠b':=hn i o0 l hg hm;simp[this]
  ·rcases get' j oj hj with ⟨rfl,rfl⟩|⟨h4,h5,h6⟩
   ·rw[Mu.add_get hd]at h1;cases h1;exact .inr ⟨i,o0,l,hg,hm,hb.symm⟩
   ·rw[old j h5]at h1;exact .inr ⟨j,oj,lj,h6,h1,rfl⟩
def dC(s:ByteArray)(n:Nat):List sD:=((s.extract 0 n).data.map fun b=>sD.int .u8 b.toNat).toList
noncomputable def qU(A:AW)(size n:Nat):sD->Option (List sD)
 |.slice none _ _=>some []
 |.slice (some b) _ _=>if n=0 then some []else match A.get b.block with
  |some (.cells vs _ _ _ _)=>if b.off+n*size<=vs.length then some ((vs.drop b.off).take (n*size))else none
  |_=>none
 |.string s=>some (dC s n)
 |_=>none
def lF:sD->Option Nat
 |.slice _ n _=>some n
 |.string s=>some s.size
 |_=>none
theorem eA{x x':sD}{n:Nat}(hx:VR μ x x')(h:lF x=some n):(tF x').run P w=.ok n w:=by
 unfold lF at h;split at h
 ·rename_i a m c;cases h;cases a with
  |none=>simp only[VR]at hx;subst hx;rfl
  |some a=>simp only[VR]at hx;obtain⟨_,_,rfl,_⟩:=hx;rfl
 ·cases h;simp only[VR]at hx;subst hx;rfl
 ·cases h
theorem iM:∀l:List UInt8,bF (l.map fun b=>sD.int .u8 b.toNat)=true
 |[]=>rfl
 |x::l=>by simp[bF,bS,iM l]
theorem dK{x x':sD}{size n m:Nat}{xs:List sD}(W:WR μ A w)(hx:VR μ x x')(hm:lF x=some m)(hn:n<=m)(h:qU A size n x=some xs):∃xs':List sD,(sI size n x').run P w=.ok xs'.toArray w/\LR μ xs xs':=by
 unfold qU at h;split at h
 ·cases h;simp only[VR]at hx;subst hx;exact⟨[],rfl,LR.nil⟩
 ·rename_i b m' c;simp only[lF]at hm;cases hm;simp only[VR]at hx;obtain⟨b',c',rfl,hs⟩:=hx;split at h
  ·rename_i h0;cases h;subst h0;exact⟨[],by simp[sI,loadCells,tG],LR.nil⟩
  ·rename_i h0;split at h
   ·rename_i vs t op fz es hg;split at h
    ·rename_i hle;cases h;obtain⟨xs',h1,h2⟩:=eN (P:=P) W (hs.addr (by omega)) hg hle;exact⟨xs',by simpa[sI]using h1,h2⟩
    ·cases h
   ·cases h
 ·rename_i s;cases h;simp only[VR]at hx;subst hx;refine⟨dC s n,by simp only[sI,dC,Sem.run_pure,tz],br ?_⟩;unfold dC;rw[Array.toList_map];exact iM _
 ·cases h
theorem zaz(need:Nat):∀(r c:Nat),c<=2*need+768->t6 need r c<=2*need+768
 |0,_,h=>h
 |r+1,c,h=>by
  simp only[t6];split
  ·exact h
  ·exact zaz need r _ (by omega)
theorem zgI{need c:Nat}(h:c<need):sU need c<=2*need+768:=by
 unfold sU;split
 ·omega
 ·split
  ·omega
  ·exact zaz need 4 c (by omega)
def jz:Option Nat->Nat->Option (Option Nat)
 |none,_=>some none
 |some m,o=>if m<=o then some (some 0)else none
noncomputable def zcM(A:AW)(elem size:Nat)(s x:sD)(n:Nat):Option (sD×AW):=
 match s,qU A size n x with
 |.slice none 0 0,some xs=>if n=0 then some (.slice none 0 0,A)else
   if xs.length=n*size then some (.slice (some ⟨A.next,0,none⟩) n px,A.push (.cells xs elem true none size))else none
 |.slice (some a) len cap,some xs=>
  if xs.length=n*size/\a.spot=none then
  if n=0/\(cap=px\/len<=cap)then some (.slice (some a) len cap,A)
  else if cap≠px/\len=0/\cap<n then some (.slice (some ⟨A.next,0,none⟩) n px,A.push (.cells xs elem true none size))
  else match A.get a.block with
  |some (.cells vs t op fz es)=>
   if cap=px then
    if a.off+len*size<=vs.length/\es=size/\t=elem/\xs.all (·.oneCell')=true then
     match jz fz a.off with
     |some fz'=>some (.slice (some ⟨A.next,0,none⟩) (len+n) px,(A.set a.block none).push (.cells ((vs.drop a.off).take (len*size)++xs) elem true fz' size))
     |none=>none
    else none
   else if len+n<=cap then
    if a.off+len*size+xs.length<=vs.length/\xs.all (·.oneCell')=true/\zlx fz (a.off+len*size)=true then
     some (.slice (some a) (len+n) cap,A.set a.block (some (.cells (aV vs (a.off+len*size) xs) t op fz es)))
    else none
   else if a.off+len*size<=vs.length/\0<len then
    some (.slice (some ⟨A.next,0,none⟩) (len+n) px,A.push (.cells ((vs.drop a.off).take (len*size)++xs) elem true none size))
   else none
  |_=>none
  else none
 |_,_=>none
def zbW:tL->Bool
 |.int _=>true
 |_=>false
structure zsd(P:sJ)(sType xType elem size:Nat) where
 ie:tY
 z:sD
 dx:tL
 hd:P.underlying sType=some (.slice elem)
 hx:P.underlying xType=some dx
 hn:zbW dx=false
 hi:P.info? elem=some ie
 hs:ie.size=size
 hz:ie.zero=some z
 hf:bS z=true
 hl:(az z).length=size
 hb:ie.bytes<=65536
 h0:0<size
theorem zcz{sType xType elem size : Nat}(T : zsd P sType xType elem size){base : Option Addr}{x' : sD}{len cap n : Nat}{xs' : List sD}{type : Nat}{w' : tw}(hlen : (tF x').run P w = .ok n w)(hle : len + n ≤ cap)(hc : (sI size n x').run P w = .ok xs'.toArray w)
    (hst : ∀ a, base = some a → (storeCells (a.add (len * size)) xs').run P w = .ok () w') (hno : base = none → w' = w) :
    (sQ #[sType, xType] type #[.slice base len cap, x']).run P w = .ok (.slice base (len + n) cap) w' := by
  unfold sQ
  simp only [sX, tj, tk, sH, rU T.hd, rU T.hx, sE, rS T.hi, T.hs, Sem.run_pure]
  have e := T.hn
  cases hdx : T.dx <;> simp only [hdx, zbW] at e <;> first
    | (cases e; done)
    | (simp only [sP, if_false, hlen, sE, hle, if_true, sH, t7, hc]
       cases base with
       | none => simp [hno rfl]
       | some a => simp [hst a rfl])
theorem zjD{sType xType elem size : Nat}(T : zsd P sType xType elem size){base : Option Addr}{x' : sD}{len cap n : Nat}{os' xs' : List sD}{type : Nat}(hlen : (tF x').run P w = .ok n w)(hgt : cap < len + n)(hsm : len + n ≤ 1000000)
    (ho : (sI size len (.slice base len cap)).run P { w with drawn := w.drawn + 1 } = .ok os'.toArray { w with drawn := w.drawn + 1 })
    (hc : (sI size n x').run P { w with drawn := w.drawn + 1 } = .ok xs'.toArray { w with drawn := w.drawn + 1 }) :
    ∃ m, len + n ≤ m ∧ (sQ #[sType, xType] type #[.slice base len cap, x']).run P w =
      .ok (.slice (some ⟨w.heap.size, 0, none⟩) (len + n) m) { { w with drawn := w.drawn + 1 } with heap := w.heap.push (.cells (os' ++ xs' ++ cF (m - (len + n)) (az T.z)).toArray elem) } := by
  have hnx := zgI hgt
  have hb : ¬ sU (len + n) cap * T.ie.bytes > 2 ^ 48 := by
    have h1 : sU (len + n) cap * T.ie.bytes ≤ 2000768 * 65536 := Nat.mul_le_mul (by omega) T.hb
    omega
  have hbig : ¬ ((len + n : Nat) : Int) > IntKind.i64.max := by
    have : (1000000 : Int) ≤ IntKind.i64.max := by decide
    omega
  have hle : ¬ len + n ≤ cap := by omega
  refine ⟨Question.cut (.appendCap (len + n) cap elem) (w.tape w.drawn (.appendCap (len + n) cap elem)), by simp [Question.cut], ?_⟩
  have hz : ∀ m, tM T.z.cells m = (cF m (az T.z)).toArray := fun m => by
    unfold tM
    rw [gJ, ci]
  unfold sQ
  simp only [sX, tj, tk, sH, rU T.hd, rU T.hx, sE, rS T.hi, T.hs, Sem.run_pure]
  have e := T.hn
  cases hdx : T.dx <;> simp only [hdx, zbW] at e <;> first
    | (cases e; done)
    | (simp only [sP, if_false, hlen, sE, hle, sH, t7, if_true, rT T.hi, hbig, false_and, hb, run_choose, Question.forced, run_askRoom, ho, hc, rZ T.hi T.hz, hz, newRow, run_newObj, Sem.run_pure]
       simp)
end Ev
end
section
namespace Ev
variable {P:sJ} {μ:Mu} {A:AW} {w:tw}
theorem zev(W:WR μ A w){ys ys':List sD}(hy:LR μ ys ys')(rest:List sD)(t size:Nat):
  WR (μ.add A.next ⟨w.heap.size,0,(ys'++rest).length,size⟩) (A.push (.cells ys t true none size)) {w with heap:=w.heap.push (.cells (ys'++rest).toArray t)}∧
  bG μ A w (μ.add A.next ⟨w.heap.size,0,(ys'++rest).length,size⟩) (A.push (.cells ys t true none size)) {w with heap:=w.heap.push (.cells (ys'++rest).toArray t)}:=by
 refine W.new ?_;have hle:=Mu.add_le (x:=⟨w.heap.size,0,(ys'++rest).length,size⟩) (W.dom A.next (sG _));refine⟨_,_,rfl,by simp,by simp[hy.len],by simp,rfl,?_,rfl⟩;simp only[tB];rw[<-hy.len,List.take_left];exact hy.mono hle
theorem zjI{b n m size sz:Nat}(h1:n<=m)(h2:m*size<=sz){i:Nat}(hd:μ i=none):VR (μ.add i ⟨b,0,sz,size⟩) (.slice (some ⟨i,0,none⟩) n px) (.slice (some ⟨b,0,none⟩) n m):=by simp only[VR];exact⟨_,_,rfl,.inr ⟨rfl,.inr ⟨rfl,h1,_,Mu.add_get hd,by simp,by simpa using h2⟩⟩⟩
theorem m8{sType xType elem size:Nat}(T:zsd P sType xType elem size){base:Option Addr}{x x':sD}{len cap n:Nat}{os xs:List sD}{type:Nat}(W:WR μ A w)(hx:VR μ x x')(hn:lF x=some n)(hc:qU A size n x=some xs)(hxl:xs.length=n*size)(hol:os.length=len*size)
  (hgt:cap<len+n) (hsm:len+n<=1000000) (ho:∀w1,WR μ A w1->∃os':List sD,(sI size len (.slice base len cap)).run P w1=.ok os'.toArray w1/\LR μ os os'):
  ∃μ' v' w',(sQ #[sType,xType] type #[.slice base len cap,x']).run P w=.ok v' w'/\VR μ' (.slice (some ⟨A.next,0,none⟩) (len+n) px) v'/\WR μ' (A.push (.cells (os++xs) elem true none size)) w'/\bG μ A w μ' (A.push (.cells (os++xs) elem true none size)) w':=by
 obtain⟨W1,E1⟩:=W.drawn (w.drawn+1);obtain⟨os',h1,h2⟩:=ho _ W1;obtain⟨xs',h3,h4⟩:=dK (P:=P) W1 hx hn (sG _) hc;obtain⟨m,hm,hr⟩:=zjD T (type:=type) (eA (w:=w) hx hn) hgt hsm h1 h3;obtain⟨W2,E2⟩:=zev W1 (h2.append h4) (cF (m-(len+n)) (az T.z)) elem size;refine⟨_,_,_,hr,?_,W2,E1.trans E2⟩;refine zjI (i:=A.next) hm ?_ (W.dom _ (sG _));have e:(os'++xs'++cF (m-(len+n)) (az T.z)).length=m*size:=by rw[sO,lh,T.hl,sO,h2.len,h4.len,hol,hxl,<-sT,<-sT];congr 1;omega
 rw[e];exact sG _
theorem zhB{sType xType elem size:Nat}(T:zsd P sType xType elem size){s s' x x' v:sD}{len n:Nat}{A':AW}{type:Nat}(W:WR μ A w)(hs:VR μ s s')(hx:VR μ x x')(hn:lF x=some n)(hl:lF s=some len)(hsm:len+n<=1000000)(h:zcM A elem size s x n=some (v,A')):
  ∃μ' v' w',(sQ #[sType,xType] type #[s',x']).run P w=.ok v' w'/\VR μ' v v'/\WR μ' A' w'/\bG μ A w μ' A' w':=by
 unfold zcM at h;split at h
 ·rename_i xs hc;simp only[VR]at hs;subst hs;simp only[lF]at hl;cases hl;split at h
  ·rename_i h0;cases h;obtain⟨xs',h3,h4⟩:=dK (P:=P) W hx hn (sG _) hc;refine⟨μ,.slice none (0+n) 0,w,zcz T (eA hx hn) (by omega) h3 (fun a ha=>by cases ha) (fun _=>rfl),?_,W,bG.refl⟩;subst h0;simp[VR]
  ·rename_i h0;split at h
   ·rename_i hxl;cases h;have:=m8 T (type:=type) (base:=none) (len:=0) (cap:=0) (os:=[]) W hx hn hc hxl (by simp) (by omega) hsm (fun w1 _=>⟨[],rfl,LR.nil⟩);simpa using this
   ·cases h
 ·rename_i a len' cap xs hc;simp only[lF]at hl;cases hl;have hs0:=hs;simp only[VR]at hs;obtain⟨a',c',rfl,hS⟩:=hs;split at h
  ·rename_i hpre;obtain⟨hxl,hsp⟩:=hpre;split at h
   ·rename_i hcond;obtain⟨h0,hcap⟩:=hcond;cases h;subst h0;obtain⟨xs',h3,h4⟩:=dK (P:=P) W hx hn (sG _) hc;have iJ:xs'=[]:=by have:=h4.len;rw[hxl,uj]at this;exact List.eq_nil_of_length_eq_zero this
    subst iJ;have hle:len+0<=c':=by
     rcases hS with ⟨h5,rfl,_⟩|⟨_,⟨h5,h6⟩|⟨_,h5,_⟩⟩
     ·exact hcap.resolve_left h5
     ·omega
     ·omega
    exact⟨μ,_,w,zcz T (eA hx hn) hle h3 (fun a _=>rfl) (fun hh=>by cases hh),hs0,W,bG.refl⟩
   ·rename_i hcond;split at h
    ·rename_i hc2;obtain⟨hcu,hl0,hcn⟩:=hc2;cases h;subst hl0;rcases hS with ⟨_,rfl,_⟩|⟨h5,_⟩
     ·have:=m8 T (type:=type) (base:=some a') (len:=0) (cap:=c') (os:=[]) W hx hn hc hxl (by simp) (by omega) hsm (fun w1 _=>⟨[],by simp[sI,loadCells,tG],LR.nil⟩);simpa using this
     ·exact absurd h5 hcu
    ·split at h
     ·rename_i vs t op fz es hg;split at h
      ·rename_i hu;split at h
       ·rename_i hc3;obtain⟨hend,hes,ht,hone⟩:=hc3;subst ht;split at h
        ·rename_i fz' hfz;cases h;have hn0:0<n:=by
          rcases sV n with h5|h5
          ·exact absurd ⟨h5,.inl hu⟩ hcond
          ·exact h5
         by_cases hin:len+n<=c'
         ·-- in place
          rcases hS with ⟨h5,_⟩|⟨_,⟨h5,h6⟩|⟨_,h5,l,hm,rfl,hroom⟩⟩
          ·exact absurd hu h5
          ·omega
          ·obtain⟨xs',h3,h4⟩:=dK (P:=P) W hx hn (sG _) hc;obtain⟨c,fr,h6,h8,h9,h10,hk,h11,h12⟩:=W.cells hm hg;have hcl:c.toList.length=l.sz:=by simpa using h8
           have hk':l.k=size:=by rw[<-hk,hes]
           have hsz:l.d+a.off+(len+n)*size<=l.sz:=by rw[hk']at hroom;have:=Nat.mul_le_mul_right size hin;omega
           rw[sT]at hsz;have hrun:=ku (P:=P) l.b (l.d+a.off+len*size) t fr xs' 0 c w h6 (fun j hj=>by
            rw[h4.len,hxl]at hj;cases fz with
            |none=>simp only[FZ]at h12;subst h12;simp
            |some m=>
             simp only[FZ]at h12;simp only[jz]at hfz;split at hfz
             ·rw[show l.d+a.off+len*size+0+j=l.d+(a.off+len*size+j) by omega,h12 _ (by omega)];omega
             ·cases hfz) (by rw[h4.len,hxl];omega) (h4.all1 hone)
           have hrun':(storeCells ((⟨l.b,l.d+a.off,none⟩:Addr).add (len*size)) xs').run P w=.ok () {w with heap:=w.heap.setIfInBounds l.b (.cells (aV c.toList (l.d+a.off+len*size) xs').toArray t fr)}:=by rw[gT];simpa using hrun
           have hsw:=W.swap (l':=⟨l.b,l.d+a.off,l.sz,size⟩) (o:=.cells ((vs.drop a.off).take (len*size)++xs) t true fz' size) (o':=.cells (aV c.toList (l.d+a.off+len*size) xs').toArray t fr) hg hm rfl ?_
           ·obtain⟨W2,E2⟩:=hsw;refine⟨_,_,_,zcz T (eA hx hn) hin h3 (fun a1 ha1=>by cases ha1;exact hrun') (fun hh=>by cases hh),?_,W2,E2⟩;simp only[VR];refine⟨_,_,rfl,.inr ⟨rfl,.inr ⟨rfl,hin,_,Mu.add_get (W.dom A.next (sG _)),by simp,?_⟩⟩⟩;rw[hk']at hroom;simpa using hroom
           ·have hle:=Mu.add_le (x:=⟨l.b,l.d+a.off,l.sz,size⟩) (W.dom A.next (sG _));refine⟨_,fr,rfl,?_,?_,by simp,rfl,?_,?_⟩
            ·simp only[tK];rw[eH (by rw[h4.len,hxl];omega)];exact hcl
            ·simp only[sO,tn,tp];omega
            ·have e1:(aV c.toList (l.d+a.off+len*size) xs').drop (l.d+a.off)=aV (c.toList.drop (l.d+a.off)) (len*size) xs':=nu (by rw[h4.len,hxl];omega);have e2:((vs.drop a.off).take (len*size)++xs).length=len*size+xs.length:=by simp only[sO,tn,tp];omega
             simp only;rw[e1,e2];have e3:(aV (c.toList.drop (l.d+a.off)) (len*size) xs').take (len*size+xs.length)=(c.toList.drop (l.d+a.off)).take (len*size)++xs':=by simp only[aV];rw[List.take_left' (by simp[h4.len];omega)]
             rw[e3];have e4:LR μ ((vs.drop a.off).take (len*size)) ((c.toList.drop (l.d+a.off)).take (len*size)):=by have h13:=(h11.drop a.off).take (len*size);rw[tA,tV,tW]at h13;rw[show min (len*size) (vs.length-a.off)=len*size by omega]at h13;exact h13
             exact(e4.append h4).mono hle
            ·simp only;cases fz with
             |none=>simp only[jz]at hfz;cases hfz;exact h12
             |some m=>
              simp only[jz]at hfz;split at hfz
              ·rename_i hmo;cases hfz;simp only[FZ]at h12⊢;intro i hi;rw[show l.d+a.off+i=l.d+(a.off+i) by omega,h12 _ (by omega)];omega
              ·cases hfz
         ·-- anew
          have hos:∀w1,WR μ A w1->∃os':List sD,(sI size len (.slice (some a') len c')).run P w1=.ok os'.toArray w1/\LR μ ((vs.drop a.off).take (len*size)) os':=fun w1 W1=>by
           rcases sV len with h5|h5
           ·subst h5;rw[uj,List.take_zero];exact⟨[],by simp[sI,loadCells,tG],LR.nil⟩
           ·obtain⟨os',h6,h7⟩:=eN (P:=P) (n:=len*size) W1 (hS.addr h5) hg (by omega);exact⟨os',by simpa[sI]using h6,h7⟩
          -- the row is read ahead of the forgetting
          obtain⟨W1,E1⟩:=W.drawn (w.drawn+1);obtain⟨os',h1,h2⟩:=hos _ W1;obtain⟨xs',h3,h4⟩:=dK (P:=P) W1 hx hn (sG _) hc;obtain⟨m,hm,hr⟩:=zjD T (type:=type) (eA (w:=w) hx hn) (by omega) hsm h1 h3;obtain⟨W1d,E1d⟩:=W1.drop a.block;obtain⟨W2,E2⟩:=zev W1d (h2.append h4) (cF (m-(len+n)) (az T.z)) t size;have hsz:(os'++xs'++cF (m-(len+n)) (az T.z)).length=m*size:=by rw[sO,lh,T.hl,sO,h2.len,h4.len,hxl];simp only[tn,tp];rw[show min (len*size) (vs.length-a.off)=len*size by omega,<-sT,<-sT];congr 1;omega
          have hz0:fz'=none\/fz'=some 0:=by
           cases fz with
           |none=>simp only[jz]at hfz;cases hfz;exact .inl rfl
           |some m=>simp only[jz]at hfz;split at hfz<;>cases hfz;exact .inr rfl
          refine⟨_,_,_,hr,zjI (μ:=μ) (i:=A.next) (size:=size) (sz:=(os'++xs'++cF (m-(len+n)) (az T.z)).length) hm (by rw[hsz];exact sG _) (W.dom _ (sG _)),?_,?_⟩
          ·rcases hz0 with rfl|rfl
           ·exact W2
           ·refine⟨fun j oj lj hj h5=>?_,fun j i oj oi lj li hj hi=>?_,W2.dom⟩
            ·rw[AW.get_push]at hj;split at hj
             ·rename_i e;cases hj;obtain⟨oj',h6,h7⟩:=W2.has j (.cells ((vs.drop a.off).take (len*size)++xs) t true none size) lj (by rw[AW.get_push,if_pos e]) h5;refine⟨oj',h6,?_⟩;obtain⟨c,fr,rfl,g1,g2,g3,g4,g5,g6⟩:=h7;refine⟨c,fr,rfl,g1,g2,g3,g4,g5,?_⟩;simp only[FZ]at g6⊢;subst g6;intro i _;simp
             ·rename_i e;exact W2.has j oj lj (by rw[AW.get_push,if_neg e];exact hj) h5
            ·have fix:∀n on,(((A.set a.block none).push (.cells ((vs.drop a.off).take (len*size)++xs) t true (some 0) size)).get n=some on)->∃on',((A.set a.block none).push (.cells ((vs.drop a.off).take (len*size)++xs) t true none size)).get n=some on':=fun n on hh=>by
              rw[AW.get_push]at hh⊢;split at hh
              ·exact⟨_,by rw[if_pos (by assumption)]⟩
              ·exact⟨on,by rw[if_neg (by assumption)];exact hh⟩
             obtain⟨x1,hx1⟩:=fix j oj hj;obtain⟨x2,hx2⟩:=fix i oi hi;exact W2.inj j i x1 x2 lj li hx1 hx2
          ·have E:=(E1.trans E1d).trans E2;rcases hz0 with rfl|rfl
           ·exact E
           ·refine⟨E.le,E.size,E.tape,E.os,E.output,E.stay,fun j oj lj hj hl=>?_,E.next,E.keep⟩;rw[AW.get_push]at hj;split at hj
            ·rename_i e;exact E.img j (.cells ((vs.drop a.off).take (len*size)++xs) t true none size) lj (by rw[AW.get_push,if_pos e]) hl
            ·rename_i e;exact E.img j oj lj (by rw[AW.get_push,if_neg e];exact hj) hl
        ·cases h
       ·cases h
      ·rename_i hu;rcases hS with ⟨_,rfl,ha⟩|⟨h5,_⟩
       ·split at h
        ·rename_i hin;split at h
         ·rename_i hc3;obtain⟨hroom,hone,hfz⟩:=hc3;cases h;obtain⟨xs',h3,h4⟩:=dK (P:=P) W hx hn (sG _) hc;have ha2:=ha.add (len*size);have hao:(a.add (len*size)).block=a.block/\(a.add (len*size)).off=a.off+len*size:=by obtain⟨ab,ao,asp⟩:=a;simp only at hsp;subst hsp;rw[gT];exact⟨rfl,rfl⟩
          obtain⟨w',h5,h6,h7⟩:=fa (P:=P) W ha2 (by rw[hao.1];exact hg) h4 hone (by rw[hao.2];exact hroom) (by rw[hao.2];exact hfz);rw[hao.1,hao.2]at h6 h7;refine⟨μ,_,w',zcz T (eA hx hn) hin h3 (fun a1 ha1=>by cases ha1;exact h5) (fun hh=>by cases hh),?_,h6,h7⟩;simp only[VR];exact⟨_,_,rfl,.inl ⟨hu,rfl,ha⟩⟩
         ·cases h
        ·rename_i hin;split at h
         ·rename_i hc3;obtain⟨hroom,hpos⟩:=hc3;cases h;exact m8 T (type:=type) W hx hn hc hxl (by simp;omega) (by omega) hsm (fun w1 W1=>by obtain⟨os',h6,h7⟩:=eN (P:=P) (n:=len*size) W1 ha hg hroom;exact⟨os',by simpa[sI]using h6,h7⟩)
         ·cases h
       ·exact absurd h5 hu
     ·cases h
  ·cases h
 ·cases h
end Ev
end
end Go.Proofs.YtbbapnpdfcgjnaaGreatDoor
