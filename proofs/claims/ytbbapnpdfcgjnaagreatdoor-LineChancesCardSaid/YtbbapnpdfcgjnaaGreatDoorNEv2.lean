/- Ev2, Ev3, Ev4, Ev5, Ev6, Ev7, Ev8: parts of the proof, joined. -/
import Derived.Laws.IdiomCopy
import Derived.Test.YtbbapnpdfcgjnaaGreatDoorNEv1
open Go renaming Value->sH, Program->sM, TypeId->sO, Operand->sQ, run_underlying->tj, execOp->tw, World->tz, loadCellsFrom->tG, TypeDesc->tL, TypeInfo->tY, BinOp->uj
open Go.Result renaming andThen->sI
open Nat renaming le_refl->sJ, add_mul->sW, eq_zero_or_pos->sY, add_assoc->td, add_zero->tt, lt_or_ge->ug, zero_mul->ui
open Go.Sem renaming run_bind->sK
open Go.Builtin renaming firstCells->sL, append_->sT, nextslicecap->sX, lenOf->tF, zeroCells->tM, growBy->t6
open Array renaming getElem?_eq_some_iff->sN, getElem?_toList->sU, getElem?_setIfInBounds->tf, ext_getElem?->tg, toList_setIfInBounds->ti, getElem?_push->tC, range->uk
open Go.Op renaming equalIn->sP
open List renaming length_append->sR, getElem?_toArray->ta, getElem?_eq_some_iff->tk, getElem?_cons_zero->tn, getElem?_cons_succ->tp, length_take->tq, length_drop->tr, take_of_length_le->tu, drop_take->tA, drop_zero->tB, getElem?_take->tH, getElem?_drop->tI, append_assoc->tJ, size_toArray->tK, length_cons->tN, cons_append->tO, take->tP, drop_drop->tV, take_take->tW, mem_cons->ua
open Bool renaming false_eq_true->sS, and_eq_true->tc, or_eq_true->tU, not_false->t7
open Go.Instr renaming sliceBounds->sV, sureAddr->sZ, sliceAt->te, sliceBound->tm, makeInterface->tD, indexAt->tE, buildSlice->tQ, slice->tS, build->tT, fill->tZ, storeAt->ub, fieldAt->ud, extract->ue, loadAt->uf, field->ul
open Go.World renaming cell?->tR, frozen?->t8
set_option maxHeartbeats 64000000
namespace Go.Proofs.YtbbapnpdfcgjnaaGreatDoor
section
namespace Ev
variable {P:sM} {μ:Mu} {A:AW} {w:tz}
theorem WR.lt (W:WR μ A w) {i:Nat} {o:bm} {l:pV} (hg:A.get i=some o) (hm:μ i=some l):l.b<w.heap.size:=by
 obtain⟨o1,h2,_⟩:=W.has i o l hg hm;exact(sN.1 h2).1
theorem WR.upd (W:WR μ A w) {i:Nat} {l:pV} {o0 o:bm} {o':Obj} (hg:A.get i=some o0) (hm:μ i=some l) (ho:OR μ l o o'):
  WR μ (A.set i (some o)) {w with heap:=w.heap.setIfInBounds l.b o'}/\bB μ A w μ (A.set i (some o)) {w with heap:=w.heap.setIfInBounds l.b o'}:=by
 have hlt:=W.lt hg hm
 constructor
 ·refine⟨fun j oj l1 hj h1=>?_,fun j m oj om lj lm hj hl h1 h2 h3=>?_,W.dom⟩
  ·rw[AW.get_set] at hj
   split at hj
   ·rename_i e;subst e;cases hj
    rw[hm] at h1;cases h1;exact⟨o',by simp[hlt],ho⟩
   ·rename_i e
    obtain⟨o1,h2,h3⟩:=W.has j oj l1 hj h1;refine⟨o1,?_,h3⟩;have:l.b≠l1.b:=fun hb=>e (W.inj j i oj o0 l1 l hj hg h1 hm hb.symm)
    simp[this,h2]
  ·rw[AW.get_set] at hj hl
   have get':∀n on,(if n=i then some o else A.get n)=some on->∃on',A.get n=some on':=fun n on h=>by
    split at h
    ·rename_i e;subst e;exact⟨_,hg⟩
    ·exact⟨_,h⟩
   obtain⟨x,hx⟩:=get' j oj hj;obtain⟨y,hy⟩:=get' m om hl;exact W.inj j m x y lj lm hx hy h1 h2 h3
 ·refine⟨Le.refl _,by simp,rfl,rfl,rfl,fun b' hb' hn=>?_,fun j oj lj hj h1=>?_,sJ _,fun _ _=>rfl⟩
  ·have:l.b≠b':=hn i o0 l hg hm
   simp[this]
  ·rw[AW.get_set] at hj
   split at hj
   ·rename_i e;subst e;exact .inr ⟨j,o0,lj,hg,h1,rfl⟩
   ·exact .inr ⟨j,oj,lj,hj,h1,rfl⟩
def Mu.add (μ:Mu) (i:Nat) (x:pV):Mu:=⟨fun j=>if j=i/\il i=none then some x else μ j,fun g s hg=>by
 by_cases e:g=i
 ·subst e
  rw[if_neg (fun h=>by rw[h.2] at hg;cases hg)]
  exact μ.glob g s hg
 ·rw[if_neg (fun h=>e h.1)]
  exact μ.glob g s hg⟩
theorem Mu.add_ne {μ:Mu} {i j:Nat} {x:pV} (h:j≠i):(μ.add i x) j=μ j:=if_neg (fun hh=>h hh.1)
theorem Mu.add_get {μ:Mu} {i:Nat} {x:pV} (h:μ i=none):(μ.add i x) i=some x:=by
 refine if_pos ⟨rfl,?_⟩
 cases hg:il i with
 | none=>rfl
 | some s=>rw[μ.glob i s hg] at h;cases h
theorem Mu.add_le {μ:Mu} {i:Nat} {x:pV} (h:μ i=none):Le μ (μ.add i x):=fun j y hj=>by
 by_cases e:j=i
 ·subst e;rw[h] at hj;cases hj
 ·rw[Mu.add_ne e];exact hj
theorem WR.new (W:WR μ A w) {d sz k:Nat} {o:bm} {o':Obj} (ho:OR (μ.add A.next ⟨w.heap.size,d,sz,k⟩) ⟨w.heap.size,d,sz,k⟩ o o'):
  WR (μ.add A.next ⟨w.heap.size,d,sz,k⟩) (A.push o) {w with heap:=w.heap.push o'}/\bB μ A w (μ.add A.next ⟨w.heap.size,d,sz,k⟩) (A.push o) {w with heap:=w.heap.push o'}:=by
 have hd:=W.dom A.next (sJ _);have hle:Le μ (μ.add A.next ⟨w.heap.size,d,sz,k⟩):=Mu.add_le hd
 constructor
 ·refine⟨fun j oj l1 hj h1=>?_,fun j m oj om lj lm hj hl h1 h2 h3=>?_,fun i hi=>?_⟩
  ·rw[AW.get_push] at hj
   split at hj
   ·rename_i e;subst e;cases hj
    rw[Mu.add_get hd] at h1;cases h1;exact⟨o',by simp,ho⟩
   ·rename_i e
    rw[Mu.add_ne e] at h1;obtain⟨o1,h2,h3⟩:=W.has j oj l1 hj h1;refine⟨o1,?_,h3.mono hle⟩;have:=(sN.1 h2).1
    simp[tC,h2];omega
  ·rw[AW.get_push] at hj hl
   by_cases ej:j=A.next
   ·by_cases el:m=A.next
    ·rw[ej,el]
    ·rw[if_neg el] at hl
     subst ej;rw[Mu.add_get hd] at h1
     cases h1
     have h4:μ m=some lm:=by rw[Mu.add_ne el] at h2;exact h2
     have:=W.lt hl h4
     simp only at h3
     omega
   ·rw[if_neg ej] at hj
    have h5:μ j=some lj:=by rw[Mu.add_ne ej] at h1;exact h1
    by_cases el:m=A.next
    ·subst el
     rw[Mu.add_get hd] at h2
     cases h2
     have:=W.lt hj h5
     simp only at h3
     omega
    ·rw[if_neg el] at hl
     have h4:μ m=some lm:=by rw[Mu.add_ne el] at h2;exact h2
     exact W.inj j m oj om lj lm hj hl h5 h4 h3
  ·have:i≠A.next:=by simp only[AW.push] at hi;omega
   rw[Mu.add_ne this];exact W.dom i (by simp only[AW.push] at hi;omega)
 ·refine⟨hle,by simp,rfl,rfl,rfl,fun b' hb' hn=>?_,fun j oj lj hj h1=>?_,by simp[AW.push],fun i hi=>Mu.add_ne (by omega)⟩
  ·simp[tC];omega
  ·rw[AW.get_push] at hj
   split at hj
   ·rename_i e;subst e
    rw[Mu.add_get hd] at h1
    cases h1
    exact .inl (sJ _)
   ·rename_i e
    exact .inr ⟨j,oj,lj,hj,by rw[Mu.add_ne e] at h1;exact h1,rfl⟩
theorem WR.drawn (W:WR μ A w) (n:Nat):WR μ A {w with drawn:=n}/\bB μ A w μ A {w with drawn:=n}:=
 ⟨⟨W.has,W.inj,W.dom⟩,⟨Le.refl _,sJ _,rfl,rfl,rfl,fun _ _ _=>rfl,fun i o l h h'=>.inr ⟨i,o,l,h,h',rfl⟩,sJ _,fun _ _=>rfl⟩⟩
theorem WR.cells (W:WR μ A w) {i:Nat} {l:pV} {vs:List sH} {t:sO} {op:Bool} {fz:Option Nat} {es:Nat} (hm:μ i=some l) (hg:A.get i=some (.cells vs t op fz es)):
  ∃c fr,w.heap[l.b]? =some (.cells c t fr)/\c.size=l.sz/\l.d+vs.length<=l.sz/\(op=false->l.d=0/\vs.length=l.sz)/\es=l.k/\LR μ vs ((c.toList.drop l.d).take vs.length)/\FZ fz fr l.d l.sz:=by
 obtain⟨o',h6,h7⟩:=W.has _ _ l hg hm;obtain⟨c,fr,rfl,h8⟩:=h7;exact⟨c,fr,h6,h8⟩
theorem gE (b o i:Nat):(⟨b,o,none⟩:Addr).add i=⟨b,o+i,none⟩:=by unfold Addr.add;split<;>simp_all
theorem AR.add {a a':Addr} (hr:AR μ a a') (n:Nat):AR μ (a.add n) (a'.add n):=by
 obtain⟨h1,l,h4,rfl⟩:=hr;obtain⟨b,o,s⟩:=a
 simp only at h1 h4⊢;subst h1
 rw[gE,gE];exact⟨rfl,l,h4,by simp[td]⟩
theorem im {c:Array sH} {d n i:Nat} {v:sH} (h:((c.toList.drop d).take n)[i]? =some v):c[d+i]? =some v:=by
 rw[tH] at h
 split at h
 ·rw[tI] at h;rw[<- sU];exact h
 ·cases h
theorem zlN (W:WR μ A w) {a a':Addr} {vs:List sH} {t:sO} {op:Bool} {fz:Option Nat} {es:Nat} {v:sH} (hr:AR μ a a') (hg:A.get a.block=some (.cells vs t op fz es)) (hv:vs[a.off]? =some v):
  ∃v',w.cell? a'=some v'/\VR μ v v':=by
 obtain⟨h1,l,hm,rfl⟩:=hr;obtain⟨c,fr,h6,h8,h9,h10,hk,h11,h12⟩:=W.cells hm hg;obtain⟨v',h13,h14⟩:=h11.get hv;exact⟨v',by simp[tR,h6,im h13],h14⟩
theorem eH (W:WR μ A w) {a a':Addr} {vs:List sH} {t:sO} {op:Bool} {fz:Option Nat} {es:Nat} {n:Nat} (hr:AR μ a a') (hg:A.get a.block=some (.cells vs t op fz es)) (hn:a.off+n<=vs.length):
  ∃xs':List sH,(loadCells a' n).run P w= .ok xs'.toArray w/\LR μ ((vs.drop a.off).take n) xs':=by
 obtain⟨h1,l,hm,rfl⟩:=hr;obtain⟨c,fr,h6,h8,h9,h10,hk,h11,h12⟩:=W.cells hm hg;have hL:=(h11.drop a.off).take n;have hlen:((((c.toList.drop l.d).take vs.length).drop a.off).take n).length=n:=by rw[hL.len];simp;omega
 refine⟨(((c.toList.drop l.d).take vs.length).drop a.off).take n,?_,hL⟩;have:=run_loadCells_list (P:=P) w ⟨l.b,l.d+a.off,none⟩ ((((c.toList.drop l.d).take vs.length).drop a.off).take n) (fun j v hj=>?_)
 ·rw[hlen] at this;exact this
 ·rw[tH] at hj
  split at hj
  ·rw[tI] at hj
   rw[gE]
   simp[tR,h6,td,im hj]
  ·cases hj
theorem ziM:∀{v v':sH},VR μ v v'->v'.oneCell'=v.oneCell'
 | .bool _,_,r | .int _ _,_,r | .float _ _,_,r | .string _,_,r | .pointer none,_,r | .slice none _ _,_,r | .map none,_,r | .nilFunc,_,r | .nilIface,_,r=>by simp only[VR] at r;subst r;rfl
 | .pointer (some a),_,r=>by simp only[VR] at r;obtain⟨a',rfl,_⟩:=r;rfl
 | .slice (some a) n c,_,r=>by simp only[VR] at r;obtain⟨a',c',rfl,_⟩:=r;rfl
 | .map (some a),_,r=>by simp only[VR] at r;obtain⟨l,rfl,_⟩:=r;rfl
 | .func (.func f) ⟨x⟩ ⟨y⟩,_,r=>by simp only[VR] at r;obtain⟨x',y',rfl,_⟩:=r;rfl
 | .func (.method _) _ _,_,r | .func (.methodOf _ _) _ _,_,r | .func (.via _ _ _ _) _ _,_,r | .chan _,_,r | .complex _ _ _,_,r=>by simp[VR] at r
 | .func (.yield i) _ _,_,r=>by simp only[VR] at r;obtain⟨_,_,l,rfl,_⟩:=r;rfl
 | .iface t u,_,r=>by simp only[VR] at r;obtain⟨u',rfl,_⟩:=r;rfl
 | .agg ⟨xs⟩,_,r=>by simp only[VR] at r;obtain⟨u',rfl,_⟩:=r;rfl
 | .tuple ⟨xs⟩,_,r=>by simp only[VR] at r;obtain⟨u',rfl,_⟩:=r;rfl
def aO (vs:List sH) (o:Nat) (xs:List sH):List sH:=vs.take o++xs++vs.drop (o+xs.length)
theorem ey {vs xs:List sH} {o:Nat} (h:o+xs.length<=vs.length):(aO vs o xs).length=vs.length:=by simp[aO];omega
def zkq:Option Nat->Nat->Bool
 | none,_=>true
 | some n,o=>n<=o
theorem mm {cur rest:List sH} {o:Nat} {v:sH} (h:o<cur.length):aO (cur.set o v) (o+1) rest=aO cur o (v::rest):=by
 have e1:(cur.set o v).take (o+1)=cur.take o++[v]:=by
  rw[List.take_add_one,List.take_set_of_le (sJ _)]
  simp[h]
 have e2:(cur.set o v).drop (o+1+rest.length)=cur.drop (o+1+rest.length):=List.drop_set_of_lt (by omega)
 simp only[aO,e1,e2,tN,tJ,tO,List.nil_append]
 rw[show o+1+rest.length=o+(rest.length+1) by omega]
theorem jP (g o:Nat) (t:sO) (fr:Nat × Nat):∀(vs:List sH) (i:Nat) (cur:Array sH) (w:tz),w.heap[g]? =some (.cells cur t fr)->(∀j,j<vs.length->¬(fr.1<=o+i+j/\o+i+j<fr.2))->o+i+vs.length<=cur.size->(∀v∈vs,v.oneCell'=true)->
  (storeCells ⟨g,o,none⟩ vs i).run P w= .ok () {w with heap:=w.heap.setIfInBounds g (.cells (aO cur.toList (o+i) vs).toArray t fr)}
 | [],i,cur,w,hg,_,_,_=>by
  have hlt:=(sN.1 hg).1;have:w.heap.setIfInBounds g (.cells cur t fr)=w.heap:=by
   apply tg
   intro j;rw[tf]
   split
   ·rename_i e;subst e;simp[hlt];exact((sN.1 hg).2).symm
   ·rfl
  simp only[storeCells,aO,List.append_nil,List.length_nil,tt,List.take_append_drop,Array.toArray_toList,this]
  rfl
 | v::rest,i,cur,w,hg,hf,hl,h1=>by
  have hlt:=(sN.1 hg).1;have hi:o+i<cur.size:=by simp at hl;omega
  have hcell:w.cell? ⟨g,o+i,none⟩=some cur[o+i]:=by simp[tR,hg,hi]
  have hfro:w.frozen? ⟨g,o+i,none⟩=false:=by
   have h5:=hf 0 (by simp)
   obtain⟨lo,hi'⟩:=fr
   simp only[t8,hg,Bool.and_eq_false_iff,decide_eq_false_iff_not]
   simp only[tt] at h5
   omega
  have hset:w.setCell ⟨g,o+i,none⟩ v={w with heap:=w.heap.setIfInBounds g (.cells (cur.setIfInBounds (o+i) v) t fr)}:=by
   unfold tz.setCell
   congr 1
   apply tg
   intro j;rw[Array.getElem?_modify,tf]
   by_cases e:g=j
   ·subst e;simp[hlt]
    have:=(sN.1 hg).2;rw[this]
   ·simp[e]
  have hst:(store ((⟨g,o,none⟩:Addr).add i) v).run P w= .ok () {w with heap:=w.heap.setIfInBounds g (.cells (cur.setIfInBounds (o+i) v) t fr)}:=by
   rw[gE,run_store P w _ v _ (h1 v (by simp))]
   simp[hcell,hfro,hset]
  have ih:=jP g o t fr rest (i+1) (cur.setIfInBounds (o+i) v) {w with heap:=w.heap.setIfInBounds g (.cells (cur.setIfInBounds (o+i) v) t fr)} (by simp[hlt]) (fun j hj=>by
   have h5:=hf (j+1) (by simp;omega)
   rwa [show o+i+(j+1)=o+(i+1)+j by omega] at h5) (by simp at hl⊢;omega) (fun x hx=>h1 x (by simp[hx]))
  simp only[storeCells,sK,hst,sI,ih]
  congr 2
  rw[Array.setIfInBounds_setIfInBounds]
  congr 2
  apply congrArg
  rw[ti,td o i 1 |>.symm];exact mm (by simpa using hi)
theorem LR.all1 {xs xs':List sH} (hx:LR μ xs xs') (h1:xs.all (·.oneCell')=true):∀v∈xs',v.oneCell'=true:=fun v hv=>by
 obtain⟨i,hi⟩:=List.getElem?_of_mem hv;have hil:i<xs'.length:=(tk.1 hi).1;rw[hx.len] at hil;obtain⟨v',h5,h7⟩:=hx.get (List.getElem?_eq_getElem hil);rw[hi] at h5;cases h5;rw[ziM h7];exact List.all_eq_true.1 h1 _ (List.getElem_mem hil)
theorem mn {c xs:List sH} {d o:Nat} (h:d+o+xs.length<=c.length):(aO c (d+o) xs).drop d=aO (c.drop d) o xs:=by
 simp only[aO,tJ]
 rw[List.drop_append,tA,tV];have e1:(tP (d+o) c).length=d+o:=by simp;omega
 rw[e1,show d+o - d=o by omega,show d - (d+o)=0 by omega,tB,show d+(o+xs.length)=d+o+xs.length by omega]
theorem zbG {c xs:List sH} {n o:Nat} (h:o+xs.length<=n) (hn:n<=c.length):(aO c o xs).take n=aO (c.take n) o xs:=by
 simp only[aO]
 have e1:tP o (tP n c)=tP o c:=by rw[tW];congr 1;omega
 rw[e1,List.take_append,tu (by simp;omega)]
 congr 1
 rw[tA]
 congr 1
 simp;omega
theorem eU (W:WR μ A w) {a a':Addr} {vs xs xs':List sH} {t:sO} {op:Bool} {fz:Option Nat} {es:Nat} (hr:AR μ a a') (hg:A.get a.block=some (.cells vs t op fz es)) (hx:LR μ xs xs') (h1:xs.all (·.oneCell')=true)
  (hn:a.off+xs.length<=vs.length) (hf:zkq fz a.off=true):
  ∃w',(storeCells a' xs').run P w= .ok () w'/\WR μ (A.set a.block (some (.cells (aO vs a.off xs) t op fz es))) w'/\bB μ A w μ (A.set a.block (some (.cells (aO vs a.off xs) t op fz es))) w':=by
 obtain⟨hs,l,hm,rfl⟩:=hr;obtain⟨c,fr,h6,h8,h9,h10,hk,h11,h12⟩:=W.cells hm hg;have hcl:c.toList.length=l.sz:=by simpa using h8
 have hrun:=jP (P:=P) l.b (l.d+a.off) t fr xs' 0 c w h6 (fun j hj=>by
  rw[hx.len] at hj
  cases fz with
  | none=>simp only[FZ] at h12;subst h12;simp
  | some n=>
   simp only[FZ] at h12
   simp only[zkq,decide_eq_true_eq] at hf
   rw[show l.d+a.off+0+j=l.d+(a.off+j) by omega,h12 _ (by omega)];omega) (by rw[hx.len];omega) (hx.all1 h1)
 refine⟨_,hrun,W.upd hg hm ?_⟩
 simp only[tt]
 refine⟨_,fr,rfl,?_,?_,?_,hk,?_,h12⟩
 ·simp only[tK];rw[ey (by rw[hx.len];omega)];exact hcl
 ·rw[ey hn];exact h9
 ·rw[ey hn];exact h10
 ·rw[ey hn]
  rw[show(aO c.toList (l.d+a.off) xs').toArray.toList=aO c.toList (l.d+a.off) xs' from rfl,mn (by rw[hx.len];omega),zbG (by rw[hx.len];exact hn) (by simp;omega)]
  simp only[aO,hx.len]
  exact((h11.take _).append hx).append (h11.drop _)
end Ev
end
section
namespace Ev
variable {P:sM} {μ:Mu} {A:AW} {w:tz}
abbrev bO:=Tr sH
def TR (μ:Mu) (l:bO) (l':List sH):Prop:=∀(t:Nat) (v:sH),l.get t=some v->∃v',l'[t]? =some v'/\VR μ v v'
theorem TR.mono {μ μ':Mu} {l:bO} {l':List sH} (h:Le μ μ') (r:TR μ l l'):TR μ' l l':=fun t v hv=>by
 obtain⟨v',h1,h2⟩:=r t v hv;exact⟨v',h1,h2.mono h⟩
noncomputable def zhO (v:sH):Bool:=sH.casesOn (motive_1:=fun _=>Bool) v (fun _=>true) (fun _ _=>true) (fun _ _=>true) (fun _ _ _=>false) (fun _=>true)
 (fun a=>Option.rec (motive:=fun _=>Bool) true (fun _=>false) a) (fun a _ _=>Option.rec (motive:=fun _=>Bool) true (fun _=>false) a) (fun a=>Option.rec (motive:=fun _=>Bool) true (fun _=>false) a)
 (fun _=>false) (fun _ _ _=>false) true (fun _ _=>false) true (fun _=>false) (fun _=>false)
theorem j6 {v:sH} (h:zhO v=true):bR v=true:=by
 cases v with
 | pointer a=>cases a<;>first | rfl | cases h
 | slice a n c=>cases a<;>first | rfl | cases h
 | map a=>cases a<;>first | rfl | cases h
 | bool _=>rfl
 | int _ _=>rfl
 | float _ _=>rfl
 | string _=>rfl
 | nilFunc=>rfl
 | nilIface=>rfl
 | complex _ _ _=>cases h
 | chan _=>cases h
 | func _ _ _=>cases h
 | iface _ _=>cases h
 | agg _=>cases h
 | tuple _=>cases h
noncomputable def bz (l:bO):sQ->Option sH
 | .tmp t=>l.get t
 | .const v=>if zhO v || bR v then some v else none
 | .global g=>match il g with
  | some _=>some (.pointer (some ⟨g,0,none⟩))
  | none=>none
 | .func f=>some (.func (.func f) #[] #[])
theorem zxk {f:FuncId}:VR μ (.func (.func f) #[] #[]) (.func (.func f) #[] #[]):=by
 simp only[VR];exact⟨_,_,rfl,LR.nil,LR.nil⟩
theorem ar {l:bO} {a:Act} {x:sQ} {v:sH} (h:TR μ l a.tmps.toList) (hx:bz l x=some v):VR μ v (a.eval x):=by
 cases x with
 | tmp t=>
  simp only[bz] at hx
  obtain⟨v',h1,h2⟩:=h t v hx;have:a.tmps[t]? =some v':=by rw[<- sU];exact h1
  simp only[Act.eval]
  rw[Array.getD_eq_getD_getElem?,this];exact h2
 | const c=>
  simp only[bz] at hx
  split at hx
  ·cases hx
   rename_i hf
   rw[tU] at hf;exact cq (hf.elim j6 id)
  ·cases hx
 | global g=>
  simp only[bz] at hx
  split at hx
  ·rename_i s hg
   cases hx
   simp only[VR]
   exact⟨_,rfl,rfl,_,μ.glob g s hg,rfl⟩
  ·cases hx
 | func f=>cases hx;exact zxk
noncomputable def zck (l:bO):List sQ->Option (List sH)
 | []=>some []
 | x::xs=>match bz l x,zck l xs with
  | some v,some vs=>some (v::vs)
  | _,_=>none
theorem iN {l:bO} {a:Act} (h:TR μ l a.tmps.toList):∀{xs:List sQ} {vs:List sH},zck l xs=some vs->LR μ vs (xs.map a.eval)
 | [],_,hx=>by cases hx;exact LR.nil
 | x::xs,vs,hx=>by
  simp only[zck] at hx
  split at hx
  ·rename_i v us h1 h2
   cases hx
   exact LR.cons (ar h h1) (iN h h2)
  ·cases hx
def Res (P:sM) (ρ:sQ->sH) (o:Oper) (w:tz) (v:sH) (w':tz):Prop:=
 (tw ρ o).run P w= .ok (.value v) w'\/((tw ρ o).run P w= .ok .skip w'/\v=undef)
def zgA (P:sM) (ρ:sQ->sH) (o:Oper) (μ:Mu) (A:AW) (w:tz) (v:sH) (A':AW):Prop:=
 ∃μ' v' w',Res P ρ o w v' w'/\VR μ' v v'/\WR μ' A' w'/\bB μ A w μ' A' w'
theorem zgA.same {ρ:sQ->sH} {o:Oper} {v v':sH} (W:WR μ A w) (h:(tw ρ o).run P w= .ok (.value v') w) (hv:VR μ v v'):zgA P ρ o μ A w v A:=
 ⟨μ,v',w,.inl h,hv,W,bB.refl⟩
theorem dN:VR μ undef undef:=by simp only[undef,VR];exact⟨_,rfl,LR.nil⟩
theorem rT {t:sO} {i:tY} (h:P.info? t=some i):(typeInfo t).run P w= .ok i w:=by simp[typeInfo,h]
theorem rU {t:sO} {d:tL} (h:P.underlying t=some d):(underlying t).run P w= .ok d w:=tj h w
theorem rS {t:sO} {i:tY} (h:P.info? t=some i):(sizeOf t).run P w= .ok i.size w:=by simp[sizeOf,rT h]
theorem rZ {t:sO} {i:tY} {z:sH} (h:P.info? t=some i) (hz:i.zero=some z):(zeroValue t).run P w= .ok z w:=by simp[zeroValue,rT h,hz]
def zqU:tL->Bool
 | .struct _ | .array _ _=>true
 | _=>false
theorem zpF {t:sO} {d:tL} (h:P.underlying t=some d):(isAgg t).run P w= .ok (zqU d) w:=by
 simp only[isAgg,sK,rU h,sI]
 cases d<;>simp[zqU]
def nj {α:Type} (P:sM):Sem α->Option α
 | .pure a=>some a
 | .program k=>nj P (k P)
 | _=>none
theorem oC {α:Type}:∀{s:Sem α} {a:α},nj P s=some a->s.run P w= .ok a w
 | .pure _,_,h=>by cases h;rfl
 | .program k,a,h=>by
  simp only[nj] at h
  simp only[Sem.run]
  exact oC h
 | .load _ _ _,_,h | .store _ _ _ _,_,h | .new _ _,_,h | .shape _ _,_,h | .freeze _ _ _,_,h | .frozen _ _,_,h | .getObj _ _,_,h | .setObj _ _ _,_,h | .choose _ _,_,h | .sys _ _,_,h | .mark _ _,_,h | .halt _,_,h=>by cases h
def sC:Op->Option (List sQ)
 | .binOp _ _ x y _=>some [x,y]
 | .unOp _ _ x | .convert _ _ x=>some [x]
 | .index _ x y=>some [x,y]
 | .slice _ x none none none=>some [x]
 | .slice _ x (some y) none none | .slice _ x none (some y) none=>some [x,y]
 | .slice _ x (some y) (some z) none=>some [x,y,z]
 | .call {callee:=.builtin .len,args:=⟨[x]⟩,argTypes:=_}=>some [x]
 | .call {callee:=.builtin .max,args:=⟨[x,y]⟩,argTypes:=_} | .call {callee:=.builtin .min,args:=⟨[x,y]⟩,argTypes:=_}=>some [x,y]
 | _=>none
theorem zgc {ρ ρ':sQ->sH} {o:Oper} {xs:List sQ} (h:sC o.op=some xs) (he:∀x∈xs,ρ x=ρ' x):tw ρ o=tw ρ' o:=by
 obtain⟨dst,op,type,pos,after,guard⟩:=o
 simp only at h
 unfold sC at h
 split at h<;>first
  | (cases h;simp only[ua,List.not_mem_nil,or_false,forall_eq_or_imp,forall_eq] at he;simp[tw,he,resolve];done)
  | (cases h;done)
def zwT:sH->Bool
 | .agg _=>true
 | _=>false
noncomputable def znB (v:sH):Bool:=zhO v || (zwT v&&bR v)
theorem zfX {v:sH} (h:znB v=true):bR v=true:=by
 unfold znB at h;rw[tU,tc] at h;exact h.elim j6 (·.2)
noncomputable def nJ (l:bO):List sQ->Bool
 | []=>true
 | x::xs=>match bz l x with
  | some v=>znB v&&nJ l xs
  | none=>false
noncomputable def ρA (l:bO) (x:sQ):sH:=(bz l x).getD undef
def mN (op:uj) (k:IntKind) (a b:Int):Option sH:=match op with
 | .add=>some (.int k (k.wrap (a+b)))
 | .sub=>some (.int k (k.wrap (a - b)))
 | .mul=>some (.int k (k.wrap (a * b)))
 | .eql=>some (.bool (a==b))
 | .neq=>some (.bool (a != b))
 | .lss=>some (.bool (decide (a<b)))
 | .leq=>some (.bool (decide (a<=b)))
 | .gtr=>some (.bool (decide (a>b)))
 | .geq=>some (.bool (decide (a≥b)))
 | _=>none
theorem znL {op:uj} {k:IntKind} {t:sO} {x y:sQ} {a b:Int} {v:sH} (h:mN op k a b=some v):(do eqGuard op t x y (.int k a) (.int k b);binOp op t (.int k a) (.int k b):Sem sH).run P w= .ok v w:=by
 unfold mN at h
 split at h<;>first
  | (cases h;simp[eqGuard,binOp,Op.intArith,Op.intCmp];done)
  | cases h
theorem zgb {op:uj} {k:IntKind} {a b:Int} {v:sH} (h:mN op k a b=some v):bR v=true:=by
 unfold mN at h
 split at h<;>first
  | (cases h;rfl)
  | cases h
def zjQ:List UInt8->Nat->Option UInt8
 | [],_=>none
 | b::_,0=>some b
 | _::l,n+1=>zjQ l n
theorem zhM:∀(l:List UInt8) (n:Nat),zjQ l n=l[n]?
 | [],n=>by simp[zjQ]
 | b::l,0=>rfl
 | b::l,n+1=>by rw[zjQ,zhM l n];simp
def zhR (op:uj) (x y:sH):Option sH:=match x with
 | .int .i64 a=>match y with
  | .int .i64 b=>mN op .i64 a b
  | _=>none
 | .int .u8 a=>match y with
  | .int .u8 b=>mN op .u8 a b
  | _=>none
 | .int .i32 a=>match y with
  | .int .i32 b=>mN op .i32 a b
  | _=>none
 | _=>none
theorem znM {op:uj} {u z v:sH} (h:zhR op u z=some v):∃k a b,u= .int k a/\z= .int k b/\mN op k a b=some v:=by
 unfold zhR at h
 split at h
 ·split at h
  ·exact⟨_,_,_,rfl,rfl,h⟩
  ·cases h
 ·split at h
  ·exact⟨_,_,_,rfl,rfl,h⟩
  ·cases h
 ·split at h
  ·exact⟨_,_,_,rfl,rfl,h⟩
  ·cases h
 ·cases h
theorem znv {s:ByteArray} {n:Nat} {b:UInt8} (h:zjQ s.data.toList n=some b):s[n]? =some b:=by
 rw[zhM] at h;obtain⟨hn,hb⟩:=tk.1 h;have hn':n<s.size:=by simpa using hn
 rw[getElem?_pos s n hn'];exact congrArg some hb
noncomputable def zrH (P:sM) (s d:sO) (x:sH):Option sH:=match x with
 | .int _ n=>match P.underlying s with
  | some _=>match P.underlying d with
   | some (.int k)=>some (.int k (k.wrap n))
   | _=>none
  | _=>none
 | _=>none
noncomputable def zrG (P:sM) (t:sO) (x i:sH):Option sH:=match x with
 | .string s=>match i with
  | .int _ (.ofNat z)=>match P.underlying t with
   | some .string=>match zjQ s.data.toList z with
    | some b=>some (.int .u8 (.ofNat b.toNat))
    | none=>none
   | _=>none
  | _=>none
 | _=>none
noncomputable def zhQ (P:sM) (l:bO) (o:Oper):Option sH:=match o.op with
 | .binOp op _ x y _=>match bz l x with
  | some a=>match bz l y with
   | some b=>zhR op a b
   | _=>none
  | _=>none
 | .convert s d x=>match bz l x with
  | some a=>zrH P s d a
  | _=>none
 | .index t x i=>match bz l x with
  | some a=>match bz l i with
   | some b=>zrG P t a b
   | _=>none
  | _=>none
 | _=>none
theorem znK {l:bO} {a:Act} {o:Oper} {v:sH} (W:WR μ A w) (h:TR μ l a.tmps.toList) (hp:zhQ P l o=some v):zgA P a.eval o μ A w v A:=by
 obtain⟨dst,op,type,pos,after,guard⟩:=o;unfold zhQ at hp
 simp only at hp
 split at hp
 ·split at hp
  ·rename_i hx
   split at hp
   ·rename_i hy
    have e1:=ar h hx;have e2:=ar h hy;obtain⟨k,n,m,rfl,rfl,hq⟩:=znM hp;have e1:=cR rfl e1;have e2:=cR rfl e2;have h5:=fun t x y=>znL (P:=P) (w:=w) (t:=t) (x:=x) (y:=y) hq
    exact .same W (by simp only[tw,e1,e2,sK,sI,Sem.run_pure];simp only[sK,sI] at h5;simp only[h5]) (cq (zgb hq))
   ·cases hp
  ·cases hp
 ·split at hp
  ·rename_i hx
   unfold zrH at hp
   split at hp
   ·split at hp
    ·rename_i hs
     split at hp
     ·rename_i hd
      cases hp
      have e1:=cR rfl (ar h hx);exact .same W (by simp[tw,e1,convert,tj hs,tj hd,Conv.intToInt]) (cq rfl)
     ·cases hp
    ·cases hp
   ·cases hp
  ·cases hp
 ·split at hp
  ·rename_i hx
   split at hp
   ·rename_i hi
    unfold zrG at hp
    split at hp
    ·split at hp
     ·split at hp
      ·rename_i ht
       split at hp
       ·rename_i hg
        cases hp
        have e1:=cR rfl (ar h hx);have e2:=cR rfl (ar h hi);have hg:=znv hg;exact .same W (by simp[tw,e1,e2,Instr.index,tj ht,asIntOf,hg]) (cq rfl)
       ·cases hp
      ·cases hp
     ·cases hp
    ·cases hp
   ·cases hp
  ·cases hp
 ·cases hp
noncomputable def zoC (P:sM) (l:bO) (o:Oper):Option sH:=
 match sC o.op with
 | some xs=>if nJ l xs then
   match nj P (tw (fun | .const v=>v | x=>ρA l x) o) with
   | some (.value v)=>if zhO v then some v else none
   | _=>none
  else none
 | none=>none
theorem pp {l:bO} {a:Act} (h:TR μ l a.tmps.toList):∀{xs:List sQ},nJ l xs=true->∀x∈xs,ρA l x=a.eval x
 | [],_,_,hx=>by cases hx
 | x::xs,hf,y,hy=>by
  simp only[nJ] at hf
  split at hf
  ·rename_i v hv
   rw[tc] at hf
   rcases ua.1 hy with rfl | hy
   ·have:=cR (zfX hf.1) (ar h hv)
    simp[ρA,hv,this]
   ·exact pp h hf.2 y hy
  ·cases hf
theorem zoB {l:bO} {a:Act} {o:Oper} {v:sH} (W:WR μ A w) (h:TR μ l a.tmps.toList) (hp:zoC P l o=some v):zgA P a.eval o μ A w v A:=by
 unfold zoC at hp
 split at hp
 ·rename_i xs kd
  split at hp
  ·rename_i hf
   split at hp
   ·rename_i u hu
    split at hp
    ·rename_i hfv
     cases hp
     refine .same W ?_ (cq (j6 hfv));rw[<- zgc (ρ:=fun | .const v=>v | x=>ρA l x) kd (fun x hx=>?_)]
     ·exact oC hu
     ·cases x with
      | const c=>rfl
      | _=>exact pp h hf _ hx
    ·cases hp
   ·cases hp
  ·cases hp
 ·cases hp
noncomputable def ff (P:sM) (l:bO) (o:Oper):Option sH:=match zhQ P l o with
 | some v=>some v
 | none=>zoC P l o
theorem fX {l:bO} {a:Act} {o:Oper} {v:sH} (W:WR μ A w) (h:TR μ l a.tmps.toList) (hp:ff P l o=some v):zgA P a.eval o μ A w v A:=by
 unfold ff at hp
 split at hp
 ·cases hp;exact znK W h (by assumption)
 ·exact zoB W h hp
def aC:sH->List sH
 | .agg ⟨l⟩=>l
 | v=>[v]
theorem iA:∀{v v':sH},VR μ v v'->LR μ (aC v) v'.cells.toList
 | .bool _,_,r | .int _ _,_,r | .float _ _,_,r | .string _,_,r | .pointer none,_,r | .slice none _ _,_,r | .map none,_,r | .nilFunc,_,r | .nilIface,_,r=>by
  have r':=r
  simp only[VR] at r;subst r;exact LR.cons r' LR.nil
 | .pointer (some a),_,r=>by have r':=r;simp only[VR] at r;obtain⟨a',rfl,_⟩:=r;exact LR.cons r' LR.nil
 | .slice (some a) n c,_,r=>by have r':=r;simp only[VR] at r;obtain⟨a',c',rfl,_⟩:=r;exact LR.cons r' LR.nil
 | .map (some a),_,r=>by have r':=r;simp only[VR] at r;obtain⟨l,rfl,_⟩:=r;exact LR.cons r' LR.nil
 | .func (.func f) ⟨x⟩ ⟨y⟩,_,r=>by have r':=r;simp only[VR] at r;obtain⟨x',y',rfl,_⟩:=r;exact LR.cons r' LR.nil
 | .func (.method _) _ _,_,r | .func (.methodOf _ _) _ _,_,r | .func (.via _ _ _ _) _ _,_,r | .chan _,_,r | .complex _ _ _,_,r=>by simp[VR] at r
 | .func (.yield i) _ _,_,r=>by have r':=r;simp only[VR] at r;obtain⟨_,_,l,rfl,_⟩:=r;exact LR.cons r' LR.nil
 | .iface t u,_,r=>by have r':=r;simp only[VR] at r;obtain⟨u',rfl,_⟩:=r;exact LR.cons r' LR.nil
 | .agg ⟨xs⟩,_,r=>by simp only[VR] at r;obtain⟨u',rfl,h⟩:=r;exact h
 | .tuple ⟨xs⟩,_,r=>by have r':=r;simp only[VR] at r;obtain⟨u',rfl,_⟩:=r;exact LR.cons r' LR.nil
noncomputable def lq (P:sM) (A:AW) (t:sO):sH->Option sH
 | .pointer (some a)=>match A.get a.block,P.underlying t with
  | some (.cells vs _ _ _ _),some d=>if zqU d then
    (match P.info? t with
    | some i=>if a.off+i.size<=vs.length then some (.agg ⟨(vs.drop a.off).take i.size⟩) else none
    | none=>none)
   else vs[a.off]?
  | _,_=>none
 | _=>none
theorem rD {t:sO} {a a':Addr} {v:sH} (W:WR μ A w) (hv:AR μ a a') (h:lq P A t (.pointer (some a))=some v):
  ∃v',(loadVar t a').run P w= .ok v' w/\VR μ v v':=by
 simp only[lq] at h
 split at h
 ·rename_i vs ty op fz es d hg hd
  split at h
  ·rename_i hagg
   split at h
   ·rename_i i hi
    split at h
    ·rename_i hn
     cases h
     obtain⟨xs',h1,h2⟩:=eH (P:=P) W hv hg hn;refine⟨.agg xs'.toArray,?_,?_⟩
     ·simp[loadVar,zpF hd,hagg,rS hi,h1]
     ·simp only[VR];exact⟨_,rfl,h2⟩
    ·cases h
   ·cases h
  ·rename_i hagg
   obtain⟨v',h1,h2⟩:=zlN W hv hg h;refine⟨v',?_,h2⟩
   simp only[loadVar,sK,zpF hd,sI,hagg,sS,if_false,run_load,h1]
 ·cases h
theorem zoH {t:sO} {p p' v:sH} (W:WR μ A w) (hv:VR μ p p') (h:lq P A t p=some v):
  ∃v',(uf t p').run P w= .ok v' w/\VR μ v v':=by
 unfold lq at h
 split at h
 ·rename_i a
  simp only[VR] at hv
  obtain⟨a',rfl,ha⟩:=hv;obtain⟨v',h1,h2⟩:=rD W ha (P:=P) (t:=t) (v:=v) (by unfold lq;exact h)
  exact⟨v',by simp[uf,sZ,h1],h2⟩
 ·cases h
noncomputable def zbc (P:sM) (A:AW) (t:sO) (v:sH):sH->Option AW
 | .pointer (some a)=>match A.get a.block,P.info? t with
  | some (.cells vs ty op fz es),some i=>
   if (aC v).length=i.size/\(aC v).all (·.oneCell')=true/\a.off+(aC v).length<=vs.length/\zkq fz a.off=true then
    some (A.set a.block (some (.cells (aO vs a.off (aC v)) ty op fz es)))
   else none
  | _,_=>none
 | _=>none
theorem zkh {t:sO} {p p' v v':sH} {A':AW} (W:WR μ A w) (hp:VR μ p p') (hv:VR μ v v') (h:zbc P A t v p=some A'):
  ∃w',(ub t p' v').run P w= .ok () w'/\WR μ A' w'/\bB μ A w μ A' w':=by
 unfold zbc at h
 split at h
 ·rename_i a
  simp only[VR] at hp
  obtain⟨a',rfl,ha⟩:=hp
  split at h
  ·rename_i vs ty op fz es i hg hi
   split at h
   ·rename_i hc
    obtain⟨h1,h2,h3,h4⟩:=hc
    cases h
    have hL:=iA hv;obtain⟨w',h5,h6⟩:=eU (P:=P) W ha hg hL h2 h3 h4;refine⟨w',?_,h6⟩;have hsz:v'.cells.size=i.size:=by rw[<- h1,<- hL.len];simp
    simp[ub,sZ,storeVar,rS hi,hsz,h5]
   ·cases h
  ·cases h
 ·cases h
theorem zal {cs cs':List sH} {t es:Nat} (W:WR μ A w) (h:LR μ cs cs'):
  ∃w',(newRow t cs'.toArray).run P w= .ok ⟨w.heap.size,0,none⟩ w'/\WR (μ.add A.next ⟨w.heap.size,0,cs.length,es⟩) (A.push (.cells cs t false none es)) w'/\bB μ A w (μ.add A.next ⟨w.heap.size,0,cs.length,es⟩) (A.push (.cells cs t false none es)) w':=by
 refine⟨{w with heap:=w.heap.push (.cells cs'.toArray t)},by simp[newRow],W.new ?_⟩
 have hle:=Mu.add_le (x:=⟨w.heap.size,0,cs.length,es⟩) (W.dom A.next (sJ _));refine⟨_,_,rfl,by simp[h.len],by simp,by simp,rfl,?_,rfl⟩
 simp only[tB]
 rw[tu (by simp[h.len])]
 exact h.mono hle
theorem zbp {n:Nat} {l:pV} (h:μ n=none):AR (μ.add n l) ⟨n,0,none⟩ ⟨l.b,l.d,none⟩:=⟨rfl,l,Mu.add_get h,by simp⟩
def zeL (A:AW) (t:sO) (cs:List sH) (es:Nat):sH × AW:=(.pointer (some ⟨A.next,0,none⟩),A.push (.cells cs t false none es))
theorem zis {t es:Nat} {v v':sH} (W:WR μ A w) (hv:VR μ v v'):
  ∃μ' p' w',(Instr.box t v').run P w= .ok p' w'/\VR μ' (zeL A t (aC v) es).1 p'/\WR μ' (zeL A t (aC v) es).2 w'/\bB μ A w μ' (zeL A t (aC v) es).2 w':=by
 obtain⟨w',h1,h2,h3⟩:=zal (P:=P) (t:=t) (es:=es) W (iA hv);have e:v'.cells.toList.toArray=v'.cells:=by simp
 rw[e] at h1;refine⟨_,_,w',by simp[Instr.box,newVar,h1];rfl,?_,h2,h3⟩
 simp only[zeL,VR]
 exact⟨_,rfl,zbp (W.dom _ (sJ _))⟩
end Ev
end
section
namespace Ev
variable {P:sM} {μ:Mu} {A:AW} {w:tz}
def zbj (P:sM) (s:sO) (f:Nat):sH->Option sH
 | .pointer (some a)=>match P.underlying s with
  | some (.struct fields)=>match fields[f]? with
   | some fd=>match P.info? fd.type with
    | some i=>if i.size=0 then none else some (.pointer (some (a.add fd.offset)))
    | none=>none
   | none=>none
  | _=>none
 | _=>none
theorem zkm {s:sO} {f:Nat} {p p' v:sH} (hp:VR μ p p') (h:zbj P s f p=some v):∃v',(ud s p' f).run P w= .ok v' w/\VR μ v v':=by
 unfold zbj at h
 split at h
 ·rename_i a
  simp only[VR] at hp
  obtain⟨a',rfl,ha⟩:=hp
  split at h
  ·rename_i fields hd
   split at h
   ·rename_i fd hf
    split at h
    ·rename_i i hi
     split at h
     ·cases h
     ·rename_i hz
      cases h
      refine⟨.pointer (some (a'.add fd.offset)),?_,?_⟩
      ·simp[ud,rU hd,hf,sZ,fieldPlace,rS hi,hz]
      ·simp only[VR];exact⟨_,rfl,ha.add _⟩
    ·cases h
   ·cases h
  ·cases h
 ·cases h
theorem SR.addr {a a':Addr} {n c c':Nat} (h:SR μ a n c a' c') (hn:0<n):AR μ a a':=by
 rcases h with ⟨_,_,h⟩ | ⟨_,⟨h,_⟩ | ⟨h1,_,l,h2,h3,_⟩⟩
 ·exact h
 ·omega
 ·exact⟨h1,l,h2,h3⟩
def zbh (P:sM) (t:sO) (x:sH):sH->Option sH
 | .int _ i=>match P.underlying t,x with
  | some (.slice elem),.slice (some a) len _=>match P.info? elem with
   | some ii=>if 0<=i/\i<len then some (.pointer (some (a.add (i.toNat * ii.size)))) else none
   | none=>none
  | some (.array len elem),.pointer (some a)=>match P.info? elem with
   | some ii=>if 0<=i/\i<len then some (.pointer (some (a.add (i.toNat * ii.size)))) else none
   | none=>none
  | _,_=>none
 | _=>none
theorem zkk {t:sO} {x x' ix ix' v:sH} (hx:VR μ x x') (hi:VR μ ix ix') (h:zbh P t x ix=some v):∃v',(tE t x' ix').run P w= .ok v' w/\VR μ v v':=by
 unfold zbh at h
 split at h
 ·rename_i k i
  simp only[VR] at hi
  subst hi
  split at h
  ·rename_i elem a len c hd
   simp only[VR] at hx
   obtain⟨a',c',rfl,hs⟩:=hx
   split at h
   ·rename_i ii hii
    split at h
    ·rename_i hc
     cases h
     have ha:=hs.addr (by omega)
     refine⟨.pointer (some (a'.add (i.toNat * ii.size))),?_,?_⟩
     ·simp[tE,asIntOf,rU hd,rS hii,hc]
     ·simp only[VR];exact⟨_,rfl,ha.add _⟩
    ·cases h
   ·cases h
  ·rename_i len elem a hd
   simp only[VR] at hx
   obtain⟨a',rfl,ha⟩:=hx
   split at h
   ·rename_i ii hii
    split at h
    ·rename_i hc
     cases h
     refine⟨.pointer (some (a'.add (i.toNat * ii.size))),?_,?_⟩
     ·simp[tE,asIntOf,rU hd,rS hii,hc,sZ]
     ·simp only[VR];exact⟨_,rfl,ha.add _⟩
    ·cases h
   ·cases h
  ·cases h
 ·cases h
def bnd:Option sH->Nat->Nat->Option Nat
 | none,d,_=>some d
 | some (.int _ i),_,cJ=>if 0<=i/\i<=cJ then some i.toNat else none
 | _,_,_=>none
def OVR (μ:Mu):Option sH->Option sH->Prop
 | none,y=>y=none
 | some x,y=>∃x',y=some x'/\VR μ x x'
theorem zgo {x x':Option sH} {d cJ n:Nat} (hx:OVR μ x x') (h:bnd x d cJ=some n):(x=none/\x'=none/\n=d)\/(∃k i,x'=some (.int k i)/\0<=i/\i<=cJ/\n=i.toNat/\x.isSome=true):=by
 unfold bnd at h
 split at h
 ·cases h
  simp only[OVR] at hx
  exact .inl ⟨rfl,hx,rfl⟩
 ·simp only[OVR,VR] at hx
  obtain⟨_,rfl,rfl⟩:=hx
  split at h
  ·rename_i hc;cases h;exact .inr ⟨_,_,rfl,hc.1,hc.2,rfl,rfl⟩
  ·cases h
 ·cases h
theorem gq {sl:Bool} {len cap:Nat} {lo lo' hi hi':Option sH} {l h cJ:Nat} (hlo:OVR μ lo lo') (hhi:OVR μ hi hi') (h1:bnd hi len cJ=some h) (h2:bnd lo 0 h=some l) (ht:cJ<=cap):
  (sV sl len cap lo' hi' none).run P w= .ok (l,h,cap) w:=by
 rcases zgo hhi h1 with ⟨_,rfl,rfl⟩ | ⟨k,i,rfl,h3,h4,rfl,_⟩
 ·rcases zgo hlo h2 with ⟨_,rfl,rfl⟩ | ⟨k,i,rfl,h3,h4,rfl,_⟩
  ·simp[sV]
  ·have:0<=i/\i<=(h:Int):=⟨h3,h4⟩
   simp[sV,tm,asIntOf,this]
 ·have h5:0<=i/\i<=(cap:Int):=⟨h3,by omega⟩
  rcases zgo hlo h2 with ⟨_,rfl,rfl⟩ | ⟨k',i',rfl,h6,h7,rfl,_⟩
  ·simp[sV,tm,asIntOf,h5]
  ·have h8:0<=i'/\i'<=(i.toNat:Int):=⟨h6,h7⟩
   have h9:i'<=i:=by omega
   have h10:0<=i'/\i'<=max i 0:=⟨h6,by omega⟩
   simp[sV,tm,asIntOf,h5,h8,h10]
noncomputable def zbd (P:sM) (A:AW) (t:sO) (lo hi:Option sH):sH->Option sH
 | .slice none len cap=>match P.underlying t with
  | some (.slice elem)=>match P.info? elem,bnd hi len cap with
   | some _,some h=>match bnd lo 0 h with
    | some l=>some (.slice none (h - l) (cap - l))
    | none=>none
   | _,_=>none
  | _=>none
 | .slice (some a) len cap=>match P.underlying t with
  | some (.slice elem)=>match P.info? elem with
   | some ii=>
    if cap=nX then
     match A.get a.block,bnd hi len len with
     | some (.cells _ _ _ _ es),some h=>match bnd lo 0 h with
      | some l=>if es=ii.size/\a.spot=none then some (.slice (some (a.add (l * ii.size))) (h - l) nX) else none
      | none=>none
     | _,_=>none
    else if cap<nX then
     match bnd hi len cap with
     | some h=>match bnd lo 0 h with
      | some l=>some (.slice (some (if cap=l then a else a.add (l * ii.size))) (h - l) (cap - l))
      | none=>none
     | none=>none
    else none
   | none=>none
  | _=>none
 | .pointer (some a)=>match P.underlying t with
  | some (.array n elem)=>match P.info? elem,bnd hi n n with
   | some ii,some h=>if n<nX then match bnd lo 0 h with
    | some l=>some (.slice (some (if n=l then a else a.add (l * ii.size))) (h - l) (n - l))
    | none=>none
    else none
   | _,_=>none
  | _=>none
 | _=>none
theorem zgp {x:Option sH} {d cJ n:Nat} (h:bnd x d cJ=some n) (hd:d<=cJ):n<=cJ:=by
 unfold bnd at h
 split at h
 ·cases h;exact hd
 ·split at h
  ·cases h;omega
  ·cases h
 ·cases h
theorem zki {t:sO} {lo lo' hi hi':Option sH} {x x' v:sH} (W:WR μ A w) (hx:VR μ x x') (hlo:OVR μ lo lo') (hhi:OVR μ hi hi') (h:zbd P A t lo hi x=some v):∃v',(te t x' lo' hi' none).run P w= .ok v' w/\VR μ v v':=by
 unfold zbd at h
 split at h
 ·rename_i len cap
  simp only[VR] at hx;subst hx
  split at h
  ·rename_i elem hd
   split at h
   ·rename_i i h0 hi1 hb
    split at h
    ·rename_i l hl
     cases h
     refine⟨.slice none (h0 - l) (cap - l),?_,by simp[VR]⟩
     simp[te,tS,rU hd,rS hi1,gq (sl:=true) hlo hhi hb hl (sJ _)]
    ·cases h
   ·cases h
  ·cases h
 ·rename_i a len cap
  simp only[VR] at hx
  obtain⟨a',c',rfl,hs⟩:=hx
  split at h
  ·rename_i elem hd
   split at h
   ·rename_i ii hi1
    split at h
    ·rename_i hu
     split at h
     ·rename_i vs ty op fz es h0 hg hb
      split at h
      ·rename_i l hl
       split at h
       ·rename_i hes
        cases h
        obtain⟨hes,hsp⟩:=hes;have hl0:l<=h0:=zgp hl (Nat.zero_le _);have hh0:h0<=len:=zgp hb (sJ _);have hlen:len<=c':=by
         rcases hs with ⟨h1,_⟩ | ⟨_,⟨h1,h2⟩ | ⟨_,h1,_⟩⟩
         ·exact absurd hu h1
         ·omega
         ·exact h1
        refine⟨.slice (if c'=l then some a' else some (a'.add (l * ii.size))) (h0 - l) (c' - l),?_,?_⟩
        ·simp[te,tS,rU hd,rS hi1,gq (sl:=true) (cap:=c') hlo hhi hb hl hlen]
        ·simp only[VR]
         by_cases hc:c'=l
         ·rw[if_pos hc]
          exact⟨a',c' - l,rfl,.inr ⟨rfl,.inl ⟨by omega,by omega⟩⟩⟩
         ·rw[if_neg hc]
          refine⟨_,_,rfl,.inr ⟨rfl,.inr ?_⟩⟩
          rcases hs with ⟨h1,_⟩ | ⟨_,⟨h1,h2⟩ | ⟨h1,h2,lo1,h3,h4,h5⟩⟩
          ·exact absurd hu h1
          ·omega
          ·have hk:es=lo1.k:=by
            obtain⟨c,fr,_,_,_,_,hk,_⟩:=W.cells h3 hg;exact hk
           obtain⟨ab,ao,asp⟩:=a
           simp only at hsp h3 h5 h4;subst hsp h4
           rw[gE,gE];refine⟨rfl,by omega,lo1,h3,by simp[td],?_⟩
           simp only
           rw[hk] at hes;rw[<- hes];have:l * lo1.k+(c' - l) * lo1.k=c' * lo1.k:=by rw[<- sW];congr 1;omega
           omega
       ·cases h
      ·cases h
     ·cases h
    ·rename_i hu
     split at h
     ·rename_i hlt
      split at h
      ·rename_i h0 hb
       split at h
       ·rename_i l hl
        cases h
        have hl0:l<=h0:=zgp hl (Nat.zero_le _)
        rcases hs with ⟨_,rfl,ha⟩ | ⟨h1,_⟩
        ·refine⟨.slice (if c'=l then some a' else some (a'.add (l * ii.size))) (h0 - l) (c' - l),?_,?_⟩
         ·simp[te,tS,rU hd,rS hi1,gq (sl:=true) (cap:=c') hlo hhi hb hl (sJ _)]
         ·simp only[VR]
          by_cases hc:c'=l
          ·rw[if_pos hc,if_pos hc]
           exact⟨a',_,rfl,.inl ⟨by omega,rfl,ha⟩⟩
          ·rw[if_neg hc,if_neg hc]
           exact⟨_,_,rfl,.inl ⟨by omega,rfl,ha.add _⟩⟩
        ·exact absurd h1 hu
       ·cases h
      ·cases h
     ·cases h
   ·cases h
  ·cases h
 ·rename_i a
  simp only[VR] at hx
  obtain⟨a',rfl,ha⟩:=hx
  split at h
  ·rename_i n elem hd
   split at h
   ·rename_i ii h0 hi1 hb
    split at h
    ·rename_i hlt
     split at h
     ·rename_i l hl
      cases h
      refine⟨.slice (if n=l then some a' else some (a'.add (l * ii.size))) (h0 - l) (n - l),?_,?_⟩
      ·simp only[te,sK,rU hd,sI,sZ,Sem.run_pure,gq (sl:=false) (cap:=n) hlo hhi hb hl (sJ _),rS hi1]
       split<;>rfl
      ·simp only[VR]
       by_cases hc:n=l
       ·rw[if_pos hc,if_pos hc]
        exact⟨a',_,rfl,.inl ⟨by omega,rfl,ha⟩⟩
       ·rw[if_neg hc,if_neg hc]
        exact⟨_,_,rfl,.inl ⟨by omega,rfl,ha.add _⟩⟩
     ·cases h
    ·cases h
   ·cases h
  ·cases h
 ·cases h
end Ev
end
section
namespace Ev
variable {P:sM} {μ:Mu} {A:AW} {w:tz}
def ik (place:Nat->Option (Nat × Nat)):List sH->List (Nat × sH)->Option (List sH)
 | cs,[]=>some cs
 | cs,(i,v)::r=>match place i with
  | none=>none
  | some (off,size)=>if (aC v).length=size/\off+(aC v).length<=cs.length then ik place (aO cs off (aC v)) r else none
theorem cj:∀v:sH,v.cells.toList=aC v
 | .agg _=>rfl
 | .bool _ | .int _ _ | .float _ _ | .complex _ _ _ | .string _ | .pointer _ | .slice _ _ _ | .map _ | .chan _ | .func _ _ _ | .nilFunc | .iface _ _ | .nilIface | .tuple _=>rfl
theorem mK:∀(l:List sH) (off i:Nat) (cs:Array sH),off+i+l.length<=cs.size->(l.zipIdx i).foldl (fun(cs:Array sH) (x:sH × Nat)=>cs.setIfInBounds (off+x.2) x.1) cs=(aO cs.toList (off+i) l).toArray
 | [],off,i,cs,_=>by simp[aO]
 | v::r,off,i,cs,h=>by
  simp only[tN] at h
  simp only[List.zipIdx_cons,List.foldl_cons]
  rw[mK r off (i+1) _ (by simp;omega),ti,<- td,mm (by simp;omega)]
theorem nL (place:Nat->Option (Nat × Nat)):∀(ps:List (Nat × sH)) (cs:Array sH) (r:List sH),ik place cs.toList ps=some r->tZ place cs ps=some r.toArray
 | [],cs,r,h=>by simp only[ik] at h;cases h;simp[tZ]
 | (i,v)::ps,cs,r,h=>by
  simp only[ik] at h
  simp only[tZ]
  split at h
  ·cases h
  ·rename_i off size hp
   rw[hp]
   split at h
   ·rename_i hc
    obtain⟨h1,h2⟩:=hc;have hsz:v.cells.size=(aC v).length:=by rw[<- cj];simp
    have hn:(decide (v.cells.size≠size) || decide (off+v.cells.size>cs.size))=false:=by
     simp only[Bool.or_eq_false_iff,decide_eq_false_iff_not]
     simp only[Array.length_toList] at h2
     exact⟨by omega,by omega⟩
    simp only[hn,sS,if_false]
    apply nL place ps
    have e:(v.cells.zipIdx.foldl (fun cs (c,j)=>cs.setIfInBounds (off+j) c) cs).toList=aO cs.toList off (aC v):=by
     rw[<- Array.foldl_toList,Array.toList_zipIdx,cj];have:=mK (aC v) off 0 cs (by simpa using h2)
     simp only[tt] at this
     exact congrArg Array.toList this
    rw[e];exact h
   ·cases h
def PR (μ:Mu):List (Nat × sH)->List (Nat × sH)->Prop
 | [],l=>l=[]
 | (i,v)::r,l=>∃v' r',l=(i,v')::r'/\VR μ v v'/\PR μ r r'
theorem iT (place:Nat->Option (Nat × Nat)):∀{ps ps':List (Nat × sH)} {cs cs' r:List sH},PR μ ps ps'->LR μ cs cs'->ik place cs ps=some r->∃r',ik place cs' ps'=some r'/\LR μ r r'
 | [],ps',cs,cs',r,hp,hc,h=>by
  simp only[PR] at hp;subst hp
  simp only[ik] at h;cases h
  exact⟨cs',rfl,hc⟩
 | (i,v)::ps,ps',cs,cs',r,hp,hc,h=>by
  simp only[PR] at hp
  obtain⟨v',ps'',rfl,hv,hp⟩:=hp
  simp only[ik] at h⊢
  split at h
  ·cases h
  ·rename_i off size hpl
   have hL:=iA hv;rw[cj] at hL
   split at h
   ·rename_i hcond
    obtain⟨h1,h2⟩:=hcond;rw[if_pos ⟨by rw[hL.len];exact h1,by rw[hL.len,hc.len];exact h2⟩]
    refine iT place hp ?_ h
    simp only[aO,hL.len]
    exact((hc.take _).append hL).append (hc.drop _)
   ·cases h
noncomputable def zlw (l:bO):List (Nat × sQ)->Option (List (Nat × sH))
 | []=>some []
 | (i,x)::xs=>match bz l x,zlw l xs with
  | some v,some vs=>some ((i,v)::vs)
  | _,_=>none
theorem zac {l:bO} {a:Act} (h:TR μ l a.tmps.toList):∀{xs:List (Nat × sQ)} {vs:List (Nat × sH)},zlw l xs=some vs->PR μ vs (xs.map fun x=>(x.1,a.eval x.2))
 | [],_,hx=>by cases hx;simp[PR]
 | (i,x)::xs,vs,hx=>by
  simp only[zlw] at hx
  split at hx
  ·rename_i v us h1 h2
   cases hx
   simp only[PR,List.map_cons]
   exact⟨_,_,rfl,ar h h1,zac h h2⟩
  ·cases hx
def iM (P:sM):List Field->Option (List (Nat × Nat))
 | []=>some []
 | f::fs=>match P.info? f.type,iM P fs with
  | some i,some r=>some ((f.offset,i.size)::r)
  | _,_=>none
theorem oh:∀{fs:List Field} {r:List (Nat × Nat)},iM P fs=some r->(fs.mapM fun f=>do pure (f.offset,<- sizeOf f.type):Sem (List (Nat × Nat))).run P w= .ok r w
 | [],r,h=>by simp only[iM] at h;cases h;rfl
 | f::fs,r,h=>by
  simp only[iM] at h
  split at h
  ·rename_i i r' hi hr
   cases h
   have ih:=oh hr
   simp only[List.mapM_cons,sK,rS hi,sI,Sem.run_pure,ih]
  ·cases h
theorem zbO {fs:Array Field} {r:List (Nat × Nat)} (h:iM P fs.toList=some r):(fs.mapM fun f=>do pure (f.offset,<- sizeOf f.type):Sem (Array (Nat × Nat))).run P w= .ok r.toArray w:=by
 rw[Array.mapM_eq_mapM_toList]
 simp only[Sem.run_map,oh h,sI]
noncomputable def zbk (P:sM) (l:bO) (t:sO) (ps:List (Nat × sQ)):Option sH:=
 match P.info? t,P.underlying t,zlw l ps with
 | some i,some d,some vs=>match i.zero with
  | some z=>if bR z then
    match d with
    | .struct fields=>match iM P fields.toList with
     | some pl=>match ik (fun j=>pl[j]?) (aC z) vs with
      | some cs=>some (.agg ⟨cs⟩)
      | none=>none
     | none=>none
    | .array _ elem=>match P.info? elem with
     | some ie=>match ik (fun j=>some (j * ie.size,ie.size)) (aC z) vs with
      | some cs=>some (.agg ⟨cs⟩)
      | none=>none
     | none=>none
    | _=>none
   else none
  | none=>none
 | _,_,_=>none
theorem zko {l:bO} {a:Act} {t:sO} {ps:Array (Nat × sQ)} {v:sH} (hl:TR μ l a.tmps.toList) (h:zbk P l t ps.toList=some v):
  ∃v',(tT t (ps.map fun(i,x)=>(i,a.eval x))).run P w= .ok v' w/\VR μ v v':=by
 unfold zbk at h
 split at h
 ·rename_i i d vs hi hd hvs
  have hP:=zac hl hvs;have eP:(ps.map fun(i,x)=>(i,a.eval x)).toList=ps.toList.map fun x=>(x.1,a.eval x.2):=by simp
  split at h
  ·rename_i z hz
   split at h
   ·rename_i hfz
    have hzz:LR μ (aC z) z.cells.toList:=iA (cq hfz)
    split at h
    ·rename_i fields
     split at h
     ·rename_i pl hpl
      split at h
      ·rename_i cs hcs
       cases h
       obtain⟨r',h1,h2⟩:=iT _ hP hzz hcs;have h3:=nL _ _ _ _ h1;refine⟨.agg r'.toArray,?_,by simp only[VR];exact⟨_,rfl,h2⟩⟩
       have e2:(fun j:Nat=>pl.toArray[j]?)=fun j:Nat=>pl[j]? :=by funext j;simp
       simp only[tT,sK,rZ hi hz,sI,rU hd,zbO hpl,eP,e2,h3,Sem.run_pure]
      ·cases h
     ·cases h
    ·rename_i n elem
     split at h
     ·rename_i ie hie
      split at h
      ·rename_i cs hcs
       cases h
       obtain⟨r',h1,h2⟩:=iT _ hP hzz hcs;have h3:=nL _ _ _ _ h1;refine⟨.agg r'.toArray,?_,by simp only[VR];exact⟨_,rfl,h2⟩⟩
       simp only[tT,sK,rZ hi hz,sI,rU hd,rS hie,eP,h3,Sem.run_pure]
      ·cases h
     ·cases h
    ·cases h
   ·cases h
  ·cases h
 ·cases h
def cD:Nat->List sH->List sH
 | 0,_=>[]
 | n+1,z=>z++cD n z
theorem zcd (z:List sH):∀(n i:Nat),i<n * z.length->(cD n z)[i]? =z[i % z.length]?
 | 0,i,h=>by simp at h
 | n+1,i,h=>by
  simp only[cD]
  have hz:0<z.length:=by
   rcases sY z.length with h0 | h0
   ·rw[h0] at h;simp at h
   ·exact h0
  rcases ug i z.length with hi | hi
  ·rw[List.getElem?_append_left hi,Nat.mod_eq_of_lt hi]
  ·rw[List.getElem?_append_right hi,zcd z n _ (by rw[sW] at h;omega)]
   congr 1
   rw[Nat.mod_eq_sub_mod hi]
theorem kr (z:List sH):∀n,(cD n z).length=n * z.length
 | 0=>by simp[cD]
 | n+1=>by simp[cD,kr z n,sW,Nat.add_comm]
theorem gu (z:Array sH) (n:Nat):(uk (n * z.size)).map (fun i=>z[i % z.size]!)=(cD n z.toList).toArray:=by
 apply tg
 intro i
 simp only[Array.getElem?_map,Array.getElem?_range,ta]
 rcases ug i (n * z.size) with h | h
 ·have hz:0<z.size:=by
   rcases sY z.size with h0 | h0
   ·rw[h0] at h;simp at h
   ·exact h0
  have hm:=Nat.mod_lt i hz;rw[zcd z.toList n i (by simpa using h)]
  simp[h,hm]
 ·rw[List.getElem?_eq_none (by rw[kr];simpa using h)]
  simp;omega
theorem kQ:∀{a b:List sH},bA a=true->bA b=true->bA (a++b)=true
 | [],_,_,h=>h
 | x::a,b,h,h'=>by
  simp only[bA,tc,tO] at h⊢
  exact⟨h.1,kQ h.2 h'⟩
theorem j5 {z:List sH} (h:bA z=true):∀n,bA (cD n z)=true
 | 0=>rfl
 | n+1=>kQ h (j5 h n)
theorem mL {z:sH} (h:bR z=true):bA (aC z)=true:=by
 cases z<;>first
  | (simp only[aC,bA,tc];exact⟨h,trivial⟩)
  | (rename_i l;obtain⟨l⟩:=l;simpa[bR,aC] using h)
noncomputable def fg (P:sM) (A:AW) (l:bO) (t len:Nat) (ps:List (Nat × sQ)):Option (sH × AW):=
 match P.underlying t,zlw l ps with
 | some (.slice elem),some vs=>match P.info? elem with
  | some ie=>match ie.zero with
   | some z=>if bR z/\(aC z).length=ie.size/\len * ie.size<=1000000/\ie.size≠0/\len<nX then
     match ik (fun i=>some (i * ie.size,ie.size)) (cD len (aC z)) vs with
     | some cs=>some (.slice (some ⟨A.next,0,none⟩) len len,A.push (.cells cs elem false none ie.size))
     | none=>none
    else none
   | none=>none
  | none=>none
 | _,_=>none
theorem pT {l:bO} {a:Act} {t len:Nat} {ps:Array (Nat × sQ)} {v:sH} {A':AW} (W:WR μ A w) (hl:TR μ l a.tmps.toList) (h:fg P A l t len ps.toList=some (v,A')):
  ∃μ' v' w',(tQ t len (ps.map fun(i,x)=>(i,a.eval x))).run P w= .ok v' w'/\VR μ' v v'/\WR μ' A' w'/\bB μ A w μ' A' w':=by
 unfold fg at h
 split at h
 ·rename_i elem vs hd hvs
  have hP:=zac hl hvs;have eP:(ps.map fun(i,x)=>(i,a.eval x)).toList=ps.toList.map fun x=>(x.1,a.eval x.2):=by simp
  split at h
  ·rename_i ie hie
   split at h
   ·rename_i z hz
    split at h
    ·rename_i hc
     obtain⟨hfz,hzl,hlen,hne,hu⟩:=hc
     split at h
     ·rename_i cs hcs
      cases h
      have hzz:LR μ (cD len (aC z)) (cD len (aC z)):=bk (j5 (mL hfz) _);obtain⟨r',h1,h2⟩:=iT _ hP hzz hcs;have e1:∀z0:Array sH,(len * ie.size=0\/z0=z.cells)->(uk (len * ie.size)).map (fun x=>z0[x % z0.size]!)=(cD len (aC z)).toArray:=by
       intro z0 hz0
       by_cases h0:len * ie.size=0
       ·have:len=0:=by
         rcases Nat.mul_eq_zero.1 h0 with h5 | h5
         ·exact h5
         ·exact absurd h5 hne
        subst this
        simp[cD]
       ·obtain rfl:=hz0.resolve_left h0
        have:=gu z.cells len;rw[show z.cells.size=ie.size by rw[<- hzl,<- cj];simp] at this⊢
        rw[this,cj]
      have h3:=nL (fun i=>some (i * ie.size,ie.size)) _ (cD len (aC z)).toArray _ h1
      obtain⟨w',h4,h5,h6⟩:=zal (P:=P) (t:=elem) (es:=ie.size) W h2;refine⟨_,.slice (some ⟨w.heap.size,0,none⟩) len len,w',?_,?_,h5,h6⟩
      ·have hbig:¬len * ie.size>2 ^ 24:=by omega
       unfold tQ
       simp only[sK,rU hd,rS hie,sI,hbig,if_false]
       by_cases h0:len * ie.size=0
       ·rw[if_pos h0]
        simp only[sK,Sem.run_pure,sI]
        rw[e1 #[] (.inl h0),eP,h3]
        simp only[sK,h4,sI,Sem.run_pure]
       ·rw[if_neg h0]
        simp only[sK,Sem.run_pure,sI,rZ hie hz]
        rw[e1 z.cells (.inr rfl),eP,h3]
        simp only[sK,h4,sI,Sem.run_pure]
      ·simp only[VR]
       exact⟨_,_,rfl,.inl ⟨by omega,rfl,zbp (W.dom _ (sJ _))⟩⟩
     ·cases h
    ·cases h
   ·cases h
  ·cases h
 ·cases h
end Ev
end
section
namespace Ev
variable {P:sM} {μ:Mu} {A:AW} {w:tz}
def zoF (P:sM) (t:sO) (l:List sH) (off:Nat):Option sH:=
 match P.underlying t,P.info? t with
 | some d,some i=>if zqU d then some (.agg ⟨(l.drop off).take i.size⟩) else l[off]?
 | _,_=>none
theorem zoE {t off:Nat} {l:List sH} {l':Array sH} {v:sH} (hl:LR μ l l'.toList) (h:zoF P t l off=some v):∃v',(part t l' off).run P w= .ok v' w/\VR μ v v':=by
 unfold zoF at h
 split at h
 ·rename_i d i hd hi
  split at h
  ·rename_i hagg
   cases h
   refine⟨.agg (l'.extract off (off+i.size)),?_,?_⟩
   ·simp[part,zpF hd,hagg,rS hi]
   ·simp only[VR]
    refine⟨_,rfl,?_⟩;rw[Array.toList_extract]
    simp only[List.extract]
    rw[show off+i.size - off=i.size by omega];exact(hl.drop _).take _
  ·rename_i hagg
   obtain⟨v',h1,h2⟩:=hl.get h;refine⟨v',?_,h2⟩;have h3:l'[off]? =some v':=by rw[<- sU];exact h1
   simp[part,zpF hd,hagg,h3]
 ·cases h
def nU (P:sM) (t:sO) (f:Nat):sH->Option sH
 | .agg ⟨l⟩=>match P.underlying t with
  | some (.struct fields)=>match fields[f]? with
   | some fd=>zoF P fd.type l fd.offset
   | none=>none
  | _=>none
 | _=>none
theorem zgw {t f:Nat} {x x' v:sH} (hx:VR μ x x') (h:nU P t f x=some v):∃v',(ul t x' f).run P w= .ok v' w/\VR μ v v':=by
 unfold nU at h
 split at h
 ·rename_i l
  simp only[VR] at hx
  obtain⟨l',rfl,hl⟩:=hx
  split at h
  ·rename_i fields hd
   split at h
   ·rename_i fd hf
    obtain⟨v',h1,h2⟩:=zoE (w:=w) hl h;exact⟨v',by simp[ul,rU hd,hf,asAgg,h1],h2⟩
   ·cases h
  ·cases h
 ·cases h
def lr (i:Nat):sH->Option sH
 | .tuple ⟨l⟩=>l[i]?
 | _=>none
theorem zeN {i:Nat} {x x' v:sH} (hx:VR μ x x') (h:lr i x=some v):∃v',(ue x' i).run P w= .ok v' w/\VR μ v v':=by
 unfold lr at h
 split at h
 ·simp only[VR] at hx
  obtain⟨l',rfl,hl⟩:=hx;obtain⟨v',h1,h2⟩:=hl.get h;have h3:l'[i]? =some v':=by rw[<- sU];exact h1
  exact⟨v',by simp[ue,h3],h2⟩
 ·cases h
def zbi (P:sM) (t:sO) (v:sH):Option sH:=
 match P.underlying t with
 | some (.interface _) | none=>none
 | some _=>some (.iface t v)
theorem zkl {t:Nat} {x x' v:sH} (hx:VR μ x x') (h:zbi P t x=some v):∃v',(tD t x').run P w= .ok v' w/\VR μ v v':=by
 unfold zbi at h
 split at h
 ·cases h
 ·cases h
 ·rename_i d hn hd
  cases h
  refine⟨.iface t x',?_,by simp only[VR];exact⟨_,rfl,hx⟩⟩
  simp only[tD,sK,rU hd,sI]
  cases d<;>first | rfl | exact absurd hd (hn _)
def zaj:sH->Bool
 | .pointer (some _) | .func (.func _) _ _ | .iface _ _=>true
 | _=>false
noncomputable def zeq (P:sM) (A:AW) (t:sO):sH->sH->Option Bool
 | .pointer none,.pointer (some _) | .pointer (some _),.pointer none=>match P.underlying t with
  | some (.pointer _)=>some false
  | _=>none
 | .pointer (some a),.pointer (some b)=>match P.underlying t with
  | some (.pointer e)=>match P.info? e with
   | some i=>if i.size=0 then none else if a.block=b.block then some (a.off==b.off) else
     match A.get a.block,A.get b.block with
     | some (.cells _ _ _ none _),some (.cells _ _ _ none _)=>some false
     | _,_=>none
   | none=>none
  | _=>none
 | _,_=>none
theorem zep {t d:Nat} {x x' y y':sH} {r:Bool} (W:WR μ A w) (hx:VR μ x x') (hy:VR μ y y') (h:zeq P A t x y=some r):(sP (d+1) t x' y').run P w= .ok r w:=by
 unfold zeq at h
 split at h
 ·simp only[VR] at hx hy
  subst hx;obtain⟨a',rfl,_⟩:=hy
  split at h
  ·rename_i hd;cases h
   simp[sP,rU hd]
  ·cases h
 ·simp only[VR] at hx hy
  subst hy;obtain⟨a',rfl,_⟩:=hx
  split at h
  ·rename_i hd;cases h
   simp[sP,rU hd]
  ·cases h
 ·rename_i a b
  simp only[VR] at hx hy
  obtain⟨a',rfl,ha0,la,ha1,rfl⟩:=hx;obtain⟨b',rfl,hb0,lb,hb1,rfl⟩:=hy
  split at h
  ·rename_i e hd
   split at h
   ·rename_i i hi
    split at h
    ·cases h
    ·rename_i hz
     split at h
     ·rename_i hbl
      cases h
      rw[hbl,hb1] at ha1;cases ha1;have:(({block:=la.b,off:=la.d+a.off,spot:=none}:Addr)=={block:=la.b,off:=la.d+b.off,spot:=none})=(a.off==b.off):=by
       rw[Bool.eq_iff_iff];simp
      simp[sP,rU hd,rS hi,hz,sameAddr,this]
     ·rename_i hbl
      split at h
      ·rename_i vs ty op es us ty' op' es' hga hgb
       cases h
       obtain⟨c1,fr1,h1,_,_,_,_,_,hf1⟩:=W.cells ha1 hga;obtain⟨c2,fr2,h2,_,_,_,_,_,hf2⟩:=W.cells hb1 hgb
       simp only[FZ] at hf1 hf2
       subst hf1 hf2;have hne:la.b≠lb.b:=fun hb=>hbl (W.inj _ _ _ _ _ _ hga hgb ha1 hb1 hb)
       simp[sP,rU hd,rS hi,hz,sameAddr,hne,t8,h1,h2,noView,viewAt,tz.shape?,mayBeOne,stringish]
      ·cases h
   ·cases h
  ·cases h
 ·cases h
def zhV (P:sM) (t:sO):sH->sH->Option Bool
 | .slice none _ _,.slice (some _) _ _ | .slice (some _) _ _,.slice none _ _=>match P.underlying t with
  | some (.slice _)=>some false
  | _=>none
 | .map none,.map (some _) | .map (some _),.map none=>match P.underlying t with
  | some (.map _ _)=>some false
  | _=>none
 | .nilFunc,.func (.func _) _ _ | .func (.func _) _ _,.nilFunc=>match P.underlying t with
  | some (.func _ _ _)=>some false
  | _=>none
 | .nilIface,.iface _ _ | .iface _ _,.nilIface=>match P.underlying t with
  | some (.interface _)=>some false
  | _=>none
 | _,_=>none
theorem znS {t d:Nat} {x x' y y':sH} {r:Bool} (hx:VR μ x x') (hy:VR μ y y') (h:zhV P t x y=some r):(sP (d+1) t x' y').run P w= .ok r w:=by
 unfold zhV at h
 split at h
 ·simp only[VR] at hx hy;subst hx;obtain⟨_,_,rfl,_⟩:=hy
  split at h
  ·rename_i hd;cases h;simp[sP,rU hd]
  ·cases h
 ·simp only[VR] at hx hy;subst hy;obtain⟨_,_,rfl,_⟩:=hx
  split at h
  ·rename_i hd;cases h;simp[sP,rU hd]
  ·cases h
 ·simp only[VR] at hx hy;subst hx;obtain⟨_,rfl,_⟩:=hy
  split at h
  ·rename_i hd;cases h;simp[sP,rU hd]
  ·cases h
 ·simp only[VR] at hx hy;subst hy;obtain⟨_,rfl,_⟩:=hx
  split at h
  ·rename_i hd;cases h;simp[sP,rU hd]
  ·cases h
 ·rename_i f x1 y1;obtain⟨x1⟩:=x1;obtain⟨y1⟩:=y1
  simp only[VR] at hx hy;subst hx;obtain⟨_,_,rfl,_⟩:=hy
  split at h
  ·rename_i hd;cases h;simp[sP,rU hd]
  ·cases h
 ·rename_i f x1 y1;obtain⟨x1⟩:=x1;obtain⟨y1⟩:=y1
  simp only[VR] at hx hy;subst hy;obtain⟨_,_,rfl,_⟩:=hx
  split at h
  ·rename_i hd;cases h;simp[sP,rU hd]
  ·cases h
 ·simp only[VR] at hx hy;subst hx;obtain⟨_,rfl,_⟩:=hy
  split at h
  ·rename_i hd;cases h;simp[sP,rU hd]
  ·cases h
 ·simp only[VR] at hx hy;subst hy;obtain⟨_,rfl,_⟩:=hx
  split at h
  ·rename_i hd;cases h;simp[sP,rU hd]
  ·cases h
 ·cases h
noncomputable def pA (P:sM) (A:AW) (t:sO) (x y:sH):Option Bool:=
 match zeq P A t x y with
 | some r=>some r
 | none=>match zhV P t x y with
  | some r=>some r
  | none=>match P.underlying t,x,y with
   | some (.interface _),.iface tx vx,.iface ty vy=>if tx≠ty then some false else match P.info? tx with
    | some i=>if i.comparable then zeq P A tx vx vy else none
    | none=>none
   | _,_,_=>none
theorem znU {t d:Nat} {x x' y y':sH} {r:Bool} (W:WR μ A w) (hx:VR μ x x') (hy:VR μ y y') (h:pA P A t x y=some r):(sP (d+1+1) t x' y').run P w= .ok r w:=by
 unfold pA at h
 split at h
 ·rename_i r' hr;cases h;exact zep W hx hy hr
 ·split at h
  ·rename_i r' hr;cases h;exact znS hx hy hr
  ·split at h
   ·rename_i ms tx vx ty vy hd _ _
    simp only[VR] at hx hy
    obtain⟨vx',rfl,hvx⟩:=hx;obtain⟨vy',rfl,hvy⟩:=hy
    split at h
    ·rename_i hne;cases h
     rw[sP]
     simp only[sK,rU hd,sI,hne,if_true,Sem.run_pure,ne_eq,not_false_eq_true]
    ·rename_i hne
     split at h
     ·rename_i i hi
      split at h
      ·rename_i hcmp
       have h1:=zep (d:=d) W hvx hvy h;have hte:tx=ty:=by simpa using hne
       subst hte;rw[sP]
       simp only[sK,rU hd,sI,ne_eq,not_true,if_false,rT hi,hcmp,Bool.not_true,sS]
       exact h1
      ·cases h
     ·cases h
   ·cases h
theorem znT {t:Nat} {x x' y y':sH} {r:Bool} (W:WR μ A w) (hx:VR μ x x') (hy:VR μ y y') (h:pA P A t x y=some r):(Op.equal t x' y').run P w= .ok r w:=
 znU (d:=9998) W hx hy h
def rC:sH->Bool
 | .pointer _ | .slice _ _ _ | .map _ | .func _ _ _ | .nilFunc | .iface _ _=>true
 | _=>false
noncomputable def aEq (P:sM) (A:AW) (op:uj) (t:sO) (x y:sH):Option sH:=
 if rC x || rC y then
  match op,pA P A t x y with
  | .eql,some r=>some (.bool r)
  | .neq,some r=>some (.bool (!r))
  | _,_=>none
 else none
theorem zer {t:Nat} {x y:sH} {r:Bool} (h:pA P A t x y=some r):(∃a b,x= .pointer a/\y= .pointer b)\/(∃a b c a' b' c',x= .slice a b c/\y= .slice a' b' c')\/(∃a b,x= .map a/\y= .map b)\/(∃f u v,x= .nilFunc/\y= .func f u v)\/(∃f u v,y= .nilFunc/\x= .func f u v)
  \/(∃a b,x= .nilIface/\y= .iface a b)\/(∃a b,y= .nilIface/\x= .iface a b)\/(∃a b c d,x= .iface a b/\y= .iface c d):=by
 unfold pA at h
 split at h
 ·rename_i hr
  unfold zeq at hr
  split at hr<;>first | exact .inl ⟨_,_,rfl,rfl⟩ | cases hr
 ·split at h
  ·rename_i hr
   unfold zhV at hr
   split at hr<;>first
    | exact .inr (.inl ⟨_,_,_,_,_,_,rfl,rfl⟩)
    | exact .inr (.inr (.inl ⟨_,_,rfl,rfl⟩))
    | exact .inr (.inr (.inr (.inl ⟨_,_,_,rfl,rfl⟩)))
    | exact .inr (.inr (.inr (.inr (.inl ⟨_,_,_,rfl,rfl⟩))))
    | exact .inr (.inr (.inr (.inr (.inr (.inl ⟨_,_,rfl,rfl⟩)))))
    | exact .inr (.inr (.inr (.inr (.inr (.inr (.inl ⟨_,_,rfl,rfl⟩))))))
    | cases hr
  ·split at h
   ·exact .inr (.inr (.inr (.inr (.inr (.inr (.inr ⟨_,_,_,_,rfl,rfl⟩))))))
   ·cases h
end Ev
end
section
namespace Ev
variable {P:sM} {μ:Mu} {A:AW} {w:tz}
theorem WR.drop (W:WR μ A w) (i:Nat):WR μ (A.set i none) w/\bB μ A w μ (A.set i none) w:=by
 have get':∀n on,(A.set i none).get n=some on->A.get n=some on:=fun n on h=>by
  rw[AW.get_set] at h
  split at h
  ·cases h
  ·exact h
 exact⟨⟨fun j oj l hj=>W.has j oj l (get' j oj hj),fun j m oj om lj lm hj hm h1 h2 h3=>W.inj j m oj om lj lm (get' _ _ hj) (get' _ _ hm) h1 h2 h3,W.dom⟩,
  ⟨Le.refl _,sJ _,rfl,rfl,rfl,fun _ _ _=>rfl,fun j oj l hj hl=>.inr ⟨j,oj,l,get' _ _ hj,hl,rfl⟩,sJ _,fun _ _=>rfl⟩⟩
theorem WR.swap (W:WR μ A w) {i:Nat} {l l':pV} {o0 o:bm} {o':Obj} (hg:A.get i=some o0) (hm:μ i=some l) (hb:l'.b=l.b) (ho:OR (μ.add A.next l') l' o o'):
  WR (μ.add A.next l') ((A.set i none).push o) {w with heap:=w.heap.setIfInBounds l.b o'}/\bB μ A w (μ.add A.next l') ((A.set i none).push o) {w with heap:=w.heap.setIfInBounds l.b o'}:=by
 have hlt:=W.lt hg hm;have hd:=W.dom A.next (sJ _);have hle:Le μ (μ.add A.next l'):=Mu.add_le hd;have hnx:(A.set i none).next=A.next:=rfl;have get':∀n on,((A.set i none).push o).get n=some on->(n=A.next/\on=o)\/(n≠i/\n≠A.next/\A.get n=some on):=fun n on h=>by
  rw[AW.get_push,hnx] at h
  split at h
  ·rename_i e;cases h;exact .inl ⟨e,rfl⟩
  ·rename_i e
   rw[AW.get_set] at h
   split at h
   ·cases h
   ·rename_i e2;exact .inr ⟨e2,e,h⟩
 have old:∀n,n≠A.next->(μ.add A.next l') n=μ n:=fun n hn=>Mu.add_ne hn
 constructor
 ·refine⟨fun j oj lj hj h4=>?_,fun j m oj om lj lm hj hm' h1 h2 h3=>?_,fun n hn=>?_⟩
  ·rcases get' j oj hj with ⟨rfl,rfl⟩ | ⟨h1,h2,h3⟩
   ·rw[Mu.add_get hd] at h4;cases h4
    exact⟨o',by rw[hb];simp[hlt],ho⟩
   ·rw[old j h2] at h4
    obtain⟨oj',h5,h6⟩:=W.has j oj lj h3 h4;refine⟨oj',?_,h6.mono hle⟩;have:l.b≠lj.b:=fun e=>h1 (W.inj j i oj o0 lj l h3 hg h4 hm e.symm)
    simp[this,h5]
  ·rcases get' j oj hj with ⟨rfl,rfl⟩ | ⟨h4,h5,h6⟩
   ·rcases get' m om hm' with ⟨rfl,rfl⟩ | ⟨h7,h8,h9⟩
    ·rfl
    ·rw[Mu.add_get hd] at h1;cases h1
     rw[old m h8] at h2;exact absurd (W.inj m i om o0 lm l h9 hg h2 hm (by rw[<- h3,hb])) h7
   ·rw[old j h5] at h1
    rcases get' m om hm' with ⟨rfl,rfl⟩ | ⟨h7,h8,h9⟩
    ·rw[Mu.add_get hd] at h2;cases h2
     exact absurd (W.inj j i oj o0 lj l h6 hg h1 hm (by rw[h3,hb])) h4
    ·rw[old m h8] at h2
     exact W.inj j m oj om lj lm h6 h9 h1 h2 h3
  ·have:n≠A.next:=by simp only[AW.push,hnx] at hn;omega
   rw[old n this];exact W.dom n (by simp only[AW.push,hnx] at hn;omega)
 ·refine⟨hle,by simp,rfl,rfl,rfl,fun b' hb' hn=>?_,fun j oj lj hj h1=>?_,by simp[AW.push,hnx],fun n hn=>old n (by omega)⟩
  ·have:l.b≠b':=hn i o0 l hg hm
   simp[this]
  ·rcases get' j oj hj with ⟨rfl,rfl⟩ | ⟨h4,h5,h6⟩
   ·rw[Mu.add_get hd] at h1;cases h1
    exact .inr ⟨i,o0,l,hg,hm,hb.symm⟩
   ·rw[old j h5] at h1
    exact .inr ⟨j,oj,lj,h6,h1,rfl⟩
def dp (s:ByteArray) (n:Nat):List sH:=((s.extract 0 n).data.map fun b=>sH.int .u8 b.toNat).toList
noncomputable def pS (A:AW) (size n:Nat):sH->Option (List sH)
 | .slice none _ _=>some []
 | .slice (some b) _ _=>if n=0 then some [] else match A.get b.block with
  | some (.cells vs _ _ _ _)=>if b.off+n * size<=vs.length then some ((vs.drop b.off).take (n * size)) else none
  | _=>none
 | .string s=>some (dp s n)
 | _=>none
def kI:sH->Option Nat
 | .slice _ n _=>some n
 | .string s=>some s.size
 | _=>none
theorem dW {x x':sH} {n:Nat} (hx:VR μ x x') (h:kI x=some n):(tF x').run P w= .ok n w:=by
 unfold kI at h
 split at h
 ·rename_i a m c
  cases h
  cases a with
  | none=>simp only[VR] at hx;subst hx;rfl
  | some a=>simp only[VR] at hx;obtain⟨_,_,rfl,_⟩:=hx;rfl
 ·cases h;simp only[VR] at hx;subst hx;rfl
 ·cases h
theorem io:∀l:List UInt8,bA (l.map fun b=>sH.int .u8 b.toNat)=true
 | []=>rfl
 | x::l=>by simp[bA,bR,io l]
theorem dA {x x':sH} {size n m:Nat} {xs:List sH} (W:WR μ A w) (hx:VR μ x x') (hm:kI x=some m) (hn:n<=m) (h:pS A size n x=some xs):∃xs':List sH,(sL size n x').run P w= .ok xs'.toArray w/\LR μ xs xs':=by
 unfold pS at h
 split at h
 ·cases h;simp only[VR] at hx;subst hx
  exact⟨[],rfl,LR.nil⟩
 ·rename_i b m' c
  simp only[kI] at hm;cases hm
  simp only[VR] at hx
  obtain⟨b',c',rfl,hs⟩:=hx
  split at h
  ·rename_i h0;cases h;subst h0
   exact⟨[],by simp[sL,loadCells,tG],LR.nil⟩
  ·rename_i h0
   split at h
   ·rename_i vs t op fz es hg
    split at h
    ·rename_i hle
     cases h
     obtain⟨xs',h1,h2⟩:=eH (P:=P) W (hs.addr (by omega)) hg hle
     exact⟨xs',by simpa[sL] using h1,h2⟩
    ·cases h
   ·cases h
 ·rename_i s
  cases h;simp only[VR] at hx;subst hx
  refine⟨dp s n,by simp only[sL,dp,Sem.run_pure,Array.toArray_toList],bk ?_⟩
  unfold dp;rw[Array.toList_map];exact io _
 ·cases h
theorem q9 (need:Nat):∀(r c:Nat),c<=2 * need+768->t6 need r c<=2 * need+768
 | 0,_,h=>h
 | r+1,c,h=>by
  simp only[t6]
  split
  ·exact h
  ·exact q9 need r _ (by omega)
theorem zfr {need c:Nat} (h:c<need):sX need c<=2 * need+768:=by
 unfold sX
 split
 ·omega
 ·split
  ·omega
  ·exact q9 need 4 c (by omega)
def iY:Option Nat->Nat->Option (Option Nat)
 | none,_=>some none
 | some m,o=>if m<=o then some (some 0) else none
noncomputable def zbm (A:AW) (elem size:Nat) (s x:sH) (n:Nat):Option (sH × AW):=
 match s,pS A size n x with
 | .slice none 0 0,some xs=>if n=0 then some (.slice none 0 0,A) else
   if xs.length=n * size then some (.slice (some ⟨A.next,0,none⟩) n nX,A.push (.cells xs elem true none size)) else none
 | .slice (some a) len cap,some xs=>
  if xs.length=n * size/\a.spot=none then
  if n=0/\(cap=nX\/len<=cap) then some (.slice (some a) len cap,A)
  else if cap≠nX/\len=0/\cap<n then some (.slice (some ⟨A.next,0,none⟩) n nX,A.push (.cells xs elem true none size))
  else match A.get a.block with
  | some (.cells vs t op fz es)=>
   if cap=nX then
    if a.off+len * size<=vs.length/\es=size/\t=elem/\xs.all (·.oneCell')=true then
     match iY fz a.off with
     | some fz'=>some (.slice (some ⟨A.next,0,none⟩) (len+n) nX,(A.set a.block none).push (.cells ((vs.drop a.off).take (len * size)++xs) elem true fz' size))
     | none=>none
    else none
   else if len+n<=cap then
    if a.off+len * size+xs.length<=vs.length/\xs.all (·.oneCell')=true/\zkq fz (a.off+len * size)=true then
     some (.slice (some a) (len+n) cap,A.set a.block (some (.cells (aO vs (a.off+len * size) xs) t op fz es)))
    else none
   else if a.off+len * size<=vs.length/\0<len then
    some (.slice (some ⟨A.next,0,none⟩) (len+n) nX,A.push (.cells ((vs.drop a.off).take (len * size)++xs) elem true none size))
   else none
  | _=>none
  else none
 | _,_=>none
def zaz:tL->Bool
 | .int _=>true
 | _=>false
structure zre (P:sM) (sType xType elem size:Nat) where
 ie:tY
 z:sH
 dx:tL
 hd:P.underlying sType=some (.slice elem)
 hx:P.underlying xType=some dx
 hn:zaz dx=false
 hi:P.info? elem=some ie
 hs:ie.size=size
 hz:ie.zero=some z
 hf:bR z=true
 hl:(aC z).length=size
 hb:ie.bytes<=65536
 h0:0<size
theorem zba {sType xType elem size : Nat} (T : zre P sType xType elem size) {base : Option Addr} {x' : sH} {len cap n : Nat} {xs' : List sH} {type : Nat} {w' : tz} (hlen : (tF x').run P w = .ok n w) (hle : len + n ≤ cap) (hc : (sL size n x').run P w = .ok xs'.toArray w)
    (hst : ∀ a, base = some a → (storeCells (a.add (len * size)) xs').run P w = .ok () w') (hno : base = none → w' = w) :
    (sT #[sType, xType] type #[.slice base len cap, x']).run P w = .ok (.slice base (len + n) cap) w' := by
  unfold sT
  simp only [ta, tn, tp, sK, rU T.hd, rU T.hx, sI, rS T.hi, T.hs, Sem.run_pure]
  have e := T.hn
  cases hdx : T.dx <;> simp only [hdx, zaz] at e <;> first
    | (cases e; done)
    | (simp only [sS, if_false, hlen, sI, hle, if_true, sK, t7, hc]
       cases base with
       | none => simp [hno rfl]
       | some a => simp [hst a rfl])
theorem zin {sType xType elem size : Nat} (T : zre P sType xType elem size) {base : Option Addr} {x' : sH} {len cap n : Nat} {os' xs' : List sH} {type : Nat} (hlen : (tF x').run P w = .ok n w) (hgt : cap < len + n) (hsm : len + n ≤ 1000000)
    (ho : (sL size len (.slice base len cap)).run P { w with drawn := w.drawn + 1 } = .ok os'.toArray { w with drawn := w.drawn + 1 })
    (hc : (sL size n x').run P { w with drawn := w.drawn + 1 } = .ok xs'.toArray { w with drawn := w.drawn + 1 }) :
    ∃ m, len + n ≤ m ∧ (sT #[sType, xType] type #[.slice base len cap, x']).run P w =
      .ok (.slice (some ⟨w.heap.size, 0, none⟩) (len + n) m) { { w with drawn := w.drawn + 1 } with heap := w.heap.push (.cells (os' ++ xs' ++ cD (m - (len + n)) (aC T.z)).toArray elem) } := by
  have hnx := zfr hgt
  have hb : ¬ sX (len + n) cap * T.ie.bytes > 2 ^ 48 := by
    have h1 : sX (len + n) cap * T.ie.bytes ≤ 2000768 * 65536 := Nat.mul_le_mul (by omega) T.hb
    omega
  have hbig : ¬ ((len + n : Nat) : Int) > IntKind.i64.max := by
    have : (1000000 : Int) ≤ IntKind.i64.max := by decide
    omega
  have hle : ¬ len + n ≤ cap := by omega
  refine ⟨Question.cut (.appendCap (len + n) cap elem) (w.tape w.drawn (.appendCap (len + n) cap elem)), by simp [Question.cut], ?_⟩
  have hz : ∀ m, tM T.z.cells m = (cD m (aC T.z)).toArray := fun m => by
    unfold tM
    rw [gu, cj]
  unfold sT
  simp only [ta, tn, tp, sK, rU T.hd, rU T.hx, sI, rS T.hi, T.hs, Sem.run_pure]
  have e := T.hn
  cases hdx : T.dx <;> simp only [hdx, zaz] at e <;> first
    | (cases e; done)
    | (simp only [sS, if_false, hlen, sI, hle, sK, t7, if_true, rT T.hi, hbig, false_and, hb, run_choose, Question.forced, run_askRoom, ho, hc, rZ T.hi T.hz, hz, newRow, run_newObj, Sem.run_pure]
       simp)
end Ev
end
section
namespace Ev
variable {P:sM} {μ:Mu} {A:AW} {w:tz}
theorem zcm (W:WR μ A w) {ys ys':List sH} (hy:LR μ ys ys') (rest:List sH) (t size:Nat):
  WR (μ.add A.next ⟨w.heap.size,0,(ys'++rest).length,size⟩) (A.push (.cells ys t true none size)) {w with heap:=w.heap.push (.cells (ys'++rest).toArray t)}∧
  bB μ A w (μ.add A.next ⟨w.heap.size,0,(ys'++rest).length,size⟩) (A.push (.cells ys t true none size)) {w with heap:=w.heap.push (.cells (ys'++rest).toArray t)}:=by
 refine W.new ?_;have hle:=Mu.add_le (x:=⟨w.heap.size,0,(ys'++rest).length,size⟩) (W.dom A.next (sJ _));refine⟨_,_,rfl,by simp,by simp[hy.len],by simp,rfl,?_,rfl⟩
 simp only[tB]
 rw[<- hy.len,List.take_left];exact hy.mono hle
theorem zit {b n m size sz:Nat} (h1:n<=m) (h2:m * size<=sz) {i:Nat} (hd:μ i=none):VR (μ.add i ⟨b,0,sz,size⟩) (.slice (some ⟨i,0,none⟩) n nX) (.slice (some ⟨b,0,none⟩) n m):=by
 simp only[VR]
 exact⟨_,_,rfl,.inr ⟨rfl,.inr ⟨rfl,h1,_,Mu.add_get hd,by simp,by simpa using h2⟩⟩⟩
theorem mh {sType xType elem size:Nat} (T:zre P sType xType elem size) {base:Option Addr} {x x':sH} {len cap n:Nat} {os xs:List sH} {type:Nat} (W:WR μ A w) (hx:VR μ x x') (hn:kI x=some n) (hc:pS A size n x=some xs) (hxl:xs.length=n * size) (hol:os.length=len * size)
  (hgt:cap<len+n) (hsm:len+n<=1000000) (ho:∀w1,WR μ A w1->∃os':List sH,(sL size len (.slice base len cap)).run P w1= .ok os'.toArray w1/\LR μ os os'):
  ∃μ' v' w',(sT #[sType,xType] type #[.slice base len cap,x']).run P w= .ok v' w'/\VR μ' (.slice (some ⟨A.next,0,none⟩) (len+n) nX) v'/\WR μ' (A.push (.cells (os++xs) elem true none size)) w'/\bB μ A w μ' (A.push (.cells (os++xs) elem true none size)) w':=by
 obtain⟨W1,E1⟩:=W.drawn (w.drawn+1);obtain⟨os',h1,h2⟩:=ho _ W1;obtain⟨xs',h3,h4⟩:=dA (P:=P) W1 hx hn (sJ _) hc;obtain⟨m,hm,hr⟩:=zin T (type:=type) (dW (w:=w) hx hn) hgt hsm h1 h3;obtain⟨W2,E2⟩:=zcm W1 (h2.append h4) (cD (m - (len+n)) (aC T.z)) elem size;refine⟨_,_,_,hr,?_,W2,E1.trans E2⟩;refine zit (i:=A.next) hm ?_ (W.dom _ (sJ _));have e:(os'++xs'++cD (m - (len+n)) (aC T.z)).length=m * size:=by
  rw[sR,kr,T.hl,sR,h2.len,h4.len,hol,hxl,<- sW,<- sW]
  congr 1;omega
 rw[e];exact sJ _
theorem zgy {sType xType elem size:Nat} (T:zre P sType xType elem size) {s s' x x' v:sH} {len n:Nat} {A':AW} {type:Nat} (W:WR μ A w) (hs:VR μ s s') (hx:VR μ x x') (hn:kI x=some n) (hl:kI s=some len) (hsm:len+n<=1000000) (h:zbm A elem size s x n=some (v,A')):
  ∃μ' v' w',(sT #[sType,xType] type #[s',x']).run P w= .ok v' w'/\VR μ' v v'/\WR μ' A' w'/\bB μ A w μ' A' w':=by
 unfold zbm at h
 split at h
 ·rename_i xs hc
  simp only[VR] at hs;subst hs
  simp only[kI] at hl;cases hl
  split at h
  ·rename_i h0
   cases h
   obtain⟨xs',h3,h4⟩:=dA (P:=P) W hx hn (sJ _) hc;refine⟨μ,.slice none (0+n) 0,w,zba T (dW hx hn) (by omega) h3 (fun a ha=>by cases ha) (fun _=>rfl),?_,W,bB.refl⟩
   subst h0;simp[VR]
  ·rename_i h0
   split at h
   ·rename_i hxl
    cases h
    have:=mh T (type:=type) (base:=none) (len:=0) (cap:=0) (os:=[]) W hx hn hc hxl (by simp) (by omega) hsm (fun w1 _=>⟨[],rfl,LR.nil⟩)
    simpa using this
   ·cases h
 ·rename_i a len' cap xs hc
  simp only[kI] at hl;cases hl
  have hs0:=hs
  simp only[VR] at hs
  obtain⟨a',c',rfl,hS⟩:=hs
  split at h
  ·rename_i hpre
   obtain⟨hxl,hsp⟩:=hpre
   split at h
   ·rename_i hcond
    obtain⟨h0,hcap⟩:=hcond
    cases h
    subst h0;obtain⟨xs',h3,h4⟩:=dA (P:=P) W hx hn (sJ _) hc;have kd:xs'=[]:=by
     have:=h4.len;rw[hxl,ui] at this;exact List.eq_nil_of_length_eq_zero this
    subst kd;have hle:len+0<=c':=by
     rcases hS with ⟨h5,rfl,_⟩ | ⟨_,⟨h5,h6⟩ | ⟨_,h5,_⟩⟩
     ·exact hcap.resolve_left h5
     ·omega
     ·omega
    exact⟨μ,_,w,zba T (dW hx hn) hle h3 (fun a _=>rfl) (fun hh=>by cases hh),hs0,W,bB.refl⟩
   ·rename_i hcond
    split at h
    ·rename_i hc2
     obtain⟨hcu,hl0,hcn⟩:=hc2
     cases h
     subst hl0
     rcases hS with ⟨_,rfl,_⟩ | ⟨h5,_⟩
     ·have:=mh T (type:=type) (base:=some a') (len:=0) (cap:=c') (os:=[]) W hx hn hc hxl (by simp) (by omega) hsm (fun w1 _=>⟨[],by simp[sL,loadCells,tG],LR.nil⟩)
      simpa using this
     ·exact absurd h5 hcu
    ·split at h
     ·rename_i vs t op fz es hg
      split at h
      ·rename_i hu
       split at h
       ·rename_i hc3
        obtain⟨hend,hes,ht,hone⟩:=hc3;subst ht
        split at h
        ·rename_i fz' hfz
         cases h
         have hn0:0<n:=by
          rcases sY n with h5 | h5
          ·exact absurd ⟨h5,.inl hu⟩ hcond
          ·exact h5
         by_cases hin:len+n<=c'
         ·-- in place
          rcases hS with ⟨h5,_⟩ | ⟨_,⟨h5,h6⟩ | ⟨_,h5,l,hm,rfl,hroom⟩⟩
          ·exact absurd hu h5
          ·omega
          ·obtain⟨xs',h3,h4⟩:=dA (P:=P) W hx hn (sJ _) hc
           obtain⟨c,fr,h6,h8,h9,h10,hk,h11,h12⟩:=W.cells hm hg;have hcl:c.toList.length=l.sz:=by simpa using h8
           have hk':l.k=size:=by rw[<- hk,hes]
           have hsz:l.d+a.off+(len+n) * size<=l.sz:=by
            rw[hk'] at hroom;have:=Nat.mul_le_mul_right size hin;omega
           rw[sW] at hsz;have hrun:=jP (P:=P) l.b (l.d+a.off+len * size) t fr xs' 0 c w h6 (fun j hj=>by
            rw[h4.len,hxl] at hj
            cases fz with
            | none=>simp only[FZ] at h12;subst h12;simp
            | some m=>
             simp only[FZ] at h12
             simp only[iY] at hfz
             split at hfz
             ·rw[show l.d+a.off+len * size+0+j=l.d+(a.off+len * size+j) by omega,h12 _ (by omega)];omega
             ·cases hfz) (by rw[h4.len,hxl];omega) (h4.all1 hone)
           have hrun':(storeCells ((⟨l.b,l.d+a.off,none⟩:Addr).add (len * size)) xs').run P w= .ok () {w with heap:=w.heap.setIfInBounds l.b (.cells (aO c.toList (l.d+a.off+len * size) xs').toArray t fr)}:=by
            rw[gE];simpa using hrun
           have hsw:=W.swap (l':=⟨l.b,l.d+a.off,l.sz,size⟩) (o:=.cells ((vs.drop a.off).take (len * size)++xs) t true fz' size) (o':=.cells (aO c.toList (l.d+a.off+len * size) xs').toArray t fr) hg hm rfl ?_
           ·obtain⟨W2,E2⟩:=hsw
            refine⟨_,_,_,zba T (dW hx hn) hin h3 (fun a1 ha1=>by cases ha1;exact hrun') (fun hh=>by cases hh),?_,W2,E2⟩
            simp only[VR]
            refine⟨_,_,rfl,.inr ⟨rfl,.inr ⟨rfl,hin,_,Mu.add_get (W.dom A.next (sJ _)),by simp,?_⟩⟩⟩
            rw[hk'] at hroom
            simpa using hroom
           ·have hle:=Mu.add_le (x:=⟨l.b,l.d+a.off,l.sz,size⟩) (W.dom A.next (sJ _))
            refine⟨_,fr,rfl,?_,?_,by simp,rfl,?_,?_⟩
            ·simp only[tK];rw[ey (by rw[h4.len,hxl];omega)];exact hcl
            ·simp only[sR,tq,tr];omega
            ·have e1:(aO c.toList (l.d+a.off+len * size) xs').drop (l.d+a.off)=aO (c.toList.drop (l.d+a.off)) (len * size) xs':=mn (by rw[h4.len,hxl];omega)
             have e2:((vs.drop a.off).take (len * size)++xs).length=len * size+xs.length:=by simp only[sR,tq,tr];omega
             simp only
             rw[e1,e2];have e3:(aO (c.toList.drop (l.d+a.off)) (len * size) xs').take (len * size+xs.length)=(c.toList.drop (l.d+a.off)).take (len * size)++xs':=by
              simp only[aO]
              rw[List.take_left' (by simp[h4.len];omega)]
             rw[e3];have e4:LR μ ((vs.drop a.off).take (len * size)) ((c.toList.drop (l.d+a.off)).take (len * size)):=by
              have h13:=(h11.drop a.off).take (len * size);rw[tA,tV,tW] at h13;rw[show min (len * size) (vs.length - a.off)=len * size by omega] at h13
              exact h13
             exact(e4.append h4).mono hle
            ·simp only
             cases fz with
             | none=>simp only[iY] at hfz;cases hfz;exact h12
             | some m=>
              simp only[iY] at hfz
              split at hfz
              ·rename_i hmo
               cases hfz
               simp only[FZ] at h12⊢
               intro i hi;rw[show l.d+a.off+i=l.d+(a.off+i) by omega,h12 _ (by omega)]
               omega
              ·cases hfz
         ·-- anew
          have hos:∀w1,WR μ A w1->∃os':List sH,(sL size len (.slice (some a') len c')).run P w1= .ok os'.toArray w1/\LR μ ((vs.drop a.off).take (len * size)) os':=fun w1 W1=>by
           rcases sY len with h5 | h5
           ·subst h5
            rw[ui,List.take_zero];exact⟨[],by simp[sL,loadCells,tG],LR.nil⟩
           ·obtain⟨os',h6,h7⟩:=eH (P:=P) (n:=len * size) W1 (hS.addr h5) hg (by omega)
            exact⟨os',by simpa[sL] using h6,h7⟩
          -- the row is read ahead of the forgetting
          obtain⟨W1,E1⟩:=W.drawn (w.drawn+1);obtain⟨os',h1,h2⟩:=hos _ W1;obtain⟨xs',h3,h4⟩:=dA (P:=P) W1 hx hn (sJ _) hc;obtain⟨m,hm,hr⟩:=zin T (type:=type) (dW (w:=w) hx hn) (by omega) hsm h1 h3
          obtain⟨W1d,E1d⟩:=W1.drop a.block;obtain⟨W2,E2⟩:=zcm W1d (h2.append h4) (cD (m - (len+n)) (aC T.z)) t size;have hsz:(os'++xs'++cD (m - (len+n)) (aC T.z)).length=m * size:=by
           rw[sR,kr,T.hl,sR,h2.len,h4.len,hxl]
           simp only[tq,tr]
           rw[show min (len * size) (vs.length - a.off)=len * size by omega,<- sW,<- sW]
           congr 1;omega
          have hz0:fz'=none\/fz'=some 0:=by
           cases fz with
           | none=>simp only[iY] at hfz;cases hfz;exact .inl rfl
           | some m=>simp only[iY] at hfz;split at hfz<;>cases hfz;exact .inr rfl
          refine⟨_,_,_,hr,zit (μ:=μ) (i:=A.next) (size:=size) (sz:=(os'++xs'++cD (m - (len+n)) (aC T.z)).length) hm (by rw[hsz];exact sJ _) (W.dom _ (sJ _)),?_,?_⟩
          ·rcases hz0 with rfl | rfl
           ·exact W2
           ·refine⟨fun j oj lj hj h5=>?_,fun j i oj oi lj li hj hi=>?_,W2.dom⟩
            ·rw[AW.get_push] at hj
             split at hj
             ·rename_i e;cases hj
              obtain⟨oj',h6,h7⟩:=W2.has j (.cells ((vs.drop a.off).take (len * size)++xs) t true none size) lj (by rw[AW.get_push,if_pos e]) h5
              refine⟨oj',h6,?_⟩;obtain⟨c,fr,rfl,g1,g2,g3,g4,g5,g6⟩:=h7;refine⟨c,fr,rfl,g1,g2,g3,g4,g5,?_⟩
              simp only[FZ] at g6⊢
              subst g6;intro i _
              simp
             ·rename_i e;exact W2.has j oj lj (by rw[AW.get_push,if_neg e];exact hj) h5
            ·have fix:∀n on,(((A.set a.block none).push (.cells ((vs.drop a.off).take (len * size)++xs) t true (some 0) size)).get n=some on)->∃on',((A.set a.block none).push (.cells ((vs.drop a.off).take (len * size)++xs) t true none size)).get n=some on':=fun n on hh=>by
              rw[AW.get_push] at hh⊢
              split at hh
              ·exact⟨_,by rw[if_pos (by assumption)]⟩
              ·exact⟨on,by rw[if_neg (by assumption)];exact hh⟩
             obtain⟨x1,hx1⟩:=fix j oj hj;obtain⟨x2,hx2⟩:=fix i oi hi;exact W2.inj j i x1 x2 lj li hx1 hx2
          ·have E:=(E1.trans E1d).trans E2
           rcases hz0 with rfl | rfl
           ·exact E
           ·refine⟨E.le,E.size,E.tape,E.os,E.output,E.stay,fun j oj lj hj hl=>?_,E.next,E.keep⟩
            rw[AW.get_push] at hj
            split at hj
            ·rename_i e;exact E.img j (.cells ((vs.drop a.off).take (len * size)++xs) t true none size) lj (by rw[AW.get_push,if_pos e]) hl
            ·rename_i e;exact E.img j oj lj (by rw[AW.get_push,if_neg e];exact hj) hl
        ·cases h
       ·cases h
      ·rename_i hu
       rcases hS with ⟨_,rfl,ha⟩ | ⟨h5,_⟩
       ·split at h
        ·rename_i hin
         split at h
         ·rename_i hc3
          obtain⟨hroom,hone,hfz⟩:=hc3
          cases h
          obtain⟨xs',h3,h4⟩:=dA (P:=P) W hx hn (sJ _) hc;have ha2:=ha.add (len * size);have hao:(a.add (len * size)).block=a.block/\(a.add (len * size)).off=a.off+len * size:=by
           obtain⟨ab,ao,asp⟩:=a
           simp only at hsp;subst hsp
           rw[gE];exact⟨rfl,rfl⟩
          obtain⟨w',h5,h6,h7⟩:=eU (P:=P) W ha2 (by rw[hao.1];exact hg) h4 hone (by rw[hao.2];exact hroom) (by rw[hao.2];exact hfz)
          rw[hao.1,hao.2] at h6 h7;refine⟨μ,_,w',zba T (dW hx hn) hin h3 (fun a1 ha1=>by cases ha1;exact h5) (fun hh=>by cases hh),?_,h6,h7⟩
          simp only[VR]
          exact⟨_,_,rfl,.inl ⟨hu,rfl,ha⟩⟩
         ·cases h
        ·rename_i hin
         split at h
         ·rename_i hc3
          obtain⟨hroom,hpos⟩:=hc3
          cases h
          exact mh T (type:=type) W hx hn hc hxl (by simp;omega) (by omega) hsm (fun w1 W1=>by
           obtain⟨os',h6,h7⟩:=eH (P:=P) (n:=len * size) W1 ha hg hroom;exact⟨os',by simpa[sL] using h6,h7⟩)
         ·cases h
       ·exact absurd h5 hu
     ·cases h
  ·cases h
 ·cases h
end Ev
end
end Go.Proofs.YtbbapnpdfcgjnaaGreatDoor
