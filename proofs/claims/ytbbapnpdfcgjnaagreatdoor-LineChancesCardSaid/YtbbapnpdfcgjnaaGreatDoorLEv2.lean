/- Ev2, Ev3, Ev4, Ev5, Ev6, Ev7: parts of the proof, joined. -/
import Derived.Laws.IdiomCopy
import Derived.Test.YtbbapnpdfcgjnaaGreatDoorLEv1
open Array renaming getElem?_eq_some_iff->xa, getElem?_toList->xe, getElem?_setIfInBounds->xi, ext_getElem?->xj, toList_setIfInBounds->xk, getElem?_push->xt, range->xJ
open Nat renaming le_refl->xb, add_assoc->xh, add_zero->xq, eq_zero_or_pos->xw, add_mul->xB, lt_or_ge->xI
open Bool renaming false_eq_true->xd, and_eq_true->xg, or_eq_true->xC, not_false->xG
open List renaming getElem?_toArray->xf, getElem?_eq_some_iff->xm, getElem?_cons_zero->xn, getElem?_cons_succ->xp, take_of_length_le->xr, getElem?_take->xu, getElem?_drop->xv, append_assoc->xx, length_cons->xy, cons_append->xz, take->xA, drop_take->xD, drop_zero->xE, mem_cons->xH
set_option maxHeartbeats 64000000
namespace Go.Proofs.YtbbapnpdfcgjnaaGreatDoor
section
namespace Ev
variable {P:Program} {μ:Mu} {A:AW} {w:World}
theorem WR.lt (W:WR μ A w) {i:Nat} {o:zbK} {l:Loc} (hg:A.get i=some o) (hm:μ i=some l):l.b<w.heap.size:=by
 obtain⟨o1,h2,_⟩:=W.has i o l hg hm;exact(xa.1 h2).1
theorem WR.upd (W:WR μ A w) {i:Nat} {l:Loc} {o0 o:zbK} {o':Obj} (hg:A.get i=some o0) (hm:μ i=some l) (ho:OR μ l o o'):
  WR μ (A.set i (some o)) {w with heap:=w.heap.setIfInBounds l.b o'}/\Ext μ A w μ (A.set i (some o)) {w with heap:=w.heap.setIfInBounds l.b o'}:=by
 have hlt:=W.lt hg hm
 constructor
 ·refine⟨fun j oj l1 hj h1=>?_,fun j m oj om lj lm hj hl h1 h2 h3=>?_,W.dom⟩
  ·rw[AW.get_set] at hj
   split at hj
   ·rename_i e;subst e;cases hj
    rw[hm] at h1;cases h1;exact⟨o',by simp[hlt],ho⟩
   ·rename_i e
    obtain⟨o1,h2,h3⟩:=W.has j oj l1 hj h1;refine⟨o1,?_,h3⟩;have:l.b≠l1.b:=fun hb=>e (W.inj j i oj o0 l1 l hj hg h1 hm hb.symm)
    simp[this,h2]
  ·rw[AW.get_set] at hj hl
   have get':∀n on,(if n=i then some o else A.get n)=some on->∃on',A.get n=some on':=fun n on h=>by
    split at h
    ·rename_i e;subst e;exact⟨_,hg⟩
    ·exact⟨_,h⟩
   obtain⟨x,hx⟩:=get' j oj hj;obtain⟨y,hy⟩:=get' m om hl;exact W.inj j m x y lj lm hx hy h1 h2 h3
 ·refine⟨Le.refl _,by simp,rfl,rfl,rfl,fun b' hb' hn=>?_,fun j oj lj hj h1=>?_,xb _,fun _ _=>rfl⟩
  ·have:l.b≠b':=hn i o0 l hg hm
   simp[this]
  ·rw[AW.get_set] at hj
   split at hj
   ·rename_i e;subst e;exact .inr ⟨j,o0,lj,hg,h1,rfl⟩
   ·exact .inr ⟨j,oj,lj,hj,h1,rfl⟩
def Mu.add (μ:Mu) (i:Nat) (x:Loc):Mu:=⟨fun j=>if j=i/\zkz i=none then some x else μ j,fun g s hg=>by
 by_cases e:g=i
 ·subst e
  rw[if_neg (fun h=>by rw[h.2] at hg;cases hg)]
  exact μ.glob g s hg
 ·rw[if_neg (fun h=>e h.1)]
  exact μ.glob g s hg⟩
theorem Mu.add_ne {μ:Mu} {i j:Nat} {x:Loc} (h:j≠i):(μ.add i x) j=μ j:=if_neg (fun hh=>h hh.1)
theorem Mu.add_get {μ:Mu} {i:Nat} {x:Loc} (h:μ i=none):(μ.add i x) i=some x:=by
 refine if_pos ⟨rfl,?_⟩
 cases hg:zkz i with
 | none=>rfl
 | some s=>rw[μ.glob i s hg] at h;cases h
theorem Mu.add_le {μ:Mu} {i:Nat} {x:Loc} (h:μ i=none):Le μ (μ.add i x):=fun j y hj=>by
 by_cases e:j=i
 ·subst e;rw[h] at hj;cases hj
 ·rw[Mu.add_ne e];exact hj
theorem WR.new (W:WR μ A w) {d sz k:Nat} {o:zbK} {o':Obj} (ho:OR (μ.add A.next ⟨w.heap.size,d,sz,k⟩) ⟨w.heap.size,d,sz,k⟩ o o'):
  WR (μ.add A.next ⟨w.heap.size,d,sz,k⟩) (A.push o) {w with heap:=w.heap.push o'}/\Ext μ A w (μ.add A.next ⟨w.heap.size,d,sz,k⟩) (A.push o) {w with heap:=w.heap.push o'}:=by
 have hd:=W.dom A.next (xb _);have hle:Le μ (μ.add A.next ⟨w.heap.size,d,sz,k⟩):=Mu.add_le hd
 constructor
 ·refine⟨fun j oj l1 hj h1=>?_,fun j m oj om lj lm hj hl h1 h2 h3=>?_,fun i hi=>?_⟩
  ·rw[AW.get_push] at hj
   split at hj
   ·rename_i e;subst e;cases hj
    rw[Mu.add_get hd] at h1;cases h1;exact⟨o',by simp,ho⟩
   ·rename_i e
    rw[Mu.add_ne e] at h1;obtain⟨o1,h2,h3⟩:=W.has j oj l1 hj h1;refine⟨o1,?_,h3.mono hle⟩;have:=(xa.1 h2).1
    simp[xt,h2];omega
  ·rw[AW.get_push] at hj hl
   by_cases ej:j=A.next
   ·by_cases el:m=A.next
    ·rw[ej,el]
    ·rw[if_neg el] at hl
     subst ej;rw[Mu.add_get hd] at h1
     cases h1
     have h4:μ m=some lm:=by rw[Mu.add_ne el] at h2;exact h2
     have:=W.lt hl h4
     simp only at h3
     omega
   ·rw[if_neg ej] at hj
    have h5:μ j=some lj:=by rw[Mu.add_ne ej] at h1;exact h1
    by_cases el:m=A.next
    ·subst el
     rw[Mu.add_get hd] at h2
     cases h2
     have:=W.lt hj h5
     simp only at h3
     omega
    ·rw[if_neg el] at hl
     have h4:μ m=some lm:=by rw[Mu.add_ne el] at h2;exact h2
     exact W.inj j m oj om lj lm hj hl h5 h4 h3
  ·have:i≠A.next:=by simp only[AW.push] at hi;omega
   rw[Mu.add_ne this];exact W.dom i (by simp only[AW.push] at hi;omega)
 ·refine⟨hle,by simp,rfl,rfl,rfl,fun b' hb' hn=>?_,fun j oj lj hj h1=>?_,by simp[AW.push],fun i hi=>Mu.add_ne (by omega)⟩
  ·simp[xt];omega
  ·rw[AW.get_push] at hj
   split at hj
   ·rename_i e;subst e
    rw[Mu.add_get hd] at h1
    cases h1
    exact .inl (xb _)
   ·rename_i e
    exact .inr ⟨j,oj,lj,hj,by rw[Mu.add_ne e] at h1;exact h1,rfl⟩
theorem WR.drawn (W:WR μ A w) (n:Nat):WR μ A {w with drawn:=n}/\Ext μ A w μ A {w with drawn:=n}:=
 ⟨⟨W.has,W.inj,W.dom⟩,⟨Le.refl _,xb _,rfl,rfl,rfl,fun _ _ _=>rfl,fun i o l h h'=>.inr ⟨i,o,l,h,h',rfl⟩,xb _,fun _ _=>rfl⟩⟩
theorem WR.cells (W:WR μ A w) {i:Nat} {l:Loc} {vs:List Value} {t:TypeId} {op:Bool} {fz:Option Nat} {es:Nat} (hm:μ i=some l) (hg:A.get i=some (.cells vs t op fz es)):
  ∃c fr,w.heap[l.b]? =some (.cells c t fr)/\c.size=l.sz/\l.d+vs.length<=l.sz/\(op=false->l.d=0/\vs.length=l.sz)/\es=l.k/\LR μ vs ((c.toList.drop l.d).take vs.length)/\FZ fz fr l.d l.sz:=by
 obtain⟨o',h6,h7⟩:=W.has _ _ l hg hm;obtain⟨c,fr,rfl,h8⟩:=h7;exact⟨c,fr,h6,h8⟩
theorem zeo (b o i:Nat):(⟨b,o,none⟩:Addr).add i=⟨b,o+i,none⟩:=by unfold Addr.add;split<;>simp_all
theorem AR.add {a a':Addr} (hr:AR μ a a') (n:Nat):AR μ (a.add n) (a'.add n):=by
 obtain⟨h1,l,h4,rfl⟩:=hr;obtain⟨b,o,s⟩:=a
 simp only at h1 h4⊢;subst h1
 rw[zeo,zeo];exact⟨rfl,l,h4,by simp[xh]⟩
theorem zdK {c:Array Value} {d n i:Nat} {v:Value} (h:((c.toList.drop d).take n)[i]? =some v):c[d+i]? =some v:=by
 rw[xu] at h
 split at h
 ·rw[xv] at h;rw[<- xe];exact h
 ·cases h
theorem zwD (W:WR μ A w) {a a':Addr} {vs:List Value} {t:TypeId} {op:Bool} {fz:Option Nat} {es:Nat} {v:Value} (hr:AR μ a a') (hg:A.get a.block=some (.cells vs t op fz es)) (hv:vs[a.off]? =some v):
  ∃v',w.cell? a'=some v'/\VR μ v v':=by
 obtain⟨h1,l,hm,rfl⟩:=hr;obtain⟨c,fr,h6,h8,h9,h10,hk,h11,h12⟩:=W.cells hm hg;obtain⟨v',h13,h14⟩:=h11.get hv;exact⟨v',by simp[World.cell?,h6,zdK h13],h14⟩
theorem zcs (W:WR μ A w) {a a':Addr} {vs:List Value} {t:TypeId} {op:Bool} {fz:Option Nat} {es:Nat} {n:Nat} (hr:AR μ a a') (hg:A.get a.block=some (.cells vs t op fz es)) (hn:a.off+n<=vs.length):
  ∃xs':List Value,(loadCells a' n).run P w= .ok xs'.toArray w/\LR μ ((vs.drop a.off).take n) xs':=by
 obtain⟨h1,l,hm,rfl⟩:=hr;obtain⟨c,fr,h6,h8,h9,h10,hk,h11,h12⟩:=W.cells hm hg;have hL:=(h11.drop a.off).take n;have hlen:((((c.toList.drop l.d).take vs.length).drop a.off).take n).length=n:=by rw[hL.len];simp;omega
 refine⟨(((c.toList.drop l.d).take vs.length).drop a.off).take n,?_,hL⟩;have:=run_loadCells_list (P:=P) w ⟨l.b,l.d+a.off,none⟩ ((((c.toList.drop l.d).take vs.length).drop a.off).take n) (fun j v hj=>?_)
 ·rw[hlen] at this;exact this
 ·rw[xu] at hj
  split at hj
  ·rw[xv] at hj
   rw[zeo]
   simp[World.cell?,h6,xh,zdK hj]
  ·cases hj
theorem zrT:∀{v v':Value},VR μ v v'->v'.oneCell'=v.oneCell'
 | .bool _,_,r | .int _ _,_,r | .float _ _,_,r | .string _,_,r | .pointer none,_,r | .slice none _ _,_,r | .map none,_,r | .nilFunc,_,r | .nilIface,_,r=>by simp only[VR] at r;subst r;rfl
 | .pointer (some a),_,r=>by simp only[VR] at r;obtain⟨a',rfl,_⟩:=r;rfl
 | .slice (some a) n c,_,r=>by simp only[VR] at r;obtain⟨a',c',rfl,_⟩:=r;rfl
 | .map (some a),_,r=>by simp only[VR] at r;obtain⟨l,rfl,_⟩:=r;rfl
 | .func (.func f) ⟨x⟩ ⟨y⟩,_,r=>by simp only[VR] at r;obtain⟨x',y',rfl,_⟩:=r;rfl
 | .func (.method _) _ _,_,r | .func (.methodOf _ _) _ _,_,r | .func (.via _ _ _ _) _ _,_,r | .chan _,_,r | .complex _ _ _,_,r=>by simp[VR] at r
 | .func (.yield i) _ _,_,r=>by simp only[VR] at r;obtain⟨_,_,l,rfl,_⟩:=r;rfl
 | .iface t u,_,r=>by simp only[VR] at r;obtain⟨u',rfl,_⟩:=r;rfl
 | .agg ⟨xs⟩,_,r=>by simp only[VR] at r;obtain⟨u',rfl,_⟩:=r;rfl
 | .tuple ⟨xs⟩,_,r=>by simp only[VR] at r;obtain⟨u',rfl,_⟩:=r;rfl
def zaB (vs:List Value) (o:Nat) (xs:List Value):List Value:=vs.take o++xs++vs.drop (o+xs.length)
theorem zcq {vs xs:List Value} {o:Nat} (h:o+xs.length<=vs.length):(zaB vs o xs).length=vs.length:=by simp[zaB];omega
def zCc:Option Nat->Nat->Bool
 | none,_=>true
 | some n,o=>n<=o
theorem zfG {cur rest:List Value} {o:Nat} {v:Value} (h:o<cur.length):zaB (cur.set o v) (o+1) rest=zaB cur o (v::rest):=by
 have e1:(cur.set o v).take (o+1)=cur.take o++[v]:=by
  rw[List.take_add_one,List.take_set_of_le (xb _)]
  simp[h]
 have e2:(cur.set o v).drop (o+1+rest.length)=cur.drop (o+1+rest.length):=List.drop_set_of_lt (by omega)
 simp only[zaB,e1,e2,xy,xx,xz,List.nil_append]
 rw[show o+1+rest.length=o+(rest.length+1) by omega]
theorem zew (g o:Nat) (t:TypeId) (fr:Nat × Nat):∀(vs:List Value) (i:Nat) (cur:Array Value) (w:World),w.heap[g]? =some (.cells cur t fr)->(∀j,j<vs.length->¬(fr.1<=o+i+j/\o+i+j<fr.2))->o+i+vs.length<=cur.size->(∀v∈vs,v.oneCell'=true)->
  (storeCells ⟨g,o,none⟩ vs i).run P w= .ok () {w with heap:=w.heap.setIfInBounds g (.cells (zaB cur.toList (o+i) vs).toArray t fr)}
 | [],i,cur,w,hg,_,_,_=>by
  have hlt:=(xa.1 hg).1;have:w.heap.setIfInBounds g (.cells cur t fr)=w.heap:=by
   apply xj
   intro j;rw[xi]
   split
   ·rename_i e;subst e;simp[hlt];exact((xa.1 hg).2).symm
   ·rfl
  simp only[storeCells,zaB,List.append_nil,List.length_nil,xq,List.take_append_drop,Array.toArray_toList,this]
  rfl
 | v::rest,i,cur,w,hg,hf,hl,h1=>by
  have hlt:=(xa.1 hg).1;have hi:o+i<cur.size:=by simp at hl;omega
  have hcell:w.cell? ⟨g,o+i,none⟩=some cur[o+i]:=by simp[World.cell?,hg,hi]
  have hfro:w.frozen? ⟨g,o+i,none⟩=false:=by
   have h5:=hf 0 (by simp)
   obtain⟨lo,hi'⟩:=fr
   simp only[World.frozen?,hg,Bool.and_eq_false_iff,decide_eq_false_iff_not]
   simp only[xq] at h5
   omega
  have hset:w.setCell ⟨g,o+i,none⟩ v={w with heap:=w.heap.setIfInBounds g (.cells (cur.setIfInBounds (o+i) v) t fr)}:=by
   unfold World.setCell
   congr 1
   apply xj
   intro j;rw[Array.getElem?_modify,xi]
   by_cases e:g=j
   ·subst e;simp[hlt]
    have:=(xa.1 hg).2;rw[this]
   ·simp[e]
  have hst:(store ((⟨g,o,none⟩:Addr).add i) v).run P w= .ok () {w with heap:=w.heap.setIfInBounds g (.cells (cur.setIfInBounds (o+i) v) t fr)}:=by
   rw[zeo,run_store P w _ v _ (h1 v (by simp))]
   simp[hcell,hfro,hset]
  have ih:=zew g o t fr rest (i+1) (cur.setIfInBounds (o+i) v) {w with heap:=w.heap.setIfInBounds g (.cells (cur.setIfInBounds (o+i) v) t fr)} (by simp[hlt]) (fun j hj=>by
   have h5:=hf (j+1) (by simp;omega)
   rwa [show o+i+(j+1)=o+(i+1)+j by omega] at h5) (by simp at hl⊢;omega) (fun x hx=>h1 x (by simp[hx]))
  simp only[storeCells,Sem.run_bind,hst,Result.andThen,ih]
  congr 2
  rw[Array.setIfInBounds_setIfInBounds]
  congr 2
  apply congrArg
  rw[xk,xh o i 1 |>.symm];exact zfG (by simpa using hi)
theorem LR.all1 {xs xs':List Value} (hx:LR μ xs xs') (h1:xs.all (·.oneCell')=true):∀v∈xs',v.oneCell'=true:=fun v hv=>by
 obtain⟨i,hi⟩:=List.getElem?_of_mem hv;have hil:i<xs'.length:=(xm.1 hi).1;rw[hx.len] at hil;obtain⟨v',h5,h7⟩:=hx.get (List.getElem?_eq_getElem hil);rw[hi] at h5;cases h5;rw[zrT h7];exact List.all_eq_true.1 h1 _ (List.getElem_mem hil)
theorem zfH {c xs:List Value} {d o:Nat} (h:d+o+xs.length<=c.length):(zaB c (d+o) xs).drop d=zaB (c.drop d) o xs:=by
 simp only[zaB,xx]
 rw[List.drop_append,xD,List.drop_drop];have e1:(xA (d+o) c).length=d+o:=by simp;omega
 rw[e1,show d+o - d=o by omega,show d - (d+o)=0 by omega,xE,show d+(o+xs.length)=d+o+xs.length by omega]
theorem zlr {c xs:List Value} {n o:Nat} (h:o+xs.length<=n) (hn:n<=c.length):(zaB c o xs).take n=zaB (c.take n) o xs:=by
 simp only[zaB]
 have e1:xA o (xA n c)=xA o c:=by rw[List.take_take];congr 1;omega
 rw[e1,List.take_append,xr (by simp;omega)]
 congr 1
 rw[xD]
 congr 1
 simp;omega
theorem zcB (W:WR μ A w) {a a':Addr} {vs xs xs':List Value} {t:TypeId} {op:Bool} {fz:Option Nat} {es:Nat} (hr:AR μ a a') (hg:A.get a.block=some (.cells vs t op fz es)) (hx:LR μ xs xs') (h1:xs.all (·.oneCell')=true)
  (hn:a.off+xs.length<=vs.length) (hf:zCc fz a.off=true):
  ∃w',(storeCells a' xs').run P w= .ok () w'/\WR μ (A.set a.block (some (.cells (zaB vs a.off xs) t op fz es))) w'/\Ext μ A w μ (A.set a.block (some (.cells (zaB vs a.off xs) t op fz es))) w':=by
 obtain⟨hs,l,hm,rfl⟩:=hr;obtain⟨c,fr,h6,h8,h9,h10,hk,h11,h12⟩:=W.cells hm hg;have hcl:c.toList.length=l.sz:=by simpa using h8
 have hrun:=zew (P:=P) l.b (l.d+a.off) t fr xs' 0 c w h6 (fun j hj=>by
  rw[hx.len] at hj
  cases fz with
  | none=>simp only[FZ] at h12;subst h12;simp
  | some n=>
   simp only[FZ] at h12
   simp only[zCc,decide_eq_true_eq] at hf
   rw[show l.d+a.off+0+j=l.d+(a.off+j) by omega,h12 _ (by omega)];omega) (by rw[hx.len];omega) (hx.all1 h1)
 refine⟨_,hrun,W.upd hg hm ?_⟩
 simp only[xq]
 refine⟨_,fr,rfl,?_,?_,?_,hk,?_,h12⟩
 ·simp only[List.size_toArray];rw[zcq (by rw[hx.len];omega)];exact hcl
 ·rw[zcq hn];exact h9
 ·rw[zcq hn];exact h10
 ·rw[zcq hn]
  rw[show(zaB c.toList (l.d+a.off) xs').toArray.toList=zaB c.toList (l.d+a.off) xs' from rfl,zfH (by rw[hx.len];omega),zlr (by rw[hx.len];exact hn) (by simp;omega)]
  simp only[zaB,hx.len]
  exact((h11.take _).append hx).append (h11.drop _)
end Ev
end
section
namespace Ev
variable {P:Program} {μ:Mu} {A:AW} {w:World}
abbrev Env:=Tr Value
def TR (μ:Mu) (l:Env) (l':List Value):Prop:=∀(t:Nat) (v:Value),l.get t=some v->∃v',l'[t]? =some v'/\VR μ v v'
theorem TR.mono {μ μ':Mu} {l:Env} {l':List Value} (h:Le μ μ') (r:TR μ l l'):TR μ' l l':=fun t v hv=>by
 obtain⟨v',h1,h2⟩:=r t v hv;exact⟨v',h1,h2.mono h⟩
noncomputable def zxq (v:Value):Bool:=Value.casesOn (motive_1:=fun _=>Bool) v (fun _=>true) (fun _ _=>true) (fun _ _=>true) (fun _ _ _=>false) (fun _=>true)
 (fun a=>Option.rec (motive:=fun _=>Bool) true (fun _=>false) a) (fun a _ _=>Option.rec (motive:=fun _=>Bool) true (fun _=>false) a) (fun a=>Option.rec (motive:=fun _=>Bool) true (fun _=>false) a)
 (fun _=>false) (fun _ _ _=>false) true (fun _ _=>false) true (fun _=>false) (fun _=>false)
theorem zeO {v:Value} (h:zxq v=true):zco v=true:=by
 cases v with
 | pointer a=>cases a<;>first | rfl | cases h
 | slice a n c=>cases a<;>first | rfl | cases h
 | map a=>cases a<;>first | rfl | cases h
 | bool _=>rfl
 | int _ _=>rfl
 | float _ _=>rfl
 | string _=>rfl
 | nilFunc=>rfl
 | nilIface=>rfl
 | complex _ _ _=>cases h
 | chan _=>cases h
 | func _ _ _=>cases h
 | iface _ _=>cases h
 | agg _=>cases h
 | tuple _=>cases h
noncomputable def opv (l:Env):Operand->Option Value
 | .tmp t=>l.get t
 | .const v=>if zxq v || zco v then some v else none
 | .global g=>match zkz g with
  | some _=>some (.pointer (some ⟨g,0,none⟩))
  | none=>none
 | .func f=>some (.func (.func f) #[] #[])
theorem VR_fn {f:FuncId}:VR μ (.func (.func f) #[] #[]) (.func (.func f) #[] #[]):=by
 simp only[VR];exact⟨_,_,rfl,LR.nil,LR.nil⟩
theorem zam {l:Env} {a:Act} {x:Operand} {v:Value} (h:TR μ l a.tmps.toList) (hx:opv l x=some v):VR μ v (a.eval x):=by
 cases x with
 | tmp t=>
  simp only[opv] at hx
  obtain⟨v',h1,h2⟩:=h t v hx;have:a.tmps[t]? =some v':=by rw[<- xe];exact h1
  simp only[Act.eval]
  rw[Array.getD_eq_getD_getElem?,this];exact h2
 | const c=>
  simp only[opv] at hx
  split at hx
  ·cases hx
   rename_i hf
   rw[xC] at hf;exact zbo (hf.elim zeO id)
  ·cases hx
 | global g=>
  simp only[opv] at hx
  split at hx
  ·rename_i s hg
   cases hx
   simp only[VR]
   exact⟨_,rfl,rfl,_,μ.glob g s hg,rfl⟩
  ·cases hx
 | func f=>cases hx;exact VR_fn
noncomputable def zyA (l:Env):List Operand->Option (List Value)
 | []=>some []
 | x::xs=>match opv l x,zyA l xs with
  | some v,some vs=>some (v::vs)
  | _,_=>none
theorem zeD {l:Env} {a:Act} (h:TR μ l a.tmps.toList):∀{xs:List Operand} {vs:List Value},zyA l xs=some vs->LR μ vs (xs.map a.eval)
 | [],_,hx=>by cases hx;exact LR.nil
 | x::xs,vs,hx=>by
  simp only[zyA] at hx
  split at hx
  ·rename_i v us h1 h2
   cases hx
   exact LR.cons (zam h h1) (zeD h h2)
  ·cases hx
def Res (P:Program) (ρ:Operand->Value) (o:Oper) (w:World) (v:Value) (w':World):Prop:=
 (execOp ρ o).run P w= .ok (.value v) w'\/((execOp ρ o).run P w= .ok .skip w'/\v=undef)
def zBW (P:Program) (ρ:Operand->Value) (o:Oper) (μ:Mu) (A:AW) (w:World) (v:Value) (A':AW):Prop:=
 ∃μ' v' w',Res P ρ o w v' w'/\VR μ' v v'/\WR μ' A' w'/\Ext μ A w μ' A' w'
theorem zBW.same {ρ:Operand->Value} {o:Oper} {v v':Value} (W:WR μ A w) (h:(execOp ρ o).run P w= .ok (.value v') w) (hv:VR μ v v'):zBW P ρ o μ A w v A:=
 ⟨μ,v',w,.inl h,hv,W,Ext.refl⟩
theorem zcc:VR μ undef undef:=by simp only[undef,VR];exact⟨_,rfl,LR.nil⟩
theorem rT {t:TypeId} {i:TypeInfo} (h:P.info? t=some i):(typeInfo t).run P w= .ok i w:=by simp[typeInfo,h]
theorem rU {t:TypeId} {d:TypeDesc} (h:P.underlying t=some d):(underlying t).run P w= .ok d w:=run_underlying h w
theorem rS {t:TypeId} {i:TypeInfo} (h:P.info? t=some i):(sizeOf t).run P w= .ok i.size w:=by simp[sizeOf,rT h]
theorem rZ {t:TypeId} {i:TypeInfo} {z:Value} (h:P.info? t=some i) (hz:i.zero=some z):(zeroValue t).run P w= .ok z w:=by simp[zeroValue,rT h,hz]
def aggB:TypeDesc->Bool
 | .struct _ | .array _ _=>true
 | _=>false
theorem rAgg {t:TypeId} {d:TypeDesc} (h:P.underlying t=some d):(isAgg t).run P w= .ok (aggB d) w:=by
 simp only[isAgg,Sem.run_bind,rU h,Result.andThen]
 cases d<;>simp[aggB]
def zil {α:Type} (P:Program):Sem α->Option α
 | .pure a=>some a
 | .program k=>zil P (k P)
 | _=>none
theorem zhq {α:Type}:∀{s:Sem α} {a:α},zil P s=some a->s.run P w= .ok a w
 | .pure _,_,h=>by cases h;rfl
 | .program k,a,h=>by
  simp only[zil] at h
  simp only[Sem.run]
  exact zhq h
 | .load _ _ _,_,h | .store _ _ _ _,_,h | .new _ _,_,h | .shape _ _,_,h | .freeze _ _ _,_,h | .frozen _ _,_,h | .getObj _ _,_,h | .setObj _ _ _,_,h | .choose _ _,_,h | .sys _ _,_,h | .mark _ _,_,h | .halt _,_,h=>by cases h
def zlF:Op->Option (List Operand)
 | .binOp _ _ x y _=>some [x,y]
 | .unOp _ _ x | .convert _ _ x=>some [x]
 | .index _ x y=>some [x,y]
 | .slice _ x none none none=>some [x]
 | .slice _ x (some y) none none | .slice _ x none (some y) none=>some [x,y]
 | .slice _ x (some y) (some z) none=>some [x,y,z]
 | .call {callee:=.builtin .len,args:=⟨[x]⟩,argTypes:=_}=>some [x]
 | .call {callee:=.builtin .max,args:=⟨[x,y]⟩,argTypes:=_} | .call {callee:=.builtin .min,args:=⟨[x,y]⟩,argTypes:=_}=>some [x,y]
 | _=>none
theorem zqv {ρ ρ':Operand->Value} {o:Oper} {xs:List Operand} (h:zlF o.op=some xs) (he:∀x∈xs,ρ x=ρ' x):execOp ρ o=execOp ρ' o:=by
 obtain⟨dst,op,type,pos,after,guard⟩:=o
 simp only at h
 unfold zlF at h
 split at h<;>first
  | (cases h;simp only[xH,List.not_mem_nil,or_false,forall_eq_or_imp,forall_eq] at he;simp[execOp,he,resolve];done)
  | (cases h;done)
def isAgV:Value->Bool
 | .agg _=>true
 | _=>false
noncomputable def zBk (v:Value):Bool:=zxq v || (isAgV v&&zco v)
theorem zqs {v:Value} (h:zBk v=true):zco v=true:=by
 unfold zBk at h;rw[xC,xg] at h;exact h.elim zeO (·.2)
noncomputable def ziP (l:Env):List Operand->Bool
 | []=>true
 | x::xs=>match opv l x with
  | some v=>zBk v&&ziP l xs
  | none=>false
noncomputable def ρA (l:Env) (x:Operand):Value:=(opv l x).getD undef
def zkF (op:BinOp) (k:IntKind) (a b:Int):Option Value:=match op with
 | .add=>some (.int k (k.wrap (a+b)))
 | .sub=>some (.int k (k.wrap (a - b)))
 | .mul=>some (.int k (k.wrap (a * b)))
 | .eql=>some (.bool (a==b))
 | .neq=>some (.bool (a != b))
 | .lss=>some (.bool (decide (a<b)))
 | .leq=>some (.bool (decide (a<=b)))
 | .gtr=>some (.bool (decide (a>b)))
 | .geq=>some (.bool (decide (a≥b)))
 | _=>none
theorem zxy {op:BinOp} {k:IntKind} {t:TypeId} {x y:Operand} {a b:Int} {v:Value} (h:zkF op k a b=some v):(do eqGuard op t x y (.int k a) (.int k b);binOp op t (.int k a) (.int k b):Sem Value).run P w= .ok v w:=by
 unfold zkF at h
 split at h<;>first
  | (cases h;simp[eqGuard,binOp,Op.intArith,Op.intCmp];done)
  | cases h
theorem zqu {op:BinOp} {k:IntKind} {a b:Int} {v:Value} (h:zkF op k a b=some v):zco v=true:=by
 unfold zkF at h
 split at h<;>first
  | (cases h;rfl)
  | cases h
def zBY:List UInt8->Nat->Option UInt8
 | [],_=>none
 | b::_,0=>some b
 | _::l,n+1=>zBY l n
theorem zun:∀(l:List UInt8) (n:Nat),zBY l n=l[n]?
 | [],n=>by simp[zBY]
 | b::l,0=>rfl
 | b::l,n+1=>by rw[zBY,zun l n];simp
def zxA (op:BinOp) (x y:Value):Option Value:=match x with
 | .int .i64 a=>match y with
  | .int .i64 b=>zkF op .i64 a b
  | _=>none
 | .int .u8 a=>match y with
  | .int .u8 b=>zkF op .u8 a b
  | _=>none
 | .int .i32 a=>match y with
  | .int .i32 b=>zkF op .i32 a b
  | _=>none
 | _=>none
theorem zxz {op:BinOp} {u z v:Value} (h:zxA op u z=some v):∃k a b,u= .int k a/\z= .int k b/\zkF op k a b=some v:=by
 unfold zxA at h
 split at h
 ·split at h
  ·exact⟨_,_,_,rfl,rfl,h⟩
  ·cases h
 ·split at h
  ·exact⟨_,_,_,rfl,rfl,h⟩
  ·cases h
 ·split at h
  ·exact⟨_,_,_,rfl,rfl,h⟩
  ·cases h
 ·cases h
theorem zxm {s:ByteArray} {n:Nat} {b:UInt8} (h:zBY s.data.toList n=some b):s[n]? =some b:=by
 rw[zun] at h;obtain⟨hn,hb⟩:=xm.1 h;have hn':n<s.size:=by simpa using hn
 rw[getElem?_pos s n hn'];exact congrArg some hb
noncomputable def zFY (P:Program) (s d:TypeId) (x:Value):Option Value:=match x with
 | .int _ n=>match P.underlying s with
  | some _=>match P.underlying d with
   | some (.int k)=>some (.int k (k.wrap n))
   | _=>none
  | _=>none
 | _=>none
noncomputable def zFX (P:Program) (t:TypeId) (x i:Value):Option Value:=match x with
 | .string s=>match i with
  | .int _ (.ofNat z)=>match P.underlying t with
   | some .string=>match zBY s.data.toList z with
    | some b=>some (.int .u8 (.ofNat b.toNat))
    | none=>none
   | _=>none
  | _=>none
 | _=>none
noncomputable def zxx (P:Program) (l:Env) (o:Oper):Option Value:=match o.op with
 | .binOp op _ x y _=>match opv l x with
  | some a=>match opv l y with
   | some b=>zxA op a b
   | _=>none
  | _=>none
 | .convert s d x=>match opv l x with
  | some a=>zFY P s d a
  | _=>none
 | .index t x i=>match opv l x with
  | some a=>match opv l i with
   | some b=>zFX P t a b
   | _=>none
  | _=>none
 | _=>none
theorem zxw {l:Env} {a:Act} {o:Oper} {v:Value} (W:WR μ A w) (h:TR μ l a.tmps.toList) (hp:zxx P l o=some v):zBW P a.eval o μ A w v A:=by
 obtain⟨dst,op,type,pos,after,guard⟩:=o;unfold zxx at hp
 simp only at hp
 split at hp
 ·split at hp
  ·rename_i hx
   split at hp
   ·rename_i hy
    have e1:=zam h hx;have e2:=zam h hy;obtain⟨k,n,m,rfl,rfl,hq⟩:=zxz hp;have e1:=zbG rfl e1;have e2:=zbG rfl e2;have h5:=fun t x y=>zxy (P:=P) (w:=w) (t:=t) (x:=x) (y:=y) hq
    exact .same W (by simp only[execOp,e1,e2,Sem.run_bind,Result.andThen,Sem.run_pure];simp only[Sem.run_bind,Result.andThen] at h5;simp only[h5]) (zbo (zqu hq))
   ·cases hp
  ·cases hp
 ·split at hp
  ·rename_i hx
   unfold zFY at hp
   split at hp
   ·split at hp
    ·rename_i hs
     split at hp
     ·rename_i hd
      cases hp
      have e1:=zbG rfl (zam h hx);exact .same W (by simp[execOp,e1,convert,run_underlying hs,run_underlying hd,Conv.intToInt]) (zbo rfl)
     ·cases hp
    ·cases hp
   ·cases hp
  ·cases hp
 ·split at hp
  ·rename_i hx
   split at hp
   ·rename_i hi
    unfold zFX at hp
    split at hp
    ·split at hp
     ·split at hp
      ·rename_i ht
       split at hp
       ·rename_i hg
        cases hp
        have e1:=zbG rfl (zam h hx);have e2:=zbG rfl (zam h hi);have hg:=zxm hg;exact .same W (by simp[execOp,e1,e2,Instr.index,run_underlying ht,asIntOf,hg]) (zbo rfl)
       ·cases hp
      ·cases hp
     ·cases hp
    ·cases hp
   ·cases hp
  ·cases hp
 ·cases hp
noncomputable def zBP (P:Program) (l:Env) (o:Oper):Option Value:=
 match zlF o.op with
 | some xs=>if ziP l xs then
   match zil P (execOp (fun | .const v=>v | x=>ρA l x) o) with
   | some (.value v)=>if zxq v then some v else none
   | _=>none
  else none
 | none=>none
theorem zhI {l:Env} {a:Act} (h:TR μ l a.tmps.toList):∀{xs:List Operand},ziP l xs=true->∀x∈xs,ρA l x=a.eval x
 | [],_,_,hx=>by cases hx
 | x::xs,hf,y,hy=>by
  simp only[ziP] at hf
  split at hf
  ·rename_i v hv
   rw[xg] at hf
   rcases xH.1 hy with rfl | hy
   ·have:=zbG (zqs hf.1) (zam h hv)
    simp[ρA,hv,this]
   ·exact zhI h hf.2 y hy
  ·cases hf
theorem zya {l:Env} {a:Act} {o:Oper} {v:Value} (W:WR μ A w) (h:TR μ l a.tmps.toList) (hp:zBP P l o=some v):zBW P a.eval o μ A w v A:=by
 unfold zBP at hp
 split at hp
 ·rename_i xs hxs
  split at hp
  ·rename_i hf
   split at hp
   ·rename_i u hu
    split at hp
    ·rename_i hfv
     cases hp
     refine .same W ?_ (zbo (zeO hfv));rw[<- zqv (ρ:=fun | .const v=>v | x=>ρA l x) hxs (fun x hx=>?_)]
     ·exact zhq hu
     ·cases x with
      | const c=>rfl
      | _=>exact zhI h hf _ hx
    ·cases hp
   ·cases hp
  ·cases hp
 ·cases hp
noncomputable def zep (P:Program) (l:Env) (o:Oper):Option Value:=match zxx P l o with
 | some v=>some v
 | none=>zBP P l o
theorem zdv {l:Env} {a:Act} {o:Oper} {v:Value} (W:WR μ A w) (h:TR μ l a.tmps.toList) (hp:zep P l o=some v):zBW P a.eval o μ A w v A:=by
 unfold zep at hp
 split at hp
 ·cases hp;exact zxw W h (by assumption)
 ·exact zya W h hp
def zar:Value->List Value
 | .agg ⟨l⟩=>l
 | v=>[v]
theorem zel:∀{v v':Value},VR μ v v'->LR μ (zar v) v'.cells.toList
 | .bool _,_,r | .int _ _,_,r | .float _ _,_,r | .string _,_,r | .pointer none,_,r | .slice none _ _,_,r | .map none,_,r | .nilFunc,_,r | .nilIface,_,r=>by
  have r':=r
  simp only[VR] at r;subst r;exact LR.cons r' LR.nil
 | .pointer (some a),_,r=>by have r':=r;simp only[VR] at r;obtain⟨a',rfl,_⟩:=r;exact LR.cons r' LR.nil
 | .slice (some a) n c,_,r=>by have r':=r;simp only[VR] at r;obtain⟨a',c',rfl,_⟩:=r;exact LR.cons r' LR.nil
 | .map (some a),_,r=>by have r':=r;simp only[VR] at r;obtain⟨l,rfl,_⟩:=r;exact LR.cons r' LR.nil
 | .func (.func f) ⟨x⟩ ⟨y⟩,_,r=>by have r':=r;simp only[VR] at r;obtain⟨x',y',rfl,_⟩:=r;exact LR.cons r' LR.nil
 | .func (.method _) _ _,_,r | .func (.methodOf _ _) _ _,_,r | .func (.via _ _ _ _) _ _,_,r | .chan _,_,r | .complex _ _ _,_,r=>by simp[VR] at r
 | .func (.yield i) _ _,_,r=>by have r':=r;simp only[VR] at r;obtain⟨_,_,l,rfl,_⟩:=r;exact LR.cons r' LR.nil
 | .iface t u,_,r=>by have r':=r;simp only[VR] at r;obtain⟨u',rfl,_⟩:=r;exact LR.cons r' LR.nil
 | .agg ⟨xs⟩,_,r=>by simp only[VR] at r;obtain⟨u',rfl,h⟩:=r;exact h
 | .tuple ⟨xs⟩,_,r=>by have r':=r;simp only[VR] at r;obtain⟨u',rfl,_⟩:=r;exact LR.cons r' LR.nil
noncomputable def zjm (P:Program) (A:AW) (t:TypeId):Value->Option Value
 | .pointer (some a)=>match A.get a.block,P.underlying t with
  | some (.cells vs _ _ _ _),some d=>if aggB d then
    (match P.info? t with
    | some i=>if a.off+i.size<=vs.length then some (.agg ⟨(vs.drop a.off).take i.size⟩) else none
    | none=>none)
   else vs[a.off]?
  | _,_=>none
 | _=>none
theorem zla {t:TypeId} {a a':Addr} {v:Value} (W:WR μ A w) (hv:AR μ a a') (h:zjm P A t (.pointer (some a))=some v):
  ∃v',(loadVar t a').run P w= .ok v' w/\VR μ v v':=by
 simp only[zjm] at h
 split at h
 ·rename_i vs ty op fz es d hg hd
  split at h
  ·rename_i hagg
   split at h
   ·rename_i i hi
    split at h
    ·rename_i hn
     cases h
     obtain⟨xs',h1,h2⟩:=zcs (P:=P) W hv hg hn;refine⟨.agg xs'.toArray,?_,?_⟩
     ·simp[loadVar,rAgg hd,hagg,rS hi,h1]
     ·simp only[VR];exact⟨_,rfl,h2⟩
    ·cases h
   ·cases h
  ·rename_i hagg
   obtain⟨v',h1,h2⟩:=zwD W hv hg h;refine⟨v',?_,h2⟩
   simp only[loadVar,Sem.run_bind,rAgg hd,Result.andThen,hagg,xd,if_false,run_load,h1]
 ·cases h
theorem zye {t:TypeId} {p p' v:Value} (W:WR μ A w) (hv:VR μ p p') (h:zjm P A t p=some v):
  ∃v',(Instr.loadAt t p').run P w= .ok v' w/\VR μ v v':=by
 unfold zjm at h
 split at h
 ·rename_i a
  simp only[VR] at hv
  obtain⟨a',rfl,ha⟩:=hv;obtain⟨v',h1,h2⟩:=zla W ha (P:=P) (t:=t) (v:=v) (by unfold zjm;exact h)
  exact⟨v',by simp[Instr.loadAt,Instr.sureAddr,h1],h2⟩
 ·cases h
noncomputable def zpp (P:Program) (A:AW) (t:TypeId) (v:Value):Value->Option AW
 | .pointer (some a)=>match A.get a.block,P.info? t with
  | some (.cells vs ty op fz es),some i=>
   if (zar v).length=i.size/\(zar v).all (·.oneCell')=true/\a.off+(zar v).length<=vs.length/\zCc fz a.off=true then
    some (A.set a.block (some (.cells (zaB vs a.off (zar v)) ty op fz es)))
   else none
  | _,_=>none
 | _=>none
theorem zvi {t:TypeId} {p p' v v':Value} {A':AW} (W:WR μ A w) (hp:VR μ p p') (hv:VR μ v v') (h:zpp P A t v p=some A'):
  ∃w',(Instr.storeAt t p' v').run P w= .ok () w'/\WR μ A' w'/\Ext μ A w μ A' w':=by
 unfold zpp at h
 split at h
 ·rename_i a
  simp only[VR] at hp
  obtain⟨a',rfl,ha⟩:=hp
  split at h
  ·rename_i vs ty op fz es i hg hi
   split at h
   ·rename_i hc
    obtain⟨h1,h2,h3,h4⟩:=hc
    cases h
    have hL:=zel hv;obtain⟨w',h5,h6⟩:=zcB (P:=P) W ha hg hL h2 h3 h4;refine⟨w',?_,h6⟩;have hsz:v'.cells.size=i.size:=by rw[<- h1,<- hL.len];simp
    simp[Instr.storeAt,Instr.sureAddr,storeVar,rS hi,hsz,h5]
   ·cases h
  ·cases h
 ·cases h
theorem zlT {cs cs':List Value} {t es:Nat} (W:WR μ A w) (h:LR μ cs cs'):
  ∃w',(newRow t cs'.toArray).run P w= .ok ⟨w.heap.size,0,none⟩ w'/\WR (μ.add A.next ⟨w.heap.size,0,cs.length,es⟩) (A.push (.cells cs t false none es)) w'/\Ext μ A w (μ.add A.next ⟨w.heap.size,0,cs.length,es⟩) (A.push (.cells cs t false none es)) w':=by
 refine⟨{w with heap:=w.heap.push (.cells cs'.toArray t)},by simp[newRow],W.new ?_⟩
 have hle:=Mu.add_le (x:=⟨w.heap.size,0,cs.length,es⟩) (W.dom A.next (xb _));refine⟨_,_,rfl,by simp[h.len],by simp,by simp,rfl,?_,rfl⟩
 simp only[xE]
 rw[xr (by simp[h.len])]
 exact h.mono hle
theorem zpy {n:Nat} {l:Loc} (h:μ n=none):AR (μ.add n l) ⟨n,0,none⟩ ⟨l.b,l.d,none⟩:=⟨rfl,l,Mu.add_get h,by simp⟩
def zAa (A:AW) (t:TypeId) (cs:List Value) (es:Nat):Value × AW:=(.pointer (some ⟨A.next,0,none⟩),A.push (.cells cs t false none es))
theorem zvn {t es:Nat} {v v':Value} (W:WR μ A w) (hv:VR μ v v'):
  ∃μ' p' w',(Instr.box t v').run P w= .ok p' w'/\VR μ' (zAa A t (zar v) es).1 p'/\WR μ' (zAa A t (zar v) es).2 w'/\Ext μ A w μ' (zAa A t (zar v) es).2 w':=by
 obtain⟨w',h1,h2,h3⟩:=zlT (P:=P) (t:=t) (es:=es) W (zel hv);have e:v'.cells.toList.toArray=v'.cells:=by simp
 rw[e] at h1;refine⟨_,_,w',by simp[Instr.box,newVar,h1];rfl,?_,h2,h3⟩
 simp only[zAa,VR]
 exact⟨_,rfl,zpy (W.dom _ (xb _))⟩
end Ev
end
section
namespace Ev
variable {P:Program} {μ:Mu} {A:AW} {w:World}
def zpv (P:Program) (s:TypeId) (f:Nat):Value->Option Value
 | .pointer (some a)=>match P.underlying s with
  | some (.struct fields)=>match fields[f]? with
   | some fd=>match P.info? fd.type with
    | some i=>if i.size=0 then none else some (.pointer (some (a.add fd.offset)))
    | none=>none
   | none=>none
  | _=>none
 | _=>none
theorem zvq {s:TypeId} {f:Nat} {p p' v:Value} (hp:VR μ p p') (h:zpv P s f p=some v):∃v',(Instr.fieldAt s p' f).run P w= .ok v' w/\VR μ v v':=by
 unfold zpv at h
 split at h
 ·rename_i a
  simp only[VR] at hp
  obtain⟨a',rfl,ha⟩:=hp
  split at h
  ·rename_i fields hd
   split at h
   ·rename_i fd hf
    split at h
    ·rename_i i hi
     split at h
     ·cases h
     ·rename_i hz
      cases h
      refine⟨.pointer (some (a'.add fd.offset)),?_,?_⟩
      ·simp[Instr.fieldAt,rU hd,hf,Instr.sureAddr,fieldPlace,rS hi,hz]
      ·simp only[VR];exact⟨_,rfl,ha.add _⟩
    ·cases h
   ·cases h
  ·cases h
 ·cases h
theorem SR.addr {a a':Addr} {n c c':Nat} (h:SR μ a n c a' c') (hn:0<n):AR μ a a':=by
 rcases h with ⟨_,_,h⟩ | ⟨_,⟨h,_⟩ | ⟨h1,_,l,h2,h3,_⟩⟩
 ·exact h
 ·omega
 ·exact⟨h1,l,h2,h3⟩
def zpt (P:Program) (t:TypeId) (x:Value):Value->Option Value
 | .int _ i=>match P.underlying t,x with
  | some (.slice elem),.slice (some a) len _=>match P.info? elem with
   | some ii=>if 0<=i/\i<len then some (.pointer (some (a.add (i.toNat * ii.size)))) else none
   | none=>none
  | some (.array len elem),.pointer (some a)=>match P.info? elem with
   | some ii=>if 0<=i/\i<len then some (.pointer (some (a.add (i.toNat * ii.size)))) else none
   | none=>none
  | _,_=>none
 | _=>none
theorem zvo {t:TypeId} {x x' ix ix' v:Value} (hx:VR μ x x') (hi:VR μ ix ix') (h:zpt P t x ix=some v):∃v',(Instr.indexAt t x' ix').run P w= .ok v' w/\VR μ v v':=by
 unfold zpt at h
 split at h
 ·rename_i k i
  simp only[VR] at hi
  subst hi
  split at h
  ·rename_i elem a len c hd
   simp only[VR] at hx
   obtain⟨a',c',rfl,hs⟩:=hx
   split at h
   ·rename_i ii hii
    split at h
    ·rename_i hc
     cases h
     have ha:=hs.addr (by omega)
     refine⟨.pointer (some (a'.add (i.toNat * ii.size))),?_,?_⟩
     ·simp[Instr.indexAt,asIntOf,rU hd,rS hii,hc]
     ·simp only[VR];exact⟨_,rfl,ha.add _⟩
    ·cases h
   ·cases h
  ·rename_i len elem a hd
   simp only[VR] at hx
   obtain⟨a',rfl,ha⟩:=hx
   split at h
   ·rename_i ii hii
    split at h
    ·rename_i hc
     cases h
     refine⟨.pointer (some (a'.add (i.toNat * ii.size))),?_,?_⟩
     ·simp[Instr.indexAt,asIntOf,rU hd,rS hii,hc,Instr.sureAddr]
     ·simp only[VR];exact⟨_,rfl,ha.add _⟩
    ·cases h
   ·cases h
  ·cases h
 ·cases h
def bnd:Option Value->Nat->Nat->Option Nat
 | none,d,_=>some d
 | some (.int _ i),_,top=>if 0<=i/\i<=top then some i.toNat else none
 | _,_,_=>none
def OVR (μ:Mu):Option Value->Option Value->Prop
 | none,y=>y=none
 | some x,y=>∃x',y=some x'/\VR μ x x'
theorem zuY {x x':Option Value} {d top n:Nat} (hx:OVR μ x x') (h:bnd x d top=some n):(x=none/\x'=none/\n=d)\/(∃k i,x'=some (.int k i)/\0<=i/\i<=top/\n=i.toNat/\x.isSome=true):=by
 unfold bnd at h
 split at h
 ·cases h
  simp only[OVR] at hx
  exact .inl ⟨rfl,hx,rfl⟩
 ·simp only[OVR,VR] at hx
  obtain⟨_,rfl,rfl⟩:=hx
  split at h
  ·rename_i hc;cases h;exact .inr ⟨_,_,rfl,hc.1,hc.2,rfl,rfl⟩
  ·cases h
 ·cases h
theorem zdf {sl:Bool} {len cap:Nat} {lo lo' hi hi':Option Value} {l h top:Nat} (hlo:OVR μ lo lo') (hhi:OVR μ hi hi') (h1:bnd hi len top=some h) (h2:bnd lo 0 h=some l) (ht:top<=cap):
  (Instr.sliceBounds sl len cap lo' hi' none).run P w= .ok (l,h,cap) w:=by
 rcases zuY hhi h1 with ⟨_,rfl,rfl⟩ | ⟨k,i,rfl,h3,h4,rfl,_⟩
 ·rcases zuY hlo h2 with ⟨_,rfl,rfl⟩ | ⟨k,i,rfl,h3,h4,rfl,_⟩
  ·simp[Instr.sliceBounds]
  ·have:0<=i/\i<=(h:Int):=⟨h3,h4⟩
   simp[Instr.sliceBounds,Instr.sliceBound,asIntOf,this]
 ·have h5:0<=i/\i<=(cap:Int):=⟨h3,by omega⟩
  rcases zuY hlo h2 with ⟨_,rfl,rfl⟩ | ⟨k',i',rfl,h6,h7,rfl,_⟩
  ·simp[Instr.sliceBounds,Instr.sliceBound,asIntOf,h5]
  ·have h8:0<=i'/\i'<=(i.toNat:Int):=⟨h6,h7⟩
   have h9:i'<=i:=by omega
   have h10:0<=i'/\i'<=max i 0:=⟨h6,by omega⟩
   simp[Instr.sliceBounds,Instr.sliceBound,asIntOf,h5,h8,h10]
noncomputable def zpq (P:Program) (A:AW) (t:TypeId) (lo hi:Option Value):Value->Option Value
 | .slice none len cap=>match P.underlying t with
  | some (.slice elem)=>match P.info? elem,bnd hi len cap with
   | some _,some h=>match bnd lo 0 h with
    | some l=>some (.slice none (h - l) (cap - l))
    | none=>none
   | _,_=>none
  | _=>none
 | .slice (some a) len cap=>match P.underlying t with
  | some (.slice elem)=>match P.info? elem with
   | some ii=>
    if cap=unk then
     match A.get a.block,bnd hi len len with
     | some (.cells _ _ _ _ es),some h=>match bnd lo 0 h with
      | some l=>if es=ii.size/\a.spot=none then some (.slice (some (a.add (l * ii.size))) (h - l) unk) else none
      | none=>none
     | _,_=>none
    else if cap<unk then
     match bnd hi len cap with
     | some h=>match bnd lo 0 h with
      | some l=>some (.slice (some (if cap=l then a else a.add (l * ii.size))) (h - l) (cap - l))
      | none=>none
     | none=>none
    else none
   | none=>none
  | _=>none
 | .pointer (some a)=>match P.underlying t with
  | some (.array n elem)=>match P.info? elem,bnd hi n n with
   | some ii,some h=>if n<unk then match bnd lo 0 h with
    | some l=>some (.slice (some (if n=l then a else a.add (l * ii.size))) (h - l) (n - l))
    | none=>none
    else none
   | _,_=>none
  | _=>none
 | _=>none
theorem zuZ {x:Option Value} {d top n:Nat} (h:bnd x d top=some n) (hd:d<=top):n<=top:=by
 unfold bnd at h
 split at h
 ·cases h;exact hd
 ·split at h
  ·cases h;omega
  ·cases h
 ·cases h
theorem zvj {t:TypeId} {lo lo' hi hi':Option Value} {x x' v:Value} (W:WR μ A w) (hx:VR μ x x') (hlo:OVR μ lo lo') (hhi:OVR μ hi hi') (h:zpq P A t lo hi x=some v):∃v',(Instr.sliceAt t x' lo' hi' none).run P w= .ok v' w/\VR μ v v':=by
 unfold zpq at h
 split at h
 ·rename_i len cap
  simp only[VR] at hx;subst hx
  split at h
  ·rename_i elem hd
   split at h
   ·rename_i i h0 hi1 hb
    split at h
    ·rename_i l hl
     cases h
     refine⟨.slice none (h0 - l) (cap - l),?_,by simp[VR]⟩
     simp[Instr.sliceAt,Instr.slice,rU hd,rS hi1,zdf (sl:=true) hlo hhi hb hl (xb _)]
    ·cases h
   ·cases h
  ·cases h
 ·rename_i a len cap
  simp only[VR] at hx
  obtain⟨a',c',rfl,hs⟩:=hx
  split at h
  ·rename_i elem hd
   split at h
   ·rename_i ii hi1
    split at h
    ·rename_i hu
     split at h
     ·rename_i vs ty op fz es h0 hg hb
      split at h
      ·rename_i l hl
       split at h
       ·rename_i hes
        cases h
        obtain⟨hes,hsp⟩:=hes;have hl0:l<=h0:=zuZ hl (Nat.zero_le _);have hh0:h0<=len:=zuZ hb (xb _);have hlen:len<=c':=by
         rcases hs with ⟨h1,_⟩ | ⟨_,⟨h1,h2⟩ | ⟨_,h1,_⟩⟩
         ·exact absurd hu h1
         ·omega
         ·exact h1
        refine⟨.slice (if c'=l then some a' else some (a'.add (l * ii.size))) (h0 - l) (c' - l),?_,?_⟩
        ·simp[Instr.sliceAt,Instr.slice,rU hd,rS hi1,zdf (sl:=true) (cap:=c') hlo hhi hb hl hlen]
        ·simp only[VR]
         by_cases hc:c'=l
         ·rw[if_pos hc]
          exact⟨a',c' - l,rfl,.inr ⟨rfl,.inl ⟨by omega,by omega⟩⟩⟩
         ·rw[if_neg hc]
          refine⟨_,_,rfl,.inr ⟨rfl,.inr ?_⟩⟩
          rcases hs with ⟨h1,_⟩ | ⟨_,⟨h1,h2⟩ | ⟨h1,h2,lo1,h3,h4,h5⟩⟩
          ·exact absurd hu h1
          ·omega
          ·have hk:es=lo1.k:=by
            obtain⟨c,fr,_,_,_,_,hk,_⟩:=W.cells h3 hg;exact hk
           obtain⟨ab,ao,asp⟩:=a
           simp only at hsp h3 h5 h4;subst hsp h4
           rw[zeo,zeo];refine⟨rfl,by omega,lo1,h3,by simp[xh],?_⟩
           simp only
           rw[hk] at hes;rw[<- hes];have:l * lo1.k+(c' - l) * lo1.k=c' * lo1.k:=by rw[<- xB];congr 1;omega
           omega
       ·cases h
      ·cases h
     ·cases h
    ·rename_i hu
     split at h
     ·rename_i hlt
      split at h
      ·rename_i h0 hb
       split at h
       ·rename_i l hl
        cases h
        have hl0:l<=h0:=zuZ hl (Nat.zero_le _)
        rcases hs with ⟨_,rfl,ha⟩ | ⟨h1,_⟩
        ·refine⟨.slice (if c'=l then some a' else some (a'.add (l * ii.size))) (h0 - l) (c' - l),?_,?_⟩
         ·simp[Instr.sliceAt,Instr.slice,rU hd,rS hi1,zdf (sl:=true) (cap:=c') hlo hhi hb hl (xb _)]
         ·simp only[VR]
          by_cases hc:c'=l
          ·rw[if_pos hc,if_pos hc]
           exact⟨a',_,rfl,.inl ⟨by omega,rfl,ha⟩⟩
          ·rw[if_neg hc,if_neg hc]
           exact⟨_,_,rfl,.inl ⟨by omega,rfl,ha.add _⟩⟩
        ·exact absurd h1 hu
       ·cases h
      ·cases h
     ·cases h
   ·cases h
  ·cases h
 ·rename_i a
  simp only[VR] at hx
  obtain⟨a',rfl,ha⟩:=hx
  split at h
  ·rename_i n elem hd
   split at h
   ·rename_i ii h0 hi1 hb
    split at h
    ·rename_i hlt
     split at h
     ·rename_i l hl
      cases h
      refine⟨.slice (if n=l then some a' else some (a'.add (l * ii.size))) (h0 - l) (n - l),?_,?_⟩
      ·simp only[Instr.sliceAt,Sem.run_bind,rU hd,Result.andThen,Instr.sureAddr,Sem.run_pure,zdf (sl:=false) (cap:=n) hlo hhi hb hl (xb _),rS hi1]
       split<;>rfl
      ·simp only[VR]
       by_cases hc:n=l
       ·rw[if_pos hc,if_pos hc]
        exact⟨a',_,rfl,.inl ⟨by omega,rfl,ha⟩⟩
       ·rw[if_neg hc,if_neg hc]
        exact⟨_,_,rfl,.inl ⟨by omega,rfl,ha.add _⟩⟩
     ·cases h
    ·cases h
   ·cases h
  ·cases h
 ·cases h
end Ev
end
section
namespace Ev
variable {P:Program} {μ:Mu} {A:AW} {w:World}
def zgh (place:Nat->Option (Nat × Nat)):List Value->List (Nat × Value)->Option (List Value)
 | cs,[]=>some cs
 | cs,(i,v)::r=>match place i with
  | none=>none
  | some (off,size)=>if (zar v).length=size/\off+(zar v).length<=cs.length then zgh place (zaB cs off (zar v)) r else none
theorem zbf:∀v:Value,v.cells.toList=zar v
 | .agg _=>rfl
 | .bool _ | .int _ _ | .float _ _ | .complex _ _ _ | .string _ | .pointer _ | .slice _ _ _ | .map _ | .chan _ | .func _ _ _ | .nilFunc | .iface _ _ | .nilIface | .tuple _=>rfl
theorem zgp:∀(l:List Value) (off i:Nat) (cs:Array Value),off+i+l.length<=cs.size->(l.zipIdx i).foldl (fun(cs:Array Value) (x:Value × Nat)=>cs.setIfInBounds (off+x.2) x.1) cs=(zaB cs.toList (off+i) l).toArray
 | [],off,i,cs,_=>by simp[zaB]
 | v::r,off,i,cs,h=>by
  simp only[xy] at h
  simp only[List.zipIdx_cons,List.foldl_cons]
  rw[zgp r off (i+1) _ (by simp;omega),xk,<- xh,zfG (by simp;omega)]
theorem ziR (place:Nat->Option (Nat × Nat)):∀(ps:List (Nat × Value)) (cs:Array Value) (r:List Value),zgh place cs.toList ps=some r->Instr.fill place cs ps=some r.toArray
 | [],cs,r,h=>by simp only[zgh] at h;cases h;simp[Instr.fill]
 | (i,v)::ps,cs,r,h=>by
  simp only[zgh] at h
  simp only[Instr.fill]
  split at h
  ·cases h
  ·rename_i off size hp
   rw[hp]
   split at h
   ·rename_i hc
    obtain⟨h1,h2⟩:=hc;have hsz:v.cells.size=(zar v).length:=by rw[<- zbf];simp
    have hn:(decide (v.cells.size≠size) || decide (off+v.cells.size>cs.size))=false:=by
     simp only[Bool.or_eq_false_iff,decide_eq_false_iff_not]
     simp only[Array.length_toList] at h2
     exact⟨by omega,by omega⟩
    simp only[hn,xd,if_false]
    apply ziR place ps
    have e:(v.cells.zipIdx.foldl (fun cs (c,j)=>cs.setIfInBounds (off+j) c) cs).toList=zaB cs.toList off (zar v):=by
     rw[<- Array.foldl_toList,Array.toList_zipIdx,zbf];have:=zgp (zar v) off 0 cs (by simpa using h2)
     simp only[xq] at this
     exact congrArg Array.toList this
    rw[e];exact h
   ·cases h
def PR (μ:Mu):List (Nat × Value)->List (Nat × Value)->Prop
 | [],l=>l=[]
 | (i,v)::r,l=>∃v' r',l=(i,v')::r'/\VR μ v v'/\PR μ r r'
theorem zee (place:Nat->Option (Nat × Nat)):∀{ps ps':List (Nat × Value)} {cs cs' r:List Value},PR μ ps ps'->LR μ cs cs'->zgh place cs ps=some r->∃r',zgh place cs' ps'=some r'/\LR μ r r'
 | [],ps',cs,cs',r,hp,hc,h=>by
  simp only[PR] at hp;subst hp
  simp only[zgh] at h;cases h
  exact⟨cs',rfl,hc⟩
 | (i,v)::ps,ps',cs,cs',r,hp,hc,h=>by
  simp only[PR] at hp
  obtain⟨v',ps'',rfl,hv,hp⟩:=hp
  simp only[zgh] at h⊢
  split at h
  ·cases h
  ·rename_i off size hpl
   have hL:=zel hv;rw[zbf] at hL
   split at h
   ·rename_i hcond
    obtain⟨h1,h2⟩:=hcond;rw[if_pos ⟨by rw[hL.len];exact h1,by rw[hL.len,hc.len];exact h2⟩]
    refine zee place hp ?_ h
    simp only[zaB,hL.len]
    exact((hc.take _).append hL).append (hc.drop _)
   ·cases h
noncomputable def zCL (l:Env):List (Nat × Operand)->Option (List (Nat × Value))
 | []=>some []
 | (i,x)::xs=>match opv l x,zCL l xs with
  | some v,some vs=>some ((i,v)::vs)
  | _,_=>none
theorem zlL {l:Env} {a:Act} (h:TR μ l a.tmps.toList):∀{xs:List (Nat × Operand)} {vs:List (Nat × Value)},zCL l xs=some vs->PR μ vs (xs.map fun x=>(x.1,a.eval x.2))
 | [],_,hx=>by cases hx;simp[PR]
 | (i,x)::xs,vs,hx=>by
  simp only[zCL] at hx
  split at hx
  ·rename_i v us h1 h2
   cases hx
   simp only[PR,List.map_cons]
   exact⟨_,_,rfl,zam h h1,zlL h h2⟩
  ·cases hx
def zeC (P:Program):List Field->Option (List (Nat × Nat))
 | []=>some []
 | f::fs=>match P.info? f.type,zeC P fs with
  | some i,some r=>some ((f.offset,i.size)::r)
  | _,_=>none
theorem zho:∀{fs:List Field} {r:List (Nat × Nat)},zeC P fs=some r->(fs.mapM fun f=>do pure (f.offset,<- sizeOf f.type):Sem (List (Nat × Nat))).run P w= .ok r w
 | [],r,h=>by simp only[zeC] at h;cases h;rfl
 | f::fs,r,h=>by
  simp only[zeC] at h
  split at h
  ·rename_i i r' hi hr
   cases h
   have ih:=zho hr
   simp only[List.mapM_cons,Sem.run_bind,rS hi,Result.andThen,Sem.run_pure,ih]
  ·cases h
theorem zlv {fs:Array Field} {r:List (Nat × Nat)} (h:zeC P fs.toList=some r):(fs.mapM fun f=>do pure (f.offset,<- sizeOf f.type):Sem (Array (Nat × Nat))).run P w= .ok r.toArray w:=by
 rw[Array.mapM_eq_mapM_toList]
 simp only[Sem.run_map,zho h,Result.andThen]
noncomputable def zpw (P:Program) (l:Env) (t:TypeId) (ps:List (Nat × Operand)):Option Value:=
 match P.info? t,P.underlying t,zCL l ps with
 | some i,some d,some vs=>match i.zero with
  | some z=>if zco z then
    match d with
    | .struct fields=>match zeC P fields.toList with
     | some pl=>match zgh (fun j=>pl[j]?) (zar z) vs with
      | some cs=>some (.agg ⟨cs⟩)
      | none=>none
     | none=>none
    | .array _ elem=>match P.info? elem with
     | some ie=>match zgh (fun j=>some (j * ie.size,ie.size)) (zar z) vs with
      | some cs=>some (.agg ⟨cs⟩)
      | none=>none
     | none=>none
    | _=>none
   else none
  | none=>none
 | _,_,_=>none
theorem zvt {l:Env} {a:Act} {t:TypeId} {ps:Array (Nat × Operand)} {v:Value} (hl:TR μ l a.tmps.toList) (h:zpw P l t ps.toList=some v):
  ∃v',(Instr.build t (ps.map fun(i,x)=>(i,a.eval x))).run P w= .ok v' w/\VR μ v v':=by
 unfold zpw at h
 split at h
 ·rename_i i d vs hi hd hvs
  have hP:=zlL hl hvs;have eP:(ps.map fun(i,x)=>(i,a.eval x)).toList=ps.toList.map fun x=>(x.1,a.eval x.2):=by simp
  split at h
  ·rename_i z hz
   split at h
   ·rename_i hfz
    have hzz:LR μ (zar z) z.cells.toList:=zel (zbo hfz)
    split at h
    ·rename_i fields
     split at h
     ·rename_i pl hpl
      split at h
      ·rename_i cs hcs
       cases h
       obtain⟨r',h1,h2⟩:=zee _ hP hzz hcs;have h3:=ziR _ _ _ _ h1;refine⟨.agg r'.toArray,?_,by simp only[VR];exact⟨_,rfl,h2⟩⟩
       have e2:(fun j:Nat=>pl.toArray[j]?)=fun j:Nat=>pl[j]? :=by funext j;simp
       simp only[Instr.build,Sem.run_bind,rZ hi hz,Result.andThen,rU hd,zlv hpl,eP,e2,h3,Sem.run_pure]
      ·cases h
     ·cases h
    ·rename_i n elem
     split at h
     ·rename_i ie hie
      split at h
      ·rename_i cs hcs
       cases h
       obtain⟨r',h1,h2⟩:=zee _ hP hzz hcs;have h3:=ziR _ _ _ _ h1;refine⟨.agg r'.toArray,?_,by simp only[VR];exact⟨_,rfl,h2⟩⟩
       simp only[Instr.build,Sem.run_bind,rZ hi hz,Result.andThen,rU hd,rS hie,eP,h3,Sem.run_pure]
      ·cases h
     ·cases h
    ·cases h
   ·cases h
  ·cases h
 ·cases h
def zdi:Nat->List Value->List Value
 | 0,_=>[]
 | n+1,z=>z++zdi n z
theorem znZ (z:List Value):∀(n i:Nat),i<n * z.length->(zdi n z)[i]? =z[i % z.length]?
 | 0,i,h=>by simp at h
 | n+1,i,h=>by
  simp only[zdi]
  have hz:0<z.length:=by
   rcases xw z.length with h0 | h0
   ·rw[h0] at h;simp at h
   ·exact h0
  rcases xI i z.length with hi | hi
  ·rw[List.getElem?_append_left hi,Nat.mod_eq_of_lt hi]
  ·rw[List.getElem?_append_right hi,znZ z n _ (by rw[xB] at h;omega)]
   congr 1
   rw[Nat.mod_eq_sub_mod hi]
theorem zfi (z:List Value):∀n,(zdi n z).length=n * z.length
 | 0=>by simp[zdi]
 | n+1=>by simp[zdi,zfi z n,xB,Nat.add_comm]
theorem zdj (z:Array Value) (n:Nat):(xJ (n * z.size)).map (fun i=>z[i % z.size]!)=(zdi n z.toList).toArray:=by
 apply xj
 intro i
 simp only[Array.getElem?_map,Array.getElem?_range,xf]
 rcases xI i (n * z.size) with h | h
 ·have hz:0<z.size:=by
   rcases xw z.size with h0 | h0
   ·rw[h0] at h;simp at h
   ·exact h0
  have hm:=Nat.mod_lt i hz;rw[znZ z.toList n i (by simpa using h)]
  simp[h,hm]
 ·rw[List.getElem?_eq_none (by rw[zfi];simpa using h)]
  simp;omega
theorem zeV:∀{a b:List Value},zbk a=true->zbk b=true->zbk (a++b)=true
 | [],_,_,h=>h
 | x::a,b,h,h'=>by
  simp only[zbk,xg,xz] at h⊢
  exact⟨h.1,zeV h.2 h'⟩
theorem zeN {z:List Value} (h:zbk z=true):∀n,zbk (zdi n z)=true
 | 0=>rfl
 | n+1=>zeV h (zeN h n)
theorem zgq {z:Value} (h:zco z=true):zbk (zar z)=true:=by
 cases z<;>first
  | (simp only[zar,zbk,xg];exact⟨h,trivial⟩)
  | (rename_i l;obtain⟨l⟩:=l;simpa[zco,zar] using h)
noncomputable def zcN (P:Program) (A:AW) (l:Env) (t len:Nat) (ps:List (Nat × Operand)):Option (Value × AW):=
 match P.underlying t,zCL l ps with
 | some (.slice elem),some vs=>match P.info? elem with
  | some ie=>match ie.zero with
   | some z=>if zco z/\(zar z).length=ie.size/\len * ie.size<=1000000/\ie.size≠0/\len<unk then
     match zgh (fun i=>some (i * ie.size,ie.size)) (zdi len (zar z)) vs with
     | some cs=>some (.slice (some ⟨A.next,0,none⟩) len len,A.push (.cells cs elem false none ie.size))
     | none=>none
    else none
   | none=>none
  | none=>none
 | _,_=>none
theorem zhh {l:Env} {a:Act} {t len:Nat} {ps:Array (Nat × Operand)} {v:Value} {A':AW} (W:WR μ A w) (hl:TR μ l a.tmps.toList) (h:zcN P A l t len ps.toList=some (v,A')):
  ∃μ' v' w',(Instr.buildSlice t len (ps.map fun(i,x)=>(i,a.eval x))).run P w= .ok v' w'/\VR μ' v v'/\WR μ' A' w'/\Ext μ A w μ' A' w':=by
 unfold zcN at h
 split at h
 ·rename_i elem vs hd hvs
  have hP:=zlL hl hvs;have eP:(ps.map fun(i,x)=>(i,a.eval x)).toList=ps.toList.map fun x=>(x.1,a.eval x.2):=by simp
  split at h
  ·rename_i ie hie
   split at h
   ·rename_i z hz
    split at h
    ·rename_i hc
     obtain⟨hfz,hzl,hlen,hne,hu⟩:=hc
     split at h
     ·rename_i cs hcs
      cases h
      have hzz:LR μ (zdi len (zar z)) (zdi len (zar z)):=zaJ (zeN (zgq hfz) _);obtain⟨r',h1,h2⟩:=zee _ hP hzz hcs;have e1:∀z0:Array Value,(len * ie.size=0\/z0=z.cells)->(xJ (len * ie.size)).map (fun x=>z0[x % z0.size]!)=(zdi len (zar z)).toArray:=by
       intro z0 hz0
       by_cases h0:len * ie.size=0
       ·have:len=0:=by
         rcases Nat.mul_eq_zero.1 h0 with h5 | h5
         ·exact h5
         ·exact absurd h5 hne
        subst this
        simp[zdi]
       ·obtain rfl:=hz0.resolve_left h0
        have:=zdj z.cells len;rw[show z.cells.size=ie.size by rw[<- hzl,<- zbf];simp] at this⊢
        rw[this,zbf]
      have h3:=ziR (fun i=>some (i * ie.size,ie.size)) _ (zdi len (zar z)).toArray _ h1
      obtain⟨w',h4,h5,h6⟩:=zlT (P:=P) (t:=elem) (es:=ie.size) W h2;refine⟨_,.slice (some ⟨w.heap.size,0,none⟩) len len,w',?_,?_,h5,h6⟩
      ·have hbig:¬len * ie.size>2 ^ 24:=by omega
       unfold Instr.buildSlice
       simp only[Sem.run_bind,rU hd,rS hie,Result.andThen,hbig,if_false]
       by_cases h0:len * ie.size=0
       ·rw[if_pos h0]
        simp only[Sem.run_bind,Sem.run_pure,Result.andThen]
        rw[e1 #[] (.inl h0),eP,h3]
        simp only[Sem.run_bind,h4,Result.andThen,Sem.run_pure]
       ·rw[if_neg h0]
        simp only[Sem.run_bind,Sem.run_pure,Result.andThen,rZ hie hz]
        rw[e1 z.cells (.inr rfl),eP,h3]
        simp only[Sem.run_bind,h4,Result.andThen,Sem.run_pure]
      ·simp only[VR]
       exact⟨_,_,rfl,.inl ⟨by omega,rfl,zpy (W.dom _ (xb _))⟩⟩
     ·cases h
    ·cases h
   ·cases h
  ·cases h
 ·cases h
end Ev
end
section
namespace Ev
variable {P:Program} {μ:Mu} {A:AW} {w:World}
def zBR (P:Program) (t:TypeId) (l:List Value) (off:Nat):Option Value:=
 match P.underlying t,P.info? t with
 | some d,some i=>if aggB d then some (.agg ⟨(l.drop off).take i.size⟩) else l[off]?
 | _,_=>none
theorem zyb {t off:Nat} {l:List Value} {l':Array Value} {v:Value} (hl:LR μ l l'.toList) (h:zBR P t l off=some v):∃v',(part t l' off).run P w= .ok v' w/\VR μ v v':=by
 unfold zBR at h
 split at h
 ·rename_i d i hd hi
  split at h
  ·rename_i hagg
   cases h
   refine⟨.agg (l'.extract off (off+i.size)),?_,?_⟩
   ·simp[part,rAgg hd,hagg,rS hi]
   ·simp only[VR]
    refine⟨_,rfl,?_⟩;rw[Array.toList_extract]
    simp only[List.extract]
    rw[show off+i.size - off=i.size by omega];exact(hl.drop _).take _
  ·rename_i hagg
   obtain⟨v',h1,h2⟩:=hl.get h;refine⟨v',?_,h2⟩;have h3:l'[off]? =some v':=by rw[<- xe];exact h1
   simp[part,rAgg hd,hagg,h3]
 ·cases h
def zjn (P:Program) (t:TypeId) (f:Nat):Value->Option Value
 | .agg ⟨l⟩=>match P.underlying t with
  | some (.struct fields)=>match fields[f]? with
   | some fd=>zBR P fd.type l fd.offset
   | none=>none
  | _=>none
 | _=>none
theorem zqH {t f:Nat} {x x' v:Value} (hx:VR μ x x') (h:zjn P t f x=some v):∃v',(Instr.field t x' f).run P w= .ok v' w/\VR μ v v':=by
 unfold zjn at h
 split at h
 ·rename_i l
  simp only[VR] at hx
  obtain⟨l',rfl,hl⟩:=hx
  split at h
  ·rename_i fields hd
   split at h
   ·rename_i fd hf
    obtain⟨v',h1,h2⟩:=zyb (w:=w) hl h;exact⟨v',by simp[Instr.field,rU hd,hf,asAgg,h1],h2⟩
   ·cases h
  ·cases h
 ·cases h
def zfx (i:Nat):Value->Option Value
 | .tuple ⟨l⟩=>l[i]?
 | _=>none
theorem zno {i:Nat} {x x' v:Value} (hx:VR μ x x') (h:zfx i x=some v):∃v',(Instr.extract x' i).run P w= .ok v' w/\VR μ v v':=by
 unfold zfx at h
 split at h
 ·simp only[VR] at hx
  obtain⟨l',rfl,hl⟩:=hx;obtain⟨v',h1,h2⟩:=hl.get h;have h3:l'[i]? =some v':=by rw[<- xe];exact h1
  exact⟨v',by simp[Instr.extract,h3],h2⟩
 ·cases h
def zpu (P:Program) (t:TypeId) (v:Value):Option Value:=
 match P.underlying t with
 | some (.interface _) | none=>none
 | some _=>some (.iface t v)
theorem zvp {t:Nat} {x x' v:Value} (hx:VR μ x x') (h:zpu P t x=some v):∃v',(Instr.makeInterface t x').run P w= .ok v' w/\VR μ v v':=by
 unfold zpu at h
 split at h
 ·cases h
 ·cases h
 ·rename_i d hn hd
  cases h
  refine⟨.iface t x',?_,by simp only[VR];exact⟨_,rfl,hx⟩⟩
  simp only[Instr.makeInterface,Sem.run_bind,rU hd,Result.andThen]
  cases d<;>first | rfl | exact absurd hd (hn _)
def zoj:Value->Bool
 | .pointer (some _) | .func (.func _) _ _ | .iface _ _=>true
 | _=>false
noncomputable def zuC (P:Program) (A:AW) (t:TypeId):Value->Value->Option Bool
 | .pointer none,.pointer (some _) | .pointer (some _),.pointer none=>match P.underlying t with
  | some (.pointer _)=>some false
  | _=>none
 | .pointer (some a),.pointer (some b)=>match P.underlying t with
  | some (.pointer e)=>match P.info? e with
   | some i=>if i.size=0 then none else if a.block=b.block then some (a.off==b.off) else
     match A.get a.block,A.get b.block with
     | some (.cells _ _ _ none _),some (.cells _ _ _ none _)=>some false
     | _,_=>none
   | none=>none
  | _=>none
 | _,_=>none
theorem zoY {t d:Nat} {x x' y y':Value} {r:Bool} (W:WR μ A w) (hx:VR μ x x') (hy:VR μ y y') (h:zuC P A t x y=some r):(Op.equalIn (d+1) t x' y').run P w= .ok r w:=by
 unfold zuC at h
 split at h
 ·simp only[VR] at hx hy
  subst hx;obtain⟨a',rfl,_⟩:=hy
  split at h
  ·rename_i hd;cases h
   simp[Op.equalIn,rU hd]
  ·cases h
 ·simp only[VR] at hx hy
  subst hy;obtain⟨a',rfl,_⟩:=hx
  split at h
  ·rename_i hd;cases h
   simp[Op.equalIn,rU hd]
  ·cases h
 ·rename_i a b
  simp only[VR] at hx hy
  obtain⟨a',rfl,ha0,la,ha1,rfl⟩:=hx;obtain⟨b',rfl,hb0,lb,hb1,rfl⟩:=hy
  split at h
  ·rename_i e hd
   split at h
   ·rename_i i hi
    split at h
    ·cases h
    ·rename_i hz
     split at h
     ·rename_i hbl
      cases h
      rw[hbl,hb1] at ha1;cases ha1;have:(({block:=la.b,off:=la.d+a.off,spot:=none}:Addr)=={block:=la.b,off:=la.d+b.off,spot:=none})=(a.off==b.off):=by
       rw[Bool.eq_iff_iff];simp
      simp[Op.equalIn,rU hd,rS hi,hz,sameAddr,this]
     ·rename_i hbl
      split at h
      ·rename_i vs ty op es us ty' op' es' hga hgb
       cases h
       obtain⟨c1,fr1,h1,_,_,_,_,_,hf1⟩:=W.cells ha1 hga;obtain⟨c2,fr2,h2,_,_,_,_,_,hf2⟩:=W.cells hb1 hgb
       simp only[FZ] at hf1 hf2
       subst hf1 hf2;have hne:la.b≠lb.b:=fun hb=>hbl (W.inj _ _ _ _ _ _ hga hgb ha1 hb1 hb)
       simp[Op.equalIn,rU hd,rS hi,hz,sameAddr,hne,World.frozen?,h1,h2,noView,viewAt,World.shape?,mayBeOne,stringish]
      ·cases h
   ·cases h
  ·cases h
 ·cases h
def zxE (P:Program) (t:TypeId):Value->Value->Option Bool
 | .slice none _ _,.slice (some _) _ _ | .slice (some _) _ _,.slice none _ _=>match P.underlying t with
  | some (.slice _)=>some false
  | _=>none
 | .map none,.map (some _) | .map (some _),.map none=>match P.underlying t with
  | some (.map _ _)=>some false
  | _=>none
 | .nilFunc,.func (.func _) _ _ | .func (.func _) _ _,.nilFunc=>match P.underlying t with
  | some (.func _ _ _)=>some false
  | _=>none
 | .nilIface,.iface _ _ | .iface _ _,.nilIface=>match P.underlying t with
  | some (.interface _)=>some false
  | _=>none
 | _,_=>none
theorem zxD {t d:Nat} {x x' y y':Value} {r:Bool} (hx:VR μ x x') (hy:VR μ y y') (h:zxE P t x y=some r):(Op.equalIn (d+1) t x' y').run P w= .ok r w:=by
 unfold zxE at h
 split at h
 ·simp only[VR] at hx hy;subst hx;obtain⟨_,_,rfl,_⟩:=hy
  split at h
  ·rename_i hd;cases h;simp[Op.equalIn,rU hd]
  ·cases h
 ·simp only[VR] at hx hy;subst hy;obtain⟨_,_,rfl,_⟩:=hx
  split at h
  ·rename_i hd;cases h;simp[Op.equalIn,rU hd]
  ·cases h
 ·simp only[VR] at hx hy;subst hx;obtain⟨_,rfl,_⟩:=hy
  split at h
  ·rename_i hd;cases h;simp[Op.equalIn,rU hd]
  ·cases h
 ·simp only[VR] at hx hy;subst hy;obtain⟨_,rfl,_⟩:=hx
  split at h
  ·rename_i hd;cases h;simp[Op.equalIn,rU hd]
  ·cases h
 ·rename_i f x1 y1;obtain⟨x1⟩:=x1;obtain⟨y1⟩:=y1
  simp only[VR] at hx hy;subst hx;obtain⟨_,_,rfl,_⟩:=hy
  split at h
  ·rename_i hd;cases h;simp[Op.equalIn,rU hd]
  ·cases h
 ·rename_i f x1 y1;obtain⟨x1⟩:=x1;obtain⟨y1⟩:=y1
  simp only[VR] at hx hy;subst hy;obtain⟨_,_,rfl,_⟩:=hx
  split at h
  ·rename_i hd;cases h;simp[Op.equalIn,rU hd]
  ·cases h
 ·simp only[VR] at hx hy;subst hx;obtain⟨_,rfl,_⟩:=hy
  split at h
  ·rename_i hd;cases h;simp[Op.equalIn,rU hd]
  ·cases h
 ·simp only[VR] at hx hy;subst hy;obtain⟨_,rfl,_⟩:=hx
  split at h
  ·rename_i hd;cases h;simp[Op.equalIn,rU hd]
  ·cases h
 ·cases h
noncomputable def zmZ (P:Program) (A:AW) (t:TypeId) (x y:Value):Option Bool:=
 match zuC P A t x y with
 | some r=>some r
 | none=>match zxE P t x y with
  | some r=>some r
  | none=>match P.underlying t,x,y with
   | some (.interface _),.iface tx vx,.iface ty vy=>if tx≠ty then some false else match P.info? tx with
    | some i=>if i.comparable then zuC P A tx vx vy else none
    | none=>none
   | _,_,_=>none
theorem zxG {t d:Nat} {x x' y y':Value} {r:Bool} (W:WR μ A w) (hx:VR μ x x') (hy:VR μ y y') (h:zmZ P A t x y=some r):(Op.equalIn (d+1+1) t x' y').run P w= .ok r w:=by
 unfold zmZ at h
 split at h
 ·rename_i r' hr;cases h;exact zoY W hx hy hr
 ·split at h
  ·rename_i r' hr;cases h;exact zxD hx hy hr
  ·split at h
   ·rename_i ms tx vx ty vy hd _ _
    simp only[VR] at hx hy
    obtain⟨vx',rfl,hvx⟩:=hx;obtain⟨vy',rfl,hvy⟩:=hy
    split at h
    ·rename_i hne;cases h
     rw[Op.equalIn]
     simp only[Sem.run_bind,rU hd,Result.andThen,hne,if_true,Sem.run_pure,ne_eq,not_false_eq_true]
    ·rename_i hne
     split at h
     ·rename_i i hi
      split at h
      ·rename_i hcmp
       have h1:=zoY (d:=d) W hvx hvy h;have hte:tx=ty:=by simpa using hne
       subst hte;rw[Op.equalIn]
       simp only[Sem.run_bind,rU hd,Result.andThen,ne_eq,not_true,if_false,rT hi,hcmp,Bool.not_true,xd]
       exact h1
      ·cases h
     ·cases h
   ·cases h
theorem zxF {t:Nat} {x x' y y':Value} {r:Bool} (W:WR μ A w) (hx:VR μ x x') (hy:VR μ y y') (h:zmZ P A t x y=some r):(Op.equal t x' y').run P w= .ok r w:=
 zxG (d:=9998) W hx hy h
def zkY:Value->Bool
 | .pointer _ | .slice _ _ _ | .map _ | .func _ _ _ | .nilFunc | .iface _ _=>true
 | _=>false
noncomputable def aEq (P:Program) (A:AW) (op:BinOp) (t:TypeId) (x y:Value):Option Value:=
 if zkY x || zkY y then
  match op,zmZ P A t x y with
  | .eql,some r=>some (.bool r)
  | .neq,some r=>some (.bool (!r))
  | _,_=>none
 else none
theorem zmY {t:Nat} {x y:Value} {r:Bool} (h:zmZ P A t x y=some r):(∃a b,x= .pointer a/\y= .pointer b)\/(∃a b c a' b' c',x= .slice a b c/\y= .slice a' b' c')\/(∃a b,x= .map a/\y= .map b)\/(∃f u v,x= .nilFunc/\y= .func f u v)\/(∃f u v,y= .nilFunc/\x= .func f u v)
  \/(∃a b,x= .nilIface/\y= .iface a b)\/(∃a b,y= .nilIface/\x= .iface a b)\/(∃a b c d,x= .iface a b/\y= .iface c d):=by
 unfold zmZ at h
 split at h
 ·rename_i hr
  unfold zuC at hr
  split at hr<;>first | exact .inl ⟨_,_,rfl,rfl⟩ | cases hr
 ·split at h
  ·rename_i hr
   unfold zxE at hr
   split at hr<;>first
    | exact .inr (.inl ⟨_,_,_,_,_,_,rfl,rfl⟩)
    | exact .inr (.inr (.inl ⟨_,_,rfl,rfl⟩))
    | exact .inr (.inr (.inr (.inl ⟨_,_,_,rfl,rfl⟩)))
    | exact .inr (.inr (.inr (.inr (.inl ⟨_,_,_,rfl,rfl⟩))))
    | exact .inr (.inr (.inr (.inr (.inr (.inl ⟨_,_,rfl,rfl⟩)))))
    | exact .inr (.inr (.inr (.inr (.inr (.inr (.inl ⟨_,_,rfl,rfl⟩))))))
    | cases hr
  ·split at h
   ·exact .inr (.inr (.inr (.inr (.inr (.inr (.inr ⟨_,_,_,_,rfl,rfl⟩))))))
   ·cases h
end Ev
end
section
namespace Ev
variable {P:Program} {μ:Mu} {A:AW} {w:World}
theorem WR.drop (W:WR μ A w) (i:Nat):WR μ (A.set i none) w/\Ext μ A w μ (A.set i none) w:=by
 have get':∀n on,(A.set i none).get n=some on->A.get n=some on:=fun n on h=>by
  rw[AW.get_set] at h
  split at h
  ·cases h
  ·exact h
 exact⟨⟨fun j oj l hj=>W.has j oj l (get' j oj hj),fun j m oj om lj lm hj hm h1 h2 h3=>W.inj j m oj om lj lm (get' _ _ hj) (get' _ _ hm) h1 h2 h3,W.dom⟩,
  ⟨Le.refl _,xb _,rfl,rfl,rfl,fun _ _ _=>rfl,fun j oj l hj hl=>.inr ⟨j,oj,l,get' _ _ hj,hl,rfl⟩,xb _,fun _ _=>rfl⟩⟩
theorem WR.swap (W:WR μ A w) {i:Nat} {l l':Loc} {o0 o:zbK} {o':Obj} (hg:A.get i=some o0) (hm:μ i=some l) (hb:l'.b=l.b) (ho:OR (μ.add A.next l') l' o o'):
  WR (μ.add A.next l') ((A.set i none).push o) {w with heap:=w.heap.setIfInBounds l.b o'}/\Ext μ A w (μ.add A.next l') ((A.set i none).push o) {w with heap:=w.heap.setIfInBounds l.b o'}:=by
 have hlt:=W.lt hg hm;have hd:=W.dom A.next (xb _);have hle:Le μ (μ.add A.next l'):=Mu.add_le hd;have hnx:(A.set i none).next=A.next:=rfl;have get':∀n on,((A.set i none).push o).get n=some on->(n=A.next/\on=o)\/(n≠i/\n≠A.next/\A.get n=some on):=fun n on h=>by
  rw[AW.get_push,hnx] at h
  split at h
  ·rename_i e;cases h;exact .inl ⟨e,rfl⟩
  ·rename_i e
   rw[AW.get_set] at h
   split at h
   ·cases h
   ·rename_i e2;exact .inr ⟨e2,e,h⟩
 have old:∀n,n≠A.next->(μ.add A.next l') n=μ n:=fun n hn=>Mu.add_ne hn
 constructor
 ·refine⟨fun j oj lj hj h4=>?_,fun j m oj om lj lm hj hm' h1 h2 h3=>?_,fun n hn=>?_⟩
  ·rcases get' j oj hj with ⟨rfl,rfl⟩ | ⟨h1,h2,h3⟩
   ·rw[Mu.add_get hd] at h4;cases h4
    exact⟨o',by rw[hb];simp[hlt],ho⟩
   ·rw[old j h2] at h4
    obtain⟨oj',h5,h6⟩:=W.has j oj lj h3 h4;refine⟨oj',?_,h6.mono hle⟩;have:l.b≠lj.b:=fun e=>h1 (W.inj j i oj o0 lj l h3 hg h4 hm e.symm)
    simp[this,h5]
  ·rcases get' j oj hj with ⟨rfl,rfl⟩ | ⟨h4,h5,h6⟩
   ·rcases get' m om hm' with ⟨rfl,rfl⟩ | ⟨h7,h8,h9⟩
    ·rfl
    ·rw[Mu.add_get hd] at h1;cases h1
     rw[old m h8] at h2;exact absurd (W.inj m i om o0 lm l h9 hg h2 hm (by rw[<- h3,hb])) h7
   ·rw[old j h5] at h1
    rcases get' m om hm' with ⟨rfl,rfl⟩ | ⟨h7,h8,h9⟩
    ·rw[Mu.add_get hd] at h2;cases h2
     exact absurd (W.inj j i oj o0 lj l h6 hg h1 hm (by rw[h3,hb])) h4
    ·rw[old m h8] at h2
     exact W.inj j m oj om lj lm h6 h9 h1 h2 h3
  ·have:n≠A.next:=by simp only[AW.push,hnx] at hn;omega
   rw[old n this];exact W.dom n (by simp only[AW.push,hnx] at hn;omega)
 ·refine⟨hle,by simp,rfl,rfl,rfl,fun b' hb' hn=>?_,fun j oj lj hj h1=>?_,by simp[AW.push,hnx],fun n hn=>old n (by omega)⟩
  ·have:l.b≠b':=hn i o0 l hg hm
   simp[this]
  ·rcases get' j oj hj with ⟨rfl,rfl⟩ | ⟨h4,h5,h6⟩
   ·rw[Mu.add_get hd] at h1;cases h1
    exact .inr ⟨i,o0,l,hg,hm,hb.symm⟩
   ·rw[old j h5] at h1
    exact .inr ⟨j,oj,lj,h6,h1,rfl⟩
def zca (s:ByteArray) (n:Nat):List Value:=((s.extract 0 n).data.map fun b=>Value.int .u8 b.toNat).toList
noncomputable def zlb (A:AW) (size n:Nat):Value->Option (List Value)
 | .slice none _ _=>some []
 | .slice (some b) _ _=>if n=0 then some [] else match A.get b.block with
  | some (.cells vs _ _ _ _)=>if b.off+n * size<=vs.length then some ((vs.drop b.off).take (n * size)) else none
  | _=>none
 | .string s=>some (zca s n)
 | _=>none
def zou:Value->Option Nat
 | .slice _ n _=>some n
 | .string s=>some s.size
 | _=>none
theorem zcL {x x':Value} {n:Nat} (hx:VR μ x x') (h:zou x=some n):(Builtin.lenOf x').run P w= .ok n w:=by
 unfold zou at h
 split at h
 ·rename_i a m c
  cases h
  cases a with
  | none=>simp only[VR] at hx;subst hx;rfl
  | some a=>simp only[VR] at hx;obtain⟨_,_,rfl,_⟩:=hx;rfl
 ·cases h;simp only[VR] at hx;subst hx;rfl
 ·cases h
theorem zdL:∀l:List UInt8,zbk (l.map fun b=>Value.int .u8 b.toNat)=true
 | []=>rfl
 | x::l=>by simp[zbk,zco,zdL l]
theorem zbS {x x':Value} {size n m:Nat} {xs:List Value} (W:WR μ A w) (hx:VR μ x x') (hm:zou x=some m) (hn:n<=m) (h:zlb A size n x=some xs):∃xs':List Value,(Builtin.firstCells size n x').run P w= .ok xs'.toArray w/\LR μ xs xs':=by
 unfold zlb at h
 split at h
 ·cases h;simp only[VR] at hx;subst hx
  exact⟨[],rfl,LR.nil⟩
 ·rename_i b m' c
  simp only[zou] at hm;cases hm
  simp only[VR] at hx
  obtain⟨b',c',rfl,hs⟩:=hx
  split at h
  ·rename_i h0;cases h;subst h0
   exact⟨[],by simp[Builtin.firstCells,loadCells,loadCellsFrom],LR.nil⟩
  ·rename_i h0
   split at h
   ·rename_i vs t op fz es hg
    split at h
    ·rename_i hle
     cases h
     obtain⟨xs',h1,h2⟩:=zcs (P:=P) W (hs.addr (by omega)) hg hle
     exact⟨xs',by simpa[Builtin.firstCells] using h1,h2⟩
    ·cases h
   ·cases h
 ·rename_i s
  cases h;simp only[VR] at hx;subst hx
  refine⟨zca s n,by simp only[Builtin.firstCells,zca,Sem.run_pure,Array.toArray_toList],zaJ ?_⟩
  unfold zca;rw[Array.toList_map];exact zdL _
 ·cases h
theorem zky (need:Nat):∀(r c:Nat),c<=2 * need+768->Builtin.growBy need r c<=2 * need+768
 | 0,_,h=>h
 | r+1,c,h=>by
  simp only[Builtin.growBy]
  split
  ·exact h
  ·exact zky need r _ (by omega)
theorem zpR {need c:Nat} (h:c<need):Builtin.nextslicecap need c<=2 * need+768:=by
 unfold Builtin.nextslicecap
 split
 ·omega
 ·split
  ·omega
  ·exact zky need 4 c (by omega)
def zeM:Option Nat->Nat->Option (Option Nat)
 | none,_=>some none
 | some m,o=>if m<=o then some (some 0) else none
noncomputable def znq (A:AW) (elem size:Nat) (s x:Value) (n:Nat):Option (Value × AW):=
 match s,zlb A size n x with
 | .slice none 0 0,some xs=>if n=0 then some (.slice none 0 0,A) else
   if xs.length=n * size then some (.slice (some ⟨A.next,0,none⟩) n unk,A.push (.cells xs elem true none size)) else none
 | .slice (some a) len cap,some xs=>
  if xs.length=n * size/\a.spot=none then
  if n=0/\(cap=unk\/len<=cap) then some (.slice (some a) len cap,A)
  else if cap≠unk/\len=0/\cap<n then some (.slice (some ⟨A.next,0,none⟩) n unk,A.push (.cells xs elem true none size))
  else match A.get a.block with
  | some (.cells vs t op fz es)=>
   if cap=unk then
    if a.off+len * size<=vs.length/\es=size/\t=elem/\xs.all (·.oneCell')=true then
     match zeM fz a.off with
     | some fz'=>some (.slice (some ⟨A.next,0,none⟩) (len+n) unk,(A.set a.block none).push (.cells ((vs.drop a.off).take (len * size)++xs) elem true fz' size))
     | none=>none
    else none
   else if len+n<=cap then
    if a.off+len * size+xs.length<=vs.length/\xs.all (·.oneCell')=true/\zCc fz (a.off+len * size)=true then
     some (.slice (some a) (len+n) cap,A.set a.block (some (.cells (zaB vs (a.off+len * size) xs) t op fz es)))
    else none
   else if a.off+len * size<=vs.length/\0<len then
    some (.slice (some ⟨A.next,0,none⟩) (len+n) unk,A.push (.cells ((vs.drop a.off).take (len * size)++xs) elem true none size))
   else none
  | _=>none
  else none
 | _,_=>none
def zoE:TypeDesc->Bool
 | .int _=>true
 | _=>false
structure AppT (P:Program) (sType xType elem size:Nat) where
 ie:TypeInfo
 z:Value
 dx:TypeDesc
 hd:P.underlying sType=some (.slice elem)
 hx:P.underlying xType=some dx
 hn:zoE dx=false
 hi:P.info? elem=some ie
 hs:ie.size=size
 hz:ie.zero=some z
 hf:zco z=true
 hl:(zar z).length=size
 hb:ie.bytes<=65536
 h0:0<size
theorem zpn {sType xType elem size : Nat} (T : AppT P sType xType elem size) {base : Option Addr} {x' : Value} {len cap n : Nat} {xs' : List Value} {type : Nat} {w' : World} (hlen : (Builtin.lenOf x').run P w = .ok n w) (hle : len + n ≤ cap) (hc : (Builtin.firstCells size n x').run P w = .ok xs'.toArray w)
    (hst : ∀ a, base = some a → (storeCells (a.add (len * size)) xs').run P w = .ok () w') (hno : base = none → w' = w) :
    (Builtin.append_ #[sType, xType] type #[.slice base len cap, x']).run P w = .ok (.slice base (len + n) cap) w' := by
  unfold Builtin.append_
  simp only [xf, xn, xp, Sem.run_bind, rU T.hd, rU T.hx, Result.andThen, rS T.hi, T.hs, Sem.run_pure]
  have e := T.hn
  cases hdx : T.dx <;> simp only [hdx, zoE] at e <;> first
    | (cases e; done)
    | (simp only [xd, if_false, hlen, Result.andThen, hle, if_true, Sem.run_bind, xG, hc]
       cases base with
       | none => simp [hno rfl]
       | some a => simp [hst a rfl])
theorem zvd {sType xType elem size : Nat} (T : AppT P sType xType elem size) {base : Option Addr} {x' : Value} {len cap n : Nat} {os' xs' : List Value} {type : Nat} (hlen : (Builtin.lenOf x').run P w = .ok n w) (hgt : cap < len + n) (hsm : len + n ≤ 1000000)
    (ho : (Builtin.firstCells size len (.slice base len cap)).run P { w with drawn := w.drawn + 1 } = .ok os'.toArray { w with drawn := w.drawn + 1 })
    (hc : (Builtin.firstCells size n x').run P { w with drawn := w.drawn + 1 } = .ok xs'.toArray { w with drawn := w.drawn + 1 }) :
    ∃ m, len + n ≤ m ∧ (Builtin.append_ #[sType, xType] type #[.slice base len cap, x']).run P w =
      .ok (.slice (some ⟨w.heap.size, 0, none⟩) (len + n) m) { { w with drawn := w.drawn + 1 } with heap := w.heap.push (.cells (os' ++ xs' ++ zdi (m - (len + n)) (zar T.z)).toArray elem) } := by
  have hnx := zpR hgt
  have hb : ¬ Builtin.nextslicecap (len + n) cap * T.ie.bytes > 2 ^ 48 := by
    have h1 : Builtin.nextslicecap (len + n) cap * T.ie.bytes ≤ 2000768 * 65536 := Nat.mul_le_mul (by omega) T.hb
    omega
  have hbig : ¬ ((len + n : Nat) : Int) > IntKind.i64.max := by
    have : (1000000 : Int) ≤ IntKind.i64.max := by decide
    omega
  have hle : ¬ len + n ≤ cap := by omega
  refine ⟨Question.cut (.appendCap (len + n) cap elem) (w.tape w.drawn (.appendCap (len + n) cap elem)), by simp [Question.cut], ?_⟩
  have hz : ∀ m, Builtin.zeroCells T.z.cells m = (zdi m (zar T.z)).toArray := fun m => by
    unfold Builtin.zeroCells
    rw [zdj, zbf]
  unfold Builtin.append_
  simp only [xf, xn, xp, Sem.run_bind, rU T.hd, rU T.hx, Result.andThen, rS T.hi, T.hs, Sem.run_pure]
  have e := T.hn
  cases hdx : T.dx <;> simp only [hdx, zoE] at e <;> first
    | (cases e; done)
    | (simp only [xd, if_false, hlen, Result.andThen, hle, Sem.run_bind, xG, if_true, rT T.hi, hbig, false_and, hb, run_choose, Question.forced, run_askRoom, ho, hc, rZ T.hi T.hz, hz, newRow, run_newObj, Sem.run_pure]
       simp)
end Ev
end
end Go.Proofs.YtbbapnpdfcgjnaaGreatDoor
