/- Ev18, EvT, EvA, EvR: parts of the proof, joined. -/
import Derived.OrdersIn
import Derived.Test.YtbbapnpdfcgjnaaGreatDoorWZz
import Derived.Test.YtbbapnpdfcgjnaaGreatDoorWEv13
open Array renaming getD_eq_getD_getElem?->sD, toList_setIfInBounds->sH, length_toList->sJ, getElem?_replicate->sK, getElem?_eq_some_iff->sT, getElem?_toList->sV, mem_toList_iff->sY, toList_inj->tf
open Bool renaming and_eq_true->sE
open List renaming range->sG, all_eq_true->sI, take_of_length_le->sM, length_cons->sO, length_filter_le->sX, getElem?_set_ne->sZ, drop_zero->ta, filter_append->tc, length_append->td
open Nat renaming le_refl->sL, le_trans->sU, le_of_ble_eq_true->sW, lt_or_ge->te, zero_le->tg
open Go renaming Value->sN, Program->sP, World->sQ, FuncId->tn
open Option.some renaming inj->sR
open Go.Region renaming ready->sS
set_option maxHeartbeats 64000000
namespace Go.Proofs.YtbbapnpdfcgjnaaGreatDoor
section
namespace Ev
variable {P:sP}
def qj(A:AW):List AW->AW
 |[]=>A
 |B::r=>qj B r
theorem qi:∀(A:AW)(Ms:List AW),(A::Ms)[Ms.length]?=some (qj A Ms)
 |A,[]=>rfl
 |A,B::r=>by simp only[sO,List.getElem?_cons_succ,qj];exact qi B r
noncomputable def zbA(P:sP)(ops:Array Oper)(size:Nat):List Oper->bR->AW->AW->Option AW
 |[],_,_,B=>some B
 |o::r,l,A,B=>if early o then zfa l (o.looksAt ops) fun m=>match mkE P (o.looksAt ops) m o with
   |some (v0,obj)=>dj ⟨l,size,[]⟩ o.dst (rn B.next v0) fun a'=>zbA P ops size r a'.tmps A (B.push obj)
   |none=>none
  else if ig P o then zbA P ops size r l A B
  else match kK P l o A with
   |some (v,_)=>fV v fun v=>dj ⟨l,size,[]⟩ o.dst v fun a'=>zbA P ops size r a'.tmps A B
   |none=>zbA P ops size r l A B
theorem WR.later{μ:Mu}{A:AW}{w:sQ}(W:WR μ A w)(o:bz):WR μ (A.push o) w/\bG μ A w μ (A.push o) w:=by
 have get':∀j oj l,(A.push o).get j=some oj->μ j=some l->A.get j=some oj:=fun j oj l hj hl=>by
  rw[AW.get_push]at hj;split at hj
  ·rename_i e;subst e;rw[W.dom _ (sL _)]at hl;cases hl
  ·exact hj
 refine⟨⟨fun j oj l hj hl=>W.has j oj l (get' j oj l hj hl) hl,fun i j oi oj li lj hi hj h1 h2=>W.inj i j oi oj li lj (get' _ _ _ hi h1) (get' _ _ _ hj h2) h1 h2,fun i hi=>W.dom i (by simp only[AW.push]at hi;omega)⟩,
  ⟨Le.refl _,sL _,rfl,rfl,rfl,fun _ _ _=>rfl,fun j oj l hj hl=>.inr ⟨j,oj,l,get' _ _ _ hj hl,hl,rfl⟩,by simp[AW.push],fun _ _=>rfl⟩⟩
theorem zbz{μ:Mu}{w:sQ}{ops:Array Oper}{size:Nat}:∀(os:List Oper)(i:Nat)(l:bR)(A B B':AW),ops.toList.drop i=os->zbA P ops size os l A B=some B'->WR μ B w->WR μ B' w/\bG μ B w μ B' w/\B'.next+bO ops i=B.next+bO ops (i+os.length)
 |[],i,l,A,B,B',_,h,W=>by simp only[zbA]at h;cases h;exact⟨W,bG.refl,by simp⟩
 |o::r,i,l,A,B,B',hos,h,W=>by
  obtain⟨ho',hor⟩:=bA hos;have ho:ops[i]?=some o:=by rw[<-sV];exact ho'
  have hisy:bZ ops i=early o:=by simp[bZ,ho]
  have hlen:i+(o::r).length=i+1+r.length:=by simp only[sO];omega
  simp only[zbA]at h;split at h
  ·rename_i he;rw[lQ]at h;split at h
   ·rename_i v0 obj hmk;rw[bN]at h;obtain⟨W1,E1⟩:=W.later obj;obtain⟨h1,h2,h3⟩:=zbz r (i+1) _ _ _ B' hor h W1;refine⟨h1,E1.trans h2,?_⟩;rw[hlen];have:bO ops (i+1)=bO ops i+1:=by simp[bO,hisy,he]
    simp only[AW.push]at h3;omega
   ·cases h
  ·rename_i he;have hsame:bO ops (i+1)=bO ops i:=by simp[bO,hisy,he]
   have go:∀l,zbA P ops size r l A B=some B'->WR μ B' w/\bG μ B w μ B' w/\B'.next+bO ops i=B.next+bO ops (i+(o::r).length):=fun l h=>by obtain⟨h1,h2,h3⟩:=zbz r (i+1) l A B B' hor h W;refine⟨h1,h2,?_⟩;rw[hlen];omega
   split at h
   ·exact go _ h
   ·split at h
    ·rw[ka,bN]at h;exact go _ h
    ·exact go _ h
theorem zaF{ops:Array Oper}:∀(os:List Oper)(i:Nat),ops.toList.drop i=os->os.any early=false->bO ops (i+os.length)=bO ops i
 |[],i,_,_=>by simp
 |o::r,i,hos,h=>by
  obtain⟨ho',hor⟩:=bA hos;have ho:ops[i]?=some o:=by rw[<-sV];exact ho'
  simp only[List.any_cons,Bool.or_eq_false_iff]at h;have h1:=zaF r (i+1) hor h.2;have hsame:bO ops (i+1)=bO ops i:=by simp[bO,bZ,ho,h.1]
  rw[show i+(o::r).length=i+1+r.length by simp only[sO];omega,h1,hsame]
def mu0:Mu:=⟨fun g=>(iK g).map fun s=>⟨g,0,s.1,s.2⟩,fun g s h=>by rw[h];rfl⟩
theorem o9(i:Nat):A00.get i=none:=rfl
theorem zxg(w:sQ):WR mu0 A00 w:=
 ⟨fun i o l h=>(by rw[o9]at h;cases h),fun i j oi oj li lj h=>(by rw[o9]at h;cases h),fun i hi=>by
  show(iK i).map (fun s=>(⟨i,0,s.1,s.2⟩:qX))=none;cases hg:iK i with
  |none=>rfl
  |some s=>exact absurd (ziX hg) (Nat.not_lt.2 hi)⟩
theorem zsa{μ μ':Mu}{l:qX}{obj:bz}{o':Obj}(hf:zoy obj=true)(h:OR μ l obj o'):OR μ' l obj o':=by
 unfold zoy at hf;split at hf
 ·obtain⟨c,fr,h1,h2,h3,h4,h5,h6,h7⟩:=h;have h8:=bM hf h6;exact⟨c,fr,h1,h2,h3,h4,h5,by rw[h8];exact br hf,h7⟩
 ·obtain⟨es,h1,h2⟩:=h;simp only[MR]at h2;exact⟨es,h1,by simp only[MR];exact h2⟩
 ·cases hf
theorem zgN{μ:Mu}{A:AW}{w:sQ}{o:Oper}{a:Act}{m:bR}{ts:List Nat}{v0:sN}{obj:bz}{id:Nat}(W:WR μ A w)(hTR:TR μ m a.tmps.toList)(hts:∀t u,m.get t=some u->t∈ts)(hmk:mkE P ts m o=some (v0,obj))(hg:A.get id=some obj)(hd:μ id=none)(aa:id<A.next):
  ∃p' w' l,Res P a.eval o w p' w'/\VR (μ.add id l) (rn id v0) p'/\WR (μ.add id l) A w'/\(∀μ0 A0 w0,A0.next<=id->bG μ0 A0 w0 μ A w->bG μ0 A0 w0 (μ.add id l) A w'):=by
 unfold mkE at hmk;split at hmk
 ·rename_i hfl;split at hmk
  ·rename_i v A1 hop;split at hmk
   ·rename_i hnew;split at hmk
    ·rename_i ob hob;split at hmk
     ·rename_i hfo;cases hmk;have hT0:TR mu0 m a.tmps.toList:=fun t u hu=>by obtain⟨v',h1,h2⟩:=hTR t u hu;have h3:=sI.1 hfl t (hts t u hu);rw[hu]at h3;have h4:=cV h3 h2;subst h4;exact⟨_,h1,cq h3⟩
      obtain⟨μ1,p',w',hres,hv,W1,E1⟩:=zhx (zxg w) hT0 hop;have hl:∃l,μ1 ng=some l/\∀μ2:Mu,μ2 id=some l->VR μ2 (rn id v0) p':=by
       unfold zeP at hnew;split at hnew
       ·have e:=dV hnew;subst e;simp only[VR]at hv;obtain⟨a',rfl,_,l,h1,rfl⟩:=hv;exact⟨l,h1,fun μ2 h2=>by simp only[rn,VR];exact⟨_,rfl,rfl,l,h2,rfl⟩⟩
       ·have e:=dV hnew;subst e;simp only[VR]at hv;obtain⟨l,rfl,h1⟩:=hv;exact⟨l,h1,fun μ2 h2=>by simp only[rn,VR];exact⟨l,rfl,h2⟩⟩
       ·rw[sE]at hnew;have e:=dV hnew.1;subst e;have hc:=sW hnew.2;simp only[VR]at hv;obtain⟨a',c',rfl,hS⟩:=hv;rcases hS with ⟨h1,h2,_,l,h3,h4⟩|⟨h1,_⟩
        ·exact⟨l,h3,fun μ2 h5=>by simp only[rn,VR];exact⟨_,_,rfl,.inl ⟨h1,h2,rfl,l,h5,h4⟩⟩⟩
        ·omega
       ·cases hnew
      obtain⟨l,hl1,hl2⟩:=hl;have hstay:∀b,b<w.heap.size->w'.heap[b]?=w.heap[b]? :=fun b hb=>E1.stay b hb fun i o l h=>(by rw[o9]at h;cases h);have hbig:w.heap.size<=l.b:=by
       rcases E1.img ng _ l hob hl1 with h|⟨j,oj,lj,h,_⟩
       ·exact h
       ·rw[o9]at h;cases h
      obtain⟨o',ho1,ho2⟩:=W1.has ng _ l hob hl1;have hle:Le μ (μ.add id l):=Mu.add_le hd;refine⟨p',w',l,hres,hl2 _ (Mu.add_get hd),⟨fun j oj lj hj h1=>?_,fun j m oj om lj lm hj hl h1 h2 h3=>?_,fun j hj=>?_⟩,fun μ0 A0 w0 hb E=>⟨E.le.trans hle,sU E.size E1.size,E1.tape.trans E.tape,E1.os.trans E.os,E1.output.trans E.output,fun b hb' hn=>?_,fun j oj lj hj h1=>?_,E.next,fun j hj=>?_⟩⟩
      ·by_cases ej:j=id
       ·subst ej;rw[Mu.add_get hd]at h1;cases h1;rw[hg]at hj;cases hj;exact⟨o',ho1,zsa hfo ho2⟩
       ·rw[Mu.add_ne ej]at h1;obtain⟨o1,h2,h3⟩:=W.has j oj lj hj h1;exact⟨o1,by rw[hstay _ (W.lt hj h1)];exact h2,h3.mono hle⟩
      ·by_cases ej:j=id
       ·by_cases em:m=id
        ·rw[ej,em]
        ·subst ej;rw[Mu.add_get hd]at h1;cases h1;rw[Mu.add_ne em]at h2;have:=W.lt hl h2;omega
       ·rw[Mu.add_ne ej]at h1;by_cases em:m=id
        ·subst em;rw[Mu.add_get hd]at h2;cases h2;have:=W.lt hj h1;omega
        ·rw[Mu.add_ne em]at h2;exact W.inj j m oj om lj lm hj hl h1 h2 h3
      ·rw[Mu.add_ne (by omega)];exact W.dom j hj
      ·have hs:=E.size;rw[<-E.stay b hb' hn];exact hstay b (by omega)
      ·by_cases ej:j=id
       ·subst ej;rw[Mu.add_get hd]at h1;cases h1;exact .inl (sU E.size hbig)
       ·rw[Mu.add_ne ej]at h1;exact E.img j oj lj hj h1
      ·rw[Mu.add_ne (by omega)];exact E.keep j hj
     ·cases hmk
    ·cases hmk
   ·cases hmk
  ·cases hmk
 ·cases hmk
noncomputable def mT(P:sP)(same:XT)(call:aG):dq:=fun rd ops a A=>
 if zgE P ops a.size then match (if ops.toList.any early then zbA P ops a.size ops.toList a.tmps A A else some A)with
  |some A1=>fW A1 fun A1=>match dgo P call same rd ops a.size a.defers ops.toList a.tmps A1 A.next with
   |.ok (rs,Ms,lf)=>if zlh P ops (A1::Ms) ops.toList 0 rs then .ok (⟨lf,a.size,a.defers⟩,qj A1 Ms)else .error ("draw: hangs on the order " ++((ops[0]?).map (·.pos)).getD "")
   |.error s=>.error s
  |none=>.error "draw: new"
 else .error ("draw: the order " ++((ops[0]?).map (·.pos)).getD "")
theorem zfj{o:Oper}(h:early o=true)(c:Call):o.op≠ .defer c:=fun hc=>by unfold early at h;rw[hc]at h;cases h
theorem zaE{f g:Nat->Bool}{i:Nat}:∀{n:Nat},(∀j,g j=true->f j=true)->i<n->f i=true->g i=false->((sG n).filter g).length<((sG n).filter f).length
 |0,_,h,_,_=>by omega
 |n+1,hgf,hi,hf,hg=>by
  rw[List.range_succ,tc,tc,td,td];by_cases e:i=n
  ·subst e;have h1:((sG i).filter g).length<=((sG i).filter f).length:=by
    have:(sG i).filter g=((sG i).filter f).filter g:=by
     rw[List.filter_filter];congr 1;funext j;cases hgj:g j with
     |false=>simp
     |true=>simp[hgf j hgj]
    rw[this];exact sX _ _
   have h2:([i].filter g).length=0:=by simp[hg]
   have h3:([i].filter f).length=1:=by simp[hf]
   omega
  ·have h1:=zaE hgf (show i<n by omega) hf hg;have h2:([n].filter g).length<=([n].filter f).length:=by
    cases hgn:g n with
    |false=>simp[hgn]
    |true=>simp[hgn,hgf n hgn]
   omega
section
variable {call:aG} {same:XT} {rd ro:Option Nat} {ops:Array Oper} {size:Nat} {ds:List gV} {l0:bR} {recs:List Rc} {mems:List AW} {base:Nat} {μ0:Mu} {A0:AW} {w0:sQ}
def bB(listed:Array Bool)(i:Nat):Bool:=listed.getD i false
structure zfK(P:sP)(ops:Array Oper)(size:Nat)(ds:List gV)(l0:bR)(recs:List Rc)(mems:List AW)(base:Nat)(μ0:Mu)(A0:AW)(w0:sQ)(listed:Array Bool)(b:Act)(w:sQ)(c:Nat)(μ:Mu)(A:AW):Prop where
 lsz:listed.size=ops.size
 closed:zhH ops (bB listed)
 chain:∀i,cI P ops i=true->(bB listed i=true ↔ cnt P ops i<c)
 mem:mems[c]?=some A
 tmps:∀t v,tv ops (ei recs) l0 (bB listed) t=some v->∃v',b.tmps.toList[t]?=some v'/\VR μ v v'
 len:size=b.tmps.size
 defers:DR μ ds b.defers
 wr:WR μ A w
 ext:bG μ0 A0 w0 μ A w
 nx:base+bO ops ops.size<=A.next
 pend:∀j,bZ ops j=true->bB listed j=false->μ (base+bO ops j)=none
theorem jt{listed:Array Bool}{i j:Nat}(h:i<listed.size):bB (listed.setIfInBounds i true) j=if j=i then true else bB listed j:=by
 unfold bB;by_cases e:j=i
 ·subst e;simp[h]
 ·rw[if_neg e,getD_set_ne false (fun h=>e h.symm)]
theorem nB{listed:Array Bool}{i:Nat}(hs:listed.size=ops.size)(hi:i∈sS .any ops listed):i<ops.size/\bB listed i=false/\∃o,ops[i]?=some o/\zfI ops (bB listed) i:=by
 obtain⟨h1,o,h2,h3⟩:=mem_ready.1 hi;have hlt:=(sT.1 h2).1;refine⟨hlt,?_,o,h2,fun o' ho' e he hb=>?_⟩
 ·unfold bB;rw[sD]at h1⊢;have:i<listed.size:=by omega
  simp[this]at h1⊢;exact h1
 ·rw[h2]at ho';cases ho';exact h3 e (sY.1 he) hb
theorem zhu{listed:Array Bool}(hs:listed.size=ops.size)(h0:s0 ops=true)(hr:sS .any ops listed=[]):∀i,i<ops.size->bB listed i=true:=by
 intro i
 induction i using Nat.strongRecOn with
 |_ i ih=>
  intro hi;cases hl:bB listed i with
  |true=>rfl
  |false=>
   have ho:ops[i]?=some ops[i]:=Array.getElem?_eq_getElem hi;have:i∈sS .any ops listed:=by
    refine mem_ready.2 ⟨?_,ops[i],ho,fun e he hb=>?_⟩
    ·unfold bB at hl;rw[sD]at hl⊢;have:i<listed.size:=by omega
     simp[this]at hl⊢;exact hl
    ·have hlt:=zik h0 ho (sY.2 he) hb;exact ih e.on hlt (by omega)
   rw[hr]at this;cases this
theorem zfK.next{listed:Array Bool}{b:Act}{w:sQ}{c:Nat}{μ:Mu}{A:AW}(hk:OkD P ops size)(I:zfK P ops size ds l0 recs mems base μ0 A0 w0 listed b w c μ A){i:Nat}{o:Oper}(ho:ops[i]?=some o)(hun:bB listed i=false)(hpr:zfI ops (bB listed) i)
  {v':sN} {w':sQ} {μ':Mu} {A':AW} {c':Nat} (hv:VR μ' (ei recs i) v') (hW:WR μ' A' w') (hle:Le μ μ') (hX:bG μ0 A0 w0 μ' A' w') (hnx:A.next<=A'.next) (hpd:∀j,j≠i->bZ ops j=true->bB listed j=false->μ' (base+bO ops j)=none) (hm:mems[c']?=some A') (hc:(cI P ops i=true/\cnt P ops i=c/\c'=c+1)\/(cI P ops i=false/\c'=c)):
  zfK P ops size ds l0 recs mems base μ0 A0 w0 (listed.setIfInBounds i true) (b.put o.dst v') w' c' μ' A':=by
 have hlt:i<ops.size:=(sT.1 ho).1;have hil:i<listed.size:=by rw[I.lsz];exact hlt
 have hdst:dk ops i=o.dst:=by simp[dk,ho]
 refine⟨by simp[I.lsz],fun j oj hoj hj e he hb=>?_,fun j hj=>?_,hm,fun t v ht=>?_,?_,?_,hW,hX,sU I.nx hnx,fun j hj hl=>?_⟩
 ·rw[jt hil]at hj⊢;by_cases ej:j=i
  ·subst ej;split
   ·rfl
   ·exact hpr oj hoj e he hb
  ·rw[if_neg ej]at hj;split
   ·rfl
   ·exact I.closed j oj hoj hj e he hb
 ·rw[jt hil];rcases hc with ⟨h1,h2,rfl⟩|⟨h1,rfl⟩
  ·by_cases ej:j=i
   ·subst ej;simp only[if_true,true_iff];omega
   ·rw[if_neg ej,I.chain j hj];constructor
    ·intro h;omega
    ·intro h;rcases te (cnt P ops j) c with h3|h3
     ·exact h3
     ·exact absurd (zrI hj h1 (by omega)) ej
  ·have ej:j≠i:=fun e=>by subst e;rw[hj]at h1;cases h1
   rw[if_neg ej];exact I.chain j hj
 ·unfold tv at ht;cases hw:fC ops t with
  |none=>
   rw[hw]at ht;have hne:o.dst≠some t:=fun e=>by have:=mh hk (show dk ops i=some t by rw[hdst,e]);rw[hw]at this;cases this
   obtain⟨v'',h1,h2⟩:=I.tmps t v (by unfold tv;rw[hw];exact ht);refine⟨v'',?_,h2.mono hle⟩;cases hd:o.dst with
   |none=>exact h1
   |some d=>simp only[Act.put,sH];rw[sZ (fun e=>hne (by rw[hd,e]))];exact h1
  |some p=>
   rw[hw]at ht;simp only[jt hil]at ht;by_cases ep:p=i
   ·subst ep;simp only[if_true]at ht;cases ht;have hd:o.dst=some t:=by rw[<-hdst];exact dQ hw
    refine⟨v',?_,hv⟩;simp only[hd,Act.put,sH];have hsm:=hk.small p t (by rw[hdst,hd]);have hlt3:t<b.tmps.toList.length:=by rw[sJ,<-I.len];exact hsm
    rw[List.getElem?_set_self hlt3]
   ·rw[if_neg ep]at ht;have hne:o.dst≠some t:=fun e=>by have:=mh hk (show dk ops i=some t by rw[hdst,e]);rw[hw]at this;cases this;exact ep rfl
    obtain⟨v'',h1,h2⟩:=I.tmps t v (by unfold tv;rw[hw];exact ht);refine⟨v'',?_,h2.mono hle⟩;cases hd:o.dst with
    |none=>exact h1
    |some d=>simp only[Act.put,sH];rw[sZ (fun e=>hne (by rw[hd,e]))];exact h1
 ·cases o.dst with
  |none=>exact I.len
  |some d=>simp[Act.put,I.len]
 ·have:(b.put o.dst v').defers=b.defers:=by cases o.dst<;>rfl
  rw[this];exact I.defers.mono hle
 ·rw[jt hil]at hl;split at hl
  ·cases hl
  ·rename_i e;exact hpd j e hj hl
theorem zfK.step{listed:Array Bool}{b:Act}{w:sQ}{c:Nat}{μ:Mu}{A:AW}(hk:OkD P ops size)(I:zfK P ops size ds l0 recs mems base μ0 A0 w0 listed b w c μ A){i:Nat}{o:Oper}(ho:ops[i]?=some o)(hun:bB listed i=false)(hpr:zfI ops (bB listed) i)
  {v':sN} {w':sQ} {μ':Mu} {A':AW} {c':Nat} (hv:VR μ' (ei recs i) v') (hW:WR μ' A' w') (hE:bG μ A w μ' A' w') (hm:mems[c']?=some A') (hc:(cI P ops i=true/\cnt P ops i=c/\c'=c+1)\/(cI P ops i=false/\c'=c)):
  zfK P ops size ds l0 recs mems base μ0 A0 w0 (listed.setIfInBounds i true) (b.put o.dst v') w' c' μ' A':=
 I.next hk ho hun hpr hv hW hE.le (I.ext.trans hE) hE.next (fun j _ hj hl=>(hE.keep _ (by have:=oS (zoX hj) hj;have:=I.nx;omega)).trans (I.pend j hj hl)) hm hc
theorem jx(hro0:RO μ0 rd ro)(hbase:A0.next<=base)(hcall:bC P call)(hsame:ck P same)(hk:OkD P ops size)(hE:∀q o,ops[q]?=some o->zsc P call same rd ops size ds l0 recs mems base q o)
  (hL:∀q o wt v m,ops[q]?=some o->recs[q]?=some (wt,v,m)->wt=true->looks P o.op=true->∀j A,nD P ops q j=true->mems[j]?=some A->∃A',kK P m o A=some (v,A')) (hF:∀q o wt v m,ops[q]?=some o->recs[q]?=some (wt,v,m)->early o=true->∀j A,nD P ops q j=true->mems[j]?=some A->zcb P ops o m v A=true) {Q:Exit->Act->sQ->Prop}
  (hq:∀listed b w c μ A,zfK P ops size ds l0 recs mems base μ0 A0 w0 listed b w c μ A->(∀i,i<ops.size->bB listed i=true)->Q .normal b w):
  ∀(fuel:Nat)(listed:Array Bool)(b:Act)(w:sQ)(c:Nat)(μ:Mu)(A:AW),zfK P ops size ds l0 recs mems base μ0 A0 w0 listed b w c μ A->((sG ops.size).filter fun i=> !bB listed i).length<=fuel->wpAnyIn (FR ro) 0 P .any ops Q fuel listed b w
 |0,listed,b,w,c,μ,A,I,hf=>by
  have hall:∀i,i<ops.size->bB listed i=true:=fun i hi=>by have h1:((sG ops.size).filter fun i=> !bB listed i)=[]:=List.eq_nil_of_length_eq_zero (by omega);have h2:=List.filter_eq_nil_iff.1 h1 i (List.mem_range.2 hi);simpa using h2
  refine⟨?_,hq listed b w c μ A I hall⟩;cases hr:sS .any ops listed with
  |nil=>rfl
  |cons i r=>obtain⟨h1,h2,_⟩:=nB I.lsz (show i∈sS .any ops listed by rw[hr];simp);rw[hall i h1]at h2;cases h2
 |fuel+1,listed,b,w,c,μ,A,I,hf=>by
  refine⟨fun hr=>hq listed b w c μ A I (zhu I.lsz hk.h0 hr),fun i hi=>?_⟩;obtain⟨hlt,hun,o,ho,hpr⟩:=nB I.lsz hi;have hil:i<listed.size:=by rw[I.lsz];exact hlt
  have hfuel:((sG ops.size).filter fun j=> !bB (listed.setIfInBounds i true) j).length<=fuel:=by
   have:=zaE (f:=fun j=> !bB listed j) (g:=fun j=> !bB (listed.setIfInBounds i true) j) (i:=i) (n:=ops.size) (fun j hj=>by
    rw[jt hil]at hj;split at hj
    ·cases hj
    ·exact hj) hlt (by simp[hun]) (by rw[jt hil,if_pos rfl];rfl)
   omega
  obtain⟨wt,v,m,hrec,hw,hmask,hwf,heff,hnon,hear⟩:=hE i o ho;have hval:ei recs i=v:=by simp[ei,hrec]
  have hisE:cI P ops i=ig P o:=by simp[cI,ho]
  have hTR:TR μ m b.tmps.toList:=fun t u hu=>by
   obtain⟨h1,h2⟩:=hmask t u hu;refine I.tmps t u ?_;rw[<-h2];unfold tv;cases hwr:fC ops t with
   |none=>rfl
   |some p=>
    simp only;have hdp:=dQ hwr;rcases hk.deps i o t p ho h1 hdp with rfl|hb|hb
    ·rw[hun];simp
    ·obtain⟨h3,h4⟩:=iW hk.h0 hb;rw[h4 _ I.closed hpr];simp[h3]
    ·obtain⟨h3,h4⟩:=iW hk.h0 hb;have:bB listed p=false:=by
      cases hlp:bB listed p with
      |false=>rfl
      |true=>have:=h4 _ I.closed (fun op hop e he hbb=>I.closed p op hop hlp e he hbb);rw[hun]at this;cases this
     rw[this];have hni:¬p<i:=by omega
     simp[hni]
  have hab:mf μ ⟨m,size,ds⟩ b:=⟨hTR,I.len,I.defers⟩;have hwant:=eF (ops:=ops) hab hw
  -- which operation of the chain this is
  have hchain:ig P o=true->cnt P ops i=c:=fun he=>by
   have h1:¬cnt P ops i<c:=fun h=>by have:=(I.chain i (by rw[hisE,he])).2 h;rw[hun]at this;cases this
   rcases te c (cnt P ops i)with h2|h2
   ·obtain⟨j,h3,h4,h5⟩:=oT h2;have h6:=hk.chain i j (by rw[hisE,he]) h4 h3;have h7:=(iW hk.h0 h6).2 _ I.closed hpr;have h8:=(I.chain j h4).1 h7;omega
   ·omega
  have hposs:nD P ops i c=true:=by
   unfold nD;refine sI.2 fun k hkm=>?_;cases hek:cI P ops k with
   |false=>rfl
   |true=>
    simp only[Bool.not_true,Bool.false_or];by_cases hlt2:cnt P ops k<c
    ·have hb:Nat.blt (cnt P ops k) c=true:=Nat.ble_eq_true_of_le hlt2;rw[if_pos hb];have hlk:=(I.chain k hek).2 hlt2;cases hbk:bef ops k i with
     |false=>rfl
     |true=>have:=(iW hk.h0 hbk).2 _ I.closed (fun op hop e he hbb=>I.closed k op hop hlk e he hbb);rw[hun]at this;cases this
    ·have hb:¬Nat.blt (cnt P ops k) c=true:=fun h=>hlt2 (sW h);rw[if_neg hb];cases hbk:bef ops i k with
     |false=>rfl
     |true=>have h7:=(iW hk.h0 hbk).2 _ I.closed hpr;exact absurd ((I.chain k hek).1 h7) hlt2
  unfold wpOpIn;simp only[ho];rw[hwant];cases wt with
  |false=>
   simp only[Bool.false_eq_true,if_false];refine⟨fun _ _=>trivial,?_⟩;have hvu:=hwf rfl;cases he:ig P o with
   |true=>obtain⟨A1,A2,h1,h2,_,h4⟩:=heff he;have hA2:=h4 rfl;subst hA2;rw[hchain he]at h1 h2;rw[I.mem]at h1;cases h1;exact jx hro0 hbase hcall hsame hk hE hL hF hq fuel _ _ w (c+1) μ A (I.step hk ho hun hpr (by rw[hval,hvu];exact dW) I.wr bG.refl h2 (.inl ⟨by rw[hisE,he],hchain he,rfl⟩)) hfuel
   |false=>exact jx hro0 hbase hcall hsame hk hE hL hF hq fuel _ _ w c μ A (I.step hk ho hun hpr (by rw[hval,hvu];exact dW) I.wr bG.refl I.mem (.inr ⟨by rw[hisE,he],rfl⟩)) hfuel
  |true=>
   simp only[if_true];cases he:ig P o with
   |true=>obtain⟨A1,A2,h1,h2,h3,_⟩:=heff he;obtain⟨A3,h5,rfl⟩:=h3 rfl;rw[hchain he]at h1 h2;rw[I.mem]at h1;cases h1;refine lU hcall hsame I.wr hab (hro0.mono I.ext.le) h5 (fun v2 hv2 μ' v' w' hv' W' E'=>?_) (fun d hd=>by cases hd) (fun v hv=>by cases hv);cases hv2;exact jx hro0 hbase hcall hsame hk hE hL hF hq fuel _ _ w' (c+1) μ' (fG A3) (I.step hk ho hun hpr (by rw[hval];exact hv') W'.lay E'.lay h2 (.inl ⟨by rw[hisE,he],hchain he,rfl⟩)) hfuel
   |false=>
   cases hey:early o with
   |true=>
    obtain⟨v0,obj,hmk,hv0⟩:=hear hey;have hisy:bZ ops i=true:=by simp[bZ,ho,hey]
    have hlt4:base+bO ops i<A.next:=by have:=oS hlt hisy;have:=I.nx;omega
    have hfr:=hF i o true v m ho hrec hey c A hposs I.mem;have hgo:A.get (base+bO ops i)=some obj:=by
     unfold zcb at hfr;rw[hmk]at hfr;simp only at hfr;have aa:zuU v=base+bO ops i:=by rw[hv0];exact zrb (zqS hmk)
     rw[aa]at hfr;split at hfr
     ·rename_i ob' hob;rw[hob,eL hfr]
     ·cases hfr
    obtain⟨p',w',l,hres,h2,h3,h4⟩:=zgN (P:=P) (o:=o) (a:=b) I.wr hTR (fun t u hu=>(hmask t u hu).1) hmk hgo (I.pend i hisy hun) hlt4;have hnext:=jx hro0 hbase hcall hsame hk hE hL hF hq fuel _ _ w' c _ A (I.next hk ho hun hpr (by rw[hval,hv0];exact h2) h3 (Mu.add_le (I.pend i hisy hun)) (h4 _ _ _ (by omega) I.ext) (sL _) (fun j hj hj1 hj2=>by rw[Mu.add_ne (fun e=>hj (zoW hj1 hisy (by omega)))];exact I.pend j hj1 hj2) I.mem (.inr ⟨by rw[hisE,he],rfl⟩)) hfuel;refine operIn_of (.inr (zfj hey)) ?_;unfold Oper.wp;rcases hres with hr|⟨hr,rfl⟩
    ·rw[hr,Oper.upon_value];exact hnext
    ·rw[hr,Oper.upon_skip];exact hnext
   |false=>
    have hop:∃A',kK P m o A=some (v,A')/\A'=A:=by
     have hql:quiet o.op=true\/looks P o.op=true:=by
      unfold ig at he;cases hqo:quiet o.op with
      |true=>exact .inl rfl
      |false=>rw[hqo,hey]at he;simp at he;exact .inr he
     obtain⟨A1,A2,h1,h2⟩:=hnon he hey rfl;rcases hql with hqq|hll
     ·exact⟨A,zkE hqq h2 A,rfl⟩
     ·obtain⟨A3,h3⟩:=hL i o true v m ho hrec rfl hll c A hposs I.mem;exact⟨A3,h3,zgO hll h3⟩
    obtain⟨A',hop,rfl⟩:=hop;obtain⟨μ',v',w',hres,hv',W',E'⟩:=zhx I.wr hTR hop;have hnext:=jx hro0 hbase hcall hsame hk hE hL hF hq fuel _ _ w' c μ' _ (I.step hk ho hun hpr (by rw[hval];exact hv') W' E' I.mem (.inr ⟨by rw[hisE,he],rfl⟩)) hfuel;refine operIn_of (.inr fun c hc=>?_) ?_
    ·rw[ig,hc,hey]at he;simp[quiet,looks]at he
    unfold Oper.wp;rcases hres with hr|⟨hr,rfl⟩
    ·rw[hr,Oper.upon_value];exact hnext
    ·rw[hr,Oper.upon_skip];exact hnext
end
theorem gh(hm:P.follows .mixedOrders=true){same:XT}(hsame:ck P same){call:aG}(hcall:bC P call):fJ P (mT P same call):=by
 intro rd ops a A a' A' h μ b w id ro Q W hab hro hq;unfold mT at h;split at h
 ·rename_i hok;have hk:=zey hok;split at h
  ·rename_i B hB;have hpre:WR μ B w/\bG μ A w μ B w/\B.next+bO ops 0=A.next+bO ops (0+ops.toList.length):=by
    split at hB
    ·exact zbz (μ:=μ) (w:=w) (ops:=ops) ops.toList 0 _ A A B (by simp) hB W
    ·rename_i hany;cases hB;exact⟨W,bG.refl,by rw[zaF ops.toList 0 (by simp) (by simpa using hany)]⟩
   obtain⟨WB,EB,hBn⟩:=hpre;rw[iP]at h;replace WB:=WB.lay;replace EB:=EB.lay;have hBn2:A.next+bO ops ops.size<=(fG B).next:=by
    have h1:(fG B).next=B.next:=rfl
    simp only[bO,Nat.zero_add,sJ]at hBn;omega
   split at h
   ·rename_i rs Ms lf hd;split at h
    ·rename_i hc;cases h;obtain⟨g1,g2,g3⟩:=zfm (base:=A.next) (l0:=a.tmps) (recs:=rs) (mems:=fG B::Ms) hk ops.toList 0 a.tmps (fG B) A.next rs Ms lf (by simp[bO]) (by simp) hd (by simp) (by simp[cnt]) (fun t=>by unfold tv;split<;>simp)
     have hchk:=zaK (P:=P) (ops:=ops) (mems:=fG B::Ms) (recs:=rs) ops.toList 0 rs (by simp) (by simp) hc;have hchf:=qJ (P:=P) (ops:=ops) (mems:=fG B::Ms) (recs:=rs) ops.toList 0 rs (by simp) (by simp) hc;refine wpIn_region_any hm ?_;obtain⟨W1,E1⟩:=WB.drawn (w.drawn+1);refine jx (rd:=rd) (base:=A.next) (μ0:=μ) (A0:=A) (w0:=w) (l0:=a.tmps) (ds:=a.defers) (mems:=fG B::Ms) hro (sL _) hcall hsame hk (fun q o ho=>g1 q o (tg _) ho) (fun q o wt v m ho hr hwt hlk j B hj hB=>hchk q o wt v m (tg _) ho hr hwt hlk j B hj hB) (fun q o wt v m ho hr hlk j B hj hB=>hchf q o wt v m (tg _) ho hr hlk j B hj hB) ?_ ops.size _ b _ 0 μ (fG B) ?_ ?_
     ·intro listed b' w' c μ' A' I hall;have hcn:c=Ms.length:=by
       have hge:Ms.length<=c:=by
        rcases te c Ms.length with h1|h1
        ·have h2:c<cnt P ops (0+ops.toList.length):=by rw[<-g3];omega
         obtain⟨j,h3,h4,h5⟩:=oT h2;have:=(I.chain j h4).1 (hall j (zoV h4));omega
        ·exact h1
       have hle:c<(fG B::Ms).length:=(List.getElem?_eq_some_iff.1 I.mem).1;simp only[sO]at hle;omega
      have hA':A'=qj (fG B) Ms:=by have:=I.mem;rw[hcn,qi]at this;exact(sR this).symm
      subst hA';refine hq b' w' ⟨μ',rfl,⟨fun t v hv=>?_,I.len,I.defers⟩,I.wr,I.ext⟩;refine I.tmps t v ?_;rw[<-hv,g2 t];unfold tv;cases hwr:fC ops t with
      |none=>rfl
      |some p=>simp only;have hp:=mV (dQ hwr);rw[hall p hp];simp[hp]
     ·refine⟨by simp,fun i o ho hi=>?_,fun i hi=>?_,rfl,fun t v ht=>?_,hab.len,hab.defers,W1,EB.trans E1,hBn2,fun j hj hl=>W.dom _ (by omega)⟩
      ·unfold bB at hi;rw[sD]at hi;simp only[sK]at hi;split at hi<;>cases hi
      ·constructor
       ·intro h;unfold bB at h;rw[sD]at h;simp only[sK]at h;split at h<;>cases h
       ·intro h;omega
      ·refine hab.tmps t v ?_;rw[<-ht];unfold tv;have hf:∀p,bB (Array.replicate ops.size false) p=false:=fun p=>by unfold bB;rw[sD];simp only[sK];split<;>rfl
       split
       ·simp[hf]
       ·rfl
     ·exact sU (sX _ _) (by simp)
    ·cases h
   ·cases h
  ·cases h
 ·cases h
end Ev
end
section
namespace Ev
open Go.RowKit
variable {P:sP}
structure Tb where
 g:Nat
 t:TypeId
 es:Nat
 cells:List sN
def Tb.obj(x:Tb):bz:=.cells x.cells x.t false none x.es
noncomputable def py:List Tb->Tr bz
 |[]=>.nil
 |x::r=>Tr.put (some x.obj) (x.g+1) (py r) x.g
noncomputable def zeZ{α:Type}:List Tb->(Tr bz->α)->α
 |[],k=>k .nil
 |x::r,k=>zeZ r fun t=>zkZ x.cells fun vs=>Tr.fput (some (.cells vs x.t false none x.es)) (Nat.succ x.g) t x.g k
theorem qw{α:Type}:∀(l:List Tb)(k:Tr bz->α),zeZ l k=k (py l)
 |[],k=>rfl
 |x::r,k=>by simp only[zeZ,py,qw r,lP,Tr.fput_eq,Tb.obj]
noncomputable def wT(l:List Tb):AW:=⟨[],py l,ng⟩
theorem zbc:∀{l:List Tb} {i:Nat} {o:bz},(wT l).get i=some o->∃x,x∈l/\x.g=i/\o=x.obj
 |[],i,o,h=>by have h':(Tr.nil:Tr bz).get i=some o:=h;rw[Tr.get_nil]at h';cases h'
 |x::r,i,o,h=>by
  have h':(Tr.put (some x.obj) (x.g+1) (py r) x.g).get i=some o:=h;rw[Tr.get_put _ _ _ _ _ (by omega)]at h';split at h'
  ·rename_i e;exact⟨x,by simp,e.symm,(sR h').symm⟩
  ·obtain⟨y,h1,h2,h3⟩:=zbc (l:=r) (i:=i) (o:=o) h';exact⟨y,by simp[h1],h2,h3⟩
def zmH(l:List Tb):Bool:=l.all fun x=>bF x.cells&&(match iK x.g with
 |some (a,b)=>Nat.beq a x.cells.length&&Nat.beq b x.es
 |none=>false)
theorem mu{l:List Tb}(h:zmH l=true){x:Tb}(hx:x∈l):bF x.cells=true/\iK x.g=some (x.cells.length,x.es):=by
 have h1:=sI.1 h x hx;rw[sE]at h1;refine⟨h1.1,?_⟩;have h2:=h1.2;split at h2
 ·rename_i a b hg;rw[sE]at h2;rw[hg,dV h2.1,dV h2.2]
 ·cases h2
def q9(l:List Tb)(w:sQ):Prop:=∀x,x∈l->∃c,w.heap[x.g]?=some (.cells c x.t)/\c.toList=x.cells
theorem lE{i:Nat}{l:qX}(h:mu0 i=some l):∃s,iK i=some s/\l=⟨i,0,s.1,s.2⟩:=by
 have h':(iK i).map (fun s=>(⟨i,0,s.1,s.2⟩:qX))=some l:=h;cases hg:iK i with
 |none=>rw[hg]at h';cases h'
 |some s=>rw[hg]at h';exact⟨s,rfl,(sR h').symm⟩
theorem WRT{l:List Tb}{w:sQ}(hl:zmH l=true)(hw:q9 l w):WR mu0 (wT l) w:=by
 refine⟨fun i o lo h hlo=>?_,fun i j oi oj li lj hi hj h1 h2 hb=>?_,fun i hi=>(zxg w).dom i hi⟩
 ·obtain⟨x,hx,rfl,rfl⟩:=zbc h;obtain⟨hf,hg⟩:=mu hl hx;obtain⟨s,hs,rfl⟩:=lE hlo;rw[hg]at hs;obtain rfl:=sR hs;obtain⟨c,hc,hct⟩:=hw x hx;have hsz:c.size=x.cells.length:=by rw[<-hct];simp
  refine⟨_,hc,c,(0,0),rfl,hsz,by simp,fun _=>⟨rfl,rfl⟩,rfl,?_,rfl⟩;simp only[ta];rw[sM (by rw[hct];exact sL _),hct];exact br hf
 ·obtain⟨s,_,rfl⟩:=lE h1;obtain⟨s',_,rfl⟩:=lE h2;exact hb
noncomputable def okT(l:List Tb):Except String (AE×AW)->Bool
 |.ok (.ret (.bool true),A)=>l.all fun x=>match A.get x.g with
  |some obj=>iF obj x.obj
  |none=>false
 |_=>false
noncomputable def zmY(P:sP)(same:XT)(fuel depth:Nat)(l:List Tb)(f:tn):Bool:=zeZ l fun t=>okT l (evF P same fuel (mT P same) depth false f [] ⟨[],t,ng⟩)
theorem zfr{same:XT}{fuel depth:Nat}{f:tn}{l:List Tb}(hm:P.follows .mixedOrders=true)(hsame:ck P same)(hl:zmH l=true)(h:zmY P same fuel depth l f=true)(w:sQ)(hw:q9 l w):
  Calls P f #[] w fun e w'=>e=.returned (.bool true)/\Below w.heap.size w w':=by
 unfold zmY at h;rw[qw]at h;unfold okT at h;split at h
 ·rename_i A' hr;refine((iS hsame (fun call hc=>gh hm hsame hc) depth).fn f [] (wT l) _ A' hr mu0 w #[] (WRT hl hw) LR.nil).mono fun e w' ⟨μ',he,W',E⟩=>?_;cases e with
  |returned v=>
   simp only[ER,VR]at he;subst he;refine⟨rfl,E.os,E.tape,E.output,E.size,fun k hk=>?_⟩;by_cases hk0:∃x,x∈l/\x.g=k
   ·obtain⟨x,hx,rfl⟩:=hk0;have h1:=sI.1 h x hx;split at h1
    ·rename_i obj hobj;have ho:=eL h1;subst ho;obtain⟨hf,hg⟩:=mu hl hx;obtain⟨c,hc,hct⟩:=hw x hx;obtain⟨o',h1,c',fr,rfl,h3,h4,h5,h6,h7,h8⟩:=W'.has x.g _ _ hobj (μ'.glob x.g _ hg);simp only at h1 h3 h7 h8;have h9:=bM hf h7;rw[ta,sM (by rw[sJ,h3];exact sL _)]at h9;have h10:c'=c:=tf.1 (by rw[h9,hct]);simp only[FZ]at h8;rw[h1,hc,h10,h8]
    ·cases h1
   ·refine E.stay k hk fun i o lo hi hlo e=>?_;obtain⟨x,hx,rfl,rfl⟩:=zbc hi;obtain⟨s,_,rfl⟩:=lE hlo;exact hk0 ⟨x,hx,e⟩
  |panicked ch=>exact he.elim
  |outgrown=>exact he.elim
 ·cases h
end Ev
end
section
namespace Ev
open Go.RowKit
variable {P:sP}
def zqo:List sN->List sN->Bool
 |[],[]=>true
 |x::xs,y::ys=>veq x y&&zqo xs ys
 |_,_=>false
theorem zhQ:∀{xs ys:List sN},zqo xs ys=true->xs=ys
 |[],[],_=>rfl
 |x::xs,y::ys,h=>by simp only[zqo,sE]at h;rw[mq h.1,zhQ h.2]
 |[],_::_,h=>by cases h
 |_::_,[],h=>by cases h
def zug:sN->sN->Bool
 |.tuple ⟨x⟩,.tuple ⟨y⟩=>zqo x y
 |x,y=>veq x y
theorem zqn{x y:sN}(h:zug x y=true):x=y:=by
 unfold zug at h;split at h
 ·rw[zhQ h]
 ·exact mq h
noncomputable def okA(l:List Tb)(v:sN):Except String (AE×AW)->Bool
 |.ok (.ret u,A)=>zug u v&&bS u&&l.all fun x=>match A.get x.g with
  |some obj=>iF obj x.obj
  |none=>false
 |_=>false
noncomputable def zqB(P:sP)(same:XT)(fuel depth:Nat)(l:List Tb)(f:tn)(args:List sN)(v:sN):Bool:=zeZ l fun t=>okA l v (evF P same fuel (mT P same) depth false f args ⟨[],t,ng⟩)
theorem nO{same:XT}{fuel depth:Nat}{f:tn}{l:List Tb}{args:List sN}{v0:sN}(hm:P.follows .mixedOrders=true)(hsame:ck P same)(hl:zmH l=true)(ha:bF args=true)(h:zqB P same fuel depth l f args v0=true)(w:sQ)(hw:q9 l w):
  Calls P f ⟨args⟩ w fun e w'=>e=.returned v0/\Below w.heap.size w w':=by
 unfold zqB at h;rw[qw]at h;unfold okA at h;split at h
 ·rename_i u A' hr;rw[sE,sE]at h;obtain⟨⟨hv,hfl⟩,h⟩:=h;have hv:=zqn hv;subst hv;refine((iS hsame (fun call hc=>gh hm hsame hc) depth).fn f args (wT l) _ A' hr mu0 w ⟨args⟩ (WRT hl hw) (br ha)).mono fun e w' ⟨μ',he,W',E⟩=>?_;cases e with
  |returned v=>
   simp only[ER]at he;obtain rfl:=cV hfl he;refine⟨rfl,E.os,E.tape,E.output,E.size,fun k hk=>?_⟩;by_cases hk0:∃x,x∈l/\x.g=k
   ·obtain⟨x,hx,rfl⟩:=hk0;have h1:=sI.1 h x hx;split at h1
    ·rename_i obj hobj;have ho:=eL h1;subst ho;obtain⟨hf,hg⟩:=mu hl hx;obtain⟨c,hc,hct⟩:=hw x hx;obtain⟨o',h1,c',fr,rfl,h3,h4,h5,h6,h7,h8⟩:=W'.has x.g _ _ hobj (μ'.glob x.g _ hg);simp only at h1 h3 h7 h8;have h9:=bM hf h7;rw[ta,sM (by rw[sJ,h3];exact sL _)]at h9;have h10:c'=c:=tf.1 (by rw[h9,hct]);simp only[FZ]at h8;rw[h1,hc,h10,h8]
    ·cases h1
   ·refine E.stay k hk fun i o lo hi hlo e=>?_;obtain⟨x,hx,rfl,rfl⟩:=zbc hi;obtain⟨s,_,rfl⟩:=lE hlo;exact hk0 ⟨x,hx,e⟩
  |panicked ch=>exact he.elim
  |outgrown=>exact he.elim
 ·cases h
end Ev
end
section
namespace Ev
open Go.RowKit
variable {P:sP}
noncomputable def okM(l:List Tb)(chk:sN->AW->Bool):Except String (AE×AW)->Bool
 |.ok (.ret u,A)=>chk u A&&l.all fun x=>match A.get x.g with
  |some obj=>iF obj x.obj
  |none=>false
 |_=>false
abbrev OvT:=tn->List sN->AW->Option (sN×AW)
def zvv(P:sP)(ov:OvT):Prop:=∀f args A v A',ov f args A=some (v,A')->∀(μ:Mu)(w:sQ)(args':Array sN),WR μ A w->LR μ args args'.toList->
 Calls P f args' w fun e' w'=>∃μ',ER μ' (.ret v) e'/\WR μ' A' w'/\bG μ A w μ' A' w'
noncomputable def evG(P:sP)(same:XT)(fuel:Nat)(dr:aG->dq)(ov:OvT):Nat->aG
 |0=>fun _ _ _ _=>.error "too deep"
 |n+1=>fun y f args A=>if y then su P same fuel dr (evG P same fuel dr ov n) f args A else match ov f args A with
  |some (v,A')=>.ok (.ret v,A')
  |none=>sw P same fuel dr (evG P same fuel dr ov n) f args A
theorem qz{same:XT}{fuel:Nat}{dr:aG->dq}{ov:OvT}(hsame:ck P same)(hdr:∀call,bC P call->fJ P (dr call))(hov:zvv P ov):∀n,bC P (evG P same fuel dr ov n)
 |0=>⟨fun f args A e A' h=>(by cases h),fun f args A e A' h=>(by cases h)⟩
 |n+1=>⟨fun f args A e A' h=>by
   have h':(match ov f args A with
    |some (v,A')=>(Except.ok (.ret v,A'):Except String (AE×AW))
    |none=>sw P same fuel dr (evG P same fuel dr ov n) f args A)=Except.ok (e,A'):=h
   split at h'
   ·rename_i v A2 ho;cases h';exact hov f args A v _ ho
   ·exact zdH (qz hsame hdr hov n) hsame (hdr _ (qz hsame hdr hov n)) h',fun r args A e A' h=>zdG (qz hsame hdr hov n) hsame (hdr _ (qz hsame hdr hov n)) (show su P same fuel dr (evG P same fuel dr ov n) r args A=.ok (e,A')from h)⟩
noncomputable def knows(l:List Tb)(A:AW):Bool:=l.all fun x=>match A.get x.g with
 |some obj=>iF obj x.obj
 |none=>false
end Ev
end
end Go.Proofs.YtbbapnpdfcgjnaaGreatDoor
