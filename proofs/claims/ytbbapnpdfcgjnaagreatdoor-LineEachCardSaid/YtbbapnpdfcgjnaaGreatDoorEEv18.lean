/- Ev18, EvT, EvA, EvR: parts of the proof, joined. -/
import Derived.OrdersIn
import Derived.Test.YtbbapnpdfcgjnaaGreatDoorEZz
import Derived.Test.YtbbapnpdfcgjnaaGreatDoorEEv13
open Array renaming getD_eq_getD_getElem?->sR, toList_setIfInBounds->sU, length_toList->sW, getElem?_replicate->sX, getElem?_eq_some_iff->ti, getElem?_toList->tk, mem_toList_iff->tq, toList_inj->tA
open Bool renaming and_eq_true->sS
open List renaming range->sT, all_eq_true->sV, take_of_length_le->sZ, length_cons->tc, length_filter_le->tp, getElem?_set_ne->tr, drop_zero->tt, filter_append->tu, length_append->tw
open Nat renaming le_refl->sY, le_trans->tj, le_of_ble_eq_true->tn, lt_or_ge->tz, zero_le->tB
open Go renaming Value->ta, Program->td, World->te, FuncId->tF
open Option.some renaming inj->tf
open Go.Region renaming ready->tg
set_option maxHeartbeats 64000000
namespace Go.Proofs.YtbbapnpdfcgjnaaGreatDoor
section
namespace Ev
variable {P:td}
def pN(A:AW):List AW->AW
 |[]=>A
 |B::r=>pN B r
theorem pM:∀(A:AW)(Ms:List AW),(A::Ms)[Ms.length]?=some (pN A Ms)
 |A,[]=>rfl
 |A,B::r=>by
  simp only[tc,List.getElem?_cons_succ,pN]
  exact pM B r
noncomputable def zav(P:td)(ops:Array Oper)(size:Nat):List Oper->bT->AW->AW->Option AW
 |[],_,_,B=>some B
 |o::r,l,A,B=>if early o then zeF l (o.looksAt ops) fun m=>match mkE P (o.looksAt ops) m o with
   |some (v0,obj)=>de ⟨l,size,[]⟩ o.dst (rn B.next v0) fun a'=>zav P ops size r a'.tmps A (B.push obj)
   |none=>none
  else if gV P o then zav P ops size r l A B
  else match kw P l o A with
   |some (v,_)=>fV v fun v=>de ⟨l,size,[]⟩ o.dst v fun a'=>zav P ops size r a'.tmps A B
   |none=>zav P ops size r l A B
theorem WR.later{μ:Mu}{A:AW}{w:te}(W:WR μ A w)(o:bw):WR μ (A.push o) w/\bG μ A w μ (A.push o) w:=by
 have get':∀j oj l,(A.push o).get j=some oj->μ j=some l->A.get j=some oj:=fun j oj l hj hl=>by
  rw[AW.get_push]at hj
  split at hj
  ·rename_i e;subst e;rw[W.dom _ (sY _)]at hl;cases hl
  ·exact hj
 refine⟨⟨fun j oj l hj hl=>W.has j oj l (get' j oj l hj hl) hl,fun i j oi oj li lj hi hj h1 h2=>W.inj i j oi oj li lj (get' _ _ _ hi h1) (get' _ _ _ hj h2) h1 h2,fun i hi=>W.dom i (by simp only[AW.push]at hi;omega)⟩,
  ⟨Le.refl _,sY _,rfl,rfl,rfl,fun _ _ _=>rfl,fun j oj l hj hl=>.inr ⟨j,oj,l,get' _ _ _ hj hl,hl,rfl⟩,by simp[AW.push],fun _ _=>rfl⟩⟩
theorem zau{μ:Mu}{w:te}{ops:Array Oper}{size:Nat}:∀(os:List Oper)(i:Nat)(l:bT)(A B B':AW),ops.toList.drop i=os->zav P ops size os l A B=some B'->WR μ B w->WR μ B' w/\bG μ B w μ B' w/\B'.next+bP ops i=B.next+bP ops (i+os.length)
 |[],i,l,A,B,B',_,h,W=>by
  simp only[zav]at h;cases h
  exact⟨W,bG.refl,by simp⟩
 |o::r,i,l,A,B,B',hos,h,W=>by
  obtain⟨ho',hor⟩:=bA hos;have ho:ops[i]?=some o:=by rw[<- tk];exact ho'
  have hisy:ce ops i=early o:=by simp[ce,ho]
  have hlen:i+(o::r).length=i+1+r.length:=by simp only[tc];omega
  simp only[zav]at h
  split at h
  ·rename_i he
   rw[lB]at h
   split at h
   ·rename_i v0 obj hmk
    rw[bO]at h;obtain⟨W1,E1⟩:=W.later obj;obtain⟨h1,h2,h3⟩:=zau r (i+1) _ _ _ B' hor h W1;refine⟨h1,E1.trans h2,?_⟩;rw[hlen];have:bP ops (i+1)=bP ops i+1:=by simp[bP,hisy,he]
    simp only[AW.push]at h3
    omega
   ·cases h
  ·rename_i he
   have hsame:bP ops (i+1)=bP ops i:=by simp[bP,hisy,he]
   have go:∀l,zav P ops size r l A B=some B'->WR μ B' w/\bG μ B w μ B' w/\B'.next+bP ops i=B.next+bP ops (i+(o::r).length):=fun l h=>by
    obtain⟨h1,h2,h3⟩:=zau r (i+1) l A B B' hor h W;refine⟨h1,h2,?_⟩;rw[hlen];omega
   split at h
   ·exact go _ h
   ·split at h
    ·rw[jV,bO]at h
     exact go _ h
    ·exact go _ h
theorem si{ops:Array Oper}:∀(os:List Oper)(i:Nat),ops.toList.drop i=os->os.any early=false->bP ops (i+os.length)=bP ops i
 |[],i,_,_=>by simp
 |o::r,i,hos,h=>by
  obtain⟨ho',hor⟩:=bA hos;have ho:ops[i]?=some o:=by rw[<- tk];exact ho'
  simp only[List.any_cons,Bool.or_eq_false_iff]at h
  have h1:=si r (i+1) hor h.2;have hsame:bP ops (i+1)=bP ops i:=by simp[bP,ce,ho,h.1]
  rw[show i+(o::r).length=i+1+r.length by simp only[tc];omega,h1,hsame]
def mu0:Mu:=⟨fun g=>(iB g).map fun s=>⟨g,0,s.1,s.2⟩,fun g s h=>by rw[h];rfl⟩
theorem oG(i:Nat):A00.get i=none:=rfl
theorem zxT(w:te):WR mu0 A00 w:=
 ⟨fun i o l h=>(by rw[oG]at h;cases h),fun i j oi oj li lj h=>(by rw[oG]at h;cases h),fun i hi=>by
  show(iB i).map (fun s=>(⟨i,0,s.1,s.2⟩:qs))=none
  cases hg:iB i with
  |none=>rfl
  |some s=>exact absurd (zih hg) (Nat.not_lt.2 hi)⟩
theorem zrJ{μ μ':Mu}{l:qs}{obj:bw}{o':Obj}(hf:zob obj=true)(h:OR μ l obj o'):OR μ' l obj o':=by
 unfold zob at hf
 split at hf
 ·obtain⟨c,fr,h1,h2,h3,h4,h5,h6,h7⟩:=h
  have h8:=bN hf h6;exact⟨c,fr,h1,h2,h3,h4,h5,by rw[h8];exact bv hf,h7⟩
 ·obtain⟨es,h1,h2⟩:=h
  simp only[MR]at h2
  exact⟨es,h1,by simp only[MR];exact h2⟩
 ·cases hf
theorem zfS{μ:Mu}{A:AW}{w:te}{o:Oper}{a:Act}{m:bT}{ts:List Nat}{v0:ta}{obj:bw}{id:Nat}(W:WR μ A w)(hTR:TR μ m a.tmps.toList)(hts:∀t u,m.get t=some u->t∈ts)(hmk:mkE P ts m o=some (v0,obj))(hg:A.get id=some obj)(hd:μ id=none)(aa:id<A.next):
  ∃p' w' l,Res P a.eval o w p' w'/\VR (μ.add id l) (rn id v0) p'/\WR (μ.add id l) A w'/\(∀μ0 A0 w0,A0.next<=id->bG μ0 A0 w0 μ A w->bG μ0 A0 w0 (μ.add id l) A w'):=by
 unfold mkE at hmk
 split at hmk
 ·rename_i hfl
  split at hmk
  ·rename_i v A1 hop
   split at hmk
   ·rename_i hnew
    split at hmk
    ·rename_i ob hob
     split at hmk
     ·rename_i hfo
      cases hmk
      have hT0:TR mu0 m a.tmps.toList:=fun t u hu=>by
       obtain⟨v',h1,h2⟩:=hTR t u hu;have h3:=sV.1 hfl t (hts t u hu);rw[hu]at h3;have h4:=cZ h3 h2;subst h4;exact⟨_,h1,cy h3⟩
      obtain⟨μ1,p',w',hres,hv,W1,E1⟩:=zgQ (zxT w) hT0 hop;have hl:∃l,μ1 ng=some l/\∀μ2:Mu,μ2 id=some l->VR μ2 (rn id v0) p':=by
       unfold zet at hnew
       split at hnew
       ·have e:=dS hnew
        subst e
        simp only[VR]at hv
        obtain⟨a',rfl,_,l,h1,rfl⟩:=hv;exact⟨l,h1,fun μ2 h2=>by simp only[rn,VR];exact⟨_,rfl,rfl,l,h2,rfl⟩⟩
       ·have e:=dS hnew
        subst e
        simp only[VR]at hv
        obtain⟨l,rfl,h1⟩:=hv;exact⟨l,h1,fun μ2 h2=>by simp only[rn,VR];exact⟨l,rfl,h2⟩⟩
       ·rw[sS]at hnew
        have e:=dS hnew.1;subst e;have hc:=tn hnew.2
        simp only[VR]at hv
        obtain⟨a',c',rfl,hS⟩:=hv
        rcases hS with ⟨h1,h2,_,l,h3,h4⟩|⟨h1,_⟩
        ·exact⟨l,h3,fun μ2 h5=>by simp only[rn,VR];exact⟨_,_,rfl,.inl ⟨h1,h2,rfl,l,h5,h4⟩⟩⟩
        ·omega
       ·cases hnew
      obtain⟨l,hl1,hl2⟩:=hl;have hstay:∀b,b<w.heap.size->w'.heap[b]?=w.heap[b]? :=fun b hb=>E1.stay b hb fun i o l h=>(by rw[oG]at h;cases h)
      have hbig:w.heap.size<=l.b:=by
       rcases E1.img ng _ l hob hl1 with h|⟨j,oj,lj,h,_⟩
       ·exact h
       ·rw[oG]at h;cases h
      obtain⟨o',ho1,ho2⟩:=W1.has ng _ l hob hl1;have hle:Le μ (μ.add id l):=Mu.add_le hd;refine⟨p',w',l,hres,hl2 _ (Mu.add_get hd),⟨fun j oj lj hj h1=>?_,fun j m oj om lj lm hj hl h1 h2 h3=>?_,fun j hj=>?_⟩,fun μ0 A0 w0 hb E=>⟨E.le.trans hle,tj E.size E1.size,E1.tape.trans E.tape,E1.os.trans E.os,E1.output.trans E.output,fun b hb' hn=>?_,fun j oj lj hj h1=>?_,E.next,fun j hj=>?_⟩⟩
      ·by_cases ej:j=id
       ·subst ej
        rw[Mu.add_get hd]at h1;cases h1;rw[hg]at hj;cases hj;exact⟨o',ho1,zrJ hfo ho2⟩
       ·rw[Mu.add_ne ej]at h1
        obtain⟨o1,h2,h3⟩:=W.has j oj lj hj h1;exact⟨o1,by rw[hstay _ (W.lt hj h1)];exact h2,h3.mono hle⟩
      ·by_cases ej:j=id
       ·by_cases em:m=id
        ·rw[ej,em]
        ·subst ej
         rw[Mu.add_get hd]at h1;cases h1;rw[Mu.add_ne em]at h2;have:=W.lt hl h2;omega
       ·rw[Mu.add_ne ej]at h1
        by_cases em:m=id
        ·subst em
         rw[Mu.add_get hd]at h2;cases h2;have:=W.lt hj h1;omega
        ·rw[Mu.add_ne em]at h2
         exact W.inj j m oj om lj lm hj hl h1 h2 h3
      ·rw[Mu.add_ne (by omega)]
       exact W.dom j hj
      ·have hs:=E.size
       rw[<- E.stay b hb' hn];exact hstay b (by omega)
      ·by_cases ej:j=id
       ·subst ej
        rw[Mu.add_get hd]at h1;cases h1;exact .inl (tj E.size hbig)
       ·rw[Mu.add_ne ej]at h1
        exact E.img j oj lj hj h1
      ·rw[Mu.add_ne (by omega)]
       exact E.keep j hj
     ·cases hmk
    ·cases hmk
   ·cases hmk
  ·cases hmk
 ·cases hmk
noncomputable def mE(P:td)(same:XT)(call:aJ):dj:=fun rd ops a A=>
 if zfH P ops a.size then match (if ops.toList.any early then zav P ops a.size ops.toList a.tmps A A else some A)with
  |some A1=>fW A1 fun A1=>match dgo P call same rd ops a.size a.defers ops.toList a.tmps A1 A.next with
   | .ok (rs,Ms,lf)=>if zky P ops (A1::Ms) ops.toList 0 rs then .ok (⟨lf,a.size,a.defers⟩,pN A1 Ms)else .error ("draw: hangs on the order " ++((ops[0]?).map (·.pos)).getD "")
   | .error s=>.error s
  |none=>.error "draw: new"
 else .error ("draw: the order " ++((ops[0]?).map (·.pos)).getD "")
theorem zeO{o:Oper}(h:early o=true)(c:Call):o.op≠ .defer c:=fun hc=>by
 unfold early at h;rw[hc]at h
 cases h
theorem sh{f g:Nat->Bool}{i:Nat}:∀{n:Nat},(∀j,g j=true->f j=true)->i<n->f i=true->g i=false->((sT n).filter g).length<((sT n).filter f).length
 |0,_,h,_,_=>by omega
 |n+1,hgf,hi,hf,hg=>by
  rw[List.range_succ,tu,tu,tw,tw]
  by_cases e:i=n
  ·subst e
   have h1:((sT i).filter g).length<=((sT i).filter f).length:=by
    have:(sT i).filter g=((sT i).filter f).filter g:=by
     rw[List.filter_filter]
     congr 1
     funext j
     cases hgj:g j with
     |false=>simp
     |true=>simp[hgf j hgj]
    rw[this];exact tp _ _
   have h2:([i].filter g).length=0:=by simp[hg]
   have h3:([i].filter f).length=1:=by simp[hf]
   omega
  ·have h1:=sh hgf (show i<n by omega) hf hg
   have h2:([n].filter g).length<=([n].filter f).length:=by
    cases hgn:g n with
    |false=>simp[hgn]
    |true=>simp[hgn,hgf n hgn]
   omega
section
variable {call:aJ} {same:XT} {rd ro:Option Nat} {ops:Array Oper} {size:Nat} {ds:List gR} {l0:bT} {recs:List Rc} {mems:List AW} {base:Nat} {μ0:Mu} {A0:AW} {w0:te}
def bB(listed:Array Bool)(i:Nat):Bool:=listed.getD i false
structure zfl(P:td)(ops:Array Oper)(size:Nat)(ds:List gR)(l0:bT)(recs:List Rc)(mems:List AW)(base:Nat)(μ0:Mu)(A0:AW)(w0:te)(listed:Array Bool)(b:Act)(w:te)(c:Nat)(μ:Mu)(A:AW):Prop where
 lsz:listed.size=ops.size
 closed:zgX ops (bB listed)
 chain:∀i,cQ P ops i=true->(bB listed i=true ↔ cnt P ops i<c)
 mem:mems[c]?=some A
 tmps:∀t v,tv ops (d8 recs) l0 (bB listed) t=some v->∃v',b.tmps.toList[t]?=some v'/\VR μ v v'
 len:size=b.tmps.size
 defers:DR μ ds b.defers
 wr:WR μ A w
 ext:bG μ0 A0 w0 μ A w
 nx:base+bP ops ops.size<=A.next
 pend:∀j,ce ops j=true->bB listed j=false->μ (base+bP ops j)=none
theorem jc{listed:Array Bool}{i j:Nat}(h:i<listed.size):bB (listed.setIfInBounds i true) j=if j=i then true else bB listed j:=by
 unfold bB
 by_cases e:j=i
 ·subst e;simp[h]
 ·rw[if_neg e,getD_set_ne false (fun h=>e h.symm)]
theorem mP{listed:Array Bool}{i:Nat}(hs:listed.size=ops.size)(hi:i∈tg .any ops listed):i<ops.size/\bB listed i=false/\∃o,ops[i]?=some o/\zfj ops (bB listed) i:=by
 obtain⟨h1,o,h2,h3⟩:=mem_ready.1 hi;have hlt:=(ti.1 h2).1;refine⟨hlt,?_,o,h2,fun o' ho' e he hb=>?_⟩
 ·unfold bB
  rw[sR]at h1⊢;have:i<listed.size:=by omega
  simp[this]at h1⊢
  exact h1
 ·rw[h2]at ho';cases ho'
  exact h3 e (tq.1 he) hb
theorem zgN{listed:Array Bool}(hs:listed.size=ops.size)(h0:s0 ops=true)(hr:tg .any ops listed=[]):∀i,i<ops.size->bB listed i=true:=by
 intro i
 induction i using Nat.strongRecOn with
 |_ i ih=>
  intro hi
  cases hl:bB listed i with
  |true=>rfl
  |false=>
   have ho:ops[i]?=some ops[i]:=Array.getElem?_eq_getElem hi;have:i∈tg .any ops listed:=by
    refine mem_ready.2 ⟨?_,ops[i],ho,fun e he hb=>?_⟩
    ·unfold bB at hl
     rw[sR]at hl⊢;have:i<listed.size:=by omega
     simp[this]at hl⊢
     exact hl
    ·have hlt:=zhr h0 ho (tq.2 he) hb
     exact ih e.on hlt (by omega)
   rw[hr]at this
   cases this
theorem zfl.next{listed:Array Bool}{b:Act}{w:te}{c:Nat}{μ:Mu}{A:AW}(hk:OkD P ops size)(I:zfl P ops size ds l0 recs mems base μ0 A0 w0 listed b w c μ A){i:Nat}{o:Oper}(ho:ops[i]?=some o)(hun:bB listed i=false)(hpr:zfj ops (bB listed) i)
  {v':ta} {w':te} {μ':Mu} {A':AW} {c':Nat} (hv:VR μ' (d8 recs i) v') (hW:WR μ' A' w') (hle:Le μ μ') (hX:bG μ0 A0 w0 μ' A' w') (hnx:A.next<=A'.next) (hpd:∀j,j≠i->ce ops j=true->bB listed j=false->μ' (base+bP ops j)=none) (hm:mems[c']?=some A') (hc:(cQ P ops i=true/\cnt P ops i=c/\c'=c+1)\/(cQ P ops i=false/\c'=c)):
  zfl P ops size ds l0 recs mems base μ0 A0 w0 (listed.setIfInBounds i true) (b.put o.dst v') w' c' μ' A':=by
 have hlt:i<ops.size:=(ti.1 ho).1;have hil:i<listed.size:=by rw[I.lsz];exact hlt
 have hdst:dh ops i=o.dst:=by simp[dh,ho]
 refine⟨by simp[I.lsz],fun j oj hoj hj e he hb=>?_,fun j hj=>?_,hm,fun t v ht=>?_,?_,?_,hW,hX,tj I.nx hnx,fun j hj hl=>?_⟩
 ·rw[jc hil]at hj⊢
  by_cases ej:j=i
  ·subst ej
   split
   ·rfl
   ·exact hpr oj hoj e he hb
  ·rw[if_neg ej]at hj
   split
   ·rfl
   ·exact I.closed j oj hoj hj e he hb
 ·rw[jc hil]
  rcases hc with ⟨h1,h2,rfl⟩|⟨h1,rfl⟩
  ·by_cases ej:j=i
   ·subst ej;simp only[if_true,true_iff];omega
   ·rw[if_neg ej,I.chain j hj]
    constructor
    ·intro h;omega
    ·intro h
     rcases tz (cnt P ops j) c with h3|h3
     ·exact h3
     ·exact absurd (zrs hj h1 (by omega)) ej
  ·have ej:j≠i:=fun e=>by subst e;rw[hj]at h1;cases h1
   rw[if_neg ej];exact I.chain j hj
 ·unfold tv at ht
  cases hw:fx ops t with
  |none=>
   rw[hw]at ht;have hne:o.dst≠some t:=fun e=>by
    have:=lR hk (show dh ops i=some t by rw[hdst,e])
    rw[hw]at this;cases this
   obtain⟨v'',h1,h2⟩:=I.tmps t v (by unfold tv;rw[hw];exact ht)
   refine⟨v'',?_,h2.mono hle⟩
   cases hd:o.dst with
   |none=>exact h1
   |some d=>
    simp only[Act.put,sU]
    rw[tr (fun e=>hne (by rw[hd,e]))]
    exact h1
  |some p=>
   rw[hw]at ht
   simp only[jc hil]at ht
   by_cases ep:p=i
   ·subst ep
    simp only[if_true]at ht
    cases ht
    have hd:o.dst=some t:=by rw[<- hdst];exact dN hw
    refine⟨v',?_,hv⟩
    simp only[hd,Act.put,sU]
    have hsm:=hk.small p t (by rw[hdst,hd])
    have hlt3:t<b.tmps.toList.length:=by rw[sW,<- I.len];exact hsm
    rw[List.getElem?_set_self hlt3]
   ·rw[if_neg ep]at ht
    have hne:o.dst≠some t:=fun e=>by
     have:=lR hk (show dh ops i=some t by rw[hdst,e])
     rw[hw]at this;cases this;exact ep rfl
    obtain⟨v'',h1,h2⟩:=I.tmps t v (by unfold tv;rw[hw];exact ht)
    refine⟨v'',?_,h2.mono hle⟩
    cases hd:o.dst with
    |none=>exact h1
    |some d=>
     simp only[Act.put,sU]
     rw[tr (fun e=>hne (by rw[hd,e]))]
     exact h1
 ·cases o.dst with
  |none=>exact I.len
  |some d=>simp[Act.put,I.len]
 ·have:(b.put o.dst v').defers=b.defers:=by cases o.dst<;>rfl
  rw[this];exact I.defers.mono hle
 ·rw[jc hil]at hl
  split at hl
  ·cases hl
  ·rename_i e;exact hpd j e hj hl
theorem zfl.step{listed:Array Bool}{b:Act}{w:te}{c:Nat}{μ:Mu}{A:AW}(hk:OkD P ops size)(I:zfl P ops size ds l0 recs mems base μ0 A0 w0 listed b w c μ A){i:Nat}{o:Oper}(ho:ops[i]?=some o)(hun:bB listed i=false)(hpr:zfj ops (bB listed) i)
  {v':ta} {w':te} {μ':Mu} {A':AW} {c':Nat} (hv:VR μ' (d8 recs i) v') (hW:WR μ' A' w') (hE:bG μ A w μ' A' w') (hm:mems[c']?=some A') (hc:(cQ P ops i=true/\cnt P ops i=c/\c'=c+1)\/(cQ P ops i=false/\c'=c)):
  zfl P ops size ds l0 recs mems base μ0 A0 w0 (listed.setIfInBounds i true) (b.put o.dst v') w' c' μ' A':=
 I.next hk ho hun hpr hv hW hE.le (I.ext.trans hE) hE.next (fun j _ hj hl=>(hE.keep _ (by
  have:=ox (zoC hj) hj;have:=I.nx;omega)).trans (I.pend j hj hl)) hm hc
theorem jk(hro0 : RO μ0 rd ro)(hbase : A0.next ≤ base)(hcall : bC P call)(hsame : cv P same)(hk : OkD P ops size)(hE : ∀ q o, ops[q]? = some o → zpr P call same rd ops size ds l0 recs mems base q o)
    (hL : ∀ q o wt v m, ops[q]? = some o → recs[q]? = some (wt, v, m) → wt = true → looks P o.op = true → ∀ j A, mQ P ops q j = true → mems[j]? = some A → ∃ A', kw P m o A = some (v, A')) (hF : ∀ q o wt v m, ops[q]? = some o → recs[q]? = some (wt, v, m) → early o = true → ∀ j A, mQ P ops q j = true → mems[j]? = some A → zaX P ops o m v A = true) {Q : Exit → Act → te → Prop}
    (hq : ∀ listed b w c μ A, zfl P ops size ds l0 recs mems base μ0 A0 w0 listed b w c μ A → (∀ i, i < ops.size → bB listed i = true) → Q .normal b w) :
    ∀ (fuel : Nat)(listed : Array Bool)(b : Act)(w : te)(c : Nat)(μ : Mu)(A : AW), zfl P ops size ds l0 recs mems base μ0 A0 w0 listed b w c μ A → ((sT ops.size).filter fun i => !bB listed i).length ≤ fuel → wpAnyIn (FR ro) 0 P .any ops Q fuel listed b w
  | 0, listed, b, w, c, μ, A, I, hf => by
    have hall : ∀ i, i < ops.size → bB listed i = true := fun i hi => by
      have h1 : ((sT ops.size).filter fun i => !bB listed i) = [] := List.eq_nil_of_length_eq_zero (by omega)
      have h2 := List.filter_eq_nil_iff.1 h1 i (List.mem_range.2 hi)
      simpa using h2
    refine ⟨?_, hq listed b w c μ A I hall⟩
    cases hr : tg .any ops listed with
    | nil => rfl
    | cons i r =>
      obtain ⟨h1, h2, _⟩ := mP I.lsz (show i ∈ tg .any ops listed by rw [hr]; simp)
      rw [hall i h1] at h2; cases h2
  | fuel + 1, listed, b, w, c, μ, A, I, hf => by
    refine ⟨fun hr => hq listed b w c μ A I (zgN I.lsz hk.h0 hr), fun i hi => ?_⟩
    obtain ⟨hlt, hun, o, ho, hpr⟩ := mP I.lsz hi
    have hil : i < listed.size := by rw [I.lsz]; exact hlt
    have hfuel : ((sT ops.size).filter fun j => !bB (listed.setIfInBounds i true) j).length ≤ fuel := by
      have := sh (f := fun j => !bB listed j) (g := fun j => !bB (listed.setIfInBounds i true) j) (i := i) (n := ops.size) (fun j hj => by
        rw [jc hil] at hj
        split at hj
        · cases hj
        · exact hj) hlt (by simp [hun]) (by rw [jc hil, if_pos rfl]; rfl)
      omega
    obtain ⟨wt, v, m, hrec, hw, hmask, hwf, heff, hnon, hear⟩ := hE i o ho
    have hval : d8 recs i = v := by simp [d8, hrec]
    have hisE : cQ P ops i = gV P o := by simp [cQ, ho]
    have hTR : TR μ m b.tmps.toList := fun t u hu => by
      obtain ⟨h1, h2⟩ := hmask t u hu
      refine I.tmps t u ?_
      rw [← h2]
      unfold tv
      cases hwr : fx ops t with
      | none => rfl
      | some p =>
        simp only
        have hdp := dN hwr
        rcases hk.deps i o t p ho h1 hdp with rfl | hb | hb
        · rw [hun]; simp
        · obtain ⟨h3, h4⟩ := iM hk.h0 hb
          rw [h4 _ I.closed hpr]
          simp [h3]
        · obtain ⟨h3, h4⟩ := iM hk.h0 hb
          have : bB listed p = false := by
            cases hlp : bB listed p with
            | false => rfl
            | true =>
              have := h4 _ I.closed (fun op hop e he hbb => I.closed p op hop hlp e he hbb)
              rw [hun] at this; cases this
          rw [this]
          have hni : ¬ p < i := by omega
          simp [hni]
    have hab : lP μ ⟨m, size, ds⟩ b := ⟨hTR, I.len, I.defers⟩
    have hwant := eG (ops := ops) hab hw
    -- which operation of the chain this is
    have hchain : gV P o = true → cnt P ops i = c := fun he => by
      have h1 : ¬ cnt P ops i < c := fun h => by
        have := (I.chain i (by rw [hisE, he])).2 h
        rw [hun] at this; cases this
      rcases tz c (cnt P ops i) with h2 | h2
      · obtain ⟨j, h3, h4, h5⟩ := oy h2
        have h6 := hk.chain i j (by rw [hisE, he]) h4 h3
        have h7 := (iM hk.h0 h6).2 _ I.closed hpr
        have h8 := (I.chain j h4).1 h7
        omega
      · omega
    have hposs : mQ P ops i c = true := by
      unfold mQ
      refine sV.2 fun k hkm => ?_
      cases hek : cQ P ops k with
      | false => rfl
      | true =>
        simp only [Bool.not_true, Bool.false_or]
        by_cases hlt2 : cnt P ops k < c
        · have hb : Nat.blt (cnt P ops k) c = true := Nat.ble_eq_true_of_le hlt2
          rw [if_pos hb]
          have hlk := (I.chain k hek).2 hlt2
          cases hbk : bef ops k i with
          | false => rfl
          | true =>
            have := (iM hk.h0 hbk).2 _ I.closed (fun op hop e he hbb => I.closed k op hop hlk e he hbb)
            rw [hun] at this; cases this
        · have hb : ¬ Nat.blt (cnt P ops k) c = true := fun h => hlt2 (tn h)
          rw [if_neg hb]
          cases hbk : bef ops i k with
          | false => rfl
          | true =>
            have h7 := (iM hk.h0 hbk).2 _ I.closed hpr
            exact absurd ((I.chain k hek).1 h7) hlt2
    unfold wpOpIn
    simp only [ho]
    rw [hwant]
    cases wt with
    | false =>
      simp only [Bool.false_eq_true, if_false]
      refine ⟨fun _ _ => trivial, ?_⟩
      have hvu := hwf rfl
      cases he : gV P o with
      | true =>
        obtain ⟨A1, A2, h1, h2, _, h4⟩ := heff he
        have hA2 := h4 rfl
        subst hA2
        rw [hchain he] at h1 h2
        rw [I.mem] at h1; cases h1
        exact jk hro0 hbase hcall hsame hk hE hL hF hq fuel _ _ w (c + 1) μ A (I.step hk ho hun hpr (by rw [hval, hvu]; exact dT) I.wr bG.refl h2 (.inl ⟨by rw [hisE, he], hchain he, rfl⟩)) hfuel
      | false =>
        exact jk hro0 hbase hcall hsame hk hE hL hF hq fuel _ _ w c μ A (I.step hk ho hun hpr (by rw [hval, hvu]; exact dT) I.wr bG.refl I.mem (.inr ⟨by rw [hisE, he], rfl⟩)) hfuel
    | true =>
      simp only [if_true]
      cases he : gV P o with
      | true =>
        obtain ⟨A1, A2, h1, h2, h3, _⟩ := heff he
        obtain ⟨A3, h5, rfl⟩ := h3 rfl
        rw [hchain he] at h1 h2
        rw [I.mem] at h1; cases h1
        refine lF hcall hsame I.wr hab (hro0.mono I.ext.le) h5 (fun v2 hv2 μ' v' w' hv' W' E' => ?_) (fun d hd => by cases hd) (fun v hv => by cases hv)
        cases hv2
        exact jk hro0 hbase hcall hsame hk hE hL hF hq fuel _ _ w' (c + 1) μ' (fD A3) (I.step hk ho hun hpr (by rw [hval]; exact hv') W'.lay E'.lay h2 (.inl ⟨by rw [hisE, he], hchain he, rfl⟩)) hfuel
      | false =>
       cases hey : early o with
       | true =>
        obtain ⟨v0, obj, hmk, hv0⟩ := hear hey
        have hisy : ce ops i = true := by simp [ce, ho, hey]
        have hlt4 : base + bP ops i < A.next := by
          have := ox hlt hisy
          have := I.nx
          omega
        have hfr := hF i o true v m ho hrec hey c A hposs I.mem
        have hgo : A.get (base + bP ops i) = some obj := by
          unfold zaX at hfr
          rw [hmk] at hfr
          simp only at hfr
          have aa : zvC v = base + bP ops i := by rw [hv0]; exact zqM (zqz hmk)
          rw [aa] at hfr
          split at hfr
          · rename_i ob' hob
            rw [hob, eM hfr]
          · cases hfr
        obtain ⟨p', w', l, hres, h2, h3, h4⟩ := zfS (P := P) (o := o) (a := b) I.wr hTR (fun t u hu => (hmask t u hu).1) hmk hgo (I.pend i hisy hun) hlt4
        have hnext := jk hro0 hbase hcall hsame hk hE hL hF hq fuel _ _ w' c _ A (I.next hk ho hun hpr (by rw [hval, hv0]; exact h2) h3 (Mu.add_le (I.pend i hisy hun)) (h4 _ _ _ (by omega) I.ext) (sY _) (fun j hj hj1 hj2 => by
          rw [Mu.add_ne (fun e => hj (zoB hj1 hisy (by omega)))]
          exact I.pend j hj1 hj2) I.mem (.inr ⟨by rw [hisE, he], rfl⟩)) hfuel
        refine ma (.inr (zeO hey)) ?_
        unfold Oper.wp
        rcases hres with hr | ⟨hr, rfl⟩
        · rw [hr, Oper.upon_value]; exact hnext
        · rw [hr, Oper.upon_skip]; exact hnext
       | false =>
        have hop : ∃ A', kw P m o A = some (v, A') ∧ A' = A := by
          have hql : quiet o.op = true ∨ looks P o.op = true := by
            unfold gV at he
            cases hqo : quiet o.op with
            | true => exact .inl rfl
            | false =>
              rw [hqo, hey] at he
              simp at he
              exact .inr he
          obtain ⟨A1, A2, h1, h2⟩ := hnon he hey rfl
          rcases hql with hqq | hll
          · exact ⟨A, zjk hqq h2 A, rfl⟩
          · obtain ⟨A3, h3⟩ := hL i o true v m ho hrec rfl hll c A hposs I.mem
            exact ⟨A3, h3, zfT hll h3⟩
        obtain ⟨A', hop, rfl⟩ := hop
        obtain ⟨μ', v', w', hres, hv', W', E'⟩ := zgQ I.wr hTR hop
        have hnext := jk hro0 hbase hcall hsame hk hE hL hF hq fuel _ _ w' c μ' _ (I.step hk ho hun hpr (by rw [hval]; exact hv') W' E' I.mem (.inr ⟨by rw [hisE, he], rfl⟩)) hfuel
        refine ma (.inr fun c hc => ?_) ?_
        · rw [gV, hc, hey] at he
          simp [quiet, looks] at he
        unfold Oper.wp
        rcases hres with hr | ⟨hr, rfl⟩
        · rw [hr, Oper.upon_value]; exact hnext
        · rw [hr, Oper.upon_skip]; exact hnext
end
theorem fZ(hm:P.follows .mixedOrders=true){same:XT}(hsame:cv P same){call:aJ}(hcall:bC P call):fF P (mE P same call):=by
 intro rd ops a A a' A' h μ b w id ro Q W hab hro hq;unfold mE at h
 split at h
 ·rename_i hok
  have hk:=zcJ hok
  split at h
  ·rename_i B hB
   have hpre:WR μ B w/\bG μ A w μ B w/\B.next+bP ops 0=A.next+bP ops (0+ops.toList.length):=by
    split at hB
    ·exact zau (μ:=μ) (w:=w) (ops:=ops) ops.toList 0 _ A A B (by simp) hB W
    ·rename_i hany
     cases hB
     exact⟨W,bG.refl,by rw[si ops.toList 0 (by simp) (by simpa using hany)]⟩
   obtain⟨WB,EB,hBn⟩:=hpre;rw[iG]at h
   replace WB:=WB.lay
   replace EB:=EB.lay
   have hBn2:A.next+bP ops ops.size<=(fD B).next:=by
    have h1:(fD B).next=B.next:=rfl
    simp only[bP,Nat.zero_add,sW]at hBn
    omega
   split at h
   ·rename_i rs Ms lf hd
    split at h
    ·rename_i hc
     cases h
     obtain⟨g1,g2,g3⟩:=zeQ (base:=A.next) (l0:=a.tmps) (recs:=rs) (mems:=fD B::Ms) hk ops.toList 0 a.tmps (fD B) A.next rs Ms lf (by simp[bP]) (by simp) hd (by simp) (by simp[cnt]) (fun t=>by
      unfold tv
      split<;>simp)
     have hchk:=sr (P:=P) (ops:=ops) (mems:=fD B::Ms) (recs:=rs) ops.toList 0 rs (by simp) (by simp) hc
     have hchf:=qe (P:=P) (ops:=ops) (mems:=fD B::Ms) (recs:=rs) ops.toList 0 rs (by simp) (by simp) hc
     refine wpIn_region_any hm ?_;obtain⟨W1,E1⟩:=WB.drawn (w.drawn+1);refine jk (rd:=rd) (base:=A.next) (μ0:=μ) (A0:=A) (w0:=w) (l0:=a.tmps) (ds:=a.defers) (mems:=fD B::Ms) hro (sY _) hcall hsame hk (fun q o ho=>g1 q o (tB _) ho) (fun q o wt v m ho hr hwt hlk j B hj hB=>hchk q o wt v m (tB _) ho hr hwt hlk j B hj hB) (fun q o wt v m ho hr hlk j B hj hB=>hchf q o wt v m (tB _) ho hr hlk j B hj hB) ?_ ops.size _ b _ 0 μ (fD B) ?_ ?_
     ·intro listed b' w' c μ' A' I hall
      have hcn:c=Ms.length:=by
       have hge:Ms.length<=c:=by
        rcases tz c Ms.length with h1|h1
        ·have h2:c<cnt P ops (0+ops.toList.length):=by rw[<- g3];omega
         obtain⟨j,h3,h4,h5⟩:=oy h2;have:=(I.chain j h4).1 (hall j (zoA h4));omega
        ·exact h1
       have hle:c<(fD B::Ms).length:=(List.getElem?_eq_some_iff.1 I.mem).1
       simp only[tc]at hle
       omega
      have hA':A'=pN (fD B) Ms:=by
       have:=I.mem;rw[hcn,pM]at this;exact(tf this).symm
      subst hA';refine hq b' w' ⟨μ',rfl,⟨fun t v hv=>?_,I.len,I.defers⟩,I.wr,I.ext⟩
      refine I.tmps t v ?_;rw[<- hv,g2 t];unfold tv
      cases hwr:fx ops t with
      |none=>rfl
      |some p=>
       simp only
       have hp:=mG (dN hwr);rw[hall p hp]
       simp[hp]
     ·refine⟨by simp,fun i o ho hi=>?_,fun i hi=>?_,rfl,fun t v ht=>?_,hab.len,hab.defers,W1,EB.trans E1,hBn2,fun j hj hl=>W.dom _ (by omega)⟩
      ·unfold bB at hi
       rw[sR]at hi
       simp only[sX]at hi
       split at hi<;>cases hi
      ·constructor
       ·intro h
        unfold bB at h;rw[sR]at h
        simp only[sX]at h
        split at h<;>cases h
       ·intro h;omega
      ·refine hab.tmps t v ?_
       rw[<- ht];unfold tv;have hf:∀p,bB (Array.replicate ops.size false) p=false:=fun p=>by
        unfold bB;rw[sR]
        simp only[sX]
        split<;>rfl
       split
       ·simp[hf]
       ·rfl
     ·exact tj (tp _ _) (by simp)
    ·cases h
   ·cases h
  ·cases h
 ·cases h
end Ev
end
section
namespace Ev
open Go.RowKit
variable {P:td}
structure Tb where
 g:Nat
 t:TypeId
 es:Nat
 cells:List ta
def Tb.obj(x:Tb):bw:=.cells x.cells x.t false none x.es
noncomputable def oJ:List Tb->Tr bw
 |[]=>.nil
 |x::r=>Tr.put (some x.obj) (x.g+1) (oJ r) x.g
noncomputable def zeE{α:Type}:List Tb->(Tr bw->α)->α
 |[],k=>k .nil
 |x::r,k=>zeE r fun t=>zkq x.cells fun vs=>Tr.fput (some (.cells vs x.t false none x.es)) (Nat.succ x.g) t x.g k
theorem pW{α:Type}:∀(l:List Tb)(k:Tr bw->α),zeE l k=k (oJ l)
 |[],k=>rfl
 |x::r,k=>by simp only[zeE,oJ,pW r,lA,Tr.fput_eq,Tb.obj]
noncomputable def wT(l:List Tb):AW:=⟨[],oJ l,ng⟩
theorem sK:∀{l:List Tb} {i:Nat} {o:bw},(wT l).get i=some o->∃x,x∈l/\x.g=i/\o=x.obj
 |[],i,o,h=>by
  have h':(Tr.nil:Tr bw).get i=some o:=h;rw[Tr.get_nil]at h';cases h'
 |x::r,i,o,h=>by
  have h':(Tr.put (some x.obj) (x.g+1) (oJ r) x.g).get i=some o:=h;rw[Tr.get_put _ _ _ _ _ (by omega)]at h'
  split at h'
  ·rename_i e
   exact⟨x,by simp,e.symm,(tf h').symm⟩
  ·obtain⟨y,h1,h2,h3⟩:=sK (l:=r) (i:=i) (o:=o) h'
   exact⟨y,by simp[h1],h2,h3⟩
def zla(l:List Tb):Bool:=l.all fun x=>bF x.cells&&(match iB x.g with
 |some (a,b)=>Nat.beq a x.cells.length&&Nat.beq b x.es
 |none=>false)
theorem lU{l:List Tb}(h:zla l=true){x:Tb}(hx:x∈l):bF x.cells=true/\iB x.g=some (x.cells.length,x.es):=by
 have h1:=sV.1 h x hx;rw[sS]at h1;refine⟨h1.1,?_⟩;have h2:=h1.2
 split at h2
 ·rename_i a b hg
  rw[sS]at h2;rw[hg,dS h2.1,dS h2.2]
 ·cases h2
def Tbs(l:List Tb)(w:te):Prop:=∀x,x∈l->∃c,w.heap[x.g]?=some (.cells c x.t)/\c.toList=x.cells
theorem kW{i:Nat}{l:qs}(h:mu0 i=some l):∃s,iB i=some s/\l=⟨i,0,s.1,s.2⟩:=by
 have h':(iB i).map (fun s=>(⟨i,0,s.1,s.2⟩:qs))=some l:=h
 cases hg:iB i with
 |none=>rw[hg]at h';cases h'
 |some s=>rw[hg]at h';exact⟨s,rfl,(tf h').symm⟩
theorem WRT{l:List Tb}{w:te}(hl:zla l=true)(hw:Tbs l w):WR mu0 (wT l) w:=by
 refine⟨fun i o lo h hlo=>?_,fun i j oi oj li lj hi hj h1 h2 hb=>?_,fun i hi=>(zxT w).dom i hi⟩
 ·obtain⟨x,hx,rfl,rfl⟩:=sK h
  obtain⟨hf,hg⟩:=lU hl hx;obtain⟨s,hs,rfl⟩:=kW hlo;rw[hg]at hs;obtain rfl:=tf hs;obtain⟨c,hc,hct⟩:=hw x hx;have hsz:c.size=x.cells.length:=by rw[<- hct];simp
  refine⟨_,hc,c,(0,0),rfl,hsz,by simp,fun _=>⟨rfl,rfl⟩,rfl,?_,rfl⟩
  simp only[tt]
  rw[sZ (by rw[hct];exact sY _),hct]
  exact bv hf
 ·obtain⟨s,_,rfl⟩:=kW h1
  obtain⟨s',_,rfl⟩:=kW h2;exact hb
noncomputable def okT(l:List Tb):Except String (AE×AW)->Bool
 | .ok (.ret (.bool true),A)=>l.all fun x=>match A.get x.g with
  |some obj=>iq obj x.obj
  |none=>false
 |_=>false
noncomputable def zlu(P:td)(same:XT)(fuel depth:Nat)(l:List Tb)(f:tF):Bool:=zeE l fun t=>okT l (evF P same fuel (mE P same) depth false f [] ⟨[],t,ng⟩)
theorem zeV{same:XT}{fuel depth:Nat}{f:tF}{l:List Tb}(hm:P.follows .mixedOrders=true)(hsame:cv P same)(hl:zla l=true)(h:zlu P same fuel depth l f=true)(w:te)(hw:Tbs l w):
  Calls P f #[] w fun e w'=>e=.returned (.bool true)/\Below w.heap.size w w':=by
 unfold zlu at h;rw[pW]at h;unfold okT at h
 split at h
 ·rename_i A' hr
  refine((iI hsame (fun call hc=>fZ hm hsame hc) depth).fn f [] (wT l) _ A' hr mu0 w #[] (WRT hl hw) LR.nil).mono fun e w' ⟨μ',he,W',E⟩=>?_
  cases e with
  |returned v=>
   simp only[ER,VR]at he
   subst he;refine⟨rfl,E.os,E.tape,E.output,E.size,fun k hk=>?_⟩
   by_cases hk0:∃x,x∈l/\x.g=k
   ·obtain⟨x,hx,rfl⟩:=hk0
    have h1:=sV.1 h x hx
    split at h1
    ·rename_i obj hobj
     have ho:=eM h1;subst ho;obtain⟨hf,hg⟩:=lU hl hx;obtain⟨c,hc,hct⟩:=hw x hx;obtain⟨o',h1,c',fr,rfl,h3,h4,h5,h6,h7,h8⟩:=W'.has x.g _ _ hobj (μ'.glob x.g _ hg)
     simp only at h1 h3 h7 h8
     have h9:=bN hf h7;rw[tt,sZ (by rw[sW,h3];exact sY _)]at h9
     have h10:c'=c:=tA.1 (by rw[h9,hct])
     simp only[FZ]at h8
     rw[h1,hc,h10,h8]
    ·cases h1
   ·refine E.stay k hk fun i o lo hi hlo e=>?_
    obtain⟨x,hx,rfl,rfl⟩:=sK hi;obtain⟨s,_,rfl⟩:=kW hlo;exact hk0 ⟨x,hx,e⟩
  |panicked ch=>exact he.elim
  |outgrown=>exact he.elim
 ·cases h
end Ev
end
section
namespace Ev
open Go.RowKit
variable {P:td}
def zpS:List ta->List ta->Bool
 |[],[]=>true
 |x::xs,y::ys=>veq x y&&zpS xs ys
 |_,_=>false
theorem zhb:∀{xs ys:List ta},zpS xs ys=true->xs=ys
 |[],[],_=>rfl
 |x::xs,y::ys,h=>by
  simp only[zpS,sS]at h
  rw[lS h.1,zhb h.2]
 |[],_::_,h=>by cases h
 |_::_,[],h=>by cases h
def zsB:ta->ta->Bool
 | .tuple ⟨x⟩,.tuple ⟨y⟩=>zpS x y
 |x,y=>veq x y
theorem zpR{x y:ta}(h:zsB x y=true):x=y:=by
 unfold zsB at h
 split at h
 ·rw[zhb h]
 ·exact lS h
noncomputable def okA(l:List Tb)(v:ta):Except String (AE×AW)->Bool
 | .ok (.ret u,A)=>zsB u v&&bV u&&l.all fun x=>match A.get x.g with
  |some obj=>iq obj x.obj
  |none=>false
 |_=>false
noncomputable def zsP(P:td)(same:XT)(fuel depth:Nat)(l:List Tb)(f:tF)(args:List ta)(v:ta):Bool:=zeE l fun t=>okA l v (evF P same fuel (mE P same) depth false f args ⟨[],t,ng⟩)
theorem zeW{same:XT}{fuel depth:Nat}{f:tF}{l:List Tb}{args:List ta}{v0:ta}(hm:P.follows .mixedOrders=true)(hsame:cv P same)(hl:zla l=true)(ha:bF args=true)(h:zsP P same fuel depth l f args v0=true)(w:te)(hw:Tbs l w):
  Calls P f ⟨args⟩ w fun e w'=>e=.returned v0/\Below w.heap.size w w':=by
 unfold zsP at h;rw[pW]at h;unfold okA at h
 split at h
 ·rename_i u A' hr
  rw[sS,sS]at h;obtain⟨⟨hv,hfl⟩,h⟩:=h;have hv:=zpR hv;subst hv;refine((iI hsame (fun call hc=>fZ hm hsame hc) depth).fn f args (wT l) _ A' hr mu0 w ⟨args⟩ (WRT hl hw) (bv ha)).mono fun e w' ⟨μ',he,W',E⟩=>?_
  cases e with
  |returned v=>
   simp only[ER]at he
   obtain rfl:=cZ hfl he;refine⟨rfl,E.os,E.tape,E.output,E.size,fun k hk=>?_⟩
   by_cases hk0:∃x,x∈l/\x.g=k
   ·obtain⟨x,hx,rfl⟩:=hk0
    have h1:=sV.1 h x hx
    split at h1
    ·rename_i obj hobj
     have ho:=eM h1;subst ho;obtain⟨hf,hg⟩:=lU hl hx;obtain⟨c,hc,hct⟩:=hw x hx;obtain⟨o',h1,c',fr,rfl,h3,h4,h5,h6,h7,h8⟩:=W'.has x.g _ _ hobj (μ'.glob x.g _ hg)
     simp only at h1 h3 h7 h8
     have h9:=bN hf h7;rw[tt,sZ (by rw[sW,h3];exact sY _)]at h9
     have h10:c'=c:=tA.1 (by rw[h9,hct])
     simp only[FZ]at h8
     rw[h1,hc,h10,h8]
    ·cases h1
   ·refine E.stay k hk fun i o lo hi hlo e=>?_
    obtain⟨x,hx,rfl,rfl⟩:=sK hi;obtain⟨s,_,rfl⟩:=kW hlo;exact hk0 ⟨x,hx,e⟩
  |panicked ch=>exact he.elim
  |outgrown=>exact he.elim
 ·cases h
end Ev
end
section
namespace Ev
open Go.RowKit
variable {P:td}
noncomputable def okM(l:List Tb)(chk:ta->AW->Bool):Except String (AE×AW)->Bool
 | .ok (.ret u,A)=>chk u A&&l.all fun x=>match A.get x.g with
  |some obj=>iq obj x.obj
  |none=>false
 |_=>false
abbrev OvT:=tF->List ta->AW->Option (ta×AW)
def zwd(P:td)(ov:OvT):Prop:=∀f args A v A',ov f args A=some (v,A')->∀(μ:Mu)(w:te)(args':Array ta),WR μ A w->LR μ args args'.toList->
 Calls P f args' w fun e' w'=>∃μ',ER μ' (.ret v) e'/\WR μ' A' w'/\bG μ A w μ' A' w'
noncomputable def evG(P:td)(same:XT)(fuel:Nat)(dr:aJ->dj)(ov:OvT):Nat->aJ
 |0=>fun _ _ _ _=>.error "too deep"
 |n+1=>fun y f args A=>if y then qT P same fuel dr (evG P same fuel dr ov n) f args A else match ov f args A with
  |some (v,A')=>.ok (.ret v,A')
  |none=>qU P same fuel dr (evG P same fuel dr ov n) f args A
theorem pZ{same:XT}{fuel:Nat}{dr:aJ->dj}{ov:OvT}(hsame:cv P same)(hdr:∀call,bC P call->fF P (dr call))(hov:zwd P ov):∀n,bC P (evG P same fuel dr ov n)
 |0=>⟨fun f args A e A' h=>(by cases h),fun f args A e A' h=>(by cases h)⟩
 |n+1=>⟨fun f args A e A' h=>by
   have h':(match ov f args A with
    |some (v,A')=>(Except.ok (.ret v,A'):Except String (AE×AW))
    |none=>qU P same fuel dr (evG P same fuel dr ov n) f args A)=Except.ok (e,A'):=h
   split at h'
   ·rename_i v A2 ho
    cases h'
    exact hov f args A v _ ho
   ·exact zbW (pZ hsame hdr hov n) hsame (hdr _ (pZ hsame hdr hov n)) h',fun r args A e A' h=>zbV (pZ hsame hdr hov n) hsame (hdr _ (pZ hsame hdr hov n)) (show qT P same fuel dr (evG P same fuel dr ov n) r args A=.ok (e,A')from h)⟩
noncomputable def knows(l:List Tb)(A:AW):Bool:=l.all fun x=>match A.get x.g with
 |some obj=>iq obj x.obj
 |none=>false
end Ev
end
end Go.Proofs.YtbbapnpdfcgjnaaGreatDoor
