/- Ev17: parts of the proof, joined. -/
import Derived.Test.YtbbapnpdfcgjnaaGreatDoorLEv13
open List renaming getElem?_eq_some_iff->xa, drop_eq_nil_iff->xb, length_cons->xf, all_eq_true->xh, range->xi, mem_range->xj
open Array renaming getElem?_eq_some_iff->xd, getElem?_toList->xe
set_option maxHeartbeats 64000000
namespace Go.Proofs.YtbbapnpdfcgjnaaGreatDoor
section
namespace Ev
variable {P:Program}
abbrev Rc:=Bool × Value × Env
noncomputable def dgo (P:Program) (call:zaw) (same:XT) (rd:Option Nat) (ops:Array Oper) (size:Nat) (ds:List zjo):List Oper->Env->AW->Nat->Except String (List Rc × List AW × Env)
 | [],l,_,_=>.ok ([],[],l)
 | o::r,l,A,e=>if early o then zux l (o.looksAt ops) fun m=>match mkE P (o.looksAt ops) m o with
   | some (v0,_)=>fV (rn e v0) fun v=>zcv ⟨l,size,ds⟩ o.dst v fun a'=>fN (e+1) fun e'=>match dgo P call same rd ops size ds r a'.tmps A e' with
    | .ok (rs,Ms,lf)=>.ok ((true,v,m)::rs,Ms,lf)
    | .error s=>.error s
   | none=>.error ("draw: new " ++o.pos)
  else zux l (o.looksAt ops) fun m=>match zcf ops m o with
  | some true=>if zjr P o then
    match zbH P call same rd o ⟨m,size,ds⟩ A with
    | .ok (.val v,A')=>fV v fun v=>zcv ⟨l,size,ds⟩ o.dst v fun a'=>fW A' fun A'=>match dgo P call same rd ops size ds r a'.tmps A' e with
     | .ok (rs,Ms,lf)=>.ok ((true,v,m)::rs,A'::Ms,lf)
     | .error s=>.error s
    | .ok _=>.error ("draw: " ++o.pos)
    | .error s=>.error s
   else match aOp P m o A with
    | some (v,_)=>fV v fun v=>zcv ⟨l,size,ds⟩ o.dst v fun a'=>match dgo P call same rd ops size ds r a'.tmps A e with
     | .ok (rs,Ms,lf)=>.ok ((true,v,m)::rs,Ms,lf)
     | .error s=>.error s
    | none=>.error ("draw op: " ++o.pos)
  | some false=>zcv ⟨l,size,ds⟩ o.dst undef fun a'=>match dgo P call same rd ops size ds r a'.tmps A e with
   | .ok (rs,Ms,lf)=>.ok ((false,undef,m)::rs,if zjr P o then A::Ms else Ms,lf)
   | .error s=>.error s
  | none=>.error ("draw guard: " ++o.pos)
noncomputable def zdx (recs:List Rc) (i:Nat):Value:=match recs[i]? with
 | some (_,v,_)=>v
 | none=>undef
def Each (P:Program) (call:zaw) (same:XT) (rd:Option Nat) (ops:Array Oper) (size:Nat) (ds:List zjo) (l0:Env) (recs:List Rc) (mems:List AW) (base i:Nat) (o:Oper):Prop:=
 ∃wt v m,recs[i]? =some (wt,v,m)/\zcf ops m o=some wt/\(∀t u,m.get t=some u->t∈o.looksAt ops/\tv ops (zdx recs) l0 (fun p=>decide (p<i)) t=some u)/\(wt=false->v=undef)∧
  (zjr P o=true->∃A A',mems[cnt P ops i]? =some A/\mems[cnt P ops i+1]? =some A'/\(wt=true->∃A1,zbH P call same rd o ⟨m,size,ds⟩ A= .ok (.val v,A1)/\A'=zhe A1)/\(wt=false->A'=A))∧
  (zjr P o=false->early o=false->wt=true->∃A A',mems[cnt P ops i]? =some A/\aOp P m o A=some (v,A'))/\(early o=true->∃v0 obj,mkE P (o.looksAt ops) m o=some (v0,obj)/\v=rn (base+zbZ ops i) v0)
theorem zkL {o:Oper} (h:early o=true):zjr P o=false:=by simp[zjr,h]
theorem zkK {ops:Array Oper} {m:Env} {o:Oper} (P:Program) (h:early o=true):zcf ops m o=some true:=by
 unfold zcf;rw[(zpb (P:=P) h).2]
theorem zCD {ops:Array Oper} {size i:Nat} {ds:List zjo} {l l0:Env} {recs:List Rc} {v:Value} {o:Oper} (hk:OkD P ops size) (ho:ops[i]? =some o) (hl:∀t,l.get t=tv ops (zdx recs) l0 (fun p=>decide (p<i)) t) (hv:zdx recs i=v) (t:Nat):
  ((AA.mk l size ds).put o.dst v).tmps.get t=tv ops (zdx recs) l0 (fun p=>decide (p<i+1)) t:=by
 have hdst:zcw ops i=o.dst:=by simp[zcw,ho]
 have other:∀p,zdy ops t=some p->p≠i->(decide (p<i+1))=decide (p<i):=fun p _ hp=>by
  rw[decide_eq_decide];omega
 have keep:(∀d,o.dst=some d->t≠d)->tv ops (zdx recs) l0 (fun p=>decide (p<i+1)) t=l.get t:=fun hne=>by
  rw[hl t];unfold tv
  split
  ·rename_i p hp
   have hpi:p≠i:=fun e=>by
    subst e;have:=zbL hp;rw[hdst] at this;exact hne t this rfl
   simp only[other p hp hpi]
  ·rfl
 cases hd:o.dst with
 | none=>simp only[AA.put];rw[keep (fun d h=>by rw[hd] at h;cases h)]
 | some d=>
  have hsm:=hk.small i d (by rw[hdst,hd])
  have hb:Nat.ble (Nat.succ d) size=true:=Nat.ble_eq_true_of_le hsm
  simp only[AA.put,hb,if_true]
  rw[Tr.get_put _ _ _ _ _ (by omega)]
  by_cases e:t=d
  ·subst e
   rw[if_pos rfl];have:=zfy hk (show zcw ops i=some t by rw[hdst,hd])
   unfold tv;rw[this]
   simp[hv]
  ·rw[if_neg e,keep (fun d' h=>by rw[hd] at h;cases h;exact e)]
theorem zaN {α:Type} {l r:List α} {x:α} {i:Nat} (h:l.drop i=x::r):l[i]? =some x/\l.drop (i+1)=r:=by
 constructor
 ·have:=congrArg (fun l=>l[0]?) h
  simpa using this
 ·rw[<- List.drop_drop,h];rfl
theorem zpe {call:zaw} {same:XT} {rd:Option Nat} {ops:Array Oper} {size base:Nat} {ds:List zjo} {l0:Env} (hk:OkD P ops size) {recs:List Rc} {mems:List AW}:∀(os:List Oper) (i:Nat) (l:Env) (A:AW) (e:Nat) (rs:List Rc) (Ms:List AW) (lf:Env),e=base+zbZ ops i->
  ops.toList.drop i=os->dgo P call same rd ops size ds os l A e= .ok (rs,Ms,lf)->recs.drop i=rs->mems.drop (cnt P ops i)=A::Ms->(∀t,l.get t=tv ops (zdx recs) l0 (fun p=>decide (p<i)) t)->
  (∀q o,i<=q->ops[q]? =some o->Each P call same rd ops size ds l0 recs mems base q o)/\(∀t,lf.get t=tv ops (zdx recs) l0 (fun p=>decide (p<i+os.length)) t)/\Ms.length+cnt P ops i=cnt P ops (i+os.length)
 | [],i,l,A,e,rs,Ms,lf,hee,hos,h,hrs,hms,hl=>by
  simp only[dgo] at h;cases h
  refine⟨fun q o hq ho=>?_,fun t=>by simpa using hl t,by simp⟩
  have h1:ops.toList.length<=i:=xb.1 hos;have h2:=(xd.1 ho).1
  simp at h1
  omega
 | o::r,i,l,A,e,rs,Ms,lf,hee,hos,h,hrs,hms,hl=>by
  obtain⟨ho',hor⟩:=zaN hos;have ho:ops[i]? =some o:=by rw[<- xe];exact ho'
  have hmem:=(zaN hms).1;have heff:zbT P ops i=zjr P o:=by simp[zbT,ho]
  have hmask:∀t u,(zgG l (o.looksAt ops)).get t=some u->t∈o.looksAt ops/\tv ops (zdx recs) l0 (fun p=>decide (p<i)) t=some u:=fun t u hu=>by
   obtain⟨h1,h2⟩:=ziD hu;exact⟨h1,by rw[<- hl t];exact h2⟩
  have hisy:zbj ops i=early o:=by simp[zbj,ho]
  have finish:∀(wt:Bool) (v:Value) (A1:AW) (e1:Nat) (rs1:List Rc) (Ms1:List AW),e1=base+zbZ ops (i+1)->rs=(wt,v,zgG l (o.looksAt ops))::rs1->dgo P call same rd ops size ds r ((AA.mk l size ds).put o.dst v).tmps A1 e1= .ok (rs1,Ms1,lf)->(mems.drop (cnt P ops (i+1))=A1::Ms1)->(Ms.length+cnt P ops i=Ms1.length+cnt P ops (i+1))->
    (recs[i]? =some (wt,v,zgG l (o.looksAt ops))->Each P call same rd ops size ds l0 recs mems base i o)->
    (∀q o,i<=q->ops[q]? =some o->Each P call same rd ops size ds l0 recs mems base q o)/\(∀t,lf.get t=tv ops (zdx recs) l0 (fun p=>decide (p<i+(o::r).length)) t)/\Ms.length+cnt P ops i=cnt P ops (i+(o::r).length):=by
   intro wt v A1 e1 rs1 Ms1 he1 hr hd hm hlen hE;rw[hr] at hrs;obtain⟨hri,hrr⟩:=zaN hrs;have hv:zdx recs i=v:=by simp[zdx,hri]
   obtain⟨g1,g2,g3⟩:=zpe hk r (i+1) _ A1 e1 rs1 Ms1 lf he1 hor hd hrr hm (zCD hk ho hl hv);refine⟨fun q o' hq hq'=>?_,fun t=>?_,?_⟩
   ·by_cases eq:q=i
    ·subst eq
     rw[ho] at hq';cases hq';exact hE hri
    ·exact g1 q o' (by omega) hq'
   ·rw[g2 t,show i+1+r.length=i+(o::r).length by simp only[xf];omega]
   ·rw[show i+1+r.length=i+(o::r).length by simp only[xf];omega] at g3
    omega
  unfold dgo at h
  by_cases hey:early o=true
  ·rw[if_pos hey,zfs] at h
   split at h
   ·rename_i v0 obj hmk
    rw[zhf,zaX,zck] at h
    split at h
    ·rename_i rs1 Ms1 lf1 h2
     cases h
     have hc:cnt P ops (i+1)=cnt P ops i:=by simp[cnt,heff,zkL (P:=P) hey]
     refine finish true _ A (e+1) rs1 Ms (by simp only[zbZ,hisy,hey,if_true];omega) rfl h2 (by rw[hc];exact hms) (by rw[hc]) fun hri=>?_
     exact⟨true,_,_,hri,zkK P hey,hmask,fun hh=>(by cases hh),fun hh=>(by rw[zkL hey] at hh;cases hh),fun _ hh=>(by rw[hey] at hh;cases hh),fun _=>⟨v0,obj,hmk,by rw[hee]⟩⟩
    ·cases h
   ·cases h
  have hey':early o=false:=by simpa using hey
  have hen:e=base+zbZ ops (i+1):=by simp only[zbZ,hisy,hey'];exact hee
  rw[if_neg hey,zfs] at h
  split at h
  ·rename_i hw
   split at h
   ·rename_i he
    split at h
    ·rename_i v A1 h1
     rw[zhf,zaX,zgs] at h
     split at h
     ·rename_i rs1 Ms1 lf1 h2
      cases h
      have hc:cnt P ops (i+1)=cnt P ops i+1:=by simp[cnt,heff,he]
      have hms2:mems.drop (cnt P ops i+1)=zhe A1::Ms1:=(zaN hms).2;refine finish true v (zhe A1) e rs1 Ms1 hen rfl h2 (by rw[hc];exact hms2) (by simp only[xf];omega) fun hri=>?_
      refine⟨true,v,_,hri,hw,hmask,fun hh=>(by cases hh),fun _=>⟨A,zhe A1,hmem,(zaN hms2).1,fun _=>⟨A1,h1,rfl⟩,fun hh=>(by cases hh)⟩,fun hh=>(by rw[he] at hh;cases hh),fun hh=>(by rw[hey'] at hh;cases hh)⟩
     ·cases h
    ·cases h
    ·cases h
   ·rename_i he
    have he':zjr P o=false:=by simpa using he
    split at h
    ·rename_i v A1 h1
     rw[zhf,zaX] at h
     split at h
     ·rename_i rs1 Ms1 lf1 h2
      cases h
      have hc:cnt P ops (i+1)=cnt P ops i:=by simp[cnt,heff,he']
      refine finish true v A e rs1 Ms hen rfl h2 (by rw[hc];exact hms) (by rw[hc]) fun hri=>?_
      refine⟨true,v,_,hri,hw,hmask,fun hh=>(by cases hh),fun hh=>(by rw[he'] at hh;cases hh),fun _ _ _=>⟨A,A1,hmem,h1⟩,fun hh=>(by rw[hey'] at hh;cases hh)⟩
     ·cases h
    ·cases h
  ·rename_i hw
   rw[zaX] at h
   split at h
   ·rename_i rs1 Ms1 lf1 h2
    cases h
    by_cases he:zjr P o=true
    ·have hc:cnt P ops (i+1)=cnt P ops i+1:=by simp[cnt,heff,he]
     rw[if_pos he] at hms;have hms2:mems.drop (cnt P ops i+1)=A::Ms1:=(zaN hms).2;have:=finish false undef A e rs1 Ms1 hen rfl h2 (by rw[hc];exact hms2) (by rw[if_pos he];simp only[xf];omega) fun hri=>
      ⟨false,undef,_,hri,hw,hmask,fun _=>rfl,fun _=>⟨A,A,hmem,(zaN hms2).1,fun hh=>(by cases hh),fun _=>rfl⟩,fun hh=>(by rw[he] at hh;cases hh),fun hh=>(by rw[hey'] at hh;cases hh)⟩
     exact this
    ·have he':zjr P o=false:=by simpa using he
     have hc:cnt P ops (i+1)=cnt P ops i:=by simp[cnt,heff,he']
     rw[if_neg he] at hms;have:=finish false undef A e rs1 Ms1 hen rfl h2 (by rw[hc];exact hms) (by rw[if_neg he,hc]) fun hri=>
      ⟨false,undef,_,hri,hw,hmask,fun _=>rfl,fun hh=>(by rw[he'] at hh;cases hh),fun _ _ hh=>(by cases hh),fun hh=>(by rw[hey'] at hh;cases hh)⟩
     exact this
   ·cases h
  ·cases h
noncomputable def zoN (P:Program) (ops:Array Oper) (o:Oper) (m:Env) (v:Value) (A:AW):Bool:=match mkE P (o.looksAt ops) m o with
 | some (_,obj)=>(match A.get (idOf v) with
  | some obj'=>zfV obj' obj
  | none=>false)
 | none=>false
noncomputable def zCa (P:Program) (ops:Array Oper) (mems:List AW):List Oper->Nat->List Rc->Bool
 | o::r,i,(wt,v,m)::rs=>(if wt&&looks P o.op then (xi mems.length).all fun j=> !zjX P ops i j || (match mems[j]? with
   | some A=>(match aOp P m o A with
    | some (v',_)=>veq v' v
    | none=>false)
   | none=>false) else if early o then (xi mems.length).all fun j=> !zjX P ops i j || (match mems[j]? with
   | some A=>zoN P ops o m v A
   | none=>false) else true)&&zCa P ops mems r (i+1) rs
 | _,_,_=>true
theorem zkQ {ops:Array Oper} {mems:List AW} {recs:List Rc}:∀(os:List Oper) (i:Nat) (rs:List Rc),ops.toList.drop i=os->recs.drop i=rs->zCa P ops mems os i rs=true->∀q o wt v m,i<=q->ops[q]? =some o->recs[q]? =some (wt,v,m)->wt=true->looks P o.op=true->
  ∀j A,zjX P ops q j=true->mems[j]? =some A->∃A',aOp P m o A=some (v,A')
 | [],i,rs,hos,hrs,h,q,o,wt,v,m,hq,ho,hr,hwt,hlk,j,A,hj,hA=>by
  have h1:ops.toList.length<=i:=xb.1 hos;have h2:=(xd.1 ho).1
  simp at h1
  omega
 | o'::r,i,[],hos,hrs,h,q,o,wt,v,m,hq,ho,hr,hwt,hlk,j,A,hj,hA=>by
  have h1:recs.length<=i:=xb.1 hrs;have h2:=(xa.1 hr).1;omega
 | o'::r,i,(wt',v',m')::rs,hos,hrs,h,q,o,wt,v,m,hq,ho,hr,hwt,hlk,j,A,hj,hA=>by
  simp only[zCa,Bool.and_eq_true] at h
  obtain⟨ho',hor⟩:=zaN hos;obtain⟨hr',hrr⟩:=zaN hrs
  by_cases e:q=i
  ·subst e
   rw[hr] at hr';cases hr';have:ops[q]? =some o':=by rw[<- xe];exact ho'
   rw[ho] at this;cases this;subst hwt;have h1:=h.1;rw[hlk] at h1;have hjl:=(xa.1 hA).1;have h2:=xh.1 (show(xi mems.length).all _=true from h1) j (xj.2 hjl)
   rw[hj,hA] at h2
   simp only[Bool.not_true,Bool.false_or] at h2
   split at h2
   ·rename_i v'' A' h3
    rw[zhj h2] at h3;exact⟨A',h3⟩
   ·cases h2
  ·exact zkQ r (i+1) rs hor hrr h.2 q o wt v m (by omega) ho hr hwt hlk j A hj hA
theorem zfZ {o:Oper} (h:early o=true):looks P o.op=false:=(zpb h).1
theorem zhO {ops:Array Oper} {mems:List AW} {recs:List Rc}:∀(os:List Oper) (i:Nat) (rs:List Rc),ops.toList.drop i=os->recs.drop i=rs->zCa P ops mems os i rs=true->∀q o wt v m,i<=q->ops[q]? =some o->recs[q]? =some (wt,v,m)->early o=true->
  ∀j A,zjX P ops q j=true->mems[j]? =some A->zoN P ops o m v A=true
 | [],i,rs,hos,hrs,h,q,o,wt,v,m,hq,ho,hr,hlk,j,A,hj,hA=>by
  have h1:ops.toList.length<=i:=xb.1 hos;have h2:=(xd.1 ho).1
  simp at h1
  omega
 | o'::r,i,[],hos,hrs,h,q,o,wt,v,m,hq,ho,hr,hlk,j,A,hj,hA=>by
  have h1:recs.length<=i:=xb.1 hrs;have h2:=(xa.1 hr).1;omega
 | o'::r,i,(wt',v',m')::rs,hos,hrs,h,q,o,wt,v,m,hq,ho,hr,hlk,j,A,hj,hA=>by
  simp only[zCa,Bool.and_eq_true] at h
  obtain⟨ho',hor⟩:=zaN hos;obtain⟨hr',hrr⟩:=zaN hrs
  by_cases e:q=i
  ·subst e
   rw[hr] at hr';cases hr';have:ops[q]? =some o':=by rw[<- xe];exact ho'
   rw[ho] at this;cases this;have h1:=h.1;rw[zfZ (P:=P) hlk] at h1
   simp only[Bool.false_eq_true,if_false,hlk,if_true,and_false] at h1
   have hjl:=(xa.1 hA).1;have h2:=xh.1 h1 j (xj.2 hjl);rw[hj,hA] at h2
   simpa using h2
  ·exact zhO r (i+1) rs hor hrr h.2 q o wt v m (by omega) ho hr hlk j A hj hA
end Ev
end
end Go.Proofs.YtbbapnpdfcgjnaaGreatDoor
