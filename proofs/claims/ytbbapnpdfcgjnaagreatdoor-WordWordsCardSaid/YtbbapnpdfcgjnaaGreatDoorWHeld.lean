/- Held: parts of the proof, joined. -/
import Derived.OrdersHeld
import Derived.StillTail
open Go.Region renaming ready->sD, waitsFor->sE, binds->sG, Mode->sH
open Go renaming ready_mono->sI, World->sJ
set_option maxHeartbeats 64000000
namespace Go.Proofs.YtbbapnpdfcgjnaaGreatDoor
section
section
variable {P:Program} {ops:Array Oper} {Q:Exit->Act->sJ->Prop} {md:sH} {S:sJ->Prop} {fin:Nat->Bool}
def zpy(P:Program)(md:sH)(ops:Array Oper)(Q:Exit->Act->sJ->Prop)(S:sJ->Prop)(fin:Nat->Bool):Nat->Array Bool->Act->sJ->Prop
 |0,listed,a,w=>sD md ops listed=[]/\Q .normal a w
 |f+1,listed,a,w=>(sD md ops listed=[]->Q .normal a w)∧
   ∀i∈sD md ops listed,wpOp P ops Q i (fun a' w'=>(fin i=false->S w')/\zpy P md ops Q S fin f (listed.setIfInBounds i true) a' w') a w
theorem lZ:∀(f:Nat)(listed:Array Bool)(a:Act)(w:sJ),zpy P md ops Q S fin f listed a w->wpAny P md ops Q f listed a w
 |0,_,_,_,h=>h
 |f+1,_,_,_,h=>⟨h.1,fun i hi=>wpOp_mono (fun a' w' h'=>lZ f _ a' w' h'.2) (h.2 i hi)⟩
theorem zht{i:Nat}{oi:Oper}{v:Value}(hi:ops[i]?=some oi)(hsel:∀(j:Nat)(o:Oper) cs b,ops[j]?=some o->o.op≠ .select cs b)
  (hQ:∀c a w,Q (.panic c) (a.put oi.dst v) w->Q (.panic c) a w) (hfi:fin i=false) (hfin:∀j,fin j=true->sE md ops j i=true):
  ∀(f:Nat)(listed:Array Bool)(a:Act)(w:sJ),
   (∀j oj,ops[j]?=some oj->j≠i->listed.getD j true=false->(∀e∈oj.after,sG md e=true->e.on≠i)->oi.apart ops oj=true)->
   i∈sD md ops listed->YieldsIf P ops S oi v a->S w->
   zpy P md ops Q S fin f (listed.setIfInBounds i true) (a.put oi.dst v) w->zpy P md ops Q S fin (f+1) listed a w:=by
 intro f
 induction f with
 |zero=>
  intro listed a w _ hr hy hS H;refine⟨fun h=>(by rw[h]at hr;cases hr),fun j hj=>?_⟩;by_cases hji:j=i
  ·subst hji;exact hy.wpOp hi hS ⟨fun _=>hS,H⟩
  ·have h9:=sI hj hji;rw[H.1]at h9;cases h9
 |succ f ih=>
  intro listed a w hfree hr hy hS H;refine⟨fun h=>(by rw[h]at hr;cases hr),fun j hj=>?_⟩;by_cases hji:j=i
  ·subst hji;exact hy.wpOp hi hS ⟨fun _=>hS,H⟩
  ·have h1:=H.2 j (sI hj hji);obtain⟨hjun,oj,hoj,hall⟩:=mem_ready.1 hj;have hnot:∀e∈oj.after,sG md e=true->e.on≠i:=fun e he hb heq=>by
    have h5:=hall e he hb;have h0:=(mem_ready.1 hr).1;rw[heq]at h5;rcases Nat.lt_or_ge i listed.size with h'|h'
    ·simp[h']at h0 h5;rw[h0]at h5;cases h5
    ·simp[Array.getElem?_eq_none h']at h5
   have hfj:fin j=false:=by
    cases hf:fin j with
    |false=>rfl
    |true=>obtain⟨ok,hok,e,he,hb,heq⟩:=Region.waitsFor_spec (hfin j hf);rw[hoj]at hok;cases hok;exact absurd heq (hnot e he hb)
   have h2:=wpOp_putIf hoj (hfree j oj hoj hji hjun hnot) (fun cs b=>hsel i oi cs b hi) (fun cs b=>hsel j oj cs b hoj) hQ hy h1;have hfree':∀k ok,ops[k]?=some ok->k≠i->(listed.setIfInBounds j true).getD k true=false->
     (∀e∈ok.after,sG md e=true->e.on≠i)->oi.apart ops ok=true:=fun k ok hk hki hun hno=>by
    refine hfree k ok hk hki ?_ hno;by_cases hjk:j=k
    ·subst hjk;exact hjun
    ·rw[getD_set_ne true hjk]at hun;exact hun
   refine wpOp_mono (fun a' w' h3=>⟨h3.2.1,ih (listed.setIfInBounds j true) a' w' hfree' (sI hr (Ne.symm hji)) h3.1 (h3.2.1 hfj) ?_⟩) h2;rw[Array.setIfInBounds_comm _ _ hji];exact h3.2.2
def Region.finB(md:sH)(ops:Array Oper)(fin:Nat->Bool)(i:Nat):Bool:= !fin i&&(List.range ops.size).all fun j=> !fin j||sE md ops j i
theorem finB_spec{i:Nat}(hs:∀j,fin j=true->j<ops.size)(h:Region.finB md ops fin i=true):fin i=false/\∀j,fin j=true->sE md ops j i=true:=by
 simp only[Region.finB,Bool.and_eq_true,Bool.not_eq_true',List.all_eq_true,List.mem_range,Bool.or_eq_true]at h;refine⟨h.1,fun j hj=>?_⟩;rcases h.2 j (hs j hj)with h5|h5
 ·rw[hj]at h5;cases h5
 ·exact h5
end
end
end Go.Proofs.YtbbapnpdfcgjnaaGreatDoor
