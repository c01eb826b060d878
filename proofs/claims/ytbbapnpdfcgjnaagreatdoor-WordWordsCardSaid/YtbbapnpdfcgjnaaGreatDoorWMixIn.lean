/- MixIn, MixW: parts of the proof, joined. -/
import Derived.OrdersIn
import Derived.RangeFuncCalls
import Derived.TacticsIn
import Derived.Test.YtbbapnpdfcgjnaaGreatDoorWMix
open Go.Fence renaming wide->sD
open Go renaming World->sE
open Array renaming replicate->sG
open Go.Oper renaming uponIn->sH, upon->sJ, semAt_eq->sN, wp_mono->sO
open List renaming mem_of_getElem?->sI, all_eq_true->sK
set_option maxHeartbeats 64000000
namespace Go.Proofs.YtbbapnpdfcgjnaaGreatDoor
section
def g9(Q:Exit->Act->sE->Prop):Exit->Act->sE->Prop
 |.normal,a,w=>Q .normal a w
 |_,_,_=>False
theorem g9.imp{Q:Exit->Act->sE->Prop}:∀(e:Exit)(a:Act)(w:sE),g9 Q e a w->Q e a w:=fun e a w h=>by cases e<;>first|exact h|exact(h:False).elim
theorem g9.in{Q:Exit->Act->sE->Prop}{a:Act}{w:sE}(h:Q .normal a w):g9 Q .normal a w:=h
section
variable {P:Program} {ops:Array Oper} {Q:Exit->Act->sE->Prop} {md:Region.Mode}
theorem operIn_of{o:Oper}{a:Act}{w:sE}{K:Act->sE->Prop}(l n:Nat)(hnd:∀c,o.op≠ .defer c)(h:o.wp P a w K Q):o.wpIn (sD.inRound l) n P a w K Q:=by
 unfold Oper.wpIn;refine⟨fun _ _=>trivial,?_⟩;rw[sN _ _ _ hnd];unfold Oper.wp at h;generalize (execOp a.eval o).run P w=r at*;cases r with
 |ok x w'=>
  cases x<;>simp only[sH,sJ]at h⊢
  case value=>exact h
  case skip=>exact h
  case defer=>exact h
  case enter=>exact⟨fun hd=>by simp[sD]at hd,CallsIn.inRound l (callsIn_wide.2 h)⟩
  case row=>exact⟨fun hd=>by simp[sD]at hd,fun c cs _=>let ⟨v,w',r,s⟩:=h c cs;⟨v,w',r,stepsIn_wide.2 s⟩⟩
 |halt x w'=>cases x<;>simp only[sH,sJ]at h⊢<;>exact h
theorem gB(l n:Nat)(hnd:∀(j:Nat)(o:Oper),ops[j]?=some o->∀c,o.op≠ .defer c)(hQ:¬LetsOut Q):∀(f:Nat)(listed:Array Bool)(a:Act)(w:sE),wpAny P md ops Q f listed a w->wpAnyIn (sD.inRound l) n P md ops Q f listed a w
 |0,_,_,_,h=>h
 |f+1,listed,a,w,h=>by
  refine⟨h.1,fun i hi=>?_⟩;have h1:=h.2 i hi;unfold wpOp at h1;unfold wpOpIn;cases ho:ops[i]? with
  |none=>simp only[ho]at h1⊢;exact gB l n hnd hQ f _ _ _ h1
  |some o=>
   simp only[ho]at h1⊢;split
   ·rename_i hw;simp only[hw,if_true]at h1;rcases h1 with h1|h1
    ·exact operIn_of l n (hnd i o ho) (sO (fun a' w' h'=>gB l n hnd hQ f _ a' w' h') h1)
    ·exact absurd h1.2 hQ
   ·rename_i hw;simp only[hw]at h1;exact⟨fun _ _=>trivial,gB l n hnd hQ f _ _ _ h1⟩
theorem nV{id:Nat}{a:Act}{w:sE}{l:List Oper}(lp m:Nat)(ord:List (Nat×Bool))(S:sE->Prop)(fin:Nat->Bool)(hm:P.follows .mixedOrders=true)(hsel:Region.noSelect l.toArray=true)(hnd:l.all (fun o=>match o.op with|.defer _=>false|_=>true)=true)(hs:∀j,fin j=true->j<l.length)
  (hlen:ord.length=l.length) (hB:Region.mixB .any l.toArray fin ord (sG l.length false)=true) (hS:S w.drew)
  (h:dR P l.toArray (g9 Q) S fin ord a w.drew):(Code.region id l.toArray true).wpIn (sD.inRound lp) m P Q a w:=by
 refine Code.wpIn_mono g9.imp ?_;refine wpIn_region_any hm (gB lp m (fun j o ho c hc=>?_) (fun⟨_,_,hq⟩=>hq) _ _ _ _ (lZ (S:=S) (fin:=fin) _ _ _ _ ?_))
 ·have h5:=sK.1 hnd o (sI (i:=j) (by simpa using ho));rw[hc]at h5;cases h5
 ·have H:=iY (P:=P) (ops:=l.toArray) (Q:=g9 Q) (md:=.any) (S:=S) (fin:=fin) hsel (by simpa using hs) (fun _ _ _ _ _ h=>h) ord (sG l.length false) a w.drew hB (fun _=>hS) h;rw[hlen]at H;simpa using H
end
end
section
section
variable {P:Program} {ops:Array Oper} {Q:Exit->Act->sE->Prop} {md:Region.Mode}
theorem zgD{o:Oper}{a:Act}{w:sE}{K:Act->sE->Prop}(n:Nat)(hnd:∀c,o.op≠ .defer c)(h:o.wp P a w K Q):o.wpIn sD n P a w K Q:=by
 unfold Oper.wpIn;refine⟨fun _ _=>trivial,?_⟩;rw[sN _ _ _ hnd];unfold Oper.wp at h;generalize (execOp a.eval o).run P w=r at*;cases r with
 |ok x w'=>
  cases x<;>simp only[sH,sJ]at h⊢
  case value=>exact h
  case skip=>exact h
  case defer=>exact h
  case enter=>exact⟨fun hd=>by simp[sD]at hd,callsIn_wide.2 h⟩
  case row=>exact⟨fun hd=>by simp[sD]at hd,fun c cs _=>let ⟨v,w',r,s⟩:=h c cs;⟨v,w',r,stepsIn_wide.2 s⟩⟩
 |halt x w'=>cases x<;>simp only[sH,sJ]at h⊢<;>exact h
theorem eW(n:Nat)(hnd:∀(j:Nat)(o:Oper),ops[j]?=some o->∀c,o.op≠ .defer c)(hQ:¬LetsOut Q):∀(f:Nat)(listed:Array Bool)(a:Act)(w:sE),wpAny P md ops Q f listed a w->wpAnyIn sD n P md ops Q f listed a w
 |0,_,_,_,h=>h
 |f+1,listed,a,w,h=>by
  refine⟨h.1,fun i hi=>?_⟩;have h1:=h.2 i hi;unfold wpOp at h1;unfold wpOpIn;cases ho:ops[i]? with
  |none=>simp only[ho]at h1⊢;exact eW n hnd hQ f _ _ _ h1
  |some o=>
   simp only[ho]at h1⊢;split
   ·rename_i hw;simp only[hw,if_true]at h1;rcases h1 with h1|h1
    ·exact zgD n (hnd i o ho) (sO (fun a' w' h'=>eW n hnd hQ f _ a' w' h') h1)
    ·exact absurd h1.2 hQ
   ·rename_i hw;simp only[hw]at h1;exact⟨fun _ _=>trivial,eW n hnd hQ f _ _ _ h1⟩
theorem mi{id:Nat}{a:Act}{w:sE}{l:List Oper}(m:Nat)(ord:List (Nat×Bool))(S:sE->Prop)(fin:Nat->Bool)(hm:P.follows .mixedOrders=true)(hsel:Region.noSelect l.toArray=true)(hnd:l.all (fun o=>match o.op with|.defer _=>false|_=>true)=true)(hs:∀j,fin j=true->j<l.length)
  (hlen:ord.length=l.length) (hB:Region.mixB .any l.toArray fin ord (sG l.length false)=true) (hS:S w.drew)
  (h:dR P l.toArray (g9 Q) S fin ord a w.drew):(Code.region id l.toArray true).wpIn sD m P Q a w:=by
 refine Code.wpIn_mono g9.imp ?_;refine wpIn_region_any hm (eW m (fun j o ho c hc=>?_) (fun⟨_,_,hq⟩=>hq) _ _ _ _ (lZ (S:=S) (fin:=fin) _ _ _ _ ?_))
 ·have h5:=sK.1 hnd o (sI (i:=j) (by simpa using ho));rw[hc]at h5;cases h5
 ·have H:=iY (P:=P) (ops:=l.toArray) (Q:=g9 Q) (md:=.any) (S:=S) (fin:=fin) hsel (by simpa using hs) (fun _ _ _ _ _ h=>h) ord (sG l.length false) a w.drew hB (fun _=>hS) h;rw[hlen]at H;simpa using H
end
end
end Go.Proofs.YtbbapnpdfcgjnaaGreatDoor
