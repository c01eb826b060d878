/- Mix, Mix2, Mix3: parts of the proof, joined. -/
import Derived.Deep.RegionHeld3
import Derived.Test.YtbbapnpdfcgjnaaGreatDoorWHeld
open Go.Region renaming ready->sD, wanted->sG, Mode->sJ, noSelect_spec->sK, noSelect->sL, free_spec->sO, binds->sQ, free->sX
open Go renaming World->sE, yielded->sP, Program->sS, wp_region_noPanic->sT, wpOp_mono->sW, getD_set_ne->sY, YieldsIf->sZ, ready_mono->ta, mem_ready->tc, NoPanic->td
open Bool renaming and_eq_true->sH, or_eq_false_iff->sR, not_eq_true'->sV
open Array renaming getElem?_eq_none->sI, replicate->sM, setIfInBounds_comm->sN
set_option maxHeartbeats 64000000
namespace Go.Proofs.YtbbapnpdfcgjnaaGreatDoor
section
section
variable {P:sS} {ops:Array Oper} {Q:Exit->Act->sE->Prop} {md:sJ} {S:sE->Prop} {fin:Nat->Bool}
def Region.mixB(md:sJ)(ops:Array Oper)(fin:Nat->Bool):List (Nat×Bool)->Array Bool->Bool
 |[],listed=>sD md ops listed== []
 |(k,true)::r,listed=>(sD md ops listed).contains k&&sX md ops listed k&&Region.finB md ops fin k&&Region.mixB md ops fin r (listed.setIfInBounds k true)
 |(k,false)::r,listed=>(sD md ops listed== [k])&&(!fin k||r.all fun x=> !x.2)&&Region.mixB md ops fin r (listed.setIfInBounds k true)
def dR(P:sS)(ops:Array Oper)(Q:Exit->Act->sE->Prop)(S:sE->Prop)(fin:Nat->Bool):List (Nat×Bool)->Act->sE->Prop
 |[],a,w=>Q .normal a w
 |(k,true)::r,a,w=>∃o v,ops[k]?=some o/\sZ P ops S o v a/\dR P ops Q S fin r (a.put o.dst v) w
 |(k,false)::r,a,w=>∃o,ops[k]?=some o/\if sG o (sP ops a.tmps)=true then o.wp P a w (fun a' w'=>(fin k=false->S w')/\dR P ops Q S fin r a' w') Q else (fin k=false->S w)/\dR P ops Q S fin r (a.put o.dst undef) w
theorem iY(hsel:sL ops=true)(hs:∀j,fin j=true->j<ops.size)(hQ:∀c (a:Act) d v w,Q (.panic c) (a.put d v) w->Q (.panic c) a w):
  ∀(l:List (Nat×Bool))(listed:Array Bool)(a:Act)(w:sE),Region.mixB md ops fin l listed=true->(l.any (fun x=>x.2)=true->S w)->dR P ops Q S fin l a w->zpy P md ops Q S fin l.length listed a w
 |[],listed,a,w,hB,_,h=>⟨by simpa[Region.mixB]using hB,h⟩
 |(k,true)::r,listed,a,w,hB,hS,h=>by
  simp only[Region.mixB,sH]at hB;obtain⟨⟨⟨hr,hf⟩,hfb⟩,hB'⟩:=hB;obtain⟨hf1,hf2⟩:=finB_spec hs hfb;obtain⟨o,v,h0,hy,hK⟩:=h;have hSw:S w:=hS (by simp);exact zht h0 (sK hsel) (fun c a w=>hQ c a _ _ w) hf1 hf2 r.length listed a w (sO h0 hf) (by simpa using hr) hy hSw
   (iY hsel hs hQ r _ _ w hB' (fun _=>hSw) hK)
 |(k,false)::r,listed,a,w,hB,hS,h=>by
  simp only[Region.mixB,sH,beq_iff_eq]at hB;obtain⟨⟨hr,hfr⟩,hB'⟩:=hB;obtain⟨o,h0,h⟩:=h;refine⟨fun h1=>(by rw[hr]at h1;cases h1),fun i hi=>?_⟩;rw[hr]at hi;have hik:i=k:=by simpa using hi
  subst hik;have hw:wpOp P ops Q i (fun a' w'=>(fin i=false->S w')/\dR P ops Q S fin r a' w') a w:=by
   unfold wpOp;simp only[h0];split
   ·rename_i hc;rw[if_pos hc]at h;exact .inl h
   ·rename_i hc;rw[if_neg hc]at h;exact h
  refine sW (fun a' w' h'=>⟨h'.1,iY hsel hs hQ r _ a' w' hB' (fun hn=>?_) h'.2⟩) hw;cases hfi:fin i with
  |false=>exact h'.1 hfi
  |true=>rw[hfi]at hfr;obtain⟨x,hx,hx2⟩:=List.any_eq_true.1 hn;have h5:=List.all_eq_true.1 (show(r.all fun x=> !x.2)=true by simpa using hfr) x hx;rw[hx2]at h5;cases h5
theorem aw{id:Nat}{a:Act}{w:sE}{l:List Oper}(ord:List (Nat×Bool))(S:sE->Prop)(fin:Nat->Bool)(hm:P.follows .mixedOrders=true)(hsel:sL l.toArray=true)(hs:∀j,fin j=true->j<l.length)
  (hlen:ord.length=l.length) (hB:Region.mixB .any l.toArray fin ord (sM l.length false)=true) (hS:S w.drew)
  (h:dR P l.toArray (td Q) S fin ord a w.drew):(Code.region id l.toArray true).wp P Q a w:=by
 refine sT (wp_region_any hm (lZ (S:=S) (fin:=fin) _ _ _ _ ?_));have H:=iY (P:=P) (ops:=l.toArray) (Q:=td Q) (md:=.any) (S:=S) (fin:=fin) hsel (by simpa using hs) (fun _ _ _ _ _ h=>h) ord (sM l.length false) a w.drew hB (fun _=>hS) h;rw[hlen]at H;simpa using H
theorem aF{o:Oper}{k:Nat}{r:List (Nat×Bool)}{a:Act}{w:sE}(v:Value)(h0:ops[k]?=some o)(hw:sG o (sP ops a.tmps)=true)(h1:∀w,S w->(execOp a.eval o).run P w=.ok (.value v) w)(h2:dR P ops Q S fin r (a.put o.dst v) w):dR P ops Q S fin ((k,true)::r) a w:=
 ⟨o,v,h0,.inl ⟨hw,h1⟩,h2⟩
theorem znK{o:Oper}{k:Nat}{r:List (Nat×Bool)}{a:Act}{w:sE}(h0:ops[k]?=some o)(hw:sG o (sP ops a.tmps)=false)(h2:dR P ops Q S fin r (a.put o.dst undef) w):dR P ops Q S fin ((k,true)::r) a w:=
 ⟨o,undef,h0,.inr ⟨hw,rfl⟩,h2⟩
theorem au{o:Oper}{k:Nat}{r:List (Nat×Bool)}{a:Act}{w:sE}(h0:ops[k]?=some o)(hw:sG o (sP ops a.tmps)=true)(h:∀K:Act->sE->Prop,(∀a w,(fin k=false->S w)->dR P ops Q S fin r a w->K a w)->o.wp P a w K Q):dR P ops Q S fin ((k,false)::r) a w:=by refine⟨o,h0,?_⟩;rw[if_pos hw];exact h _ fun _ _ h1 h2=>⟨h1,h2⟩
theorem ba{a:Act}{w:sE}(h:Q .normal a w):dR P ops Q S fin [] a w:=h
end
end
section
section
variable {P:sS} {ops:Array Oper} {Q:Exit->Act->sE->Prop} {md:sJ} {S T:sE->Prop} {fin:Nat->Bool}
def Clean(fin:Nat->Bool)(listed:Array Bool):Prop:=∀j,fin j=true->listed.getD j false=false
theorem Clean.of_set{listed:Array Bool}{i:Nat}(h:Clean fin (listed.setIfInBounds i true)):Clean fin listed:=fun j hj=>by
 have h5:=h j hj;by_cases e:i=j
 ·subst e;rcases Nat.lt_or_ge i listed.size with h'|h'
  ·simp[h']at h5
  ·simp[sI h']
 ·rw[sY false e]at h5;exact h5
theorem Clean.set{listed:Array Bool}{i:Nat}(h:Clean fin listed)(hf:fin i=false):Clean fin (listed.setIfInBounds i true):=fun j hj=>by
 by_cases e:i=j
 ·subst e;rw[hf]at hj;cases hj
 ·rw[sY false e];exact h j hj
def anyU(P:sS)(md:sJ)(ops:Array Oper)(Q:Exit->Act->sE->Prop)(S T:sE->Prop)(fin:Nat->Bool):Nat->Array Bool->Act->sE->Prop
 |0,listed,a,w=>sD md ops listed=[]/\Q .normal a w
 |f+1,listed,a,w=>(sD md ops listed=[]->Q .normal a w)∧
   ∀i∈sD md ops listed,wpOp P ops Q i (fun a' w'=>((Clean fin (listed.setIfInBounds i true)->S w')/\T w')/\anyU P md ops Q S T fin f (listed.setIfInBounds i true) a' w') a w
theorem anyU_any:∀(f:Nat)(listed:Array Bool)(a:Act)(w:sE),anyU P md ops Q S T fin f listed a w->wpAny P md ops Q f listed a w
 |0,_,_,_,h=>h
 |f+1,_,_,_,h=>⟨h.1,fun i hi=>sW (fun a' w' h'=>anyU_any f _ a' w' h'.2) (h.2 i hi)⟩
theorem anyU_first{R:sE->Prop}{i:Nat}{oi:Oper}{v:Value}(C:Array Bool->Prop)(hi:ops[i]?=some oi)(hfi:fin i=false)(hsel:∀(j:Nat)(o:Oper) cs b,ops[j]?=some o->o.op≠ .select cs b)
  (hQ:∀c a w,Q (.panic c) (a.put oi.dst v) w->Q (.panic c) a w) (hC:∀listed j oj,C listed->ops[j]?=some oj->(∀e∈oj.after,sQ md e=true->e.on≠i)->C (listed.setIfInBounds j true))
  (hR:∀listed w,C listed->(Clean fin listed->S w)->T w->R w):
  ∀(f:Nat)(listed:Array Bool)(a:Act)(w:sE),C listed->
   (∀j oj,ops[j]?=some oj->j≠i->listed.getD j true=false->(∀e∈oj.after,sQ md e=true->e.on≠i)->oi.apart ops oj=true)->
   i∈sD md ops listed->sZ P ops R oi v a->(Clean fin listed->S w)->T w->
   anyU P md ops Q S T fin f (listed.setIfInBounds i true) (a.put oi.dst v) w->anyU P md ops Q S T fin (f+1) listed a w:=by
 intro f
 induction f with
 |zero=>
  intro listed a w hc _ hr hy hS hT H;refine⟨fun h=>(by rw[h]at hr;cases hr),fun j hj=>?_⟩;by_cases hji:j=i
  ·subst hji;exact hy.wpOp hi (hR _ _ hc hS hT) ⟨⟨fun h=>hS h.of_set,hT⟩,H⟩
  ·have h9:=ta hj hji;rw[H.1]at h9;cases h9
 |succ f ih=>
  intro listed a w hc hfree hr hy hS hT H;refine⟨fun h=>(by rw[h]at hr;cases hr),fun j hj=>?_⟩;by_cases hji:j=i
  ·subst hji;exact hy.wpOp hi (hR _ _ hc hS hT) ⟨⟨fun h=>hS h.of_set,hT⟩,H⟩
  ·have h1:=H.2 j (ta hj hji);obtain⟨hjun,oj,hoj,hall⟩:=tc.1 hj;have hnot:∀e∈oj.after,sQ md e=true->e.on≠i:=fun e he hb heq=>by
    have h5:=hall e he hb;have h0:=(tc.1 hr).1;rw[heq]at h5;rcases Nat.lt_or_ge i listed.size with h'|h'
    ·simp[h']at h0 h5;rw[h0]at h5;cases h5
    ·simp[sI h']at h5
   have h2:=wpOp_putIf hoj (hfree j oj hoj hji hjun hnot) (fun cs b=>hsel i oi cs b hi) (fun cs b=>hsel j oj cs b hoj) hQ hy h1;have hfree':∀k ok,ops[k]?=some ok->k≠i->(listed.setIfInBounds j true).getD k true=false->
     (∀e∈ok.after,sQ md e=true->e.on≠i)->oi.apart ops ok=true:=fun k ok hk hki hun hno=>by
    refine hfree k ok hk hki ?_ hno;by_cases hjk:j=k
    ·subst hjk;exact hjun
    ·rw[sY true hjk]at hun;exact hun
   refine sW (fun a' w' h3=>?_) h2;have hcl:Clean fin (listed.setIfInBounds j true)->S w':=fun h=>h3.2.1.1 (by rw[sN _ _ (Ne.symm hji)];exact h.set hfi);refine⟨⟨hcl,h3.2.1.2⟩,ih (listed.setIfInBounds j true) a' w' (hC _ _ _ hc hoj hnot) hfree' (ta hr (Ne.symm hji)) h3.1 hcl h3.2.1.2 ?_⟩;rw[sN _ _ hji];exact h3.2.2
end
end
section
inductive Ot where
 |nil:Ot
 |one:Nat->Nat->Ot->Ot
 |two:Nat->Nat->Ot->Ot->Ot
def Ot.len:Ot->Nat
 |.nil=>0
 |.one _ _ r=>r.len+1
 |.two _ _ r _=>r.len+1
section
variable {P:sS} {md:sJ} {ops:Array Oper} {Q:Exit->Act->sE->Prop} {S T:sE->Prop} {fin:Nat->Bool}
def Region.mixT(md:sJ)(ops:Array Oper)(fin:Nat->Bool):Bool->Ot->Array Bool->Bool
 |_,.nil,listed=>sD md ops listed== []
 |d,.one k 0 r,listed=> !d&&(sD md ops listed).contains k&&sX md ops listed k&&Region.finB md ops fin k&&Region.mixT md ops fin d r (listed.setIfInBounds k true)
 |d,.one k 1 r,listed=>(sD md ops listed).contains k&&sX md ops listed k&& !fin k&&Region.mixT md ops fin d r (listed.setIfInBounds k true)
 |d,.one k (_+2) r,listed=>(sD md ops listed== [k])&&Region.mixT md ops fin (d||fin k) r (listed.setIfInBounds k true)
 |d,.two i j r s,listed=>(sD md ops listed== [i,j])&&(r.len==s.len)&&Region.mixT md ops fin (d||fin i) r (listed.setIfInBounds i true)&&Region.mixT md ops fin (d||fin j) s (listed.setIfInBounds j true)
def kh(P:sS)(ops:Array Oper)(Q:Exit->Act->sE->Prop)(S T:sE->Prop)(fin:Nat->Bool)(d:Bool)(k:Nat)(K:Act->sE->Prop)(a:Act)(w:sE):Prop:=
 ∃o,ops[k]?=some o/\if sG o (sP ops a.tmps)=true then o.wp P a w (fun a' w'=>(((d||fin k)=false->S w')/\T w')/\K a' w') Q else (((d||fin k)=false->S w)/\T w)/\K (a.put o.dst undef) w
def cW(P:sS)(ops:Array Oper)(Q:Exit->Act->sE->Prop)(S T:sE->Prop)(fin:Nat->Bool):Bool->Ot->Act->sE->Prop
 |_,.nil,a,w=>Q .normal a w
 |d,.one k 0 r,a,w=>∃o v,ops[k]?=some o/\sZ P ops S o v a/\cW P ops Q S T fin d r (a.put o.dst v) w
 |d,.one k 1 r,a,w=>∃o v,ops[k]?=some o/\sZ P ops T o v a/\cW P ops Q S T fin d r (a.put o.dst v) w
 |d,.one k (_+2) r,a,w=>kh P ops Q S T fin d k (cW P ops Q S T fin (d||fin k) r) a w
 |d,.two i j r s,a,w=>kh P ops Q S T fin d i (cW P ops Q S T fin (d||fin i) r) a w/\kh P ops Q S T fin d j (cW P ops Q S T fin (d||fin j) s) a w
theorem qq{d:Bool}{listed:Array Bool}{i f:Nat}{K:Act->sE->Prop}{a:Act}{w:sE}(hkr:i∈sD md ops listed)(hd:d=false ↔ Clean fin listed)(h:kh P ops Q S T fin d i K a w)
  (nx:((d||fin i)=false ↔ Clean fin (listed.setIfInBounds i true))->∀a' w',(Clean fin (listed.setIfInBounds i true)->S w')->T w'->K a' w'->anyU P md ops Q S T fin f (listed.setIfInBounds i true) a' w'):
  wpOp P ops Q i (fun a' w'=>((Clean fin (listed.setIfInBounds i true)->S w')/\T w')/\anyU P md ops Q S T fin f (listed.setIfInBounds i true) a' w') a w:=by
 obtain⟨o,h0,h⟩:=h;have hlt:i<listed.size:=by
  have h5:=(tc.1 hkr).1;rcases Nat.lt_or_ge i listed.size with h'|h'
  ·exact h'
  ·simp[sI h']at h5
 have hdc:(d||fin i)=false ↔ Clean fin (listed.setIfInBounds i true):=by
  constructor
  ·intro h5;rw[sR]at h5;exact(hd.1 h5.1).set h5.2
  ·intro h5;rw[sR];refine⟨hd.2 h5.of_set,?_⟩;cases hfi:fin i with
   |false=>rfl
   |true=>have h6:=h5 i hfi;simp[hlt]at h6
 have hw:wpOp P ops Q i (fun a' w'=>(((d||fin i)=false->S w')/\T w')/\K a' w') a w:=by
  unfold wpOp;simp only[h0];split
  ·rename_i hc;rw[if_pos hc]at h;exact .inl h
  ·rename_i hc;rw[if_neg hc]at h;exact h
 exact sW (fun a' w' h'=>⟨⟨fun h5=>h'.1.1 (hdc.2 h5),h'.1.2⟩,nx hdc a' w' (fun h5=>h'.1.1 (hdc.2 h5)) h'.1.2 h'.2⟩) hw
theorem eD(hsel:sL ops=true)(hs:∀j,fin j=true->j<ops.size)(hQ:∀c (a:Act) d v w,Q (.panic c) (a.put d v) w->Q (.panic c) a w):
  ∀(l:Ot)(d:Bool)(listed:Array Bool)(a:Act)(w:sE),Region.mixT md ops fin d l listed=true->(d=false ↔ Clean fin listed)->(Clean fin listed->S w)->T w->cW P ops Q S T fin d l a w->anyU P md ops Q S T fin l.len listed a w
 |.nil,d,listed,a,w,hB,_,_,_,h=>⟨by simpa[Region.mixT]using hB,h⟩
 |.one k 0 r,d,listed,a,w,hB,hd,hS,hT,h=>by
  simp only[Region.mixT,sH,sV]at hB;obtain⟨⟨⟨⟨hd0,hr⟩,hf⟩,hfb⟩,hB'⟩:=hB;obtain⟨hf1,hf2⟩:=finB_spec hs hfb;obtain⟨o,v,h0,hy,hK⟩:=h;have hcl:=hd.1 hd0;refine anyU_first (R:=S) (Clean fin) h0 hf1 (sK hsel) (fun c a w=>hQ c a _ _ w) (fun ls j oj hc hoj hno=>hc.set ?_) (fun _ w hc hS _=>hS hc) r.len listed a w hcl (sO h0 hf) (by simpa using hr) hy hS hT
   (eD hsel hs hQ r d _ _ w hB' ⟨fun _=>hcl.set hf1,fun _=>hd0⟩ (fun h=>hS h.of_set) hT hK)
  cases hfj:fin j with
  |false=>rfl
  |true=>obtain⟨ok,hok,e,he,hb,heq⟩:=Region.waitsFor_spec (hf2 j hfj);rw[hoj]at hok;cases hok;exact absurd heq (hno e he hb)
 |.one k 1 r,d,listed,a,w,hB,hd,hS,hT,h=>by
  simp only[Region.mixT,sH,sV]at hB;obtain⟨⟨⟨hr,hf⟩,hf1⟩,hB'⟩:=hB;obtain⟨o,v,h0,hy,hK⟩:=h;exact anyU_first (R:=T) (fun _=>True) h0 hf1 (sK hsel) (fun c a w=>hQ c a _ _ w) (fun _ _ _ _ _ _=>trivial) (fun _ _ _ _ hT=>hT) r.len listed a w trivial (sO h0 hf) (by simpa using hr) hy hS hT
   (eD hsel hs hQ r d _ _ w hB' ⟨fun h=>(hd.1 h).set hf1,fun h=>hd.2 h.of_set⟩ (fun h=>hS h.of_set) hT hK)
 |.one k (m+2) r,d,listed,a,w,hB,hd,hS,hT,h=>by
  simp only[Region.mixT,sH,beq_iff_eq]at hB;obtain⟨hr,hB'⟩:=hB;refine⟨fun h1=>(by rw[hr]at h1;cases h1),fun i hi=>?_⟩;have hik:i=k:=by rw[hr]at hi;simpa using hi
  subst hik;exact qq hi hd h (fun hdc a' w' h1 h2 h3=>eD hsel hs hQ r _ _ a' w' hB' hdc h1 h2 h3)
 |.two i j r s,d,listed,a,w,hB,hd,hS,hT,h=>by
  simp only[Region.mixT,sH,beq_iff_eq]at hB;obtain⟨⟨⟨hr,hl⟩,hB1⟩,hB2⟩:=hB;obtain⟨g1,g2⟩:=h;refine⟨fun h1=>(by rw[hr]at h1;cases h1),fun k hk=>?_⟩;have hkk:k=i\/k=j:=by rw[hr]at hk;simpa using hk
  rcases hkk with e|e
  ·subst e;exact qq hk hd g1 (fun hdc a' w' h1 h2 h3=>eD hsel hs hQ r _ _ a' w' hB1 hdc h1 h2 h3)
  ·subst e;refine qq hk hd g2 (fun hdc a' w' h1 h2 h3=>?_);have h5:=eD hsel hs hQ s _ _ a' w' hB2 hdc h1 h2 h3;rw[<-hl]at h5;exact h5
theorem dv{id:Nat}{a:Act}{w:sE}{l:List Oper}(ord:Ot)(S T:sE->Prop)(fin:Nat->Bool)(hm:P.follows .mixedOrders=true)(hsel:sL l.toArray=true)(hs:∀j,fin j=true->j<l.length)
  (hlen:ord.len=l.length) (hB:Region.mixT .any l.toArray fin false ord (sM l.length false)=true) (hS:S w.drew) (hT:T w.drew)
  (h:cW P l.toArray (td Q) S T fin false ord a w.drew):(Code.region id l.toArray true).wp P Q a w:=by
 refine sT (wp_region_any hm (anyU_any (S:=S) (T:=T) (fin:=fin) _ _ _ _ ?_));have H:=eD (P:=P) (ops:=l.toArray) (Q:=td Q) (md:=.any) (S:=S) (T:=T) (fin:=fin) hsel (by simpa using hs) (fun _ _ _ _ _ h=>h) ord false (sM l.length false) a w.drew hB
  ⟨fun _ j hj=>(by have h5:=hs j hj;simp[h5]),fun _=>rfl⟩ (fun _=>hS) hT h
 rw[hlen]at H;simpa using H
theorem cK{d:Bool}{o:Oper}{k:Nat}{r:Ot}{a:Act}{w:sE}(v:Value)(h0:ops[k]?=some o)(hw:sG o (sP ops a.tmps)=true)(h1:∀w,T w->(execOp a.eval o).run P w=.ok (.value v) w)(h2:cW P ops Q S T fin d r (a.put o.dst v) w):cW P ops Q S T fin d (.one k 1 r) a w:=
 ⟨o,v,h0,.inl ⟨hw,h1⟩,h2⟩
theorem bL{d:Bool}{o:Oper}{k:Nat}{K:Act->sE->Prop}{a:Act}{w:sE}(h0:ops[k]?=some o)(hw:sG o (sP ops a.tmps)=true)(h:∀K':Act->sE->Prop,(∀a w,((d||fin k)=false->S w)->T w->K a w->K' a w)->o.wp P a w K' Q):kh P ops Q S T fin d k K a w:=by refine⟨o,h0,?_⟩;rw[if_pos hw];exact h _ fun _ _ h1 h2 h3=>⟨⟨h1,h2⟩,h3⟩
theorem aD{d:Bool}{o:Oper}{k:Nat}{r:Ot}{a:Act}{w:sE}(h0:ops[k]?=some o)(hw:sG o (sP ops a.tmps)=true)(h:∀K:Act->sE->Prop,(∀a w,((d||fin k)=false->S w)->T w->cW P ops Q S T fin (d||fin k) r a w->K a w)->o.wp P a w K Q):cW P ops Q S T fin d (.one k 2 r) a w:=
 bL h0 hw h
theorem dT{d:Bool}{i j:Nat}{r s:Ot}{a:Act}{w:sE}(h1:kh P ops Q S T fin d i (cW P ops Q S T fin (d||fin i) r) a w)(h2:kh P ops Q S T fin d j (cW P ops Q S T fin (d||fin j) s) a w):cW P ops Q S T fin d (.two i j r s) a w:=⟨h1,h2⟩
theorem cb{d:Bool}{a:Act}{w:sE}(h:Q .normal a w):cW P ops Q S T fin d .nil a w:=h
end
end
end Go.Proofs.YtbbapnpdfcgjnaaGreatDoor
