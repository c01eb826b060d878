/- Ev13, Ev14, Ev15, Ev16, EvM, Ev17: parts of the proof, joined. -/
import Derived.Test.YtbbapnpdfcgjnaaGreatDoorEEvQ
open Go renaming Value->sR, Program->sT, World->sY, Frame->tk, FrameMode->tn, run_endRound->tC, FuncId->tI, stepsIn_wide->tJ, callFunc->tM, ArrivesIn->tQ, findLabel->tR, ResultVar->tS, bodyPostS->tT, wpOpsS->tU
open Array renaming getElem?_eq_some_iff->sS, getElem?_toList->sZ, replicate->tp, getD_eq_getD_getElem?->tu, toList_append->tH
open Bool renaming and_eq_true->sU, not_true->tr, false_eq_true->tw, false_or->tA, or_eq_true->tD
open List renaming all_eq_true->sV, mem_range->sW, range->ta, getElem?_eq_some_iff->tc, drop_eq_nil_iff->td, length_cons->tf, getElem?_append_left->tz, getElem?_eq_none->tF, mapM_cons->tN, drop_drop->tP
open Nat renaming beq->sX, eq_of_beq_eq_true->tj, le_refl->tt, succ->tB, le_of_ble_eq_true->tE, lt_trichotomy->tK, testBit_or->tO, blt->tV, lt_or_ge->tW
open Go.Result renaming andThen->te
open Go.Sem renaming run_bind->tg
open Go.Fence renaming wide->ti
open Go.Region renaming binds->tq
set_option maxHeartbeats 64000000
namespace Go.Proofs.YtbbapnpdfcgjnaaGreatDoor
section
namespace Ev
variable {P:sT} {μ:Mu} {A:AW} {w:sY}
theorem jr(P:sT)(ro:Option Nat)(m:Machine):m.fenced P (FR ro):=fenced_wide P m
theorem ziR(ro:Option Nat)(n:Nat):(FR ro).room n:=fun d hd=>by cases hd
theorem zbU{b:tk}{a:Act}{k:List Item}{cs:List tk}{c:Code}:step P (lone (b.atR a (.code (.scope c)::k)) cs w)=.next (lone (b.atR a (.code c:: .inScope c::k)) cs w):=
 step_lone_go (by simp[stepG,stepG.exec,tk.atR])
theorem qx{b:tk}{a:Act}{k:List Item}{cs:List tk}{c:Code}:step P (lone (b.atR a (.inScope c::k)) cs w)=.next (lone (b.atR a k) cs w):=
 step_lone_go (by simp[stepG,stepG.exec,tk.atR])
def fQ(ro:Option Nat)(P:sT)(c:Code)(Q:Exit->Act->sY->Prop)(a:Act)(w:sY):Prop:=
 ∀(b:tk)(k:List Item)(cs:List tk),b.roundOf=ro->∃e a' w',Q e a' w'/\tQ (Machine.fenced P (FR ro)) P (lone (b.atR a (.inLoop c::k)) cs w) b k cs e a' w'
theorem jv{ro:Option Nat}{c:Code}{Q:Exit->Act->sY->Prop}{a:Act}(h:c.wpIn (FR ro) 0 P (Exit.then (fQ ro P c Q) Q) a w)(b:tk)(k:List Item)(cs:List tk)(hb:b.roundOf=ro):
  ∃e a' w',Q e a' w'/\tQ (Machine.fenced P (FR ro)) P (lone (b.atR a (.code c:: .inLoop c::k)) cs w) b k cs e a' w':=by
 obtain⟨e,a₁,w₁,hq,harr⟩:=h b (.inLoop c::k) cs hb trivial (ziR _ _)
 cases e with
 |normal=>
  obtain⟨e₂,a₂,w₂,hq₂,harr₂⟩:=hq b k cs hb;exact⟨e₂,a₂,w₂,hq₂,.of_steps harr harr₂⟩
 |exit id=>exact⟨_,a₁,w₁,hq,.pass (x:=.inLoop c) rfl (fun _ _=>.inl (by simp)) harr⟩
 |goto l=>exact⟨_,a₁,w₁,hq,.pass (x:=.inLoop c) rfl (fun _ _=>.inl (by simp)) harr⟩
 |ret=>exact⟨_,a₁,w₁,hq,.pass (x:=.inLoop c) rfl (fun _ _=>.inl (by simp)) harr⟩
 |panic ch=>exact⟨_,a₁,w₁,hq,.pass (x:=.inLoop c) rfl (fun _ _=>.inl (by simp)) harr⟩
 |outgrown=>exact⟨_,a₁,w₁,hq,.pass (x:=.inLoop c) rfl (fun _ _=>.inl (by simp)) harr⟩
theorem zkk{ro:Option Nat}{c:Code}{Q:Exit->Act->sY->Prop}{a:Act}(h:c.wpIn (FR ro) 0 P (Exit.then (fQ ro P c Q) Q) a w):fQ ro P c Q a w:=fun b k cs hb=>by
 obtain⟨e,a',w',hq,harr⟩:=jv h b k cs hb;exact⟨e,a',w',hq,.of_steps (.one (jr P ro _) stepR_inLoop) harr⟩
theorem zqC{ro:Option Nat}{c:Code}{Q:Exit->Act->sY->Prop}{a:Act}(h:c.wpIn (FR ro) 0 P (Exit.then (fQ ro P c Q) Q) a w):(Code.loop c).wpIn (FR ro) 0 P Q a w:=fun b k cs hb _ _=>by
 obtain⟨e,a',w',hq,harr⟩:=jv h b k cs hb;exact⟨e,a',w',hq,.of_steps (.one (jr P ro _) stepR_loop) harr⟩
abbrev dj:=Option Nat->Array Oper->AA->AW->Except String (AA×AW)
def fF(P:sT)(dr:dj):Prop:=∀rd ops a A a' A',dr rd ops a A=.ok (a',A')->∀(μ:Mu)(b:Act)(w:sY)(id:Nat)(ro:Option Nat)(Q:Exit->Act->sY->Prop),WR μ A w->lP μ a b->RO μ rd ro->
 (∀b' w',QX μ A w .normal a' A' .normal b' w'->Q .normal b' w')->(Code.region id ops true).wpIn (FR ro) 0 P Q b w
def jl(ro:Option Nat)(P:sT)(c rest:Code)(Q:Exit->Act->sY->Prop)(a:Act)(w:sY):Prop:=
 ∀(b:tk)(k:List Item)(cs:List tk),b.roundOf=ro->∃e a' w',Q e a' w'/\tQ (Machine.fenced P (FR ro)) P (lone (b.atR a (.code rest:: .inScope c::k)) cs w) b k cs e a' w'
def iS(ro:Option Nat)(P:sT)(c:Code)(Q:Exit->Act->sY->Prop):Exit->Act->sY->Prop
 | .goto l,a,w=>(match tR c l with
  |some r=>jl ro P c r Q a w
  |none=>Q (.goto l) a w)
 |e,a,w=>Q e a w
theorem zlo{ro:Option Nat}{c:Code}{Q:Exit->Act->sY->Prop}{a:Act}(h:jl ro P c c Q a w):(Code.scope c).wpIn (FR ro) 0 P Q a w:=fun b k cs hb _ _=>by
 obtain⟨e,a',w',hq,harr⟩:=h b k cs hb;exact⟨e,a',w',hq,.of_steps (.one (jr P ro _) zbU) harr⟩
theorem km{ro:Option Nat}{c rest:Code}{Q:Exit->Act->sY->Prop}{a:Act}(h:rest.wpIn (FR ro) 0 P (iS ro P c Q) a w):jl ro P c rest Q a w:=fun b k cs hb=>by
 obtain⟨e,a₁,w₁,hq,harr⟩:=h b (.inScope c::k) cs hb trivial (ziR _ _)
 cases e with
 |normal=>exact⟨.normal,a₁,w₁,hq,StepsIn.trans harr (.one (jr P ro _) qx)⟩
 |exit id=>
  have hx:exitTo id (.inScope c::k)=exitTo id k:=by simp[exitTo]
  exact⟨.exit id,a₁,w₁,hq,fun k' hk=>harr.1 k' (by rw[hx];exact hk),fun hr hk=>harr.2 hr (by rw[hx];exact hk)⟩
 |goto l=>
  simp only[iS]at hq
  cases hf:tR c l with
  |some r=>
   rw[hf]at hq;obtain⟨e₂,a₂,w₂,hq₂,harr₂⟩:=hq b k cs hb;exact⟨e₂,a₂,w₂,hq₂,.of_steps (harr.1 _ (by simp[gotoIn,hf])) harr₂⟩
  |none=>
   rw[hf]at hq;have hx:gotoIn l (.inScope c::k)=gotoIn l k:=by simp[gotoIn,hf]
   exact⟨.goto l,a₁,w₁,hq,fun k' hk=>harr.1 k' (by rw[hx];exact hk),fun hr hk=>harr.2 hr (by rw[hx];exact hk)⟩
 |ret=>exact⟨_,a₁,w₁,hq,harr⟩
 |panic ch=>exact⟨_,a₁,w₁,hq,harr⟩
 |outgrown=>exact⟨_,a₁,w₁,hq,harr⟩
def AJ.exit':AJ->AX
 | .none=>.normal
 | .ret=>.ret
 | .exit id=>.exit id
 | .goto l=>.goto l
noncomputable def zqs:LoopState->Bool
 | .busy=>false
 |_=>true
noncomputable def zql(call:aJ)(f:tI)(first cap:List sR)(ps:Array Tmp)(asg bd:Code)(mk:List gR)(A:AW)(a:AA):Except String (AX×AA×AW):=
 fW (A.push (.loop .ready .none ps asg bd a.tmps a.size)) fun A1=>
 match call false f (first++[.func (.yield A.next) #[] #[]]++cap) A1 with
 | .ok (.ret _,A2)=>(match A2.get A.next with
  |some (.loop st j ps asg bd t n)=>if zqs st then fW (A2.set A.next (some (.loop .exhausted j ps asg bd t n))) fun A3=>.ok (j.exit',⟨a.tmps,a.size,mk++a.defers⟩,A3)else .error "range: busy"
  |_=>.error "range: no record")
 | .ok (.panic _,_)=>.error "range: panic"
 | .error s=>.error s
theorem zhy{call:aJ}(hcall:bC P call){ro:Option Nat}{f:tI}{first cap:List sR}{first' cap':Array sR}{ps:Array Tmp}{asg bd:Code}{mk:List gR}{mk':List Deferred}{a a':AA}{b:Act}{x:AX}{A':AW}{Q:Exit->Act->sY->Prop}{q:Loop}
  (W:WR μ A w) (hab:lP μ a b) (hmk:∀μ' ds ds',Le μ μ'->DR μ' ds ds'->DR μ' (mk++ds) (mk'++ds')) (hfl:LR μ first first'.toList) (hcl:LR μ cap cap'.toList)
  (h:zql call f first cap ps asg bd mk A a=.ok (x,a',A')) (hq:∀e b' w',QX μ A w x a' A' e b' w'->Q e b' w')
  (h1:q.state=.ready) (h2:q.pending=none) (h3:q.params=ps) (h4:q.assign=asg) (h5:q.body=bd) (h6:q.tmps=b.tmps):
  CallsIn (FR ro) 0 P f (first'++#[.func (.yield w.heap.size) #[] #[]]++cap') (w.alloc (.loop q)) (rangePost (FR ro) 0 P w.heap.size Q {b with defers:=mk'++b.defers}):=by
 unfold zql at h;rw[iG]at h;have hdom:=W.dom A.next (tt _);have hloc:(μ.add A.next ⟨w.heap.size,0,0,0⟩) A.next=some ⟨w.heap.size,0,0,0⟩:=Mu.add_get hdom;have hle:Le μ (μ.add A.next ⟨w.heap.size,0,0,0⟩):=Mu.add_le hdom;obtain⟨W1,E1⟩:=W.new (d:=0) (sz:=0) (k:=0) (o:=.loop .ready .none ps asg bd a.tmps a.size) (o':=.loop q) ⟨q,rfl,h1,h2,h3,h4,h5,by rw[h6,hab.len],fun t v ht=>by
  rw[h6];exact(hab.tmps.mono hle) t v ht⟩
 have hargs:LR (μ.add A.next ⟨w.heap.size,0,0,0⟩) (first++[sR.func (.yield A.next) #[] #[]]++cap) (first'++#[sR.func (.yield w.heap.size) #[] #[]]++cap').toList:=by
  rw[ia];have hy:VR (μ.add A.next ⟨w.heap.size,0,0,0⟩) (.func (.yield A.next) #[] #[]) (.func (.yield w.heap.size) #[] #[]):=by
   simp only[VR]
   exact⟨trivial,trivial,_,rfl,hloc⟩
  exact((hfl.mono hle).append (LR.cons hy LR.nil)).append (hcl.mono hle)
 split at h
 ·rename_i v A2 hc
  have key:=hcall.fn _ _ _ _ _ hc _ _ _ W1.lay hargs;refine zfk (key.mono fun e w2 ⟨μ2,he,W2,E2⟩=>?_)
  cases e with
  |returned v'=>
   split at h
   ·rename_i st j ps2 asg2 bd2 t n hg
    split at h
    ·rename_i hst
     rw[iG]at h
     cases h
     have hl2:μ2 A.next=some ⟨w.heap.size,0,0,0⟩:=E2.le _ _ hloc;obtain⟨o2,ho2,q2,rfl,g1,g2,g3,g4,g5,g6,g7⟩:=W2.has _ _ _ hg hl2;have hnb:q2.state≠ .busy:=fun e=>by rw[g1]at e;subst e;cases hst
     obtain⟨W3,E3⟩:=W2.upd (o:=.loop .exhausted j ps2 asg2 bd2 t n) (o':=.loop {q2 with state:=.exhausted}) hg hl2 ⟨_,rfl,rfl,g2,g3,g4,g5,g6,g7⟩
     refine⟨q2.pending,_,run_endLoop ho2 hnb,?_⟩;have EE:bG μ A w μ2 _ _:=(E1.lay.trans E2).trans E3.lay;have hfin:lP μ2 ⟨a.tmps,a.size,mk++a.defers⟩ {b with defers:=mk'++b.defers}:=⟨(hab.mono EE.le).tmps,hab.len,hmk _ _ _ EE.le (hab.mono EE.le).defers⟩
     have fin:∀jp:Option Code,jp=j.code->(match jp with
       |none=>Q .normal {b with defers:=mk'++b.defers} (w2.putObj w.heap.size (.loop {q2 with state:=.exhausted}))
       |some c=>c.wpIn (FR ro) 0 P Q {b with defers:=mk'++b.defers} (w2.putObj w.heap.size (.loop {q2 with state:=.exhausted}))):=fun jp hjp=>by
      subst hjp
      cases j with
      |none=>exact hq _ _ _ ⟨μ2,rfl,hfin,W3.lay,EE⟩
      |ret=>exact wpIn_ret (hq _ _ _ ⟨μ2,rfl,hfin,W3.lay,EE⟩)
      |exit id=>exact wpIn_exit (hq _ _ _ ⟨μ2,rfl,hfin,W3.lay,EE⟩)
      |goto l=>exact wpIn_goto (hq _ _ _ ⟨μ2,rfl,hfin,W3.lay,EE⟩)
     exact fin _ g2
    ·cases h
   ·cases h
  |panicked ch=>exact he.elim
  |outgrown=>exact he.elim
 ·cases h
 ·cases h
noncomputable def zvK(P:sT)(call:aJ)(rd:Option Nat)(g:Operand)(ps:Array Tmp)(asg bd:Code)(a:AA)(A:AW):Except String (AX×AA×AW):=
 match bE a.tmps g with
 |some (.func (.func f) ⟨first⟩ ⟨cap⟩)=>(match P.funcs[f]? with
  |some fn=>if fn.body.isSome/\(fn.name== "runtime.NumGoroutine")=false then
    (match rd with
    |none=>zql call f first cap ps asg bd [.mark A.next] (A.push (.dfr true)) a
    |some r=>(match A.get r with
     |some (.loop _ _ _ _ _ _ _)=>zql call f first cap ps asg bd [] A a
     |_=>.error "range: no record around"))
   else .error ("range: no body: " ++fn.name)
  |none=>.error "range: no such function")
 |_=>.error "range: callee"
theorem nI{l₀:Nat}{r₀:Loop}(h:w.heap[l₀]?=some (.loop r₀))(fn:tI)(tmps:Array sR)(ps:Array Tmp)(assign body:Code):
  (Instr.enterLoop fn tmps ps assign body (some l₀)).run P w=
   .ok (w.heap.size,[]) (w.alloc (.loop {state:=.ready,pending:=none,fn,tmps,params:=ps,assign,body,defers:=r₀.defers})):=by
 unfold Instr.enterLoop
 simp only[tg,run_getLoop h,run_newObj_alloc,te,Sem.run_pure]
theorem zre{call:aJ}(hcall:bC P call){rd ro:Option Nat}{g:Operand}{ps:Array Tmp}{asg bd:Code}{a a':AA}{b:Act}{x:AX}{A':AW}{Q:Exit->Act->sY->Prop}(W:WR μ A w)(hab:lP μ a b)(hro:RO μ rd ro)
  (h:zvK P call rd g ps asg bd a A=.ok (x,a',A')) (hq:∀e b' w',QX μ A w x a' A' e b' w'->Q e b' w'):(Code.rangeFunc g ps asg bd).wpIn (FR ro) 0 P Q b w:=by
 unfold zvK at h
 split at h
 ·rename_i f first cap hg
  have hfv:=aw hab.tmps hg
  simp only[VR]at hfv
  obtain⟨first',cap',hfe,hfl,hcl⟩:=hfv
  split at h
  ·rename_i fn hfn
   split at h
   ·rename_i hb
    have hne:fn.body.isNone=false:=by
     cases hbb:fn.body with
     |none=>rw[hbb]at hb;simp at hb
     |some c=>rfl
    have hinv:∀(args:Array sR)(W:sY),(tM f args).run P W=.ok (.enter f args) W:=fun args W=>by
     simp only[tM,tg,run_program,te,hfn,hb.2,tw,if_false,hne,Sem.run_pure]
    have hres:∀(l:Nat)(W:sY),(resolve b.eval (rangeCall g l) 0).run P W=.ok {target:=.fn (.func f) cap',args:=first'++#[.func (.yield l) #[] #[]]} W:=fun l W=>by
     simp only[resolve,hfe,Deferred.ofValue,Sem.run_pure]
     simp[Act.eval]
    refine wpIn_rangeFunc fun fnr _=>?_
    split at h
    ·simp only[RO]at hro
     subst hro;obtain⟨W1,E1⟩:=W.new (d:=0) (sz:=0) (k:=0) (o:=.dfr true) (o':=.deferred (some [])) rfl;have hdom:=W.dom A.next (tt _);have hloc:(μ.add A.next ⟨w.heap.size,0,0,0⟩) A.next=some ⟨w.heap.size,0,0,0⟩:=Mu.add_get hdom;have key:=zhy (ro:=none) (mk':=[{target:=.collected w.heap.size,args:=#[]}]) (q:={state:=.ready,pending:=none,fn:=fnr,tmps:=b.tmps,params:=ps,assign:=asg,body:=bd,defers:=w.heap.size}) (Q:=Q) hcall W1 (hab.mono E1.le) (fun μ' ds ds' hle hd=>by
      simp only[List.singleton_append,DR]
      exact⟨_,_,rfl,hle _ _ hloc,hd⟩) (hfl.mono E1.le) (hcl.mono E1.le) h (fun e b' w' ⟨μ',q1,q2,q3,q4⟩=>hq _ _ _ ⟨μ',q1,q2,q3,E1.trans q4⟩) rfl rfl rfl rfl rfl rfl
     have hsz:({w with heap:=w.heap.push (.deferred (some []))}:sY).heap.size=w.heap.size+1:=by simp
     rw[hsz]at key;exact⟨_,_,_,_,_,f,_,_,run_enterLoop_outer fnr b.tmps ps asg bd,hres _ _,fun _ _=>trivial,hinv _ _,fun hd=>(by simp[FR]at hd),key⟩
    ·rename_i r
     split at h
     ·rename_i hgr
      obtain⟨l,hl,hroe⟩:=hro;subst hroe;obtain⟨o1,ho1,q1,rfl,_⟩:=W.has _ _ _ hgr hl;have key:=zhy (ro:=some l.b) (mk:=[]) (mk':=[]) (q:={state:=.ready,pending:=none,fn:=fnr,tmps:=b.tmps,params:=ps,assign:=asg,body:=bd,defers:=q1.defers}) (Q:=Q) hcall W hab (fun μ' ds ds' hle hd=>hd) hfl hcl h hq rfl rfl rfl rfl rfl rfl
      exact⟨_,_,_,_,_,f,_,_,nI ho1 fnr b.tmps ps asg bd,hres _ _,fun _ _=>trivial,hinv _ _,fun hd=>(by simp[FR]at hd),key⟩
     ·cases h
   ·cases h
  ·cases h
 ·cases h
noncomputable def evK(P:sT)(call:aJ)(same:XT)(dr:dj)(rd:Option Nat):Nat->Option Code->Code->AA->AW->Except String (AX×AA×AW)
 |0,_,_,_,_=>.error "out of fuel"
 |n+1,some c0,c,a,A=>match evK P call same dr rd n none c a A with
  | .ok (.goto l,a',A')=>match tR c0 l with
   |some rest=>evK P call same dr rd n (some c0) rest a' A'
   |none=>.ok (.goto l,a',A')
  |r=>r
 |n+1,none,c,a,A=>match c with
  | .skip=>.ok (.normal,a,A)
  | .label _=>.ok (.normal,a,A)
  | .region _ ops false=>zbh P call same rd ops ops.toList a A
  | .region _ ops true=>match dr rd ops a A with
   | .ok (a',A')=>.ok (.normal,a',A')
   | .error s=>.error s
  | .seq x y=>match evK P call same dr rd n none x a A with
   | .ok (.normal,a',A')=>evK P call same dr rd n none y a' A'
   |r=>r
  | .cond c x y=>match bE a.tmps c with
   |some (.bool true)=>evK P call same dr rd n none x a A
   |some (.bool false)=>evK P call same dr rd n none y a A
   |_=>.error "cond"
  | .block id x=>match evK P call same dr rd n none x a A with
   | .ok (.exit id',a',A')=>.ok (if id'=id then .normal else .exit id',a',A')
   |r=>r
  | .loop x=>match evK P call same dr rd n none x a A with
   | .ok (.normal,a',A')=>evK P call same dr rd n none (.loop x) a' A'
   |r=>r
  | .exit id=>.ok (.exit id,a,A)
  | .ret=>.ok (.ret,a,A)
  | .goto l=>.ok (.goto l,a,A)
  | .scope x=>evK P call same dr rd n (some x) x a A
  | .rangeFunc g ps asg bd=>zvK P call rd g ps asg bd a A
  |_=>.error "this code is not served"
noncomputable def evC(P:sT)(call:aJ)(same:XT)(dr:dj)(rd:Option Nat)(n:Nat)(c:Code)(a:AA)(A:AW):Except String (AX×AA×AW):=evK P call same dr rd n none c a A
theorem zgz{call:aJ}{same:XT}{dr:dj}(hcall:bC P call)(hsame:cv P same)(hdr:fF P dr){rd ro:Option Nat}:∀(n:Nat)(sc:Option Code)(c:Code)(a:AA)(A:AW)(μ:Mu)(b:Act)(w:sY)(x:AX)(a':AA)(A':AW)(Q:Exit->Act->sY->Prop),evK P call same dr rd n sc c a A=.ok (x,a',A')->WR μ A w->lP μ a b->RO μ rd ro->
  (∀e b' w',QX μ A w x a' A' e b' w'->Q e b' w')->(sc=none->c.wpIn (FR ro) 0 P Q b w/\(∀y,c=.loop y->fQ ro P y Q b w))/\(∀c0,sc=some c0->jl ro P c0 c Q b w)
 |0,_,_,_,_,_,_,_,_,_,_,_,h,_,_,_,_=>by simp only[evK]at h;cases h
 |n+1,some c0,c,a,A,μ,b,w,x,a',A',Q,h,W,hab,hro,hq=>by
  have IH:=zgz (rd:=rd) (ro:=ro) hcall hsame hdr n;refine⟨fun hh=>(by cases hh),fun c1 hc=>?_⟩
  cases hc
  simp only[evK]at h
  split at h
  ·rename_i l a1 A1 h1
   split at h
   ·rename_i rest hf
    refine km ((IH none c a A μ b w (.goto l) a1 A1 _ h1 W hab hro fun e b' w' ⟨μ',q1,q2,q3,q4⟩=>?_).1 rfl).1
    simp only[XR]at q1;subst q1
    simp only[iS,hf]
    exact(IH (some c0) rest a1 A1 μ' b' w' x a' A' Q h q3 q2 (hro.mono q4.le) fun e b'' w'' ⟨μ'',r1,r2,r3,r4⟩=>hq _ _ _ ⟨μ'',r1,r2,r3,q4.trans r4⟩).2 c0 rfl
   ·rename_i hf
    cases h
    refine km ((IH none c a A μ b w (.goto l) _ _ _ h1 W hab hro fun e b' w' hx=>?_).1 rfl).1
    have hx0:=hx;obtain⟨μ',q1,_⟩:=hx
    simp only[XR]at q1;subst q1
    simp only[iS,hf]
    exact hq _ _ _ hx0
  ·rename_i r hr
   refine km ((IH none c a A μ b w x a' A' _ h W hab hro fun e b' w' hx=>?_).1 rfl).1
   have hx0:=hx;obtain⟨μ',q1,_⟩:=hx
   cases x with
   |goto l=>exact absurd h (hr _ _ _)
   |normal=>simp only[XR]at q1;subst q1;exact hq _ _ _ hx0
   |exit id=>simp only[XR]at q1;subst q1;exact hq _ _ _ hx0
   |ret=>simp only[XR]at q1;subst q1;exact hq _ _ _ hx0
   |panic v=>simp only[XR]at q1;obtain⟨v',rfl,q3⟩:=q1;exact hq _ _ _ hx0
 |n+1,none,c,a,A,μ,b,w,x,a',A',Q,h,W,hab,hro,hq=>by
  have IH:=zgz (rd:=rd) (ro:=ro) hcall hsame hdr n;refine⟨fun _=>?_,fun c1 hc=>(by cases hc)⟩
  simp only[evK]at h
  split at h
  ·cases h;exact⟨wpIn_skip (hq _ _ _ ⟨μ,rfl,hab,W,bG.refl⟩),fun y hy=>by cases hy⟩
  ·cases h;exact⟨wpIn_label (hq _ _ _ ⟨μ,rfl,hab,W,bG.refl⟩),fun y hy=>by cases hy⟩
  ·exact⟨wpIn_region (lD hcall hsame _ a A μ b w W hab hro (zkr.symm.trans h) hq),fun y hy=>by cases hy⟩
  ·split at h
   ·rename_i a1 A1 h1
    cases h
    exact⟨hdr _ _ _ _ _ _ h1 μ b w _ ro Q W hab hro fun b' w' hx=>hq _ _ _ hx,fun y hy=>by cases hy⟩
   ·cases h
  ·rename_i y z
   refine⟨wpIn_seq ?_,fun y hy=>by cases hy⟩
   split at h
   ·rename_i a1 A1 h1
    refine((IH none y a A μ b w .normal a1 A1 _ h1 W hab hro fun e b' w' ⟨μ',q1,q2,q3,q4⟩=>?_).1 rfl).1
    simp only[XR]at q1;subst q1
    exact((IH none z a1 A1 μ' b' w' x a' A' Q h q3 q2 (hro.mono q4.le) fun e b'' w'' ⟨μ'',r1,r2,r3,r4⟩=>hq _ _ _ ⟨μ'',r1,r2,r3,q4.trans r4⟩).1 rfl).1
   ·rename_i r hr
    refine((IH none y a A μ b w x a' A' _ h W hab hro fun e b' w' hx=>?_).1 rfl).1
    cases x with
    |normal=>exact absurd h (hr _ _)
    |exit id=>obtain⟨μ',q1,q2⟩:=hx;simp only[XR]at q1;subst q1;exact hq _ _ _ ⟨μ',rfl,q2⟩
    |goto l=>obtain⟨μ',q1,q2⟩:=hx;simp only[XR]at q1;subst q1;exact hq _ _ _ ⟨μ',rfl,q2⟩
    |ret=>obtain⟨μ',q1,q2⟩:=hx;simp only[XR]at q1;subst q1;exact hq _ _ _ ⟨μ',rfl,q2⟩
    |panic v=>obtain⟨μ',q1,q2⟩:=hx;simp only[XR]at q1;obtain⟨v',rfl,q3⟩:=q1;exact hq _ _ _ ⟨μ',⟨v',rfl,q3⟩,q2⟩
  ·rename_i cc y z
   split at h
   ·rename_i hc
    have:=aw hab.tmps hc
    simp only[VR]at this
    exact⟨wpIn_cond_true this ((IH none y a A μ b w x a' A' Q h W hab hro hq).1 rfl).1,fun y hy=>by cases hy⟩
   ·rename_i hc
    have:=aw hab.tmps hc
    simp only[VR]at this
    exact⟨wpIn_cond_false this ((IH none z a A μ b w x a' A' Q h W hab hro hq).1 rfl).1,fun y hy=>by cases hy⟩
   ·cases h
  ·rename_i id y
   refine⟨wpIn_block ?_,fun y hy=>by cases hy⟩
   split at h
   ·rename_i id' a1 A1 h1
    cases h
    refine((IH none y a A μ b w (.exit id') a' A' _ h1 W hab hro fun e b' w' ⟨μ',q1,q2⟩=>?_).1 rfl).1
    simp only[XR]at q1;subst q1
    simp only[Exit.inBlock]
    by_cases e:id'=id
    ·rw[if_pos e];exact hq _ _ _ ⟨μ',by rw[if_pos e];rfl,q2⟩
    ·rw[if_neg e];exact hq _ _ _ ⟨μ',by rw[if_neg e];rfl,q2⟩
   ·rename_i r hr
    refine((IH none y a A μ b w x a' A' _ h W hab hro fun e b' w' hx=>?_).1 rfl).1
    cases x with
    |exit id=>exact absurd h (hr _ _ _)
    |normal=>obtain⟨μ',q1,q2⟩:=hx;simp only[XR]at q1;subst q1;exact hq _ _ _ ⟨μ',rfl,q2⟩
    |goto l=>obtain⟨μ',q1,q2⟩:=hx;simp only[XR]at q1;subst q1;exact hq _ _ _ ⟨μ',rfl,q2⟩
    |ret=>obtain⟨μ',q1,q2⟩:=hx;simp only[XR]at q1;subst q1;exact hq _ _ _ ⟨μ',rfl,q2⟩
    |panic v=>obtain⟨μ',q1,q2⟩:=hx;simp only[XR]at q1;obtain⟨v',rfl,q3⟩:=q1;exact hq _ _ _ ⟨μ',⟨v',rfl,q3⟩,q2⟩
  ·rename_i y
   have hbody:y.wpIn (FR ro) 0 P (Exit.then (fQ ro P y Q) Q) b w:=by
    split at h
    ·rename_i a1 A1 h1
     refine((IH none y a A μ b w .normal a1 A1 _ h1 W hab hro fun e b' w' ⟨μ',q1,q2,q3,q4⟩=>?_).1 rfl).1
     simp only[XR]at q1;subst q1
     exact((IH none (.loop y) a1 A1 μ' b' w' x a' A' Q h q3 q2 (hro.mono q4.le) fun e b'' w'' ⟨μ'',r1,r2,r3,r4⟩=>hq _ _ _ ⟨μ'',r1,r2,r3,q4.trans r4⟩).1 rfl).2 y rfl
    ·rename_i r hr
     refine((IH none y a A μ b w x a' A' _ h W hab hro fun e b' w' hx=>?_).1 rfl).1
     cases x with
     |normal=>exact absurd h (hr _ _)
     |exit id=>obtain⟨μ',q1,q2⟩:=hx;simp only[XR]at q1;subst q1;exact hq _ _ _ ⟨μ',rfl,q2⟩
     |goto l=>obtain⟨μ',q1,q2⟩:=hx;simp only[XR]at q1;subst q1;exact hq _ _ _ ⟨μ',rfl,q2⟩
     |ret=>obtain⟨μ',q1,q2⟩:=hx;simp only[XR]at q1;subst q1;exact hq _ _ _ ⟨μ',rfl,q2⟩
     |panic v=>obtain⟨μ',q1,q2⟩:=hx;simp only[XR]at q1;obtain⟨v',rfl,q3⟩:=q1;exact hq _ _ _ ⟨μ',⟨v',rfl,q3⟩,q2⟩
   exact⟨zqC hbody,fun z hz=>by cases hz;exact zkk hbody⟩
  ·cases h;exact⟨wpIn_exit (hq _ _ _ ⟨μ,rfl,hab,W,bG.refl⟩),fun y hy=>by cases hy⟩
  ·cases h;exact⟨wpIn_ret (hq _ _ _ ⟨μ,rfl,hab,W,bG.refl⟩),fun y hy=>by cases hy⟩
  ·cases h;exact⟨wpIn_goto (hq _ _ _ ⟨μ,rfl,hab,W,bG.refl⟩),fun y hy=>by cases hy⟩
  ·rename_i y
   exact⟨zlo ((IH (some y) y a A μ b w x a' A' Q h W hab hro hq).2 y rfl),fun y hy=>by cases hy⟩
  ·exact⟨zre hcall W hab hro h hq,fun y hy=>by cases hy⟩
  ·cases h
theorem zbi{call:aJ}{same:XT}{dr:dj}(hcall:bC P call)(hsame:cv P same)(hdr:fF P dr){rd ro:Option Nat}(n:Nat)(c:Code)(a:AA)(A:AW)(μ:Mu)(b:Act)(w:sY)(x:AX)(a':AA)(A':AW)(Q:Exit->Act->sY->Prop)(h:evC P call same dr rd n c a A=.ok (x,a',A'))(W:WR μ A w)(hab:lP μ a b)(hro:RO μ rd ro)
  (hq:∀e b' w',QX μ A w x a' A' e b' w'->Q e b' w'):c.wpIn (FR ro) 0 P Q b w:=((zgz hcall hsame hdr n none c a A μ b w x a' A' Q h W hab hro hq).1 rfl).1
inductive AM where
 |ret
 |pan (v:sR)
 |recd (v:sR)
def sC(μ:Mu):AM->tn->Prop
 | .ret,m=>m=.returning
 | .pan v,m=>∃v',m=.panicking [{v:=v',recovered:=false}]/\VR μ v v'
 | .recd v,m=>∃v',m=.panicking [{v:=v',recovered:=true}]/\VR μ v v'
theorem sC.mono{μ μ':Mu}(h:Le μ μ'):∀{u:AM} {m:tn},sC μ u m->sC μ' u m
 | .ret,_,r=>r
 | .pan _,_,r=>by obtain⟨v',h1,h2⟩:=r;exact⟨v',h1,h2.mono h⟩
 | .recd _,_,r=>by obtain⟨v',h1,h2⟩:=r;exact⟨v',h1,h2.mono h⟩
def zsl:Op->Bool
 | .call {callee:=.builtin .recover,args:=_,argTypes:=_}=>true
 |_=>false
noncomputable def iH(P:sT)(call:aJ)(same:XT)(ops:Array Oper):List Nat->AA->AM->AW->Except String (AX×AA×AM×AW)
 |[],a,u,A=>.ok (.normal,a,u,A)
 |i::r,a,u,A=>match ops[i]? with
  |none=>.error "no such operation"
  |some o=>match dH ops a.tmps o with
   |some true=>if zsl o.op then
     match u with
     | .pan v=>de a o.dst v fun a'=>iH P call same ops r a' (.recd v) A
     |_=>de a o.dst .nilIface fun a'=>iH P call same ops r a' u A
    else match zir P call same o a A with
    | .ok (.val v,A')=>fV v fun v=>de a o.dst v fun a'=>fW A' fun A'=>iH P call same ops r a' u A'
    | .ok (.dfr _,_)=>.error "defer in a deferred call"
    | .ok (.panic v,A')=>fV v fun v=>fW A' fun A'=>.ok (.panic v,a,u,A')
    | .error s=>.error s
   |some false=>de a o.dst undef fun a'=>iH P call same ops r a' u A
   |none=>.error ("guard: " ++o.pos)
def QS(c0:tk)(cs0:List tk)(Q:Exit->Act->List tk->sY->Prop)(μ:Mu)(A:AW)(w:sY)(x:AX)(a':AA)(u':AM)(A':AW):Prop:=
 ∀e b' m' w' μ',XR μ' x e->lP μ' a' b'->sC μ' u' m'->WR μ' A' w'->bG μ A w μ' A' w'->Q e b' ({c0 with mode:=m'}::cs0) w'
theorem fY{call:aJ}{same:XT}(hcall:bC P call)(hsame:cv P same){ops:Array Oper}{c0:tk}{cs0:List tk}{Q:Exit->Act->List tk->sY->Prop}{x:AX}{a':AA}{u':AM}{A':AW}:∀(l:List Nat)(a:AA)(u:AM)(A:AW)(μ:Mu)(b:Act)(m:tn)(w:sY),WR μ A w->lP μ a b->sC μ u m->
  iH P call same ops l a u A=.ok (x,a',u',A')->QS c0 cs0 Q μ A w x a' u' A'->tU P ops Q l b ({c0 with mode:=m}::cs0) w
 |[],a,u,A,μ,b,m,w,W,hab,hm,h,hq=>by
  simp only[iH]at h;cases h
  simp only[tU]
  exact hq _ _ _ _ _ rfl hab hm W bG.refl
 |i::r,a,u,A,μ,b,m,w,W,hab,hm,h,hq=>by
  have qtrans:∀{μ1:Mu} {A1:AW} {w1:sY},bG μ A w μ1 A1 w1->QS c0 cs0 Q μ1 A1 w1 x a' u' A':=fun E=>fun e b' m' w' μ' h1 h2 h3 h4 h5=>hq e b' m' w' μ' h1 h2 h3 h4 (E.trans h5)
  simp only[iH]at h
  split at h
  ·cases h
  ·rename_i o ho
   simp only[tU,ho]
   split at h
   ·rename_i hw
    rw[eG hab hw,if_pos rfl]
    split at h
    ·rename_i hr
     have hrun:(execOp b.eval o).run P w=.ok .recover w:=by
      unfold zsl at hr
      split at hr
      ·rename_i heq
       simp only[execOp,heq,resolve,tg,Sem.run_pure,te,invoke,builtin]
      ·cases hr
     rw[hrun]
     simp only
     split at h
     ·rename_i v
      rw[bO]at h;obtain⟨v',rfl,hv⟩:=hm
      simp only[recoverD]
      exact fY hcall hsame r _ (.recd v) A μ _ (.panicking [{v:=v',recovered:=true}]) w W (hab.put _ hv) ⟨v',rfl,hv⟩ h hq
     ·rename_i hnp
      rw[bO]at h;have hrec:recoverD ({c0 with mode:=m}::cs0)=none:=by
       cases u with
       |ret=>simp only[sC]at hm;subst hm;rfl
       |pan v=>exact absurd rfl (hnp v)
       |recd v=>obtain⟨v',rfl,hv⟩:=hm;rfl
      rw[hrec];exact fY hcall hsame r _ u A μ _ m w W (hab.put _ (by simp[VR])) hm h hq
    ·have hup:∀(K:Act->sY->Prop)(Q':Exit->Act->sY->Prop),o.wp P b w K Q'->(match (execOp b.eval o).run P w with
       | .ok .recover w'=>(match recoverD ({c0 with mode:=m}::cs0)with
        |some (v,cs')=>tU P ops Q r (b.put o.dst v) cs' w'
        |none=>tU P ops Q r (b.put o.dst .nilIface) ({c0 with mode:=m}::cs0) w')
       |rr=>o.upon P b K Q' rr):=fun K Q' hh=>by
      unfold Oper.wp at hh
      generalize (execOp b.eval o).run P w=rr at hh
      split
      ·exact hh.elim
      ·exact hh
     split at h
     ·rename_i v A1 h1
      rw[jV,bO,iG]at h;refine hup _ _ (pY hcall hsame W hab h1 (fun v2 hv2 μ' v' w' hv' W' E'=>?_) (fun d hd=>by cases hd) (fun v hv=>by cases hv))
      cases hv2
      exact fY hcall hsame r _ u _ μ' _ m w' W'.lay ((hab.mono E'.le).put _ hv') (hm.mono E'.le) h (qtrans E'.lay)
     ·cases h
     ·rename_i v A1 h1
      rw[jV,iG]at h
      cases h
      refine hup _ _ (pY hcall hsame W hab h1 (fun v2 hv2=>by cases hv2) (fun d hd=>by cases hd) (fun v hv μ' v' w' hv' W' E'=>?_))
      cases hv
      exact hq _ _ _ _ μ' ⟨v',rfl,hv'⟩ (hab.mono E'.le) (hm.mono E'.le) W'.lay E'.lay
     ·cases h
   ·rename_i hw
    rw[eG hab hw,if_neg (by simp)]
    rw[bO]at h;exact fY hcall hsame r _ u A μ _ m w W (hab.put _ dT) hm h hq
   ·cases h
noncomputable def evS(P:sT)(call:aJ)(same:XT)(dr:dj):Nat->Code->AA->AM->AW->Except String (AX×AA×AM×AW)
 |0,_,_,_,_=>.error "out of fuel"
 |n+1,c,a,u,A=>match c with
  | .region _ ops false=>iH P call same ops (ta ops.size) a u A
  | .seq x y=>match evS P call same dr n x a u A with
   | .ok (.normal,a',u',A')=>evS P call same dr n y a' u' A'
   |r=>r
  | .cond c x y=>match bE a.tmps c with
   |some (.bool true)=>evS P call same dr n x a u A
   |some (.bool false)=>evS P call same dr n y a u A
   |_=>.error "cond"
  |c=>match evC P call same dr none n c a A with
   | .ok (x,a',A')=>.ok (x,a',u,A')
   | .error s=>.error s
theorem zor{call:aJ}{same:XT}{dr:dj}(hcall:bC P call)(hsame:cv P same)(hdr:fF P dr){c0:tk}{cs0:List tk}:∀(n:Nat)(c:Code)(a:AA)(u:AM)(A:AW)(μ:Mu)(b:Act)(m:tn)(w:sY)(x:AX)(a':AA)(u':AM)(A':AW)(Q:Exit->Act->List tk->sY->Prop),evS P call same dr n c a u A=.ok (x,a',u',A')->WR μ A w->lP μ a b->sC μ u m->
  QS c0 cs0 Q μ A w x a' u' A'->c.wpS P Q b ({c0 with mode:=m}::cs0) w
 |0,_,_,_,_,_,_,_,_,_,_,_,_,_,h,_,_,_,_=>by cases h
 |n+1,c,a,u,A,μ,b,m,w,x,a',u',A',Q,h,W,hab,hm,hq=>by
  have IH:=zor (c0:=c0) (cs0:=cs0) hcall hsame hdr n;have qtrans:∀{μ1:Mu} {A1:AW} {w1:sY},bG μ A w μ1 A1 w1->QS c0 cs0 Q μ1 A1 w1 x a' u' A':=fun E=>fun e b' m' w' μ' h1 h2 h3 h4 h5=>hq e b' m' w' μ' h1 h2 h3 h4 (E.trans h5)
  unfold evS at h
  split at h
  ·exact wpS_region (fY hcall hsame _ a u A μ b m w W hab hm h hq)
  ·rename_i y z
   refine wpS_seq ?_
   split at h
   ·rename_i a1 u1 A1 h1
    refine IH y a u A μ b m w .normal a1 u1 A1 _ h1 W hab hm fun e b' m' w' μ' q1 q2 q3 q4 q5=>?_
    simp only[XR]at q1;subst q1
    exact IH z a1 u1 A1 μ' b' m' w' x a' u' A' Q h q4 q2 q3 (qtrans q5)
   ·rename_i r hr
    refine IH y a u A μ b m w x a' u' A' _ h W hab hm fun e b' m' w' μ' q1 q2 q3 q4 q5=>?_
    cases x with
    |normal=>exact absurd h (hr _ _ _)
    |exit id=>simp only[XR]at q1;subst q1;exact hq _ _ _ _ μ' rfl q2 q3 q4 q5
    |goto l=>simp only[XR]at q1;subst q1;exact hq _ _ _ _ μ' rfl q2 q3 q4 q5
    |ret=>simp only[XR]at q1;subst q1;exact hq _ _ _ _ μ' rfl q2 q3 q4 q5
    |panic v=>simp only[XR]at q1;obtain⟨v',rfl,q6⟩:=q1;exact hq _ _ _ _ μ' ⟨v',rfl,q6⟩ q2 q3 q4 q5
  ·rename_i cc y z
   split at h
   ·rename_i hc
    have:=aw hab.tmps hc
    simp only[VR]at this
    exact wpS_cond this (IH y a u A μ b m w x a' u' A' Q h W hab hm hq)
   ·rename_i hc
    have:=aw hab.tmps hc
    simp only[VR]at this
    exact wpS_cond this (IH z a u A μ b m w x a' u' A' Q h W hab hm hq)
   ·cases h
  ·split at h
   ·rename_i x1 a1 A1 h1
    cases h
    refine wpS_of_wp (wpIn_wide.1 (zbi (ro:=none) hcall hsame hdr n _ a A μ b w _ _ _ _ h1 W hab rfl fun e b' w' ⟨μ',q1,q2,q3,q4⟩=>?_))
    exact hq _ _ _ _ μ' q1 q2 (hm.mono q4.le) q3 q4
   ·cases h
end Ev
end
section
namespace Ev
variable {P:sT} {μ:Mu} {A:AW} {w:sY}
noncomputable def qm(P:sT)(A:AW)(l:bT):List tS->Option (List sR)
 |[]=>some []
 | .tmp t::r=>match l.get t,qm P A l r with
  |some v,some vs=>some (v::vs)
  |_,_=>none
 | .cell t ty::r=>match l.get t,qm P A l r with
  |some p,some vs=>match lM P A ty p with
   |some v=>some (v::vs)
   |none=>none
  |_,_=>none
def zlK(tmps:Array sR):tS->Sem sR
 | .tmp t=>pure (tmps.getD t undef)
 | .cell a t=>do loadVar t (<- asAddr (tmps.getD a undef))
theorem zfy(fn:Func)(tmps:Array sR):results fn tmps=(do
  let vs <- fn.results.mapM (zlK tmps)
  pure (if h:vs.size=1 then vs[0]else .tuple vs)):=rfl
theorem zbA{l:bT}{tmps:Array sR}(W:WR μ A w)(hl:TR μ l tmps.toList):∀{rs:List tS} {vs:List sR},qm P A l rs=some vs->
  ∃vs':List sR,(rs.mapM (zlK tmps):Sem (List sR)).run P w=.ok vs' w/\LR μ vs vs'
 |[],vs,h=>by simp only[qm]at h;cases h;exact⟨[],rfl,LR.nil⟩
 | .tmp t::r,vs,h=>by
  simp only[qm]at h
  split at h
  ·rename_i v us hv hr
   cases h
   obtain⟨vs',h1,h2⟩:=zbA W hl hr;obtain⟨v',h3,h4⟩:=hl t v hv;have h5:tmps.getD t undef=v':=by
    have:tmps[t]?=some v':=by rw[<- sZ];exact h3
    rw[tu,this];rfl
   refine⟨v'::vs',?_,LR.cons h4 h2⟩
   simp only[tN,zlK,tg,Sem.run_pure,te,h1,h5]
  ·cases h
 | .cell t ty::r,vs,h=>by
  simp only[qm]at h
  split at h
  ·rename_i p us hp hr
   split at h
   ·rename_i v hv
    cases h
    obtain⟨vs',h1,h2⟩:=zbA W hl hr;obtain⟨p',h3,h4⟩:=hl t p hp;have h5:tmps.getD t undef=p':=by
     have:tmps[t]?=some p':=by rw[<- sZ];exact h3
     rw[tu,this];rfl
    have hp2:∃a,p=.pointer (some a):=by
     unfold lM at hv
     split at hv
     ·exact⟨_,rfl⟩
     ·cases hv
    obtain⟨a,rfl⟩:=hp2
    simp only[VR]at h4
    obtain⟨a',rfl,ha⟩:=h4;obtain⟨v',h6,h7⟩:=sB W ha hv;refine⟨v'::vs',?_,LR.cons h7 h2⟩;have h8:(zlK tmps (.cell t ty)).run P w=.ok v' w:=by
     simp only[zlK,h5,tg,asAddr,Sem.run_pure,te,h6]
    simp only[tN,tg,h8,Sem.run_pure,te,h1]
   ·cases h
  ·cases h
def zhG:List sR->sR
 |[v]=>v
 |vs=>.tuple ⟨vs⟩
theorem zfe{l:bT}{tmps:Array sR}{fn:Func}{vs:List sR}(W:WR μ A w)(hl:TR μ l tmps.toList)(h:qm P A l fn.results.toList=some vs):∃v',(results fn tmps).run P w=.ok v' w/\VR μ (zhG vs) v':=by
 obtain⟨vs',h1,h2⟩:=zbA W hl h;refine⟨if h:vs'.toArray.size=1 then vs'.toArray[0]else .tuple vs'.toArray,?_,?_⟩
 ·rw[zfy,Array.mapM_eq_mapM_toList]
  simp only[tg,Sem.run_map]
  rw[h1]
  rfl
 ·have hlen:=h2.len
  match vs,h2,hlen with
  |[],h2,hlen=>
   have:vs'=[]:=List.eq_nil_of_length_eq_zero (by simpa using hlen)
   subst this
   simp only[zhG,VR]
   exact⟨_,rfl,LR.nil⟩
  |[v],h2,hlen=>
   simp only[LR]at h2
   obtain⟨y,ys,rfl,h3,rfl⟩:=h2;exact h3
  |v::u::r,h2,hlen=>
   have hne:¬vs'.toArray.size=1:=by simp only[List.size_toArray,hlen,tf];omega
   rw[dif_neg hne]
   simp only[zhG,VR]
   exact⟨_,rfl,h2⟩
def zag:AM->AM
 | .recd _=>.ret
 |m=>m
theorem zja{u:AM}{m:tn}(h:sC μ u m):sC μ (zag u) (settle m):=by
 cases u with
 |ret=>simp only[sC]at h;subst h;rfl
 |pan v=>obtain⟨v',rfl,hv⟩:=h;exact⟨v',rfl,hv⟩
 |recd v=>obtain⟨v',rfl,hv⟩:=h;rfl
theorem sC.ne{u:AM}{m:tn}(h:sC μ u m):m≠ .run:=by
 cases u with
 |ret=>simp only[sC]at h;subst h;simp
 |pan v=>obtain⟨v',rfl,hv⟩:=h;simp
 |recd v=>obtain⟨v',rfl,hv⟩:=h;simp
noncomputable def ziq{α:Type}(l:List sR):Nat->Tr sR->(Tr sR->α)->α:=
 List.rec (motive:=fun _=>Nat->Tr sR->(Tr sR->α)->α) (fun _ t k=>k t) (fun v _ ih n t k=>fV v fun v=>Tr.fput (some v) (tB n) t n fun t=>fN (tB n) fun n=>ih n t k) l
noncomputable def jg:List sR->Nat->Tr sR->Tr sR
 |[],_,t=>t
 |v::r,n,t=>jg r (n+1) (Tr.put (some v) (n+1) t n)
theorem pX{α:Type}:∀(l:List sR)(n:Nat)(t:Tr sR)(k:Tr sR->α),ziq l n t k=k (jg l n t)
 |[],_,t,k=>rfl
 |v::r,n,t,k=>by
  show fV v (fun v=>Tr.fput (some v) (tB n) t n fun t=>fN (tB n) fun n=>ziq r n t k)=_
  rw[jV,Tr.fput_eq,cW,pX r]
  rfl
theorem ni:∀(l:List sR)(n:Nat)(t:Tr sR)(j:Nat),(jg l n t).get j=if n<=j/\j<n+l.length then l[j-n]? else t.get j
 |[],n,t,j=>by simp only[jg,List.length_nil,Nat.add_zero];rw[if_neg (by omega)]
 |v::r,n,t,j=>by
  simp only[jg]
  rw[ni r (n+1),Tr.get_put _ _ _ _ _ (by omega)]
  simp only[tf]
  by_cases h1:j=n
  ·subst h1
   rw[if_neg (by omega),if_pos rfl,if_pos (by omega)]
   simp
  ·rw[if_neg h1]
   by_cases h2:n+1<=j/\j<n+1+r.length
   ·rw[if_pos h2,if_pos (by omega),show j-n=(j-(n+1))+1 by omega]
    simp
   ·rw[if_neg h2,if_neg (by omega)]
noncomputable def mF(fn:Func)(args:List sR):AA:=⟨jg args 0 .nil,args.length+(fn.ntmps-args.length),[]⟩
theorem zeL{fn:Func}{args:List sR}{args':Array sR}(h:LR μ args args'.toList):lP μ (mF fn args) {tmps:=args'++tp (fn.ntmps-args'.size) undef,defers:=[]}:=by
 have hs:args'.size=args.length:=by simpa using h.len
 refine⟨fun t v hv=>?_,by simp[mF,hs],by simp[mF,DR]⟩
 simp only[mF]at hv
 rw[ni]at hv
 split at hv
 ·rename_i hc
  simp only[Nat.sub_zero]at hv
  obtain⟨v',h1,h2⟩:=h.get hv;refine⟨v',?_,h2⟩;rw[tH,tz (by simp[hs];omega)]
  exact h1
 ·cases hv
theorem nJ{f:tI}{fn:Func}{c:Code}{args:Array sR}{u:tn}{w:sY}{R:Ending->tn->sY->Prop}
  (hf:P.funcs[f]?=some fn) (hb:fn.body=some c)
  (h:∀(c₀:tk)(cs:List tk),c₀.mode=u->
   c.wpS P (tT P fn c₀ cs R) {tmps:=args++tp (fn.ntmps-args.size) undef,defers:=[]} (c₀::cs) w):
  CallsDIn ti 0 P f args u w R:=by
 refine⟨trivial,fun c₀ cs hu _=>?_⟩
 let b:tk:={(default:tk)with fn:=f,kind:=.deferred}
 have henter:tk.enter P f args .deferred=
   b.at {tmps:=args++tp (fn.ntmps-args.size) undef,defers:=[]} [.code c]:=by
  simp[tk.enter,tk.at,hf,hb,b]
 obtain⟨e,a',cs',w',hq,harr⟩:=h c₀ cs hu b [] rfl rfl;rw[<- henter]at harr
 cases e with
 |normal=>
  obtain⟨hd,u',rfl,v,hr,hR⟩:=hq;exact⟨.returned v,u',w',_,hR,tJ.2 (Steps.trans harr (.one step_end)),rfl,rfl,rfl,hd,fn,hf,hr⟩
 |ret=>
  obtain⟨hd,u',rfl,v,hr,hR⟩:=hq;obtain⟨todo,hs⟩:=harr;exact⟨.returned v,u',w',_,hR,tJ.2 hs,rfl,rfl,rfl,hd,fn,hf,hr⟩
 |panic chain=>
  obtain⟨hd,u',rfl,hR⟩:=hq;obtain⟨todo,hs⟩:=harr;exact⟨.panicked chain,u',w',_,hR,tJ.2 hs,rfl,rfl,rfl,hd,fn,hf⟩
 |exit id=>exact hq.elim
 |goto l=>exact hq.elim
 |outgrown=>
  obtain⟨u',hR⟩:=hq;exact⟨.outgrown,u',w',b,hR,harr.resolve_left (by simp[b]),rfl,rfl,trivial⟩
noncomputable def evD(P:sT)(call:aJ)(same:XT)(dr:dj)(fuel:Nat)(df:tI)(dcap dargs:List sR)(u:AM)(A:AW):Except String (AM×AW):=
 match P.funcs[df]? with
 |some fn=>match fn.body with
  |some c=>if (fn.name== "runtime.NumGoroutine")=false then
    match ziq (dargs++dcap) 0 .nil fun l=>fN ((dargs++dcap).length+(fn.ntmps-(dargs++dcap).length)) fun n=>evS P call same dr fuel c ⟨l,n,[]⟩ u A with
    | .ok (.normal,a,u',A')=>match a.defers,qm P A' a.tmps fn.results.toList with
     |[],some _=>.ok (u',A')
     |_,_=>.error "deferred"
    | .ok (.ret,a,u',A')=>match a.defers,qm P A' a.tmps fn.results.toList with
     |[],some _=>.ok (u',A')
     |_,_=>.error "deferred"
    | .ok _=>.error "deferred: panic"
    | .error s=>.error s
   else .error "deferred: name"
  |none=>.error "deferred: body"
 |none=>.error "deferred: function"
theorem zvL{call:aJ}{same:XT}{dr:dj}(hcall:bC P call)(hsame:cv P same)(hdr:fF P dr){fuel:Nat}{df:tI}{dcap dargs:List sR}{u u':AM}{A':AW}{m:tn}{args':Array sR}(h:evD P call same dr fuel df dcap dargs u A=.ok (u',A'))(W:WR μ A w)(hm:sC μ u m)(ha:LR μ (dargs++dcap) args'.toList):
  (tM df args').run P w=.ok (.enter df args') w/\CallsDIn ti 0 P df args' m w fun e m' w'=>∃v,e=.returned v/\∃μ',sC μ' u' m'/\WR μ' A' w'/\bG μ A w μ' A' w':=by
 unfold evD at h
 split at h
 ·rename_i fn hfn
  split at h
  ·rename_i c hb
   split at h
   ·rename_i hnm
    refine⟨?_,?_⟩
    ·have hne:fn.body.isNone=false:=by rw[hb];rfl
     simp only[tM,tg,run_program,te,hfn,hnm,tw,if_false,hne,Sem.run_pure]
    ·refine nJ hfn hb fun c0 cs0 hc0=>?_
     have hc:({c0 with mode:=m}:tk)=c0:=by subst hc0;rfl
     rw[pX,cW]at h;have key:∀x a1 u1 A1,evS P call same dr fuel c (mF fn (dargs++dcap)) u A=.ok (x,a1,u1,A1)->(x=.normal\/x=.ret)->a1.defers=[]->(∃vs,qm P A1 a1.tmps fn.results.toList=some vs)->u1=u'->A1=A'->
       c.wpS P (tT P fn c0 cs0 fun e m' w'=>∃v,e=.returned v/\∃μ',sC μ' u' m'/\WR μ' A' w'/\bG μ A w μ' A' w') {tmps:=args'++tp (fn.ntmps-args'.size) undef,defers:=[]} (c0::cs0) w:=by
      intro x a1 u1 A1 he hx hd ⟨vs,hvs⟩ hu hA;subst hu hA;have:=zor (c0:=c0) (cs0:=cs0) hcall hsame hdr fuel c _ u A μ _ m w x a1 u1 A1 (tT P fn c0 cs0 fun e m' w'=>∃v,e=.returned v/\∃μ',sC μ' u1 m'/\WR μ' A1 w'/\bG μ A w μ' A1 w') he W (zeL ha) hm (fun e b' m' w' μ' q1 q2 q3 q4 q5=>by
       have hdd:=q2.defers;rw[hd]at hdd
       simp only[DR]at hdd
       obtain⟨v',hr,_⟩:=zfe q4 q2.tmps hvs
       rcases hx with rfl|rfl
       ·simp only[XR]at q1;subst q1
        exact⟨hdd,m',rfl,v',hr,v',rfl,μ',q3,q4,q5⟩
       ·simp only[XR]at q1;subst q1
        exact⟨hdd,m',rfl,v',hr,v',rfl,μ',q3,q4,q5⟩)
      rw[hc]at this;exact this
     split at h
     ·rename_i a1 u1 A1 he
      split at h
      ·rename_i vs hd hvs
       cases h
       exact key _ _ _ _ he (.inl rfl) hd ⟨_,hvs⟩ rfl rfl
      ·cases h
     ·rename_i a1 u1 A1 he
      split at h
      ·rename_i vs hd hvs
       cases h
       exact key _ _ _ _ he (.inr rfl) hd ⟨_,hvs⟩ rfl rfl
      ·cases h
     ·cases h
     ·cases h
   ·cases h
  ·cases h
 ·cases h
noncomputable def cX(P:sT)(call:aJ)(same:XT)(dr:dj)(fuel:Nat)(fn:Func)(l:bT):List gR->AM->AW->Except String (AE×AW)
 |[],.ret,A=>match qm P A l fn.results.toList with
  |some vs=>.ok (.ret (zhG vs),A)
  |none=>.error ("results of " ++fn.name)
 |[],.pan v,A=>.ok (.panic v,A)
 |[],.recd _,_=>.error "recovered"
 | .fn f cap args::ds,u,A=>match evD P call same dr fuel f cap args u A with
  | .ok (u',A')=>cX P call same dr fuel fn l ds (zag u') A'
  | .error s=>.error s
 | .mark i::ds,u,A=>match A.get i with
  |some (.dfr true)=>fW (A.set i (some (.dfr false))) fun A'=>cX P call same dr fuel fn l ds u A'
  |_=>.error "mark"
theorem lT{call:aJ}{same:XT}{dr:dj}(hcall:bC P call)(hsame:cv P same)(hdr:fF P dr){fuel:Nat}{fn:Func}{l:bT}{tmps:Array sR}{R:Ending->sY->Prop}{e:AE}{A':AW}:∀(ds:List gR)(u:AM)(A:AW)(μ:Mu)(ds':List Deferred)(m:tn)(w:sY),
  cX P call same dr fuel fn l ds u A=.ok (e,A')->WR μ A w->TR μ l tmps.toList->DR μ ds ds'->sC μ u m->(∀e' w' μ',ER μ' e e'->WR μ' A' w'->bG μ A w μ' A' w'->R e' w')->LeavesInM ti 0 P fn tmps R ds' m w
 |[],.ret,A,μ,ds',m,w,h,W,hl,hd,hm,hR=>by
  simp only[DR]at hd;subst hd
  simp only[sC]at hm;subst hm
  simp only[cX]at h
  split at h
  ·rename_i vs hvs
   cases h
   obtain⟨v',hr,hv⟩:=zfe W hl hvs;exact⟨v',hr,hR _ _ μ hv W bG.refl⟩
  ·cases h
 |[],.pan v,A,μ,ds',m,w,h,W,hl,hd,hm,hR=>by
  simp only[DR]at hd;subst hd
  obtain⟨v',rfl,hv⟩:=hm
  simp only[cX]at h;cases h
  exact hR _ _ μ ⟨v',rfl,hv⟩ W bG.refl
 |[],.recd v,A,μ,ds',m,w,h,W,hl,hd,hm,hR=>by simp only[cX]at h;cases h
 | .fn f cap args::ds,u,A,μ,ds',m,w,h,W,hl,hd,hm,hR=>by
  simp only[DR]at hd
  obtain⟨cap',args',r,rfl,h1,h2,h3⟩:=hd;unfold cX at h
  split at h
  ·rename_i u1 A1 hD
   obtain⟨hinv,hc⟩:=zvL (args':=args'++cap') hcall hsame hdr hD W hm (by rw[tH];exact h2.append h1)
   refine⟨hm.ne,.inr ⟨fun hd=>(by simp[ti]at hd),.func f,cap',f,args'++cap',rfl,hinv,fun _ _=>trivial,hc.mono fun e1 m' w' ⟨v,he,μ',hm',W',E'⟩=>?_⟩⟩
   subst he;exact lT hcall hsame hdr ds (zag u1) A1 μ' r (settle m') w' h W' (hl.mono E'.le) (h3.mono E'.le) (zja hm') fun e' w'' μ'' g1 g2 g3=>hR e' w'' μ'' g1 g2 (E'.trans g3)
  ·cases h
 | .mark i::ds,u,A,μ,ds',m,w,h,W,hl,hd,hm,hR=>by
  simp only[DR]at hd
  obtain⟨lo,r,rfl,h1,h2⟩:=hd;unfold cX at h
  split at h
  ·rename_i hg
   rw[iG]at h;obtain⟨o1,ho1,ho2⟩:=W.has _ _ _ hg h1
   simp only[OR,if_true]at ho2
   subst ho2;obtain⟨W1,E1⟩:=W.upd (o:=.dfr false) (o':=.deferred none) hg h1 rfl;refine⟨hm.ne,.inl ⟨lo.b,_,rfl,run_takeDeferred ho1,?_⟩⟩;exact lT hcall hsame hdr ds u _ μ r m _ h W1.lay hl h2 hm fun e' w'' μ'' g1 g2 g3=>hR e' w'' μ'' g1 g2 (E1.lay.trans g3)
  ·cases h
noncomputable def fPs{α:Type}:List Tmp->List sR->AA->(AA->α)->α
 |t::ts,v::vs,a,k=>fV v fun v=>de a (some t) v fun a=>fPs ts vs a k
 |_,_,a,k=>k a
noncomputable def zcB:List Tmp->List sR->AA->AA
 |t::ts,v::vs,a=>zcB ts vs (a.put (some t) v)
 |_,_,a=>a
theorem zoq{α:Type}:∀(ts:List Tmp)(vs:List sR)(a:AA)(k:AA->α),fPs ts vs a k=k (zcB ts vs a)
 |[],_,_,_=>rfl
 |_::_,[],_,_=>rfl
 |t::ts,v::vs,a,k=>by simp only[fPs,zcB,jV,bO,zoq ts vs]
theorem zcA:∀(ts:List Tmp)(vs:List sR)(vs':List sR)(a:AA)(b:Act),lP μ a b->LR μ vs vs'->lP μ (zcB ts vs a) {b with tmps:=(ts.zip vs').foldl (fun tmps (p:Tmp×sR)=>tmps.setIfInBounds p.1 p.2) b.tmps}
 |[],_,_,a,b,h,_=>h
 |t::ts,[],vs',a,b,h,hl=>by
  simp only[LR]at hl;subst hl
  exact h
 |t::ts,v::vs,vs',a,b,h,hl=>by
  simp only[LR]at hl
  obtain⟨y,ys,rfl,h1,h2⟩:=hl;have:=zcA ts vs ys _ _ (h.put (some t) h1) h2;exact this
noncomputable def qU(P:sT)(same:XT)(fuel:Nat)(dr:aJ->dj)(call:aJ)(f:tI)(args:List sR)(A:AW):Except String (AE×AW):=
 match P.funcs[f]? with
 |some fn=>match fn.body with
  |some c=>match ziq args 0 .nil fun l=>fN (args.length+(fn.ntmps-args.length)) fun n=>evC P call same (dr call) none fuel c ⟨l,n,[]⟩ A with
   | .ok (.normal,a,A')=>cX P call same (dr call) fuel fn a.tmps a.defers .ret A'
   | .ok (.ret,a,A')=>cX P call same (dr call) fuel fn a.tmps a.defers .ret A'
   | .ok (.panic v,a,A')=>cX P call same (dr call) fuel fn a.tmps a.defers (.pan v) A'
   | .ok _=>.error "exit"
   | .error s=>.error (fn.name++ " > " ++s)
  |none=>.error "no body"
 |none=>.error "no function"
theorem zbW{same:XT}{fuel:Nat}{dr:aJ->dj}{call:aJ}(hcall:bC P call)(hsame:cv P same)(hdr:fF P (dr call)){f:tI}{args:List sR}{A A':AW}{e:AE}(h:qU P same fuel dr call f args A=.ok (e,A'))(μ:Mu)(w:sY)(args':Array sR)(W:WR μ A w)(ha:LR μ args args'.toList):
  Calls P f args' w fun e' w'=>∃μ',ER μ' e e'/\WR μ' A' w'/\bG μ A w μ' A' w':=by
 unfold qU at h
 split at h
 ·rename_i fn hfn
  split at h
  ·rename_i c hb
   refine(callsIn_wide (n:=0)).1 (callsIn_of_wp_marks (F:=ti) hfn hb trivial ?_);rw[pX,cW]at h;have key:∀x a1 A1 u,evC P call same (dr call) none fuel c (mF fn args) A=.ok (x,a1,A1)->((x=.normal\/x=.ret)/\u=AM.ret\/∃v,x=.panic v/\u=.pan v)->cX P call same (dr call) fuel fn a1.tmps a1.defers u A1=.ok (e,A')->
     c.wpIn ti 0 P (bodyPostM ti 0 P fn fun e' w'=>∃μ',ER μ' e e'/\WR μ' A' w'/\bG μ A w μ' A' w') {tmps:=args'++tp (fn.ntmps-args'.size) undef,defers:=[]} w:=by
    intro x a1 A1 u he hx hu;refine zbi (ro:=none) hcall hsame hdr fuel c _ A μ _ w x a1 A1 _ he W (zeL ha) rfl fun e1 b' w' ⟨μ',q1,q2,q3,q4⟩=>?_
    have fin:∀m,sC μ' u m->LeavesInM ti 0 P fn b'.tmps (fun e' w'=>∃μ',ER μ' e e'/\WR μ' A' w'/\bG μ A w μ' A' w') b'.defers m w':=fun m hm=>
     lT hcall hsame hdr a1.defers u A1 μ' b'.defers m w' hu q3 q2.tmps q2.defers hm fun e' w'' μ'' g1 g2 g3=>⟨μ'',g1,g2,q4.trans g3⟩
    rcases hx with ⟨hx,rfl⟩|⟨v,rfl,rfl⟩
    ·rcases hx with rfl|rfl
     ·simp only[XR]at q1;subst q1;exact fin _ rfl
     ·simp only[XR]at q1;subst q1;exact fin _ rfl
    ·simp only[XR]at q1;obtain⟨v',rfl,hv⟩:=q1
     exact fin _ ⟨v',rfl,hv⟩
   split at h
   ·rename_i a1 A1 he;exact key _ _ _ .ret he (.inl ⟨.inl rfl,rfl⟩) h
   ·rename_i a1 A1 he;exact key _ _ _ .ret he (.inl ⟨.inr rfl,rfl⟩) h
   ·rename_i v a1 A1 he;exact key _ _ _ (.pan v) he (.inr ⟨v,rfl,rfl⟩) h
   ·cases h
   ·cases h
  ·cases h
 ·cases h
noncomputable def zxI:AX->Option (Bool×AJ)
 | .normal=>some (true,.none)
 | .ret=>some (false,.ret)
 | .exit id=>some (false,.exit id)
 | .goto l=>some (false,.goto l)
 | .panic _=>none
noncomputable def zpY:Bool->LoopState
 |true=>.ready
 |false=>.done
noncomputable def qT(P:sT)(same:XT)(fuel:Nat)(dr:aJ->dj)(call:aJ)(r:Nat)(args:List sR)(A:AW):Except String (AE×AW):=
 match A.get r with
 |some (.loop .ready _ ps asg bd t n)=>if sX args.length ps.size then
   fPs ps.toList args ⟨t,n,[]⟩ fun a0=>match evC P call same (dr call) (some r) fuel asg a0 A with
   | .ok (.normal,a1,A1)=>(match A1.get r with
    |some (.loop .ready j ps2 asg2 bd2 t2 n2)=>fW (A1.set r (some (.loop .busy j ps2 asg2 bd2 t2 n2))) fun A2=>
     (match evC P call same (dr call) (some r) fuel bd a1 A2 with
     | .ok (x,_,A3)=>(match zxI x,A3.get r with
      |some (v,jj),some (.loop _ _ ps3 asg3 bd3 t3 n3)=>fW (A3.set r (some (.loop (zpY v) jj ps3 asg3 bd3 t3 n3))) fun A4=>.ok (.ret (.bool v),A4)
      |_,_=>.error "round: its end")
     | .error s=>.error ("round > " ++s))
    |_=>.error "round: no record")
   | .ok _=>.error "round: assign"
   | .error s=>.error ("assign > " ++s)
  else .error "round: parameters"
 |_=>.error "round: not ready"
theorem zrf{v:Bool}{jj:AJ}{x:AX}{e:Exit}{l:Nat}{q:Loop}{R:Ending->sY->Prop}{b:Act}(hx:zxI x=some (v,jj))(hX:XR μ x e)(hh:w.heap[l]?=some (.loop q))(hR:R (.returned (.bool v)) (w.putObj l (.loop {q with state:=zpY v,pending:=jj.code}))):roundPost P l R e b w:=by
 cases x with
 |normal=>cases hx;simp only[XR]at hX;subst hX;exact⟨_,_,tC none hh,hR⟩
 |ret=>cases hx;simp only[XR]at hX;subst hX;exact⟨_,_,tC (some .ret) hh,hR⟩
 |exit id=>cases hx;simp only[XR]at hX;subst hX;exact⟨_,_,tC (some (.exit id)) hh,hR⟩
 |goto t=>cases hx;simp only[XR]at hX;subst hX;exact⟨_,_,tC (some (.goto t)) hh,hR⟩
 |panic v=>cases hx
theorem zkR(ps:Array Tmp)(vs:Array sR)(l:Array sR):(ps.zip vs).foldl (fun tmps (p:Tmp×sR)=>tmps.setIfInBounds p.1 p.2) l=(ps.toList.zip vs.toList).foldl (fun tmps (p:Tmp×sR)=>tmps.setIfInBounds p.1 p.2) l:=by
 rw[<- Array.foldl_toList,Array.toList_zip]
theorem zbV{same:XT}{fuel:Nat}{dr:aJ->dj}{call:aJ}(hcall:bC P call)(hsame:cv P same)(hdr:fF P (dr call)){r:Nat}{args:List sR}{A A':AW}{e:AE}(h:qT P same fuel dr call r args A=.ok (e,A'))(μ:Mu)(w:sY)(args':Array sR)(l:qs)(W:WR μ A w)(ha:LR μ args args'.toList)(hl:μ r=some l):
  ∃q:Loop,w.heap[l.b]?=some (.loop q)/\args'.size=q.params.size/\RoundIn ti 0 P l.b q.fn ((q.params.zip args').foldl (fun tmps (t,a)=>tmps.setIfInBounds t a) q.tmps) q.assign q.body w fun e' w'=>∃μ',ER μ' e e'/\WR μ' A' w'/\bG μ A w μ' A' w':=by
 unfold qT at h
 split at h
 ·rename_i j0 ps asg bd t n hg
  split at h
  ·rename_i hlen
   rw[zoq]at h;obtain⟨o1,ho1,q,rfl,g1,g2,g3,g4,g5,g6,g7⟩:=W.has _ _ _ hg hl;have hsz:args'.size=args.length:=by simpa using ha.len
   have hlen':args'.size=q.params.size:=by rw[hsz,g3];exact tj hlen
   refine⟨q,ho1,hlen',roundIn_of_wpIn (F:=ti) trivial ?_⟩;have hab0:lP μ ⟨t,n,[]⟩ {tmps:=q.tmps,defers:=[]}:=⟨g7,g6.symm,by simp[DR]⟩
   have hab:lP μ (zcB ps.toList args ⟨t,n,[]⟩) {tmps:=(q.params.zip args').foldl (fun tmps (t,a)=>tmps.setIfInBounds t a) q.tmps,defers:=[]}:=by
    have h9:=zcA ps.toList args args'.toList _ _ hab0 ha;have h10:=zkR q.params args' q.tmps;rw[g3]at h10⊢;rw[<- h10]at h9;exact h9
   rw[g4,g5];have hro:RO μ (some r) (some l.b):=⟨l,hl,rfl⟩
   split at h
   ·rename_i a1 A1 he
    split at h
    ·rename_i j ps2 asg2 bd2 t2 n2 hg2
     rw[iG]at h
     split at h
     ·rename_i x a3 A3 he3
      split at h
      ·rename_i v jj st3 j3 ps3 asg3 bd3 t3 n3 hx hg3
       rw[iG]at h
       cases h
       refine zbi (ro:=some l.b) hcall hsame hdr fuel asg _ A μ _ w _ _ _ _ he W hab hro fun e1 b1 w1 ⟨μ1,q1,q2,q3,q4⟩=>?_
       simp only[XR]at q1;subst q1
       have hl1:=q4.le _ _ hl;obtain⟨o2,ho2,p,rfl,k1,k2,k3,k4,k5,k6,k7⟩:=q3.has _ _ _ hg2 hl1;obtain⟨W2,E2⟩:=q3.upd (o:=.loop .busy j ps2 asg2 bd2 t2 n2) (o':=.loop {p with state:=.busy}) hg2 hl1 ⟨_,rfl,rfl,k2,k3,k4,k5,k6,k7⟩
       refine⟨_,run_beginRound ho2 k1,?_⟩;refine zbi (ro:=some l.b) hcall hsame hdr fuel bd _ _ μ1 _ _ _ _ _ _ he3 W2.lay q2 (hro.mono q4.le) fun e3 b3 w3 ⟨μ3,r1,r2,r3,r4⟩=>?_
       have hl3:=r4.le _ _ hl1;obtain⟨o3,ho3,p3,rfl,m1,m2,m3,m4,m5,m6,m7⟩:=r3.has _ _ _ hg3 hl3;obtain⟨W4,E4⟩:=r3.upd (o:=.loop (zpY v) jj ps3 asg3 bd3 t3 n3) (o':=.loop {p3 with state:=zpY v,pending:=jj.code}) hg3 hl3 ⟨_,rfl,rfl,rfl,m3,m4,m5,m6,m7⟩
       exact zrf hx r1 ho3 ⟨μ3,by simp only[ER,VR],W4.lay,((q4.trans E2.lay).trans r4).trans E4.lay⟩
      ·cases h
     ·cases h
    ·cases h
   ·cases h
   ·cases h
  ·cases h
 ·cases h
noncomputable def evF(P:sT)(same:XT)(fuel:Nat)(dr:aJ->dj):Nat->aJ
 |0=>fun _ _ _ _=>.error "too deep"
 |n+1=>fun y f args A=>if y then qT P same fuel dr (evF P same fuel dr n) f args A else qU P same fuel dr (evF P same fuel dr n) f args A
theorem iI{same:XT}{fuel:Nat}{dr:aJ->dj}(hsame:cv P same)(hdr:∀call,bC P call->fF P (dr call)):∀n,bC P (evF P same fuel dr n)
 |0=>⟨fun f args A e A' h=>(by cases h),fun f args A e A' h=>(by cases h)⟩
 |n+1=>⟨fun f args A e A' h=>zbW (iI hsame hdr n) hsame (hdr _ (iI hsame hdr n)) (show qU P same fuel dr (evF P same fuel dr n) f args A=.ok (e,A')from h),fun r args A e A' h=>zbV (iI hsame hdr n) hsame (hdr _ (iI hsame hdr n)) (show qT P same fuel dr (evF P same fuel dr n) r args A=.ok (e,A')from h)⟩
end Ev
end
section
namespace Ev
variable {P:sT}
def quiet:Op->Bool
 | .move _| .assign _| .pick _ _ _| .build _ _| .unOp _ _ _| .index _ _ _| .fieldAddr _ _ _| .field _ _ _| .indexAddr _ _ _| .extract _ _| .makeFunc _ _ _| .makeInterface _ _| .nilCheck _=>true
 |_=>false
def looks(P:sT):Op->Bool
 | .load _ _| .lookup _ _ _ _| .binOp _ _ _ _ _| .slice _ _ _ _ _=>true
 | .convert _ d _=>match P.underlying d with
  |some (.slice _)=>false
  |_=>true
 | .call {callee:=.builtin .len,args:=_,argTypes:=_}| .call {callee:=.builtin .unsafeSliceData,args:=_,argTypes:=_}| .call {callee:=.builtin .max,args:=_,argTypes:=_}| .call {callee:=.builtin .min,args:=_,argTypes:=_}=>true
 |_=>false
def zvT:Operand->Bool
 | .const _=>true
 |_=>false
def early(o:Oper):Bool:=match o.op with
 | .alloc _=>o.guard.isNone
 | .makeMap _ none=>o.guard.isNone
 | .makeSlice _ _ _=>o.guard.isNone
 | .buildSlice _ _ ps=>o.guard.isNone&&ps.toList.all fun x=>zvT x.2
 |_=>false
theorem zeN{o:Oper}(h:early o=true):looks P o.op=false/\o.guard=none:=by
 unfold early at h
 split at h
 ·rename_i ht
  rw[ht];exact⟨rfl,by simpa using h⟩
 ·rename_i ht
  rw[ht];exact⟨rfl,by simpa using h⟩
 ·rename_i ht
  rw[ht];exact⟨rfl,by simpa using h⟩
 ·rename_i ht
  rw[ht];rw[sU]at h;exact⟨rfl,by simpa using h.1⟩
 ·cases h
def gV(P:sT)(o:Oper):Bool:= !(quiet o.op||looks P o.op||early o)
theorem dV{x:Option sR}{A A' B:AW}{v:sR}(h:o1 x A=some (v,A')):o1 x B=some (v,B):=by
 obtain⟨h,_⟩:=cU h;rw[h];rfl
theorem zjk{l:bT}{o:Oper}{A A':AW}{v:sR}(hq:quiet o.op=true)(h:kw P l o A=some (v,A'))(B:AW):kw P l o B=some (v,B):=by
 obtain⟨dst,op,type,pos,after,guard⟩:=o
 simp only at hq
 cases op<;>simp only[quiet]at hq<;>first
  |(cases hq;done)
  |skip
 ·exact dV h
 ·exact dV h
 ·unfold kw at h⊢
  simp only at h⊢
  split at h
  ·exact dV h
  ·exact dV h
  ·cases h
 ·exact dV h
 ·unfold kw at h⊢
  simp only at h⊢
  split at h
  ·split at h
   ·rename_i hn;cases h;rw[if_pos hn]
   ·cases h
  ·cases h
 ·exact dV h
 ·unfold kw at h⊢
  simp only at h⊢
  split at h
  ·exact dV h
  ·cases h
 ·rename_i fn first captured
  cases fn with
  |func f=>
   unfold kw at h⊢
   simp only at h⊢
   split at h
   ·cases h;rfl
   ·cases h
  |method n=>cases h
  |methodOf t n=>cases h
  |via t p f b=>cases h
  |yield n=>cases h
 ·unfold kw at h⊢
  simp only at h⊢
  split at h
  ·exact dV h
  ·cases h
 ·unfold kw at h⊢
  simp only at h⊢
  split at h
  ·exact dV h
  ·cases h
 ·unfold kw at h⊢
  simp only at h⊢
  split at h
  ·exact dV h
  ·cases h
 ·exact dV h
 ·unfold kw at h⊢
  simp only at h⊢
  split at h
  ·exact dV h
  ·cases h
theorem zfT{l:bT}{o:Oper}{A A':AW}{v:sR}(hq:looks P o.op=true)(h:kw P l o A=some (v,A')):A'=A:=by
 obtain⟨dst,op,type,pos,after,guard⟩:=o
 simp only at hq
 unfold looks at hq
 split at hq
 ·simp only[kw]at h
  split at h
  ·exact(cU h).2
  ·cases h
 ·simp only[kw]at h
  split at h
  ·exact(cU h).2
  ·cases h
 ·simp only[kw]at h
  split at h
  ·cases h;rfl
  ·split at h
   ·exact(cU h).2
   ·cases h
 ·rename_i t x lo hi mx
  cases mx with
  |none=>
   simp only[kw]at h
   split at h
   ·cases h;rfl
   ·split at h
    ·cases h;rfl
    ·split at h
     ·exact(cU h).2
     ·cases h
  |some m=>cases h
 ·rename_i s d x
  split at hq
  ·cases hq
  ·rename_i hnd
   simp only[kw]at h
   split at h
   ·cases h;rfl
   ·split at h
    ·split at h
     ·cases h;rfl
     ·split at h
      ·cases h;rfl
      ·split at h
       ·unfold zpg at h
        split at h
        ·split at h
         ·rename_i e he
          exact absurd he (hnd e)
         ·cases h
        ·cases h
       ·cases h
    ·cases h
 ·rename_i args ts
  obtain⟨args⟩:=args;obtain⟨ts⟩:=ts
  simp only[kw,eY]at h
  split at h
  ·cases h;rfl
  ·split at h
   ·split at h
    ·split at h
     ·cases h;rfl
     ·cases h
    ·cases h
   ·rename_i e1 _;cases e1
   ·rename_i e1 _;cases e1
   ·rename_i e1 _;cases e1
   ·rename_i e1 _;cases e1
   ·rename_i e1 _;cases e1
   ·cases h
 ·rename_i args ts
  obtain⟨args⟩:=args;obtain⟨ts⟩:=ts
  simp only[kw,eY]at h
  split at h
  ·cases h;rfl
  ·split at h
   ·rename_i e1 _;cases e1
   ·rename_i e1 _;cases e1
   ·split at h
    ·split at h
     ·cases h;rfl
     ·cases h
    ·cases h
   ·rename_i e1 _;cases e1
   ·rename_i e1 _;cases e1
   ·rename_i e1 _;cases e1
   ·cases h
 ·rename_i args ts
  obtain⟨args⟩:=args;obtain⟨ts⟩:=ts
  simp only[kw,eY]at h
  split at h
  ·cases h;rfl
  ·cases h
 ·rename_i args ts
  obtain⟨args⟩:=args;obtain⟨ts⟩:=ts
  simp only[kw,eY]at h
  split at h
  ·cases h;rfl
  ·cases h
 ·cases hq
end Ev
end
section
namespace Ev
variable {P:sT}
def zgJ(acc:List Nat):List Edge->Nat
 |[]=>0
 |e::r=>if tq .any e then (1<<<e.on)|||acc.getD e.on 0|||zgJ acc r else zgJ acc r
def zoX:List Oper->List Nat->List Nat
 |[],acc=>acc
 |o::r,acc=>zoX r (acc++[zgJ acc o.after.toList])
def bef(ops:Array Oper)(i p:Nat):Bool:=((zoX ops.toList []).getD i 0).testBit p
def zgX(ops:Array Oper)(bR:Nat->Bool):Prop:=∀i o,ops[i]?=some o->bR i=true->∀e∈o.after.toList,tq .any e=true->bR e.on=true
def zfj(ops:Array Oper)(bR:Nat->Bool)(i:Nat):Prop:=∀o,ops[i]?=some o->∀e∈o.after.toList,tq .any e=true->bR e.on=true
theorem mI{acc:List Nat}{p:Nat}:∀{es:List Edge},(zgJ acc es).testBit p=true->∃e∈es,tq .any e=true/\(p=e.on\/(acc.getD e.on 0).testBit p=true)
 |[],h=>by simp[zgJ]at h
 |e::r,h=>by
  simp only[zgJ]at h
  split at h
  ·rename_i hb
   rw[tO,tO,tD,tD]at h
   rcases h with (h|h)|h
   ·rw[Nat.one_shiftLeft,Nat.testBit_two_pow]at h
    have h9:e.on=p:=by simpa using h
    exact⟨e,by simp,hb,.inl h9.symm⟩
   ·exact⟨e,by simp,hb,.inr h⟩
   ·obtain⟨e',h1,h2,h3⟩:=mI h
    exact⟨e',by simp[h1],h2,h3⟩
  ·obtain⟨e',h1,h2,h3⟩:=mI h
   exact⟨e',by simp[h1],h2,h3⟩
def zsz(ops:Array Oper)(i x:Nat):Prop:=∀p,x.testBit p=true->p<i/\∀bR,zgX ops bR->zfj ops bR i->bR p=true
def s0(ops:Array Oper):Bool:=(ta ops.size).all fun i=>match ops[i]? with
 |some o=>o.after.toList.all fun e=> !tq .any e||tV e.on i
 |none=>true
theorem zhr{ops:Array Oper}(h:s0 ops=true){i:Nat}{o:Oper}(ho:ops[i]?=some o){e:Edge}(he:e∈o.after.toList)(hb:tq .any e=true):e.on<i:=by
 have hi:i<ops.size:=(sS.1 ho).1;have h1:=sV.1 h i (sW.2 hi);rw[ho]at h1;have h2:=sV.1 h1 e he;rw[hb]at h2
 simp only[tr,tA]at h2
 exact tE h2
theorem zko{l:List Nat}{x i:Nat}:(l++[x]).getD i 0=if i<l.length then l.getD i 0 else if i=l.length then x else 0:=by
 simp only[List.getD]
 by_cases h:i<l.length
 ·rw[if_pos h,tz h]
 ·rw[if_neg h,List.getElem?_append_right (by omega)]
  by_cases e:i=l.length
  ·rw[if_pos e,e];simp
  ·rw[if_neg e,tF (by simp;omega)];rfl
theorem su{ops:Array Oper}(h0:s0 ops=true):∀(os:List Oper)(acc:List Nat),ops.toList.drop acc.length=os->(∀i,i<acc.length->zsz ops i (acc.getD i 0))->∀i,zsz ops i ((zoX os acc).getD i 0)
 |[],acc,_,h,i=>by
  simp only[zoX]
  rcases tW i acc.length with hi|hi
  ·exact h i hi
  ·intro p hp
   rw[List.getD,tF hi]at hp
   simp at hp
 |o::r,acc,hd,h,i=>by
  simp only[zoX]
  have ho:ops[acc.length]?=some o:=by
   rw[<- sZ];have:=congrArg (fun l=>l[0]?) hd
   simpa using this
  refine su h0 r (acc++[zgJ acc o.after.toList]) ?_ (fun j hj=>?_) i
  ·rw[List.length_append,List.length_singleton,<- tP,hd];rfl
  ·rw[zko]
   by_cases hlt:j<acc.length
   ·rw[if_pos hlt];exact h j hlt
   ·rw[if_neg hlt]
    have hje:j=acc.length:=by simp at hj;omega
    rw[if_pos hje];subst hje;intro p hp;obtain⟨e,he,hb,hor⟩:=mI hp;have hlt2:=zhr h0 ho he hb
    rcases hor with rfl|hor
    ·exact⟨hlt2,fun bR _ hpr=>hpr o ho e he hb⟩
    ·obtain⟨h1,h2⟩:=h e.on hlt2 p hor
     refine⟨by omega,fun bR hcl hpr=>h2 bR hcl fun o' ho' e' he' hb'=>?_⟩
     exact hcl e.on o' ho' (hpr o ho e he hb) e' he' hb'
theorem iM{ops:Array Oper}(h0:s0 ops=true){i p:Nat}(h:bef ops i p=true):p<i/\∀bR,zgX ops bR->zfj ops bR i->bR p=true:=
 su h0 ops.toList [] (by simp) (fun i hi=>by simp at hi) i p h
def cQ(P:sT)(ops:Array Oper)(i:Nat):Bool:=match ops[i]? with
 |some o=>gV P o
 |none=>false
def cnt(P:sT)(ops:Array Oper):Nat->Nat
 |0=>0
 |i+1=>if cQ P ops i then cnt P ops i+1 else cnt P ops i
theorem oy{ops:Array Oper}:∀{i c:Nat},c<cnt P ops i->∃j,j<i/\cQ P ops j=true/\cnt P ops j=c
 |0,c,h=>by simp[cnt]at h
 |i+1,c,h=>by
  simp only[cnt]at h
  split at h
  ·rename_i he
   rcases tW c (cnt P ops i)with h1|h1
   ·obtain⟨j,h2,h3,h4⟩:=oy h1
    exact⟨j,by omega,h3,h4⟩
   ·exact⟨i,by omega,he,by omega⟩
  ·obtain⟨j,h2,h3,h4⟩:=oy h
   exact⟨j,by omega,h3,h4⟩
theorem zeS{ops : Array Oper} : ∀ {i j : Nat}, i ≤ j → cnt P ops i ≤ cnt P ops j
  | i, 0, h => by have : i = 0 := by omega
                  subst this; exact tt _
  | i, j + 1, h => by
    by_cases e : i = j + 1
    · subst e; exact tt _
    · have := zeS (ops := ops) (show i ≤ j by omega)
      simp only [cnt]
      split <;> omega
theorem zoM{ops:Array Oper}{i j:Nat}(h:i<j)(he:cQ P ops i=true):cnt P ops i<cnt P ops j:=by
 have h1:cnt P ops (i+1)=cnt P ops i+1:=by simp[cnt,he]
 have h2:=zeS (P:=P) (ops:=ops) (show i+1<=j by omega)
 omega
theorem zrs{ops:Array Oper}{i j:Nat}(hi:cQ P ops i=true)(hj:cQ P ops j=true)(h:cnt P ops i=cnt P ops j):i=j:=by
 rcases tK i j with h1|h1|h1
 ·have:=zoM h1 hi;omega
 ·exact h1
 ·have:=zoM h1 hj;omega
def ce(ops:Array Oper)(i:Nat):Bool:=match ops[i]? with
 |some o=>early o
 |none=>false
def bP(ops:Array Oper):Nat->Nat
 |0=>0
 |i+1=>if ce ops i then bP ops i+1 else bP ops i
theorem sj{ops : Array Oper} : ∀ {i j : Nat}, i ≤ j → bP ops i ≤ bP ops j
  | i, 0, h => by have : i = 0 := by omega
                  subst this; exact tt _
  | i, j + 1, h => by
    by_cases e : i = j + 1
    · subst e; exact tt _
    · have := sj (ops := ops) (show i ≤ j by omega)
      simp only [bP]
      split <;> omega
theorem ox{ops:Array Oper}{i j:Nat}(h:i<j)(he:ce ops i=true):bP ops i<bP ops j:=by
 have h1:bP ops (i+1)=bP ops i+1:=by simp[bP,he]
 have h2:=sj (ops:=ops) (show i+1<=j by omega)
 omega
theorem zoB{ops:Array Oper}{i j:Nat}(hi:ce ops i=true)(hj:ce ops j=true)(h:bP ops i=bP ops j):i=j:=by
 rcases tK i j with h1|h1|h1
 ·have:=ox h1 hi;omega
 ·exact h1
 ·have:=ox h1 hj;omega
theorem zoC{ops:Array Oper}{i:Nat}(h:ce ops i=true):i<ops.size:=by
 unfold ce at h
 cases ho:ops[i]? with
 |none=>rw[ho]at h;cases h
 |some o=>exact(sS.1 ho).1
def mQ(P:sT)(ops:Array Oper)(i j:Nat):Bool:=(ta ops.size).all fun k=> !cQ P ops k||(if tV (cnt P ops k) j then !bef ops k i else !bef ops i k)
def dh(ops:Array Oper)(i:Nat):Option Tmp:=(ops[i]?).bind (·.dst)
def eqT:Option Tmp->Nat->Bool
 |some d,t=>sX d t
 |none,_=>false
theorem ou{x:Option Tmp}{t:Nat}:eqT x t=true ↔ x=some t:=by
 cases x with
 |none=>simp[eqT]
 |some d=>simp only[eqT,Option.some.injEq];exact Nat.beq_eq ▸ Iff.rfl
def zfH(P:sT)(ops:Array Oper)(size:Nat):Bool:=
 s0 ops&&
 ((ta ops.size).all fun i=>match dh ops i with
  |some d=>tV d size&&(ta ops.size).all fun j=>sX j i||!eqT (dh ops j) d
  |none=>true)&&
 ((ta ops.size).all fun i=>match ops[i]? with
  |some o=>(o.looksAt ops).all fun t=>(ta ops.size).all fun j=> !eqT (dh ops j) t||sX j i||bef ops i j||bef ops j i
  |none=>true)&&
 ((ta ops.size).all fun i=> !cQ P ops i||(ta i).all fun j=> !cQ P ops j||bef ops i j)
structure OkD(P:sT)(ops:Array Oper)(size:Nat):Prop where
 h0:s0 ops=true
 small:∀i d,dh ops i=some d->d<size
 uniq:∀i j d,dh ops i=some d->dh ops j=some d->i=j
 deps:∀i o t j,ops[i]?=some o->t∈o.looksAt ops->dh ops j=some t->j=i\/bef ops i j=true\/bef ops j i=true
 chain:∀i j,cQ P ops i=true->cQ P ops j=true->j<i->bef ops i j=true
theorem mG{ops:Array Oper}{i d:Nat}(h:dh ops i=some d):i<ops.size:=by
 unfold dh at h
 cases ho:ops[i]? with
 |none=>rw[ho]at h;cases h
 |some o=>exact(sS.1 ho).1
theorem zoA{ops:Array Oper}{i:Nat}(h:cQ P ops i=true):i<ops.size:=by
 unfold cQ at h
 cases ho:ops[i]? with
 |none=>rw[ho]at h;cases h
 |some o=>exact(sS.1 ho).1
theorem zcJ{ops:Array Oper}{size:Nat}(h:zfH P ops size=true):OkD P ops size:=by
 unfold zfH at h
 simp only[sU]at h
 obtain⟨⟨⟨h0,h1⟩,h2⟩,h3⟩:=h;refine⟨h0,fun i d hd=>?_,fun i j d hi hj=>?_,fun i o t j ho ht hj=>?_,fun i j hi hj hlt=>?_⟩
 ·have:=sV.1 h1 i (sW.2 (mG hd))
  rw[hd]at this
  simp only[sU]at this
  exact tE this.1
 ·have:=sV.1 h1 i (sW.2 (mG hi))
  rw[hi]at this
  simp only[sU]at this
  have h5:=sV.1 this.2 j (sW.2 (mG hj));rw[ou.2 hj]at h5
  simp only[tr,Bool.or_false]at h5
  exact(tj h5).symm
 ·have:=sV.1 h2 i (sW.2 (sS.1 ho).1)
  rw[ho]at this;have h5:=sV.1 (sV.1 this t ht) j (sW.2 (mG hj));rw[ou.2 hj]at h5
  simp only[tr,tA,tD]at h5
  rcases h5 with (h5|h5)|h5
  ·exact .inl (tj h5)
  ·exact .inr (.inl h5)
  ·exact .inr (.inr h5)
 ·have:=sV.1 h3 i (sW.2 (zoA hi))
  rw[hi]at this
  simp only[tr,tA]at this
  have h5:=sV.1 this j (sW.2 hlt);rw[hj]at h5
  simpa using h5
def fx(ops:Array Oper)(t:Nat):Option Nat:=(ta ops.size).find? fun p=>eqT (dh ops p) t
theorem dN{ops:Array Oper}{t p:Nat}(h:fx ops t=some p):dh ops p=some t:=by
 unfold fx at h;have h1:=List.find?_some (p:=fun p=>eqT (dh ops p) t) h
 exact ou.1 h1
theorem lR{ops:Array Oper}{size t p:Nat}(hk:OkD P ops size)(h:dh ops p=some t):fx ops t=some p:=by
 cases hw:fx ops t with
 |none=>
  unfold fx at hw;have:=List.find?_eq_none.1 hw p (sW.2 (mG h));exact absurd (ou.2 h) this
 |some q=>rw[hk.uniq p q t h (dN hw)]
noncomputable def tv(ops:Array Oper)(val:Nat->sR)(l0:bT)(bR:Nat->Bool)(t:Nat):Option sR:=
 match fx ops t with
 |some p=>if bR p then some (val p)else l0.get t
 |none=>l0.get t
noncomputable def zeF{α:Type}(l:bT)(ts:List Nat):(bT->α)->α:=
 List.rec (motive:=fun _=>(bT->α)->α) (fun k=>k .nil) (fun t _ ih k=>ih fun m=>Option.rec (motive:=fun _=>α) (k m) (fun v=>Tr.fput (some v) (tB t) m t k) (l.get t)) ts
noncomputable def jx(l:bT):List Nat->bT
 |[]=>.nil
 |t::r=>match l.get t with
  |some v=>Tr.put (some v) (t+1) (jx l r) t
  |none=>jx l r
theorem lB{α:Type}(l:bT):∀(ts:List Nat)(k:bT->α),zeF l ts k=k (jx l ts)
 |[],k=>rfl
 |t::r,k=>by
  show zeF l r (fun m=>Option.rec (motive:=fun _=>α) (k m) (fun v=>Tr.fput (some v) (tB t) m t k) (l.get t))=_
  rw[lB l r]
  simp only[jx]
  cases h:l.get t with
  |none=>rfl
  |some v=>simp only;rw[Tr.fput_eq]
theorem pz{l:bT}:∀{ts:List Nat} {t:Nat} {v:sR},(jx l ts).get t=some v->t∈ts/\l.get t=some v
 |[],t,v,h=>by simp only[jx,Tr.get_nil]at h;cases h
 |s::r,t,v,h=>by
  simp only[jx]at h
  split at h
  ·rename_i u hu
   rw[Tr.get_put _ _ _ _ _ (by omega)]at h
   split at h
   ·rename_i e;subst e;cases h;exact⟨by simp,hu⟩
   ·obtain⟨h1,h2⟩:=pz h;exact⟨by simp[h1],h2⟩
  ·obtain⟨h1,h2⟩:=pz h;exact⟨by simp[h1],h2⟩
def zkV:sR->sR->Bool
 | .bool a,.bool b=>a==b
 | .int .i64 a,.int .i64 b=>a==b
 | .int .u8 a,.int .u8 b=>a==b
 | .int .i32 a,.int .i32 b=>a==b
 | .int .u16 a,.int .u16 b=>a==b
 | .int .u32 a,.int .u32 b=>a==b
 | .int .u64 a,.int .u64 b=>a==b
 | .string a,.string b=>a.data.toList==b.data.toList
 | .pointer none,.pointer none=>true
 | .pointer (some ⟨a,o,none⟩),.pointer (some ⟨b,p,none⟩)=>sX a b&&sX o p
 | .slice none n c,.slice none m d=>sX n m&&sX c d
 | .slice (some ⟨a,o,none⟩) n c,.slice (some ⟨b,p,none⟩) m d=>sX a b&&sX o p&&sX n m&&sX c d
 | .map none,.map none=>true
 | .map (some a),.map (some b)=>sX a b
 | .nilFunc,.nilFunc=>true
 | .func (.func f) ⟨[]⟩ ⟨[]⟩,.func (.func g) ⟨[]⟩ ⟨[]⟩=>sX f g
 | .func (.yield f) ⟨[]⟩ ⟨[]⟩,.func (.yield g) ⟨[]⟩ ⟨[]⟩=>sX f g
 | .nilIface,.nilIface=>true
 |_,_=>false
theorem dS{a b:Nat}(h:sX a b=true):a=b:=tj h
theorem sL{x y:sR}(h:zkV x y=true):x=y:=by
 unfold zkV at h
 split at h<;>first
  |rfl
  |(cases h;done)
  |(rw[eq_of_beq h];done)
  |(simp only[sU]at h;obtain⟨h1,h2⟩:=h;rw[dS h1,dS h2];done)
  |(simp only[sU]at h;obtain⟨⟨⟨h1,h2⟩,h3⟩,h4⟩:=h;rw[dS h1,dS h2,dS h3,dS h4];done)
  |(rw[dS h];done)
  |(rename_i a b;obtain⟨⟨a⟩⟩:=a;obtain⟨⟨b⟩⟩:=b;have:=eq_of_beq h;simp only at this;rw[this])
def qw:List sR->List sR->Bool
 |[],[]=>true
 |x::xs,y::ys=>zkV x y&&qw xs ys
 |_,_=>false
theorem fe:∀{xs ys:List sR},qw xs ys=true->xs=ys
 |[],[],_=>rfl
 |x::xs,y::ys,h=>by
  simp only[qw,sU]at h
  rw[sL h.1,fe h.2]
 |[],_::_,h=>by cases h
 |_::_,[],h=>by cases h
def veq:sR->sR->Bool
 | .agg ⟨x⟩,.agg ⟨y⟩=>qw x y
 | .tuple ⟨x⟩,.tuple ⟨y⟩=>qw x y
 | .func (.func f) ⟨x⟩ ⟨y⟩,.func (.func g) ⟨u⟩ ⟨v⟩=>sX f g&&qw x u&&qw y v
 | .iface t x,.iface u y=>sX t u&&zkV x y
 |x,y=>zkV x y
theorem lS{x y:sR}(h:veq x y=true):x=y:=by
 unfold veq at h
 split at h
 ·rw[fe h]
 ·rw[fe h]
 ·simp only[sU]at h
  obtain⟨⟨h1,h2⟩,h3⟩:=h;rw[dS h1,fe h2,fe h3]
 ·simp only[sU]at h
  rw[dS h.1,sL h.2]
 ·exact sL h
end Ev
end
section
namespace Ev
variable {P:sT}
noncomputable def A00:AW:=⟨[],.nil,ng⟩
def zet:sR->Bool
 | .pointer (some ⟨b,0,none⟩)=>sX b ng
 | .map (some b)=>sX b ng
 | .slice (some ⟨b,0,none⟩) _ c=>sX b ng&&tV c oI
 |_=>false
def rn(e:Nat):sR->sR
 | .pointer (some _)=>.pointer (some ⟨e,0,none⟩)
 | .map (some _)=>.map (some e)
 | .slice (some _) n c=>.slice (some ⟨e,0,none⟩) n c
 |v=>v
def zvC:sR->Nat
 | .pointer (some a)=>a.block
 | .map (some r)=>r
 | .slice (some a) _ _=>a.block
 |_=>0
theorem zqM{e:Nat}{v:sR}(h:zet v=true):zvC (rn e v)=e:=by
 unfold zet at h
 split at h<;>first
  |rfl
  |cases h
def zob:bw->Bool
 | .cells vs _ _ _ _=>bF vs
 | .map [] _=>true
 |_=>false
def zxE:Option Nat->Option Nat->Bool
 |none,none=>true
 |some a,some b=>sX a b
 |_,_=>false
def iq:bw->bw->Bool
 | .cells vs t op fz es,.cells vs' t' op' fz' es'=>qw vs vs'&&sX t t'&&(op==op')&&zxE fz fz'&&sX es es'
 | .map [] c,.map [] c'=>sX c c'
 |_,_=>false
theorem eM{x y:bw}(h:iq x y=true):x=y:=by
 unfold iq at h
 split at h
 ·rename_i vs t op fz es vs' t' op' fz' es'
  simp only[sU]at h
  obtain⟨⟨⟨⟨h1,h2⟩,h3⟩,h4⟩,h5⟩:=h;have h6:fz=fz':=by
   unfold zxE at h4
   split at h4
   ·rfl
   ·rw[dS h4]
   ·cases h4
  rw[fe h1,dS h2,eq_of_beq h3,h6,dS h5]
 ·rw[dS h]
 ·cases h
noncomputable def mkE(P:sT)(ts:List Nat)(m:bT)(o:Oper):Option (sR×bw):=
 if ts.all (fun t=>match m.get t with
  |some v=>bV v
  |none=>true)then match kw P m o A00 with
  |some (v,A1)=>if zet v then match A1.get ng with
    |some obj=>if zob obj then some (v,obj)else none
    |none=>none
   else none
  |none=>none
 else none
theorem zqz{ts:List Nat}{m:bT}{o:Oper}{v:sR}{obj:bw}(h:mkE P ts m o=some (v,obj)):zet v=true:=by
 unfold mkE at h
 split at h
 ·split at h
  ·split at h
   ·rename_i hn
    split at h
    ·split at h
     ·cases h;exact hn
     ·cases h
    ·cases h
   ·cases h
  ·cases h
 ·cases h
end Ev
end
section
namespace Ev
variable {P:sT}
abbrev Rc:=Bool×sR×bT
noncomputable def dgo(P:sT)(call:aJ)(same:XT)(rd:Option Nat)(ops:Array Oper)(size:Nat)(ds:List gR):List Oper->bT->AW->Nat->Except String (List Rc×List AW×bT)
 |[],l,_,_=>.ok ([],[],l)
 |o::r,l,A,e=>if early o then zeF l (o.looksAt ops) fun m=>match mkE P (o.looksAt ops) m o with
   |some (v0,_)=>fV (rn e v0) fun v=>de ⟨l,size,ds⟩ o.dst v fun a'=>fN (e+1) fun e'=>match dgo P call same rd ops size ds r a'.tmps A e' with
    | .ok (rs,Ms,lf)=>.ok ((true,v,m)::rs,Ms,lf)
    | .error s=>.error s
   |none=>.error ("draw: new " ++o.pos)
  else zeF l (o.looksAt ops) fun m=>match dH ops m o with
  |some true=>if gV P o then
    match ck P call same rd o ⟨m,size,ds⟩ A with
    | .ok (.val v,A')=>fV v fun v=>de ⟨l,size,ds⟩ o.dst v fun a'=>fW A' fun A'=>match dgo P call same rd ops size ds r a'.tmps A' e with
     | .ok (rs,Ms,lf)=>.ok ((true,v,m)::rs,A'::Ms,lf)
     | .error s=>.error s
    | .ok _=>.error ("draw: " ++o.pos)
    | .error s=>.error s
   else match kw P m o A with
    |some (v,_)=>fV v fun v=>de ⟨l,size,ds⟩ o.dst v fun a'=>match dgo P call same rd ops size ds r a'.tmps A e with
     | .ok (rs,Ms,lf)=>.ok ((true,v,m)::rs,Ms,lf)
     | .error s=>.error s
    |none=>.error ("draw op: " ++o.pos)
  |some false=>de ⟨l,size,ds⟩ o.dst undef fun a'=>match dgo P call same rd ops size ds r a'.tmps A e with
   | .ok (rs,Ms,lf)=>.ok ((false,undef,m)::rs,if gV P o then A::Ms else Ms,lf)
   | .error s=>.error s
  |none=>.error ("draw guard: " ++o.pos)
noncomputable def d8(recs:List Rc)(i:Nat):sR:=match recs[i]? with
 |some (_,v,_)=>v
 |none=>undef
def zpr(P:sT)(call:aJ)(same:XT)(rd:Option Nat)(ops:Array Oper)(size:Nat)(ds:List gR)(l0:bT)(recs:List Rc)(mems:List AW)(base i:Nat)(o:Oper):Prop:=
 ∃wt v m,recs[i]?=some (wt,v,m)/\dH ops m o=some wt/\(∀t u,m.get t=some u->t∈o.looksAt ops/\tv ops (d8 recs) l0 (fun p=>decide (p<i)) t=some u)/\(wt=false->v=undef)∧
  (gV P o=true->∃A A',mems[cnt P ops i]?=some A/\mems[cnt P ops i+1]?=some A'/\(wt=true->∃A1,ck P call same rd o ⟨m,size,ds⟩ A=.ok (.val v,A1)/\A'=fD A1)/\(wt=false->A'=A))∧
  (gV P o=false->early o=false->wt=true->∃A A',mems[cnt P ops i]?=some A/\kw P m o A=some (v,A'))/\(early o=true->∃v0 obj,mkE P (o.looksAt ops) m o=some (v0,obj)/\v=rn (base+bP ops i) v0)
theorem sk{o:Oper}(h:early o=true):gV P o=false:=by simp[gV,h]
theorem zbj{ops:Array Oper}{m:bT}{o:Oper}(P:sT)(h:early o=true):dH ops m o=some true:=by
 unfold dH;rw[(zeN (P:=P) h).2]
theorem zsT{ops:Array Oper}{size i:Nat}{ds:List gR}{l l0:bT}{recs:List Rc}{v:sR}{o:Oper}(hk:OkD P ops size)(ho:ops[i]?=some o)(hl:∀t,l.get t=tv ops (d8 recs) l0 (fun p=>decide (p<i)) t)(hv:d8 recs i=v)(t:Nat):
  ((AA.mk l size ds).put o.dst v).tmps.get t=tv ops (d8 recs) l0 (fun p=>decide (p<i+1)) t:=by
 have hdst:dh ops i=o.dst:=by simp[dh,ho]
 have other:∀p,fx ops t=some p->p≠i->(decide (p<i+1))=decide (p<i):=fun p _ hp=>by
  rw[decide_eq_decide];omega
 have keep:(∀d,o.dst=some d->t≠d)->tv ops (d8 recs) l0 (fun p=>decide (p<i+1)) t=l.get t:=fun hne=>by
  rw[hl t];unfold tv
  split
  ·rename_i p hp
   have hpi:p≠i:=fun e=>by
    subst e;have:=dN hp;rw[hdst]at this;exact hne t this rfl
   simp only[other p hp hpi]
  ·rfl
 cases hd:o.dst with
 |none=>simp only[AA.put];rw[keep (fun d h=>by rw[hd]at h;cases h)]
 |some d=>
  have hsm:=hk.small i d (by rw[hdst,hd])
  have hb:Nat.ble (tB d) size=true:=Nat.ble_eq_true_of_le hsm
  simp only[AA.put,hb,if_true]
  rw[Tr.get_put _ _ _ _ _ (by omega)]
  by_cases e:t=d
  ·subst e
   rw[if_pos rfl];have:=lR hk (show dh ops i=some t by rw[hdst,hd])
   unfold tv;rw[this]
   simp[hv]
  ·rw[if_neg e,keep (fun d' h=>by rw[hd]at h;cases h;exact e)]
theorem bA{α:Type}{l r:List α}{x:α}{i:Nat}(h:l.drop i=x::r):l[i]?=some x/\l.drop (i+1)=r:=by
 constructor
 ·have:=congrArg (fun l=>l[0]?) h
  simpa using this
 ·rw[<- tP,h];rfl
theorem zeQ{call:aJ}{same:XT}{rd:Option Nat}{ops:Array Oper}{size base:Nat}{ds:List gR}{l0:bT}(hk:OkD P ops size){recs:List Rc}{mems:List AW}:∀(os:List Oper)(i:Nat)(l:bT)(A:AW)(e:Nat)(rs:List Rc)(Ms:List AW)(lf:bT),e=base+bP ops i->
  ops.toList.drop i=os->dgo P call same rd ops size ds os l A e=.ok (rs,Ms,lf)->recs.drop i=rs->mems.drop (cnt P ops i)=A::Ms->(∀t,l.get t=tv ops (d8 recs) l0 (fun p=>decide (p<i)) t)->
  (∀q o,i<=q->ops[q]?=some o->zpr P call same rd ops size ds l0 recs mems base q o)/\(∀t,lf.get t=tv ops (d8 recs) l0 (fun p=>decide (p<i+os.length)) t)/\Ms.length+cnt P ops i=cnt P ops (i+os.length)
 |[],i,l,A,e,rs,Ms,lf,hee,hos,h,hrs,hms,hl=>by
  simp only[dgo]at h;cases h
  refine⟨fun q o hq ho=>?_,fun t=>by simpa using hl t,by simp⟩
  have h1:ops.toList.length<=i:=td.1 hos;have h2:=(sS.1 ho).1
  simp at h1
  omega
 |o::r,i,l,A,e,rs,Ms,lf,hee,hos,h,hrs,hms,hl=>by
  obtain⟨ho',hor⟩:=bA hos;have ho:ops[i]?=some o:=by rw[<- sZ];exact ho'
  have hmem:=(bA hms).1;have heff:cQ P ops i=gV P o:=by simp[cQ,ho]
  have hmask:∀t u,(jx l (o.looksAt ops)).get t=some u->t∈o.looksAt ops/\tv ops (d8 recs) l0 (fun p=>decide (p<i)) t=some u:=fun t u hu=>by
   obtain⟨h1,h2⟩:=pz hu;exact⟨h1,by rw[<- hl t];exact h2⟩
  have hisy:ce ops i=early o:=by simp[ce,ho]
  have finish:∀(wt:Bool)(v:sR)(A1:AW)(e1:Nat)(rs1:List Rc)(Ms1:List AW),e1=base+bP ops (i+1)->rs=(wt,v,jx l (o.looksAt ops))::rs1->dgo P call same rd ops size ds r ((AA.mk l size ds).put o.dst v).tmps A1 e1=.ok (rs1,Ms1,lf)->(mems.drop (cnt P ops (i+1))=A1::Ms1)->(Ms.length+cnt P ops i=Ms1.length+cnt P ops (i+1))->
    (recs[i]?=some (wt,v,jx l (o.looksAt ops))->zpr P call same rd ops size ds l0 recs mems base i o)->
    (∀q o,i<=q->ops[q]?=some o->zpr P call same rd ops size ds l0 recs mems base q o)/\(∀t,lf.get t=tv ops (d8 recs) l0 (fun p=>decide (p<i+(o::r).length)) t)/\Ms.length+cnt P ops i=cnt P ops (i+(o::r).length):=by
   intro wt v A1 e1 rs1 Ms1 he1 hr hd hm hlen hE;rw[hr]at hrs;obtain⟨hri,hrr⟩:=bA hrs;have hv:d8 recs i=v:=by simp[d8,hri]
   obtain⟨g1,g2,g3⟩:=zeQ hk r (i+1) _ A1 e1 rs1 Ms1 lf he1 hor hd hrr hm (zsT hk ho hl hv);refine⟨fun q o' hq hq'=>?_,fun t=>?_,?_⟩
   ·by_cases eq:q=i
    ·subst eq
     rw[ho]at hq';cases hq';exact hE hri
    ·exact g1 q o' (by omega) hq'
   ·rw[g2 t,show i+1+r.length=i+(o::r).length by simp only[tf];omega]
   ·rw[show i+1+r.length=i+(o::r).length by simp only[tf];omega]at g3
    omega
  unfold dgo at h
  by_cases hey:early o=true
  ·rw[if_pos hey,lB]at h
   split at h
   ·rename_i v0 obj hmk
    rw[jV,bO,cW]at h
    split at h
    ·rename_i rs1 Ms1 lf1 h2
     cases h
     have hc:cnt P ops (i+1)=cnt P ops i:=by simp[cnt,heff,sk (P:=P) hey]
     refine finish true _ A (e+1) rs1 Ms (by simp only[bP,hisy,hey,if_true];omega) rfl h2 (by rw[hc];exact hms) (by rw[hc]) fun hri=>?_
     exact⟨true,_,_,hri,zbj P hey,hmask,fun hh=>(by cases hh),fun hh=>(by rw[sk hey]at hh;cases hh),fun _ hh=>(by rw[hey]at hh;cases hh),fun _=>⟨v0,obj,hmk,by rw[hee]⟩⟩
    ·cases h
   ·cases h
  have hey':early o=false:=by simpa using hey
  have hen:e=base+bP ops (i+1):=by simp only[bP,hisy,hey'];exact hee
  rw[if_neg hey,lB]at h
  split at h
  ·rename_i hw
   split at h
   ·rename_i he
    split at h
    ·rename_i v A1 h1
     rw[jV,bO,iG]at h
     split at h
     ·rename_i rs1 Ms1 lf1 h2
      cases h
      have hc:cnt P ops (i+1)=cnt P ops i+1:=by simp[cnt,heff,he]
      have hms2:mems.drop (cnt P ops i+1)=fD A1::Ms1:=(bA hms).2;refine finish true v (fD A1) e rs1 Ms1 hen rfl h2 (by rw[hc];exact hms2) (by simp only[tf];omega) fun hri=>?_
      refine⟨true,v,_,hri,hw,hmask,fun hh=>(by cases hh),fun _=>⟨A,fD A1,hmem,(bA hms2).1,fun _=>⟨A1,h1,rfl⟩,fun hh=>(by cases hh)⟩,fun hh=>(by rw[he]at hh;cases hh),fun hh=>(by rw[hey']at hh;cases hh)⟩
     ·cases h
    ·cases h
    ·cases h
   ·rename_i he
    have he':gV P o=false:=by simpa using he
    split at h
    ·rename_i v A1 h1
     rw[jV,bO]at h
     split at h
     ·rename_i rs1 Ms1 lf1 h2
      cases h
      have hc:cnt P ops (i+1)=cnt P ops i:=by simp[cnt,heff,he']
      refine finish true v A e rs1 Ms hen rfl h2 (by rw[hc];exact hms) (by rw[hc]) fun hri=>?_
      refine⟨true,v,_,hri,hw,hmask,fun hh=>(by cases hh),fun hh=>(by rw[he']at hh;cases hh),fun _ _ _=>⟨A,A1,hmem,h1⟩,fun hh=>(by rw[hey']at hh;cases hh)⟩
     ·cases h
    ·cases h
  ·rename_i hw
   rw[bO]at h
   split at h
   ·rename_i rs1 Ms1 lf1 h2
    cases h
    by_cases he:gV P o=true
    ·have hc:cnt P ops (i+1)=cnt P ops i+1:=by simp[cnt,heff,he]
     rw[if_pos he]at hms;have hms2:mems.drop (cnt P ops i+1)=A::Ms1:=(bA hms).2;have:=finish false undef A e rs1 Ms1 hen rfl h2 (by rw[hc];exact hms2) (by rw[if_pos he];simp only[tf];omega) fun hri=>
      ⟨false,undef,_,hri,hw,hmask,fun _=>rfl,fun _=>⟨A,A,hmem,(bA hms2).1,fun hh=>(by cases hh),fun _=>rfl⟩,fun hh=>(by rw[he]at hh;cases hh),fun hh=>(by rw[hey']at hh;cases hh)⟩
     exact this
    ·have he':gV P o=false:=by simpa using he
     have hc:cnt P ops (i+1)=cnt P ops i:=by simp[cnt,heff,he']
     rw[if_neg he]at hms;have:=finish false undef A e rs1 Ms1 hen rfl h2 (by rw[hc];exact hms) (by rw[if_neg he,hc]) fun hri=>
      ⟨false,undef,_,hri,hw,hmask,fun _=>rfl,fun hh=>(by rw[he']at hh;cases hh),fun _ _ hh=>(by cases hh),fun hh=>(by rw[hey']at hh;cases hh)⟩
     exact this
   ·cases h
  ·cases h
noncomputable def zaX(P:sT)(ops:Array Oper)(o:Oper)(m:bT)(v:sR)(A:AW):Bool:=match mkE P (o.looksAt ops) m o with
 |some (_,obj)=>(match A.get (zvC v)with
  |some obj'=>iq obj' obj
  |none=>false)
 |none=>false
noncomputable def zky(P:sT)(ops:Array Oper)(mems:List AW):List Oper->Nat->List Rc->Bool
 |o::r,i,(wt,v,m)::rs=>(if wt&&looks P o.op then (ta mems.length).all fun j=> !mQ P ops i j||(match mems[j]? with
   |some A=>(match kw P m o A with
    |some (v',_)=>veq v' v
    |none=>false)
   |none=>false)else if early o then (ta mems.length).all fun j=> !mQ P ops i j||(match mems[j]? with
   |some A=>zaX P ops o m v A
   |none=>false)else true)&&zky P ops mems r (i+1) rs
 |_,_,_=>true
theorem sr{ops:Array Oper}{mems:List AW}{recs:List Rc}:∀(os:List Oper)(i:Nat)(rs:List Rc),ops.toList.drop i=os->recs.drop i=rs->zky P ops mems os i rs=true->∀q o wt v m,i<=q->ops[q]?=some o->recs[q]?=some (wt,v,m)->wt=true->looks P o.op=true->
  ∀j A,mQ P ops q j=true->mems[j]?=some A->∃A',kw P m o A=some (v,A')
 |[],i,rs,hos,hrs,h,q,o,wt,v,m,hq,ho,hr,hwt,hlk,j,A,hj,hA=>by
  have h1:ops.toList.length<=i:=td.1 hos;have h2:=(sS.1 ho).1
  simp at h1
  omega
 |o'::r,i,[],hos,hrs,h,q,o,wt,v,m,hq,ho,hr,hwt,hlk,j,A,hj,hA=>by
  have h1:recs.length<=i:=td.1 hrs;have h2:=(tc.1 hr).1;omega
 |o'::r,i,(wt',v',m')::rs,hos,hrs,h,q,o,wt,v,m,hq,ho,hr,hwt,hlk,j,A,hj,hA=>by
  simp only[zky,sU]at h
  obtain⟨ho',hor⟩:=bA hos;obtain⟨hr',hrr⟩:=bA hrs
  by_cases e:q=i
  ·subst e
   rw[hr]at hr';cases hr';have:ops[q]?=some o':=by rw[<- sZ];exact ho'
   rw[ho]at this;cases this;subst hwt;have h1:=h.1;rw[hlk]at h1;have hjl:=(tc.1 hA).1;have h2:=sV.1 (show(ta mems.length).all _=true from h1) j (sW.2 hjl)
   rw[hj,hA]at h2
   simp only[tr,tA]at h2
   split at h2
   ·rename_i v'' A' h3
    rw[lS h2]at h3;exact⟨A',h3⟩
   ·cases h2
  ·exact sr r (i+1) rs hor hrr h.2 q o wt v m (by omega) ho hr hwt hlk j A hj hA
theorem nG{o:Oper}(h:early o=true):looks P o.op=false:=(zeN h).1
theorem qe{ops:Array Oper}{mems:List AW}{recs:List Rc}:∀(os:List Oper)(i:Nat)(rs:List Rc),ops.toList.drop i=os->recs.drop i=rs->zky P ops mems os i rs=true->∀q o wt v m,i<=q->ops[q]?=some o->recs[q]?=some (wt,v,m)->early o=true->
  ∀j A,mQ P ops q j=true->mems[j]?=some A->zaX P ops o m v A=true
 |[],i,rs,hos,hrs,h,q,o,wt,v,m,hq,ho,hr,hlk,j,A,hj,hA=>by
  have h1:ops.toList.length<=i:=td.1 hos;have h2:=(sS.1 ho).1
  simp at h1
  omega
 |o'::r,i,[],hos,hrs,h,q,o,wt,v,m,hq,ho,hr,hlk,j,A,hj,hA=>by
  have h1:recs.length<=i:=td.1 hrs;have h2:=(tc.1 hr).1;omega
 |o'::r,i,(wt',v',m')::rs,hos,hrs,h,q,o,wt,v,m,hq,ho,hr,hlk,j,A,hj,hA=>by
  simp only[zky,sU]at h
  obtain⟨ho',hor⟩:=bA hos;obtain⟨hr',hrr⟩:=bA hrs
  by_cases e:q=i
  ·subst e
   rw[hr]at hr';cases hr';have:ops[q]?=some o':=by rw[<- sZ];exact ho'
   rw[ho]at this;cases this;have h1:=h.1;rw[nG (P:=P) hlk]at h1
   simp only[tw,if_false,hlk,if_true,and_false]at h1
   have hjl:=(tc.1 hA).1;have h2:=sV.1 h1 j (sW.2 hjl);rw[hj,hA]at h2
   simpa using h2
  ·exact qe r (i+1) rs hor hrr h.2 q o wt v m (by omega) ho hr hlk j A hj hA
end Ev
end
end Go.Proofs.YtbbapnpdfcgjnaaGreatDoor
