/- Ev13, Ev14, Ev15, Ev16, EvM, Ev17: parts of the proof, joined. -/
import Derived.Test.YtbbapnpdfcgjnaaGreatDoorWEvQ
open Go renaming Value->sD, Program->sG, World->sL, Frame->sV, FrameMode->sW, run_endRound->ti, FuncId->tr, stepsIn_wide->tu, callFunc->tA, ArrivesIn->tE, findLabel->tF, ResultVar->tG, bodyPostS->tH, wpOpsS->tI
open Array renaming getElem?_eq_some_iff->sE, getElem?_toList->sM, replicate->sX, getD_eq_getD_getElem?->tc, toList_append->tq
open Bool renaming and_eq_true->sH, not_true->sZ, false_eq_true->td, false_or->tf, or_eq_true->tj
open List renaming all_eq_true->sI, mem_range->sJ, range->sN, getElem?_eq_some_iff->sO, drop_eq_nil_iff->sP, length_cons->sR, getElem?_append_left->te, getElem?_eq_none->tn, mapM_cons->tB, drop_drop->tD
open Nat renaming beq->sK, eq_of_beq_eq_true->sU, le_refl->ta, succ->tg, le_of_ble_eq_true->tk, lt_trichotomy->tw, testBit_or->tC, blt->tJ, lt_or_ge->tK
open Go.Result renaming andThen->sQ
open Go.Sem renaming run_bind->sS
open Go.Fence renaming wide->sT
open Go.Region renaming binds->sY
set_option maxHeartbeats 64000000
namespace Go.Proofs.YtbbapnpdfcgjnaaGreatDoor
section
namespace Ev
variable {P:sG} {μ:Mu} {A:AW} {w:sL}
theorem jC(P:sG)(ro:Option Nat)(m:Machine):m.fenced P (FR ro):=fenced_wide P m
theorem zjJ(ro:Option Nat)(n:Nat):(FR ro).room n:=fun d hd=>by cases hd
theorem zdF{b:sV}{a:Act}{k:List Item}{cs:List sV}{c:Code}:step P (lone (b.atR a (.code (.scope c)::k)) cs w)=.next (lone (b.atR a (.code c:: .inScope c::k)) cs w):=
 step_lone_go (by simp[stepG,stepG.exec,sV.atR])
theorem rA{b:sV}{a:Act}{k:List Item}{cs:List sV}{c:Code}:step P (lone (b.atR a (.inScope c::k)) cs w)=.next (lone (b.atR a k) cs w):=
 step_lone_go (by simp[stepG,stepG.exec,sV.atR])
def fY(ro:Option Nat)(P:sG)(c:Code)(Q:Exit->Act->sL->Prop)(a:Act)(w:sL):Prop:=
 ∀(b:sV)(k:List Item)(cs:List sV),b.roundOf=ro->∃e a' w',Q e a' w'/\tE (Machine.fenced P (FR ro)) P (lone (b.atR a (.inLoop c::k)) cs w) b k cs e a' w'
theorem jZ{ro:Option Nat}{c:Code}{Q:Exit->Act->sL->Prop}{a:Act}(h:c.wpIn (FR ro) 0 P (Exit.then (fY ro P c Q) Q) a w)(b:sV)(k:List Item)(cs:List sV)(hb:b.roundOf=ro):
  ∃e a' w',Q e a' w'/\tE (Machine.fenced P (FR ro)) P (lone (b.atR a (.code c:: .inLoop c::k)) cs w) b k cs e a' w':=by
 obtain⟨e,a₁,w₁,hq,harr⟩:=h b (.inLoop c::k) cs hb trivial (zjJ _ _);cases e with
 |normal=>obtain⟨e₂,a₂,w₂,hq₂,harr₂⟩:=hq b k cs hb;exact⟨e₂,a₂,w₂,hq₂,.of_steps harr harr₂⟩
 |exit id=>exact⟨_,a₁,w₁,hq,.pass (x:=.inLoop c) rfl (fun _ _=>.inl (by simp)) harr⟩
 |goto l=>exact⟨_,a₁,w₁,hq,.pass (x:=.inLoop c) rfl (fun _ _=>.inl (by simp)) harr⟩
 |ret=>exact⟨_,a₁,w₁,hq,.pass (x:=.inLoop c) rfl (fun _ _=>.inl (by simp)) harr⟩
 |panic ch=>exact⟨_,a₁,w₁,hq,.pass (x:=.inLoop c) rfl (fun _ _=>.inl (by simp)) harr⟩
 |outgrown=>exact⟨_,a₁,w₁,hq,.pass (x:=.inLoop c) rfl (fun _ _=>.inl (by simp)) harr⟩
theorem zkT{ro:Option Nat}{c:Code}{Q:Exit->Act->sL->Prop}{a:Act}(h:c.wpIn (FR ro) 0 P (Exit.then (fY ro P c Q) Q) a w):fY ro P c Q a w:=fun b k cs hb=>by obtain⟨e,a',w',hq,harr⟩:=jZ h b k cs hb;exact⟨e,a',w',hq,.of_steps (.one (jC P ro _) stepR_inLoop) harr⟩
theorem zqW{ro:Option Nat}{c:Code}{Q:Exit->Act->sL->Prop}{a:Act}(h:c.wpIn (FR ro) 0 P (Exit.then (fY ro P c Q) Q) a w):(Code.loop c).wpIn (FR ro) 0 P Q a w:=fun b k cs hb _ _=>by obtain⟨e,a',w',hq,harr⟩:=jZ h b k cs hb;exact⟨e,a',w',hq,.of_steps (.one (jC P ro _) stepR_loop) harr⟩
abbrev dq:=Option Nat->Array Oper->AA->AW->Except String (AA×AW)
def fJ(P:sG)(dr:dq):Prop:=∀rd ops a A a' A',dr rd ops a A=.ok (a',A')->∀(μ:Mu)(b:Act)(w:sL)(id:Nat)(ro:Option Nat)(Q:Exit->Act->sL->Prop),WR μ A w->mf μ a b->RO μ rd ro->
 (∀b' w',QX μ A w .normal a' A' .normal b' w'->Q .normal b' w')->(Code.region id ops true).wpIn (FR ro) 0 P Q b w
def jy(ro:Option Nat)(P:sG)(c rest:Code)(Q:Exit->Act->sL->Prop)(a:Act)(w:sL):Prop:=
 ∀(b:sV)(k:List Item)(cs:List sV),b.roundOf=ro->∃e a' w',Q e a' w'/\tE (Machine.fenced P (FR ro)) P (lone (b.atR a (.code rest:: .inScope c::k)) cs w) b k cs e a' w'
def je(ro:Option Nat)(P:sG)(c:Code)(Q:Exit->Act->sL->Prop):Exit->Act->sL->Prop
 |.goto l,a,w=>(match tF c l with
  |some r=>jy ro P c r Q a w
  |none=>Q (.goto l) a w)
 |e,a,w=>Q e a w
theorem zmT{ro:Option Nat}{c:Code}{Q:Exit->Act->sL->Prop}{a:Act}(h:jy ro P c c Q a w):(Code.scope c).wpIn (FR ro) 0 P Q a w:=fun b k cs hb _ _=>by obtain⟨e,a',w',hq,harr⟩:=h b k cs hb;exact⟨e,a',w',hq,.of_steps (.one (jC P ro _) zdF) harr⟩
theorem kE{ro:Option Nat}{c rest:Code}{Q:Exit->Act->sL->Prop}{a:Act}(h:rest.wpIn (FR ro) 0 P (je ro P c Q) a w):jy ro P c rest Q a w:=fun b k cs hb=>by
 obtain⟨e,a₁,w₁,hq,harr⟩:=h b (.inScope c::k) cs hb trivial (zjJ _ _);cases e with
 |normal=>exact⟨.normal,a₁,w₁,hq,StepsIn.trans harr (.one (jC P ro _) rA)⟩
 |exit id=>
  have hx:exitTo id (.inScope c::k)=exitTo id k:=by simp[exitTo]
  exact⟨.exit id,a₁,w₁,hq,fun k' hk=>harr.1 k' (by rw[hx];exact hk),fun hr hk=>harr.2 hr (by rw[hx];exact hk)⟩
 |goto l=>
  simp only[je]at hq;cases hf:tF c l with
  |some r=>rw[hf]at hq;obtain⟨e₂,a₂,w₂,hq₂,harr₂⟩:=hq b k cs hb;exact⟨e₂,a₂,w₂,hq₂,.of_steps (harr.1 _ (by simp[gotoIn,hf])) harr₂⟩
  |none=>
   rw[hf]at hq;have hx:gotoIn l (.inScope c::k)=gotoIn l k:=by simp[gotoIn,hf]
   exact⟨.goto l,a₁,w₁,hq,fun k' hk=>harr.1 k' (by rw[hx];exact hk),fun hr hk=>harr.2 hr (by rw[hx];exact hk)⟩
 |ret=>exact⟨_,a₁,w₁,hq,harr⟩
 |panic ch=>exact⟨_,a₁,w₁,hq,harr⟩
 |outgrown=>exact⟨_,a₁,w₁,hq,harr⟩
def AJ.exit':AJ->AX
 |.none=>.normal
 |.ret=>.ret
 |.exit id=>.exit id
 |.goto l=>.goto l
noncomputable def zqN:LoopState->Bool
 |.busy=>false
 |_=>true
noncomputable def zqH(call:aG)(f:tr)(first cap:List sD)(ps:Array Tmp)(asg bd:Code)(mk:List gV)(A:AW)(a:AA):Except String (AX×AA×AW):=
 fW (A.push (.loop .ready .none ps asg bd a.tmps a.size)) fun A1=>
 match call false f (first++[.func (.yield A.next) #[] #[]]++cap) A1 with
 |.ok (.ret _,A2)=>(match A2.get A.next with
  |some (.loop st j ps asg bd t n)=>if zqN st then fW (A2.set A.next (some (.loop .exhausted j ps asg bd t n))) fun A3=>.ok (j.exit',⟨a.tmps,a.size,mk++a.defers⟩,A3)else .error "range: busy"
  |_=>.error "range: no record")
 |.ok (.panic _,_)=>.error "range: panic"
 |.error s=>.error s
theorem ziu{call:aG}(hcall:bC P call){ro:Option Nat}{f:tr}{first cap:List sD}{first' cap':Array sD}{ps:Array Tmp}{asg bd:Code}{mk:List gV}{mk':List Deferred}{a a':AA}{b:Act}{x:AX}{A':AW}{Q:Exit->Act->sL->Prop}{q:Loop}
  (W:WR μ A w) (hab:mf μ a b) (hmk:∀μ' ds ds',Le μ μ'->DR μ' ds ds'->DR μ' (mk++ds) (mk'++ds')) (hfl:LR μ first first'.toList) (hcl:LR μ cap cap'.toList)
  (h:zqH call f first cap ps asg bd mk A a=.ok (x,a',A')) (hq:∀e b' w',QX μ A w x a' A' e b' w'->Q e b' w')
  (h1:q.state=.ready) (h2:q.pending=none) (h3:q.params=ps) (h4:q.assign=asg) (h5:q.body=bd) (h6:q.tmps=b.tmps):
  CallsIn (FR ro) 0 P f (first'++#[.func (.yield w.heap.size) #[] #[]]++cap') (w.alloc (.loop q)) (rangePost (FR ro) 0 P w.heap.size Q {b with defers:=mk'++b.defers}):=by
 unfold zqH at h;rw[iP]at h;have hdom:=W.dom A.next (ta _)
 have hloc:(μ.add A.next ⟨w.heap.size,0,0,0⟩) A.next=some ⟨w.heap.size,0,0,0⟩:=Mu.add_get hdom
 have hle:Le μ (μ.add A.next ⟨w.heap.size,0,0,0⟩):=Mu.add_le hdom;obtain⟨W1,E1⟩:=W.new (d:=0) (sz:=0) (k:=0) (o:=.loop .ready .none ps asg bd a.tmps a.size) (o':=.loop q) ⟨q,rfl,h1,h2,h3,h4,h5,by rw[h6,hab.len],fun t v ht=>by rw[h6];exact(hab.tmps.mono hle) t v ht⟩;have hargs:LR (μ.add A.next ⟨w.heap.size,0,0,0⟩) (first++[sD.func (.yield A.next) #[] #[]]++cap) (first'++#[sD.func (.yield w.heap.size) #[] #[]]++cap').toList:=by
  rw[ir];have hy:VR (μ.add A.next ⟨w.heap.size,0,0,0⟩) (.func (.yield A.next) #[] #[]) (.func (.yield w.heap.size) #[] #[]):=by simp only[VR];exact⟨trivial,trivial,_,rfl,hloc⟩
  exact((hfl.mono hle).append (LR.cons hy LR.nil)).append (hcl.mono hle)
 split at h
 ·rename_i v A2 hc;have key:=hcall.fn _ _ _ _ _ hc _ _ _ W1.lay hargs;refine zfJ (key.mono fun e w2 ⟨μ2,he,W2,E2⟩=>?_);cases e with
  |returned v'=>
   split at h
   ·rename_i st j ps2 asg2 bd2 t n hg;split at h
    ·rename_i hst;rw[iP]at h;cases h;have hl2:μ2 A.next=some ⟨w.heap.size,0,0,0⟩:=E2.le _ _ hloc
     obtain⟨o2,ho2,q2,rfl,g1,g2,g3,g4,g5,g6,g7⟩:=W2.has _ _ _ hg hl2;have hnb:q2.state≠ .busy:=fun e=>by rw[g1]at e;subst e;cases hst
     obtain⟨W3,E3⟩:=W2.upd (o:=.loop .exhausted j ps2 asg2 bd2 t n) (o':=.loop {q2 with state:=.exhausted}) hg hl2 ⟨_,rfl,rfl,g2,g3,g4,g5,g6,g7⟩;refine⟨q2.pending,_,run_endLoop ho2 hnb,?_⟩;have EE:bG μ A w μ2 _ _:=(E1.lay.trans E2).trans E3.lay;have hfin:mf μ2 ⟨a.tmps,a.size,mk++a.defers⟩ {b with defers:=mk'++b.defers}:=⟨(hab.mono EE.le).tmps,hab.len,hmk _ _ _ EE.le (hab.mono EE.le).defers⟩;have fin:∀jp:Option Code,jp=j.code->(match jp with
       |none=>Q .normal {b with defers:=mk'++b.defers} (w2.putObj w.heap.size (.loop {q2 with state:=.exhausted}))
       |some c=>c.wpIn (FR ro) 0 P Q {b with defers:=mk'++b.defers} (w2.putObj w.heap.size (.loop {q2 with state:=.exhausted}))):=fun jp hjp=>by
      subst hjp;cases j with
      |none=>exact hq _ _ _ ⟨μ2,rfl,hfin,W3.lay,EE⟩
      |ret=>exact wpIn_ret (hq _ _ _ ⟨μ2,rfl,hfin,W3.lay,EE⟩)
      |exit id=>exact wpIn_exit (hq _ _ _ ⟨μ2,rfl,hfin,W3.lay,EE⟩)
      |goto l=>exact wpIn_goto (hq _ _ _ ⟨μ2,rfl,hfin,W3.lay,EE⟩)
     exact fin _ g2
    ·cases h
   ·cases h
  |panicked ch=>exact he.elim
  |outgrown=>exact he.elim
 ·cases h
 ·cases h
noncomputable def zvb(P:sG)(call:aG)(rd:Option Nat)(g:Operand)(ps:Array Tmp)(asg bd:Code)(a:AA)(A:AW):Except String (AX×AA×AW):=
 match bE a.tmps g with
 |some (.func (.func f) ⟨first⟩ ⟨cap⟩)=>(match P.funcs[f]? with
  |some fn=>if fn.body.isSome/\(fn.name== "runtime.NumGoroutine")=false then
    (match rd with
    |none=>zqH call f first cap ps asg bd [.mark A.next] (A.push (.dfr true)) a
    |some r=>(match A.get r with
     |some (.loop _ _ _ _ _ _ _)=>zqH call f first cap ps asg bd [] A a
     |_=>.error "range: no record around"))
   else .error ("range: no body: " ++fn.name)
  |none=>.error "range: no such function")
 |_=>.error "range: callee"
theorem n0{l₀:Nat}{r₀:Loop}(h:w.heap[l₀]?=some (.loop r₀))(fn:tr)(tmps:Array sD)(ps:Array Tmp)(assign body:Code):
  (Instr.enterLoop fn tmps ps assign body (some l₀)).run P w=
   .ok (w.heap.size,[]) (w.alloc (.loop {state:=.ready,pending:=none,fn,tmps,params:=ps,assign,body,defers:=r₀.defers})):=by
 unfold Instr.enterLoop;simp only[sS,run_getLoop h,run_newObj_alloc,sQ,Sem.run_pure]
theorem zru{call:aG}(hcall:bC P call){rd ro:Option Nat}{g:Operand}{ps:Array Tmp}{asg bd:Code}{a a':AA}{b:Act}{x:AX}{A':AW}{Q:Exit->Act->sL->Prop}(W:WR μ A w)(hab:mf μ a b)(hro:RO μ rd ro)
  (h:zvb P call rd g ps asg bd a A=.ok (x,a',A')) (hq:∀e b' w',QX μ A w x a' A' e b' w'->Q e b' w'):(Code.rangeFunc g ps asg bd).wpIn (FR ro) 0 P Q b w:=by
 unfold zvb at h;split at h
 next f first cap hg=>
  have hfv:=ar hab.tmps hg;simp only[VR]at hfv;obtain⟨first',cap',hfe,hfl,hcl⟩:=hfv;split at h
  ·rename_i fn hfn;split at h
   ·rename_i hb;have hne:fn.body.isNone=false:=by
     cases hbb:fn.body with
     |none=>rw[hbb]at hb;simp at hb
     |some c=>rfl
    have hinv:∀(args:Array sD)(W:sL),(tA f args).run P W=.ok (.enter f args) W:=fun args W=>by simp only[tA,sS,run_program,sQ,hfn,hb.2,td,if_false,hne,Sem.run_pure]
    have hres:∀(l:Nat)(W:sL),(resolve b.eval (rangeCall g l) 0).run P W=.ok {target:=.fn (.func f) cap',args:=first'++#[.func (.yield l) #[] #[]]} W:=fun l W=>by simp only[resolve,hfe,Deferred.ofValue,Sem.run_pure];simp[Act.eval]
    refine wpIn_rangeFunc fun fnr _=>?_;split at h
    ·simp only[RO]at hro;subst hro;obtain⟨W1,E1⟩:=W.new (d:=0) (sz:=0) (k:=0) (o:=.dfr true) (o':=.deferred (some [])) rfl;have hdom:=W.dom A.next (ta _)
     have hloc:(μ.add A.next ⟨w.heap.size,0,0,0⟩) A.next=some ⟨w.heap.size,0,0,0⟩:=Mu.add_get hdom
     have key:=ziu (ro:=none) (mk':=[{target:=.collected w.heap.size,args:=#[]}]) (q:={state:=.ready,pending:=none,fn:=fnr,tmps:=b.tmps,params:=ps,assign:=asg,body:=bd,defers:=w.heap.size}) (Q:=Q) hcall W1 (hab.mono E1.le) (fun μ' ds ds' hle hd=>by simp only[List.singleton_append,DR];exact⟨_,_,rfl,hle _ _ hloc,hd⟩) (hfl.mono E1.le) (hcl.mono E1.le) h (fun e b' w' ⟨μ',q1,q2,q3,q4⟩=>hq _ _ _ ⟨μ',q1,q2,q3,E1.trans q4⟩) rfl rfl rfl rfl rfl rfl;have hsz:({w with heap:=w.heap.push (.deferred (some []))}:sL).heap.size=w.heap.size+1:=by simp
     rw[hsz]at key;exact⟨_,_,_,_,_,f,_,_,run_enterLoop_outer fnr b.tmps ps asg bd,hres _ _,fun _ _=>trivial,hinv _ _,fun hd=>(by simp[FR]at hd),key⟩
    ·rename_i r;split at h
     ·rename_i hgr;obtain⟨l,hl,hroe⟩:=hro;subst hroe;obtain⟨o1,ho1,q1,rfl,_⟩:=W.has _ _ _ hgr hl;have key:=ziu (ro:=some l.b) (mk:=[]) (mk':=[]) (q:={state:=.ready,pending:=none,fn:=fnr,tmps:=b.tmps,params:=ps,assign:=asg,body:=bd,defers:=q1.defers}) (Q:=Q) hcall W hab (fun μ' ds ds' hle hd=>hd) hfl hcl h hq rfl rfl rfl rfl rfl rfl;exact⟨_,_,_,_,_,f,_,_,n0 ho1 fnr b.tmps ps asg bd,hres _ _,fun _ _=>trivial,hinv _ _,fun hd=>(by simp[FR]at hd),key⟩
     ·cases h
   ·cases h
  ·cases h
 ·cases h
noncomputable def evK(P:sG)(call:aG)(same:XT)(dr:dq)(rd:Option Nat):Nat->Option Code->Code->AA->AW->Except String (AX×AA×AW)
 |0,_,_,_,_=>.error "out of fuel"
 |n+1,some c0,c,a,A=>match evK P call same dr rd n none c a A with
  |.ok (.goto l,a',A')=>match tF c0 l with
   |some rest=>evK P call same dr rd n (some c0) rest a' A'
   |none=>.ok (.goto l,a',A')
  |r=>r
 |n+1,none,c,a,A=>match c with
  |.skip=>.ok (.normal,a,A)
  |.label _=>.ok (.normal,a,A)
  |.region _ ops false=>zcj P call same rd ops ops.toList a A
  |.region _ ops true=>match dr rd ops a A with
   |.ok (a',A')=>.ok (.normal,a',A')
   |.error s=>.error s
  |.seq x y=>match evK P call same dr rd n none x a A with
   |.ok (.normal,a',A')=>evK P call same dr rd n none y a' A'
   |r=>r
  |.cond c x y=>match bE a.tmps c with
   |some (.bool true)=>evK P call same dr rd n none x a A
   |some (.bool false)=>evK P call same dr rd n none y a A
   |_=>.error "cond"
  |.block id x=>match evK P call same dr rd n none x a A with
   |.ok (.exit id',a',A')=>.ok (if id'=id then .normal else .exit id',a',A')
   |r=>r
  |.loop x=>match evK P call same dr rd n none x a A with
   |.ok (.normal,a',A')=>evK P call same dr rd n none (.loop x) a' A'
   |r=>r
  |.exit id=>.ok (.exit id,a,A)
  |.ret=>.ok (.ret,a,A)
  |.goto l=>.ok (.goto l,a,A)
  |.scope x=>evK P call same dr rd n (some x) x a A
  |.rangeFunc g ps asg bd=>zvb P call rd g ps asg bd a A
  |_=>.error "this code is not served"
noncomputable def evC(P:sG)(call:aG)(same:XT)(dr:dq)(rd:Option Nat)(n:Nat)(c:Code)(a:AA)(A:AW):Except String (AX×AA×AW):=evK P call same dr rd n none c a A
theorem zhh{call:aG}{same:XT}{dr:dq}(hcall:bC P call)(hsame:ck P same)(hdr:fJ P dr){rd ro:Option Nat}:∀(n:Nat)(sc:Option Code)(c:Code)(a:AA)(A:AW)(μ:Mu)(b:Act)(w:sL)(x:AX)(a':AA)(A':AW)(Q:Exit->Act->sL->Prop),evK P call same dr rd n sc c a A=.ok (x,a',A')->WR μ A w->mf μ a b->RO μ rd ro->
  (∀e b' w',QX μ A w x a' A' e b' w'->Q e b' w')->(sc=none->c.wpIn (FR ro) 0 P Q b w/\(∀y,c=.loop y->fY ro P y Q b w))/\(∀c0,sc=some c0->jy ro P c0 c Q b w)
 |0,_,_,_,_,_,_,_,_,_,_,_,h,_,_,_,_=>by simp only[evK]at h;cases h
 |n+1,some c0,c,a,A,μ,b,w,x,a',A',Q,h,W,hab,hro,hq=>by
  have IH:=zhh (rd:=rd) (ro:=ro) hcall hsame hdr n;refine⟨fun hh=>(by cases hh),fun c1 hc=>?_⟩;cases hc;simp only[evK]at h;split at h
  ·rename_i l a1 A1 h1;split at h
   ·rename_i rest hf;refine kE ((IH none c a A μ b w (.goto l) a1 A1 _ h1 W hab hro fun e b' w' ⟨μ',q1,q2,q3,q4⟩=>?_).1 rfl).1;simp only[XR]at q1;subst q1;simp only[je,hf];exact(IH (some c0) rest a1 A1 μ' b' w' x a' A' Q h q3 q2 (hro.mono q4.le) fun e b'' w'' ⟨μ'',r1,r2,r3,r4⟩=>hq _ _ _ ⟨μ'',r1,r2,r3,q4.trans r4⟩).2 c0 rfl
   ·rename_i hf;cases h;refine kE ((IH none c a A μ b w (.goto l) _ _ _ h1 W hab hro fun e b' w' hx=>?_).1 rfl).1;have hx0:=hx;obtain⟨μ',q1,_⟩:=hx;simp only[XR]at q1;subst q1;simp only[je,hf];exact hq _ _ _ hx0
  ·rename_i r hr;refine kE ((IH none c a A μ b w x a' A' _ h W hab hro fun e b' w' hx=>?_).1 rfl).1;have hx0:=hx;obtain⟨μ',q1,_⟩:=hx;cases x with
   |goto l=>exact absurd h (hr _ _ _)
   |normal=>simp only[XR]at q1;subst q1;exact hq _ _ _ hx0
   |exit id=>simp only[XR]at q1;subst q1;exact hq _ _ _ hx0
   |ret=>simp only[XR]at q1;subst q1;exact hq _ _ _ hx0
   |panic v=>simp only[XR]at q1;obtain⟨v',rfl,q3⟩:=q1;exact hq _ _ _ hx0
 |n+1,none,c,a,A,μ,b,w,x,a',A',Q,h,W,hab,hro,hq=>by
  have IH:=zhh (rd:=rd) (ro:=ro) hcall hsame hdr n;refine⟨fun _=>?_,fun c1 hc=>(by cases hc)⟩;simp only[evK]at h;split at h
  ·cases h;exact⟨wpIn_skip (hq _ _ _ ⟨μ,rfl,hab,W,bG.refl⟩),fun y hy=>by cases hy⟩
  ·cases h;exact⟨wpIn_label (hq _ _ _ ⟨μ,rfl,hab,W,bG.refl⟩),fun y hy=>by cases hy⟩
  ·exact⟨wpIn_region (lS hcall hsame _ a A μ b w W hab hro (zla.symm.trans h) hq),fun y hy=>by cases hy⟩
  ·split at h
   ·rename_i a1 A1 h1;cases h;exact⟨hdr _ _ _ _ _ _ h1 μ b w _ ro Q W hab hro fun b' w' hx=>hq _ _ _ hx,fun y hy=>by cases hy⟩
   ·cases h
  ·rename_i y z;refine⟨wpIn_seq ?_,fun y hy=>by cases hy⟩;split at h
   ·rename_i a1 A1 h1;refine((IH none y a A μ b w .normal a1 A1 _ h1 W hab hro fun e b' w' ⟨μ',q1,q2,q3,q4⟩=>?_).1 rfl).1;simp only[XR]at q1;subst q1;exact((IH none z a1 A1 μ' b' w' x a' A' Q h q3 q2 (hro.mono q4.le) fun e b'' w'' ⟨μ'',r1,r2,r3,r4⟩=>hq _ _ _ ⟨μ'',r1,r2,r3,q4.trans r4⟩).1 rfl).1
   ·rename_i r hr;refine((IH none y a A μ b w x a' A' _ h W hab hro fun e b' w' hx=>?_).1 rfl).1;cases x with
    |normal=>exact absurd h (hr _ _)
    |exit id=>obtain⟨μ',q1,q2⟩:=hx;simp only[XR]at q1;subst q1;exact hq _ _ _ ⟨μ',rfl,q2⟩
    |goto l=>obtain⟨μ',q1,q2⟩:=hx;simp only[XR]at q1;subst q1;exact hq _ _ _ ⟨μ',rfl,q2⟩
    |ret=>obtain⟨μ',q1,q2⟩:=hx;simp only[XR]at q1;subst q1;exact hq _ _ _ ⟨μ',rfl,q2⟩
    |panic v=>obtain⟨μ',q1,q2⟩:=hx;simp only[XR]at q1;obtain⟨v',rfl,q3⟩:=q1;exact hq _ _ _ ⟨μ',⟨v',rfl,q3⟩,q2⟩
  ·rename_i cc y z;split at h
   ·rename_i hc;have:=ar hab.tmps hc;simp only[VR]at this;exact⟨wpIn_cond_true this ((IH none y a A μ b w x a' A' Q h W hab hro hq).1 rfl).1,fun y hy=>by cases hy⟩
   ·rename_i hc;have:=ar hab.tmps hc;simp only[VR]at this;exact⟨wpIn_cond_false this ((IH none z a A μ b w x a' A' Q h W hab hro hq).1 rfl).1,fun y hy=>by cases hy⟩
   ·cases h
  ·rename_i id y;refine⟨wpIn_block ?_,fun y hy=>by cases hy⟩;split at h
   ·rename_i id' a1 A1 h1;cases h;refine((IH none y a A μ b w (.exit id') a' A' _ h1 W hab hro fun e b' w' ⟨μ',q1,q2⟩=>?_).1 rfl).1;simp only[XR]at q1;subst q1;simp only[Exit.inBlock];by_cases e:id'=id
    ·rw[if_pos e];exact hq _ _ _ ⟨μ',by rw[if_pos e];rfl,q2⟩
    ·rw[if_neg e];exact hq _ _ _ ⟨μ',by rw[if_neg e];rfl,q2⟩
   ·rename_i r hr;refine((IH none y a A μ b w x a' A' _ h W hab hro fun e b' w' hx=>?_).1 rfl).1;cases x with
    |exit id=>exact absurd h (hr _ _ _)
    |normal=>obtain⟨μ',q1,q2⟩:=hx;simp only[XR]at q1;subst q1;exact hq _ _ _ ⟨μ',rfl,q2⟩
    |goto l=>obtain⟨μ',q1,q2⟩:=hx;simp only[XR]at q1;subst q1;exact hq _ _ _ ⟨μ',rfl,q2⟩
    |ret=>obtain⟨μ',q1,q2⟩:=hx;simp only[XR]at q1;subst q1;exact hq _ _ _ ⟨μ',rfl,q2⟩
    |panic v=>obtain⟨μ',q1,q2⟩:=hx;simp only[XR]at q1;obtain⟨v',rfl,q3⟩:=q1;exact hq _ _ _ ⟨μ',⟨v',rfl,q3⟩,q2⟩
  ·rename_i y;have hbody:y.wpIn (FR ro) 0 P (Exit.then (fY ro P y Q) Q) b w:=by
    split at h
    ·rename_i a1 A1 h1;refine((IH none y a A μ b w .normal a1 A1 _ h1 W hab hro fun e b' w' ⟨μ',q1,q2,q3,q4⟩=>?_).1 rfl).1;simp only[XR]at q1;subst q1;exact((IH none (.loop y) a1 A1 μ' b' w' x a' A' Q h q3 q2 (hro.mono q4.le) fun e b'' w'' ⟨μ'',r1,r2,r3,r4⟩=>hq _ _ _ ⟨μ'',r1,r2,r3,q4.trans r4⟩).1 rfl).2 y rfl
    ·rename_i r hr;refine((IH none y a A μ b w x a' A' _ h W hab hro fun e b' w' hx=>?_).1 rfl).1;cases x with
     |normal=>exact absurd h (hr _ _)
     |exit id=>obtain⟨μ',q1,q2⟩:=hx;simp only[XR]at q1;subst q1;exact hq _ _ _ ⟨μ',rfl,q2⟩
     |goto l=>obtain⟨μ',q1,q2⟩:=hx;simp only[XR]at q1;subst q1;exact hq _ _ _ ⟨μ',rfl,q2⟩
     |ret=>obtain⟨μ',q1,q2⟩:=hx;simp only[XR]at q1;subst q1;exact hq _ _ _ ⟨μ',rfl,q2⟩
     |panic v=>obtain⟨μ',q1,q2⟩:=hx;simp only[XR]at q1;obtain⟨v',rfl,q3⟩:=q1;exact hq _ _ _ ⟨μ',⟨v',rfl,q3⟩,q2⟩
   exact⟨zqW hbody,fun z hz=>by cases hz;exact zkT hbody⟩
  ·cases h;exact⟨wpIn_exit (hq _ _ _ ⟨μ,rfl,hab,W,bG.refl⟩),fun y hy=>by cases hy⟩
  ·cases h;exact⟨wpIn_ret (hq _ _ _ ⟨μ,rfl,hab,W,bG.refl⟩),fun y hy=>by cases hy⟩
  ·cases h;exact⟨wpIn_goto (hq _ _ _ ⟨μ,rfl,hab,W,bG.refl⟩),fun y hy=>by cases hy⟩
  ·rename_i y;exact⟨zmT ((IH (some y) y a A μ b w x a' A' Q h W hab hro hq).2 y rfl),fun y hy=>by cases hy⟩
  ·exact⟨zru hcall W hab hro h hq,fun y hy=>by cases hy⟩
  ·cases h
theorem zck{call:aG}{same:XT}{dr:dq}(hcall:bC P call)(hsame:ck P same)(hdr:fJ P dr){rd ro:Option Nat}(n:Nat)(c:Code)(a:AA)(A:AW)(μ:Mu)(b:Act)(w:sL)(x:AX)(a':AA)(A':AW)(Q:Exit->Act->sL->Prop)(h:evC P call same dr rd n c a A=.ok (x,a',A'))(W:WR μ A w)(hab:mf μ a b)(hro:RO μ rd ro)
  (hq:∀e b' w',QX μ A w x a' A' e b' w'->Q e b' w'):c.wpIn (FR ro) 0 P Q b w:=((zhh hcall hsame hdr n none c a A μ b w x a' A' Q h W hab hro hq).1 rfl).1
inductive AM where
 |ret
 |pan (v:sD)
 |recd (v:sD)
def MoR(μ:Mu):AM->sW->Prop
 |.ret,m=>m=.returning
 |.pan v,m=>∃v',m=.panicking [{v:=v',recovered:=false}]/\VR μ v v'
 |.recd v,m=>∃v',m=.panicking [{v:=v',recovered:=true}]/\VR μ v v'
theorem MoR.mono{μ μ':Mu}(h:Le μ μ'):∀{u:AM} {m:sW},MoR μ u m->MoR μ' u m
 |.ret,_,r=>r
 |.pan _,_,r=>by obtain⟨v',h1,h2⟩:=r;exact⟨v',h1,h2.mono h⟩
 |.recd _,_,r=>by obtain⟨v',h1,h2⟩:=r;exact⟨v',h1,h2.mono h⟩
def zsD:Op->Bool
 |.call {callee:=.builtin .recover,args:=_,argTypes:=_}=>true
 |_=>false
noncomputable def iQ(P:sG)(call:aG)(same:XT)(ops:Array Oper):List Nat->AA->AM->AW->Except String (AX×AA×AM×AW)
 |[],a,u,A=>.ok (.normal,a,u,A)
 |i::r,a,u,A=>match ops[i]? with
  |none=>.error "no such operation"
  |some o=>match dM ops a.tmps o with
   |some true=>if zsD o.op then
     match u with
     |.pan v=>dj a o.dst v fun a'=>iQ P call same ops r a' (.recd v) A
     |_=>dj a o.dst .nilIface fun a'=>iQ P call same ops r a' u A
    else match zjg P call same o a A with
    |.ok (.val v,A')=>fV v fun v=>dj a o.dst v fun a'=>fW A' fun A'=>iQ P call same ops r a' u A'
    |.ok (.dfr _,_)=>.error "defer in a deferred call"
    |.ok (.panic v,A')=>fV v fun v=>fW A' fun A'=>.ok (.panic v,a,u,A')
    |.error s=>.error s
   |some false=>dj a o.dst undef fun a'=>iQ P call same ops r a' u A
   |none=>.error ("guard: " ++o.pos)
def QS(c0:sV)(cs0:List sV)(Q:Exit->Act->List sV->sL->Prop)(μ:Mu)(A:AW)(w:sL)(x:AX)(a':AA)(u':AM)(A':AW):Prop:=
 ∀e b' m' w' μ',XR μ' x e->mf μ' a' b'->MoR μ' u' m'->WR μ' A' w'->bG μ A w μ' A' w'->Q e b' ({c0 with mode:=m'}::cs0) w'
theorem gd{call:aG}{same:XT}(hcall:bC P call)(hsame:ck P same){ops:Array Oper}{c0:sV}{cs0:List sV}{Q:Exit->Act->List sV->sL->Prop}{x:AX}{a':AA}{u':AM}{A':AW}:∀(l:List Nat)(a:AA)(u:AM)(A:AW)(μ:Mu)(b:Act)(m:sW)(w:sL),WR μ A w->mf μ a b->MoR μ u m->
  iQ P call same ops l a u A=.ok (x,a',u',A')->QS c0 cs0 Q μ A w x a' u' A'->tI P ops Q l b ({c0 with mode:=m}::cs0) w
 |[],a,u,A,μ,b,m,w,W,hab,hm,h,hq=>by simp only[iQ]at h;cases h;simp only[tI];exact hq _ _ _ _ _ rfl hab hm W bG.refl
 |i::r,a,u,A,μ,b,m,w,W,hab,hm,h,hq=>by
  have qtrans:∀{μ1:Mu} {A1:AW} {w1:sL},bG μ A w μ1 A1 w1->QS c0 cs0 Q μ1 A1 w1 x a' u' A':=fun E=>fun e b' m' w' μ' h1 h2 h3 h4 h5=>hq e b' m' w' μ' h1 h2 h3 h4 (E.trans h5);simp only[iQ]at h;split at h
  ·cases h
  ·rename_i o ho;simp only[tI,ho];split at h
   ·rename_i hw;rw[eF hab hw,if_pos rfl];split at h
    ·rename_i hr;have hrun:(execOp b.eval o).run P w=.ok .recover w:=by
      unfold zsD at hr;split at hr
      ·rename_i heq;simp only[execOp,heq,resolve,sS,Sem.run_pure,sQ,invoke,builtin]
      ·cases hr
     rw[hrun];simp only;split at h
     ·rename_i v;rw[bN]at h;obtain⟨v',rfl,hv⟩:=hm;simp only[recoverD];exact gd hcall hsame r _ (.recd v) A μ _ (.panicking [{v:=v',recovered:=true}]) w W (hab.put _ hv) ⟨v',rfl,hv⟩ h hq
     ·rename_i hnp;rw[bN]at h;have hrec:recoverD ({c0 with mode:=m}::cs0)=none:=by
       cases u with
       |ret=>simp only[MoR]at hm;subst hm;rfl
       |pan v=>exact absurd rfl (hnp v)
       |recd v=>obtain⟨v',rfl,hv⟩:=hm;rfl
      rw[hrec];exact gd hcall hsame r _ u A μ _ m w W (hab.put _ (by simp[VR])) hm h hq
    ·have hup:∀(K:Act->sL->Prop)(Q':Exit->Act->sL->Prop),o.wp P b w K Q'->(match (execOp b.eval o).run P w with
       |.ok .recover w'=>(match recoverD ({c0 with mode:=m}::cs0)with
        |some (v,cs')=>tI P ops Q r (b.put o.dst v) cs' w'
        |none=>tI P ops Q r (b.put o.dst .nilIface) ({c0 with mode:=m}::cs0) w')
       |rr=>o.upon P b K Q' rr):=fun K Q' hh=>by
      unfold Oper.wp at hh;generalize (execOp b.eval o).run P w=rr at hh;split
      ·exact hh.elim
      ·exact hh
     split at h
     ·rename_i v A1 h1;rw[ka,bN,iP]at h;refine hup _ _ (qy hcall hsame W hab h1 (fun v2 hv2 μ' v' w' hv' W' E'=>?_) (fun d hd=>by cases hd) (fun v hv=>by cases hv));cases hv2;exact gd hcall hsame r _ u _ μ' _ m w' W'.lay ((hab.mono E'.le).put _ hv') (hm.mono E'.le) h (qtrans E'.lay)
     ·cases h
     ·rename_i v A1 h1;rw[ka,iP]at h;cases h;refine hup _ _ (qy hcall hsame W hab h1 (fun v2 hv2=>by cases hv2) (fun d hd=>by cases hd) (fun v hv μ' v' w' hv' W' E'=>?_));cases hv;exact hq _ _ _ _ μ' ⟨v',rfl,hv'⟩ (hab.mono E'.le) (hm.mono E'.le) W'.lay E'.lay
     ·cases h
   ·rename_i hw;rw[eF hab hw,if_neg (by simp)];rw[bN]at h;exact gd hcall hsame r _ u A μ _ m w W (hab.put _ dW) hm h hq
   ·cases h
noncomputable def evS(P:sG)(call:aG)(same:XT)(dr:dq):Nat->Code->AA->AM->AW->Except String (AX×AA×AM×AW)
 |0,_,_,_,_=>.error "out of fuel"
 |n+1,c,a,u,A=>match c with
  |.region _ ops false=>iQ P call same ops (sN ops.size) a u A
  |.seq x y=>match evS P call same dr n x a u A with
   |.ok (.normal,a',u',A')=>evS P call same dr n y a' u' A'
   |r=>r
  |.cond c x y=>match bE a.tmps c with
   |some (.bool true)=>evS P call same dr n x a u A
   |some (.bool false)=>evS P call same dr n y a u A
   |_=>.error "cond"
  |c=>match evC P call same dr none n c a A with
   |.ok (x,a',A')=>.ok (x,a',u,A')
   |.error s=>.error s
theorem zoN{call:aG}{same:XT}{dr:dq}(hcall:bC P call)(hsame:ck P same)(hdr:fJ P dr){c0:sV}{cs0:List sV}:∀(n:Nat)(c:Code)(a:AA)(u:AM)(A:AW)(μ:Mu)(b:Act)(m:sW)(w:sL)(x:AX)(a':AA)(u':AM)(A':AW)(Q:Exit->Act->List sV->sL->Prop),evS P call same dr n c a u A=.ok (x,a',u',A')->WR μ A w->mf μ a b->MoR μ u m->
  QS c0 cs0 Q μ A w x a' u' A'->c.wpS P Q b ({c0 with mode:=m}::cs0) w
 |0,_,_,_,_,_,_,_,_,_,_,_,_,_,h,_,_,_,_=>by cases h
 |n+1,c,a,u,A,μ,b,m,w,x,a',u',A',Q,h,W,hab,hm,hq=>by
  have IH:=zoN (c0:=c0) (cs0:=cs0) hcall hsame hdr n;have qtrans:∀{μ1:Mu} {A1:AW} {w1:sL},bG μ A w μ1 A1 w1->QS c0 cs0 Q μ1 A1 w1 x a' u' A':=fun E=>fun e b' m' w' μ' h1 h2 h3 h4 h5=>hq e b' m' w' μ' h1 h2 h3 h4 (E.trans h5);unfold evS at h;split at h
  ·exact wpS_region (gd hcall hsame _ a u A μ b m w W hab hm h hq)
  ·rename_i y z;refine wpS_seq ?_;split at h
   ·rename_i a1 u1 A1 h1;refine IH y a u A μ b m w .normal a1 u1 A1 _ h1 W hab hm fun e b' m' w' μ' q1 q2 q3 q4 q5=>?_;simp only[XR]at q1;subst q1;exact IH z a1 u1 A1 μ' b' m' w' x a' u' A' Q h q4 q2 q3 (qtrans q5)
   ·rename_i r hr;refine IH y a u A μ b m w x a' u' A' _ h W hab hm fun e b' m' w' μ' q1 q2 q3 q4 q5=>?_;cases x with
    |normal=>exact absurd h (hr _ _ _)
    |exit id=>simp only[XR]at q1;subst q1;exact hq _ _ _ _ μ' rfl q2 q3 q4 q5
    |goto l=>simp only[XR]at q1;subst q1;exact hq _ _ _ _ μ' rfl q2 q3 q4 q5
    |ret=>simp only[XR]at q1;subst q1;exact hq _ _ _ _ μ' rfl q2 q3 q4 q5
    |panic v=>simp only[XR]at q1;obtain⟨v',rfl,q6⟩:=q1;exact hq _ _ _ _ μ' ⟨v',rfl,q6⟩ q2 q3 q4 q5
  ·rename_i cc y z;split at h
   ·rename_i hc;have:=ar hab.tmps hc;simp only[VR]at this;exact wpS_cond this (IH y a u A μ b m w x a' u' A' Q h W hab hm hq)
   ·rename_i hc;have:=ar hab.tmps hc;simp only[VR]at this;exact wpS_cond this (IH z a u A μ b m w x a' u' A' Q h W hab hm hq)
   ·cases h
  ·split at h
   ·rename_i x1 a1 A1 h1;cases h;refine wpS_of_wp (wpIn_wide.1 (zck (ro:=none) hcall hsame hdr n _ a A μ b w _ _ _ _ h1 W hab rfl fun e b' w' ⟨μ',q1,q2,q3,q4⟩=>?_));exact hq _ _ _ _ μ' q1 q2 (hm.mono q4.le) q3 q4
   ·cases h
end Ev
end
section
namespace Ev
variable {P:sG} {μ:Mu} {A:AW} {w:sL}
noncomputable def qT(P:sG)(A:AW)(l:bR):List tG->Option (List sD)
 |[]=>some []
 |.tmp t::r=>match l.get t,qT P A l r with
  |some v,some vs=>some (v::vs)
  |_,_=>none
 |.cell t ty::r=>match l.get t,qT P A l r with
  |some p,some vs=>match ma P A ty p with
   |some v=>some (v::vs)
   |none=>none
  |_,_=>none
def znl(tmps:Array sD):tG->Sem sD
 |.tmp t=>pure (tmps.getD t undef)
 |.cell a t=>do loadVar t (<-asAddr (tmps.getD a undef))
theorem zgu(fn:Func)(tmps:Array sD):results fn tmps=(do
  let vs <-fn.results.mapM (znl tmps)
  pure (if h:vs.size=1 then vs[0]else .tuple vs)):=rfl
theorem zcE{l:bR}{tmps:Array sD}(W:WR μ A w)(hl:TR μ l tmps.toList):∀{rs:List tG} {vs:List sD},qT P A l rs=some vs->
  ∃vs':List sD,(rs.mapM (znl tmps):Sem (List sD)).run P w=.ok vs' w/\LR μ vs vs'
 |[],vs,h=>by simp only[qT]at h;cases h;exact⟨[],rfl,LR.nil⟩
 |.tmp t::r,vs,h=>by
  simp only[qT]at h;split at h
  ·rename_i v us hv hr;cases h;obtain⟨vs',h1,h2⟩:=zcE W hl hr;obtain⟨v',h3,h4⟩:=hl t v hv;have h5:tmps.getD t undef=v':=by
    have:tmps[t]?=some v':=by rw[<-sM];exact h3
    rw[tc,this];rfl
   refine⟨v'::vs',?_,LR.cons h4 h2⟩;simp only[tB,znl,sS,Sem.run_pure,sQ,h1,h5]
  ·cases h
 |.cell t ty::r,vs,h=>by
  simp only[qT]at h;split at h
  ·rename_i p us hp hr;split at h
   ·rename_i v hv;cases h;obtain⟨vs',h1,h2⟩:=zcE W hl hr;obtain⟨p',h3,h4⟩:=hl t p hp;have h5:tmps.getD t undef=p':=by
     have:tmps[t]?=some p':=by rw[<-sM];exact h3
     rw[tc,this];rfl
    have hp2:∃a,p=.pointer (some a):=by
     unfold ma at hv;split at hv
     ·exact⟨_,rfl⟩
     ·cases hv
    obtain⟨a,rfl⟩:=hp2;simp only[VR]at h4;obtain⟨a',rfl,ha⟩:=h4;obtain⟨v',h6,h7⟩:=zaQ W ha hv;refine⟨v'::vs',?_,LR.cons h7 h2⟩;have h8:(znl tmps (.cell t ty)).run P w=.ok v' w:=by simp only[znl,h5,sS,asAddr,Sem.run_pure,sQ,h6]
    simp only[tB,sS,h8,Sem.run_pure,sQ,h1]
   ·cases h
  ·cases h
def ziz:List sD->sD
 |[v]=>v
 |vs=>.tuple ⟨vs⟩
theorem zfD{l:bR}{tmps:Array sD}{fn:Func}{vs:List sD}(W:WR μ A w)(hl:TR μ l tmps.toList)(h:qT P A l fn.results.toList=some vs):∃v',(results fn tmps).run P w=.ok v' w/\VR μ (ziz vs) v':=by
 obtain⟨vs',h1,h2⟩:=zcE W hl h;refine⟨if h:vs'.toArray.size=1 then vs'.toArray[0]else .tuple vs'.toArray,?_,?_⟩
 ·rw[zgu,Array.mapM_eq_mapM_toList];simp only[sS,Sem.run_map];rw[h1];rfl
 ·have hlen:=h2.len
  match vs,h2,hlen with
  |[],h2,hlen=>have:vs'=[]:=List.eq_nil_of_length_eq_zero (by simpa using hlen);subst this;simp only[ziz,VR];exact⟨_,rfl,LR.nil⟩
  |[v],h2,hlen=>simp only[LR]at h2;obtain⟨y,ys,rfl,h3,rfl⟩:=h2;exact h3
  |v::u::r,h2,hlen=>
   have hne:¬vs'.toArray.size=1:=by simp only[List.size_toArray,hlen,sR];omega
   rw[dif_neg hne];simp only[ziz,VR];exact⟨_,rfl,h2⟩
def zbn:AM->AM
 |.recd _=>.ret
 |m=>m
theorem zku{u:AM}{m:sW}(h:MoR μ u m):MoR μ (zbn u) (settle m):=by
 cases u with
 |ret=>simp only[MoR]at h;subst h;rfl
 |pan v=>obtain⟨v',rfl,hv⟩:=h;exact⟨v',rfl,hv⟩
 |recd v=>obtain⟨v',rfl,hv⟩:=h;rfl
theorem MoR.ne{u:AM}{m:sW}(h:MoR μ u m):m≠ .run:=by
 cases u with
 |ret=>simp only[MoR]at h;subst h;simp
 |pan v=>obtain⟨v',rfl,hv⟩:=h;simp
 |recd v=>obtain⟨v',rfl,hv⟩:=h;simp
noncomputable def zjf{α:Type}(l:List sD):Nat->Tr sD->(Tr sD->α)->α:=
 List.rec (motive:=fun _=>Nat->Tr sD->(Tr sD->α)->α) (fun _ t k=>k t) (fun v _ ih n t k=>fV v fun v=>Tr.fput (some v) (tg n) t n fun t=>fN (tg n) fun n=>ih n t k) l
noncomputable def jv:List sD->Nat->Tr sD->Tr sD
 |[],_,t=>t
 |v::r,n,t=>jv r (n+1) (Tr.put (some v) (n+1) t n)
theorem qx{α:Type}:∀(l:List sD)(n:Nat)(t:Tr sD)(k:Tr sD->α),zjf l n t k=k (jv l n t)
 |[],_,t,k=>rfl
 |v::r,n,t,k=>by show fV v (fun v=>Tr.fput (some v) (tg n) t n fun t=>fN (tg n) fun n=>zjf r n t k)=_;rw[ka,Tr.fput_eq,cR,qx r];rfl
theorem nI:∀(l:List sD)(n:Nat)(t:Tr sD)(j:Nat),(jv l n t).get j=if n<=j/\j<n+l.length then l[j-n]? else t.get j
 |[],n,t,j=>by simp only[jv,List.length_nil,Nat.add_zero];rw[if_neg (by omega)]
 |v::r,n,t,j=>by
  simp only[jv];rw[nI r (n+1),Tr.get_put _ _ _ _ _ (by omega)];simp only[sR];by_cases h1:j=n
  ·subst h1;rw[if_neg (by omega),if_pos rfl,if_pos (by omega)];simp
  ·rw[if_neg h1];by_cases h2:n+1<=j/\j<n+1+r.length
   ·rw[if_pos h2,if_pos (by omega),show j-n=(j-(n+1))+1 by omega];simp
   ·rw[if_neg h2,if_neg (by omega)]
noncomputable def mU(fn:Func)(args:List sD):AA:=⟨jv args 0 .nil,args.length+(fn.ntmps-args.length),[]⟩
theorem zfg{fn:Func}{args:List sD}{args':Array sD}(h:LR μ args args'.toList):mf μ (mU fn args) {tmps:=args'++sX (fn.ntmps-args'.size) undef,defers:=[]}:=by
 have hs:args'.size=args.length:=by simpa using h.len
 refine⟨fun t v hv=>?_,by simp[mU,hs],by simp[mU,DR]⟩;simp only[mU]at hv;rw[nI]at hv;split at hv
 ·rename_i hc;simp only[Nat.sub_zero]at hv;obtain⟨v',h1,h2⟩:=h.get hv;refine⟨v',?_,h2⟩;rw[tq,te (by simp[hs];omega)];exact h1
 ·cases hv
theorem oa{f:tr}{fn:Func}{c:Code}{args:Array sD}{u:sW}{w:sL}{R:Ending->sW->sL->Prop}
  (hf:P.funcs[f]?=some fn) (hb:fn.body=some c)
  (h:∀(c₀:sV)(cs:List sV),c₀.mode=u->
   c.wpS P (tH P fn c₀ cs R) {tmps:=args++sX (fn.ntmps-args.size) undef,defers:=[]} (c₀::cs) w):
  CallsDIn sT 0 P f args u w R:=by
 refine⟨trivial,fun c₀ cs hu _=>?_⟩
 let b:sV:={(default:sV)with fn:=f,kind:=.deferred}
 have henter:sV.enter P f args .deferred=
   b.at {tmps:=args++sX (fn.ntmps-args.size) undef,defers:=[]} [.code c]:=by
  simp[sV.enter,sV.at,hf,hb,b]
 obtain⟨e,a',cs',w',hq,harr⟩:=h c₀ cs hu b [] rfl rfl;rw[<-henter]at harr;cases e with
 |normal=>obtain⟨hd,u',rfl,v,hr,hR⟩:=hq;exact⟨.returned v,u',w',_,hR,tu.2 (Steps.trans harr (.one step_end)),rfl,rfl,rfl,hd,fn,hf,hr⟩
 |ret=>obtain⟨hd,u',rfl,v,hr,hR⟩:=hq;obtain⟨todo,hs⟩:=harr;exact⟨.returned v,u',w',_,hR,tu.2 hs,rfl,rfl,rfl,hd,fn,hf,hr⟩
 |panic chain=>obtain⟨hd,u',rfl,hR⟩:=hq;obtain⟨todo,hs⟩:=harr;exact⟨.panicked chain,u',w',_,hR,tu.2 hs,rfl,rfl,rfl,hd,fn,hf⟩
 |exit id=>exact hq.elim
 |goto l=>exact hq.elim
 |outgrown=>obtain⟨u',hR⟩:=hq;exact⟨.outgrown,u',w',b,hR,harr.resolve_left (by simp[b]),rfl,rfl,trivial⟩
noncomputable def evD(P:sG)(call:aG)(same:XT)(dr:dq)(fuel:Nat)(df:tr)(dcap dargs:List sD)(u:AM)(A:AW):Except String (AM×AW):=
 match P.funcs[df]? with
 |some fn=>match fn.body with
  |some c=>if (fn.name== "runtime.NumGoroutine")=false then
    match zjf (dargs++dcap) 0 .nil fun l=>fN ((dargs++dcap).length+(fn.ntmps-(dargs++dcap).length)) fun n=>evS P call same dr fuel c ⟨l,n,[]⟩ u A with
    |.ok (.normal,a,u',A')=>match a.defers,qT P A' a.tmps fn.results.toList with
     |[],some _=>.ok (u',A')
     |_,_=>.error "deferred"
    |.ok (.ret,a,u',A')=>match a.defers,qT P A' a.tmps fn.results.toList with
     |[],some _=>.ok (u',A')
     |_,_=>.error "deferred"
    |.ok _=>.error "deferred: panic"
    |.error s=>.error s
   else .error "deferred: name"
  |none=>.error "deferred: body"
 |none=>.error "deferred: function"
theorem zvc{call:aG}{same:XT}{dr:dq}(hcall:bC P call)(hsame:ck P same)(hdr:fJ P dr){fuel:Nat}{df:tr}{dcap dargs:List sD}{u u':AM}{A':AW}{m:sW}{args':Array sD}(h:evD P call same dr fuel df dcap dargs u A=.ok (u',A'))(W:WR μ A w)(hm:MoR μ u m)(ha:LR μ (dargs++dcap) args'.toList):
  (tA df args').run P w=.ok (.enter df args') w/\CallsDIn sT 0 P df args' m w fun e m' w'=>∃v,e=.returned v/\∃μ',MoR μ' u' m'/\WR μ' A' w'/\bG μ A w μ' A' w':=by
 unfold evD at h;split at h
 ·rename_i fn hfn;split at h
  ·rename_i c hb;split at h
   ·rename_i hnm;refine⟨?_,?_⟩
    ·have hne:fn.body.isNone=false:=by rw[hb];rfl
     simp only[tA,sS,run_program,sQ,hfn,hnm,td,if_false,hne,Sem.run_pure]
    ·refine oa hfn hb fun c0 cs0 hc0=>?_;have hc:({c0 with mode:=m}:sV)=c0:=by subst hc0;rfl
     rw[qx,cR]at h;have key:∀x a1 u1 A1,evS P call same dr fuel c (mU fn (dargs++dcap)) u A=.ok (x,a1,u1,A1)->(x=.normal\/x=.ret)->a1.defers=[]->(∃vs,qT P A1 a1.tmps fn.results.toList=some vs)->u1=u'->A1=A'->
       c.wpS P (tH P fn c0 cs0 fun e m' w'=>∃v,e=.returned v/\∃μ',MoR μ' u' m'/\WR μ' A' w'/\bG μ A w μ' A' w') {tmps:=args'++sX (fn.ntmps-args'.size) undef,defers:=[]} (c0::cs0) w:=by
      intro x a1 u1 A1 he hx hd ⟨vs,hvs⟩ hu hA;subst hu hA;have:=zoN (c0:=c0) (cs0:=cs0) hcall hsame hdr fuel c _ u A μ _ m w x a1 u1 A1 (tH P fn c0 cs0 fun e m' w'=>∃v,e=.returned v/\∃μ',MoR μ' u1 m'/\WR μ' A1 w'/\bG μ A w μ' A1 w') he W (zfg ha) hm (fun e b' m' w' μ' q1 q2 q3 q4 q5=>by
       have hdd:=q2.defers;rw[hd]at hdd;simp only[DR]at hdd;obtain⟨v',hr,_⟩:=zfD q4 q2.tmps hvs;rcases hx with rfl|rfl
       ·simp only[XR]at q1;subst q1;exact⟨hdd,m',rfl,v',hr,v',rfl,μ',q3,q4,q5⟩
       ·simp only[XR]at q1;subst q1;exact⟨hdd,m',rfl,v',hr,v',rfl,μ',q3,q4,q5⟩)
      rw[hc]at this;exact this
     split at h
     ·rename_i a1 u1 A1 he;split at h
      ·rename_i vs hd hvs;cases h;exact key _ _ _ _ he (.inl rfl) hd ⟨_,hvs⟩ rfl rfl
      ·cases h
     ·rename_i a1 u1 A1 he;split at h
      ·rename_i vs hd hvs;cases h;exact key _ _ _ _ he (.inr rfl) hd ⟨_,hvs⟩ rfl rfl
      ·cases h
     ·cases h
     ·cases h
   ·cases h
  ·cases h
 ·cases h
noncomputable def cT(P:sG)(call:aG)(same:XT)(dr:dq)(fuel:Nat)(fn:Func)(l:bR):List gV->AM->AW->Except String (AE×AW)
 |[],.ret,A=>match qT P A l fn.results.toList with
  |some vs=>.ok (.ret (ziz vs),A)
  |none=>.error ("results of " ++fn.name)
 |[],.pan v,A=>.ok (.panic v,A)
 |[],.recd _,_=>.error "recovered"
 |.fn f cap args::ds,u,A=>match evD P call same dr fuel f cap args u A with
  |.ok (u',A')=>cT P call same dr fuel fn l ds (zbn u') A'
  |.error s=>.error s
 |.mark i::ds,u,A=>match A.get i with
  |some (.dfr true)=>fW (A.set i (some (.dfr false))) fun A'=>cT P call same dr fuel fn l ds u A'
  |_=>.error "mark"
theorem mr{call:aG}{same:XT}{dr:dq}(hcall:bC P call)(hsame:ck P same)(hdr:fJ P dr){fuel:Nat}{fn:Func}{l:bR}{tmps:Array sD}{R:Ending->sL->Prop}{e:AE}{A':AW}:∀(ds:List gV)(u:AM)(A:AW)(μ:Mu)(ds':List Deferred)(m:sW)(w:sL),
  cT P call same dr fuel fn l ds u A=.ok (e,A')->WR μ A w->TR μ l tmps.toList->DR μ ds ds'->MoR μ u m->(∀e' w' μ',ER μ' e e'->WR μ' A' w'->bG μ A w μ' A' w'->R e' w')->LeavesInM sT 0 P fn tmps R ds' m w
 |[],.ret,A,μ,ds',m,w,h,W,hl,hd,hm,hR=>by
  simp only[DR]at hd;subst hd;simp only[MoR]at hm;subst hm;simp only[cT]at h;split at h
  ·rename_i vs hvs;cases h;obtain⟨v',hr,hv⟩:=zfD W hl hvs;exact⟨v',hr,hR _ _ μ hv W bG.refl⟩
  ·cases h
 |[],.pan v,A,μ,ds',m,w,h,W,hl,hd,hm,hR=>by simp only[DR]at hd;subst hd;obtain⟨v',rfl,hv⟩:=hm;simp only[cT]at h;cases h;exact hR _ _ μ ⟨v',rfl,hv⟩ W bG.refl
 |[],.recd v,A,μ,ds',m,w,h,W,hl,hd,hm,hR=>by simp only[cT]at h;cases h
 |.fn f cap args::ds,u,A,μ,ds',m,w,h,W,hl,hd,hm,hR=>by
  simp only[DR]at hd;obtain⟨cap',args',r,rfl,h1,h2,h3⟩:=hd;unfold cT at h;split at h
  ·rename_i u1 A1 hD;obtain⟨hinv,hc⟩:=zvc (args':=args'++cap') hcall hsame hdr hD W hm (by rw[tq];exact h2.append h1);refine⟨hm.ne,.inr ⟨fun hd=>(by simp[sT]at hd),.func f,cap',f,args'++cap',rfl,hinv,fun _ _=>trivial,hc.mono fun e1 m' w' ⟨v,he,μ',hm',W',E'⟩=>?_⟩⟩;subst he;exact mr hcall hsame hdr ds (zbn u1) A1 μ' r (settle m') w' h W' (hl.mono E'.le) (h3.mono E'.le) (zku hm') fun e' w'' μ'' g1 g2 g3=>hR e' w'' μ'' g1 g2 (E'.trans g3)
  ·cases h
 |.mark i::ds,u,A,μ,ds',m,w,h,W,hl,hd,hm,hR=>by
  simp only[DR]at hd;obtain⟨lo,r,rfl,h1,h2⟩:=hd;unfold cT at h;split at h
  ·rename_i hg;rw[iP]at h;obtain⟨o1,ho1,ho2⟩:=W.has _ _ _ hg h1;simp only[OR,if_true]at ho2;subst ho2;obtain⟨W1,E1⟩:=W.upd (o:=.dfr false) (o':=.deferred none) hg h1 rfl;refine⟨hm.ne,.inl ⟨lo.b,_,rfl,run_takeDeferred ho1,?_⟩⟩;exact mr hcall hsame hdr ds u _ μ r m _ h W1.lay hl h2 hm fun e' w'' μ'' g1 g2 g3=>hR e' w'' μ'' g1 g2 (E1.lay.trans g3)
  ·cases h
noncomputable def fPs{α:Type}:List Tmp->List sD->AA->(AA->α)->α
 |t::ts,v::vs,a,k=>fV v fun v=>dj a (some t) v fun a=>fPs ts vs a k
 |_,_,a,k=>k a
noncomputable def zeo:List Tmp->List sD->AA->AA
 |t::ts,v::vs,a=>zeo ts vs (a.put (some t) v)
 |_,_,a=>a
theorem zoM{α:Type}:∀(ts:List Tmp)(vs:List sD)(a:AA)(k:AA->α),fPs ts vs a k=k (zeo ts vs a)
 |[],_,_,_=>rfl
 |_::_,[],_,_=>rfl
 |t::ts,v::vs,a,k=>by simp only[fPs,zeo,ka,bN,zoM ts vs]
theorem zen:∀(ts:List Tmp)(vs:List sD)(vs':List sD)(a:AA)(b:Act),mf μ a b->LR μ vs vs'->mf μ (zeo ts vs a) {b with tmps:=(ts.zip vs').foldl (fun tmps (p:Tmp×sD)=>tmps.setIfInBounds p.1 p.2) b.tmps}
 |[],_,_,a,b,h,_=>h
 |t::ts,[],vs',a,b,h,hl=>by simp only[LR]at hl;subst hl;exact h
 |t::ts,v::vs,vs',a,b,h,hl=>by simp only[LR]at hl;obtain⟨y,ys,rfl,h1,h2⟩:=hl;have:=zen ts vs ys _ _ (h.put (some t) h1) h2;exact this
noncomputable def sw(P:sG)(same:XT)(fuel:Nat)(dr:aG->dq)(call:aG)(f:tr)(args:List sD)(A:AW):Except String (AE×AW):=
 match P.funcs[f]? with
 |some fn=>match fn.body with
  |some c=>match zjf args 0 .nil fun l=>fN (args.length+(fn.ntmps-args.length)) fun n=>evC P call same (dr call) none fuel c ⟨l,n,[]⟩ A with
   |.ok (.normal,a,A')=>cT P call same (dr call) fuel fn a.tmps a.defers .ret A'
   |.ok (.ret,a,A')=>cT P call same (dr call) fuel fn a.tmps a.defers .ret A'
   |.ok (.panic v,a,A')=>cT P call same (dr call) fuel fn a.tmps a.defers (.pan v) A'
   |.ok _=>.error "exit"
   |.error s=>.error (fn.name++ " > " ++s)
  |none=>.error "no body"
 |none=>.error "no function"
theorem zdH{same:XT}{fuel:Nat}{dr:aG->dq}{call:aG}(hcall:bC P call)(hsame:ck P same)(hdr:fJ P (dr call)){f:tr}{args:List sD}{A A':AW}{e:AE}(h:sw P same fuel dr call f args A=.ok (e,A'))(μ:Mu)(w:sL)(args':Array sD)(W:WR μ A w)(ha:LR μ args args'.toList):
  Calls P f args' w fun e' w'=>∃μ',ER μ' e e'/\WR μ' A' w'/\bG μ A w μ' A' w':=by
 unfold sw at h;split at h
 ·rename_i fn hfn;split at h
  ·rename_i c hb;refine(callsIn_wide (n:=0)).1 (callsIn_of_wp_marks (F:=sT) hfn hb trivial ?_);rw[qx,cR]at h;have key:∀x a1 A1 u,evC P call same (dr call) none fuel c (mU fn args) A=.ok (x,a1,A1)->((x=.normal\/x=.ret)/\u=AM.ret\/∃v,x=.panic v/\u=.pan v)->cT P call same (dr call) fuel fn a1.tmps a1.defers u A1=.ok (e,A')->
     c.wpIn sT 0 P (bodyPostM sT 0 P fn fun e' w'=>∃μ',ER μ' e e'/\WR μ' A' w'/\bG μ A w μ' A' w') {tmps:=args'++sX (fn.ntmps-args'.size) undef,defers:=[]} w:=by
    intro x a1 A1 u he hx hu;refine zck (ro:=none) hcall hsame hdr fuel c _ A μ _ w x a1 A1 _ he W (zfg ha) rfl fun e1 b' w' ⟨μ',q1,q2,q3,q4⟩=>?_;have fin:∀m,MoR μ' u m->LeavesInM sT 0 P fn b'.tmps (fun e' w'=>∃μ',ER μ' e e'/\WR μ' A' w'/\bG μ A w μ' A' w') b'.defers m w':=fun m hm=>mr hcall hsame hdr a1.defers u A1 μ' b'.defers m w' hu q3 q2.tmps q2.defers hm fun e' w'' μ'' g1 g2 g3=>⟨μ'',g1,g2,q4.trans g3⟩;rcases hx with ⟨hx,rfl⟩|⟨v,rfl,rfl⟩
    ·rcases hx with rfl|rfl
     ·simp only[XR]at q1;subst q1;exact fin _ rfl
     ·simp only[XR]at q1;subst q1;exact fin _ rfl
    ·simp only[XR]at q1;obtain⟨v',rfl,hv⟩:=q1;exact fin _ ⟨v',rfl,hv⟩
   split at h
   ·rename_i a1 A1 he;exact key _ _ _ .ret he (.inl ⟨.inl rfl,rfl⟩) h
   ·rename_i a1 A1 he;exact key _ _ _ .ret he (.inl ⟨.inr rfl,rfl⟩) h
   ·rename_i v a1 A1 he;exact key _ _ _ (.pan v) he (.inr ⟨v,rfl,rfl⟩) h
   ·cases h
   ·cases h
  ·cases h
 ·cases h
noncomputable def zwY:AX->Option (Bool×AJ)
 |.normal=>some (true,.none)
 |.ret=>some (false,.ret)
 |.exit id=>some (false,.exit id)
 |.goto l=>some (false,.goto l)
 |.panic _=>none
noncomputable def zqu:Bool->LoopState
 |true=>.ready
 |false=>.done
noncomputable def su(P:sG)(same:XT)(fuel:Nat)(dr:aG->dq)(call:aG)(r:Nat)(args:List sD)(A:AW):Except String (AE×AW):=
 match A.get r with
 |some (.loop .ready _ ps asg bd t n)=>if sK args.length ps.size then
   fPs ps.toList args ⟨t,n,[]⟩ fun a0=>match evC P call same (dr call) (some r) fuel asg a0 A with
   |.ok (.normal,a1,A1)=>(match A1.get r with
    |some (.loop .ready j ps2 asg2 bd2 t2 n2)=>fW (A1.set r (some (.loop .busy j ps2 asg2 bd2 t2 n2))) fun A2=>
     (match evC P call same (dr call) (some r) fuel bd a1 A2 with
     |.ok (x,_,A3)=>(match zwY x,A3.get r with
      |some (v,jj),some (.loop _ _ ps3 asg3 bd3 t3 n3)=>fW (A3.set r (some (.loop (zqu v) jj ps3 asg3 bd3 t3 n3))) fun A4=>.ok (.ret (.bool v),A4)
      |_,_=>.error "round: its end")
     |.error s=>.error ("round > " ++s))
    |_=>.error "round: no record")
   |.ok _=>.error "round: assign"
   |.error s=>.error ("assign > " ++s)
  else .error "round: parameters"
 |_=>.error "round: not ready"
theorem zrv{v:Bool}{jj:AJ}{x:AX}{e:Exit}{l:Nat}{q:Loop}{R:Ending->sL->Prop}{b:Act}(hx:zwY x=some (v,jj))(hX:XR μ x e)(hh:w.heap[l]?=some (.loop q))(hR:R (.returned (.bool v)) (w.putObj l (.loop {q with state:=zqu v,pending:=jj.code}))):roundPost P l R e b w:=by
 cases x with
 |normal=>cases hx;simp only[XR]at hX;subst hX;exact⟨_,_,ti none hh,hR⟩
 |ret=>cases hx;simp only[XR]at hX;subst hX;exact⟨_,_,ti (some .ret) hh,hR⟩
 |exit id=>cases hx;simp only[XR]at hX;subst hX;exact⟨_,_,ti (some (.exit id)) hh,hR⟩
 |goto t=>cases hx;simp only[XR]at hX;subst hX;exact⟨_,_,ti (some (.goto t)) hh,hR⟩
 |panic v=>cases hx
theorem zlz(ps:Array Tmp)(vs:Array sD)(l:Array sD):(ps.zip vs).foldl (fun tmps (p:Tmp×sD)=>tmps.setIfInBounds p.1 p.2) l=(ps.toList.zip vs.toList).foldl (fun tmps (p:Tmp×sD)=>tmps.setIfInBounds p.1 p.2) l:=by rw[<-Array.foldl_toList,Array.toList_zip]
theorem zdG{same:XT}{fuel:Nat}{dr:aG->dq}{call:aG}(hcall:bC P call)(hsame:ck P same)(hdr:fJ P (dr call)){r:Nat}{args:List sD}{A A':AW}{e:AE}(h:su P same fuel dr call r args A=.ok (e,A'))(μ:Mu)(w:sL)(args':Array sD)(l:qX)(W:WR μ A w)(ha:LR μ args args'.toList)(hl:μ r=some l):
  ∃q:Loop,w.heap[l.b]?=some (.loop q)/\args'.size=q.params.size/\RoundIn sT 0 P l.b q.fn ((q.params.zip args').foldl (fun tmps (t,a)=>tmps.setIfInBounds t a) q.tmps) q.assign q.body w fun e' w'=>∃μ',ER μ' e e'/\WR μ' A' w'/\bG μ A w μ' A' w':=by
 unfold su at h;split at h
 ·rename_i j0 ps asg bd t n hg;split at h
  ·rename_i hlen;rw[zoM]at h;obtain⟨o1,ho1,q,rfl,g1,g2,g3,g4,g5,g6,g7⟩:=W.has _ _ _ hg hl;have hsz:args'.size=args.length:=by simpa using ha.len
   have hlen':args'.size=q.params.size:=by rw[hsz,g3];exact sU hlen
   refine⟨q,ho1,hlen',roundIn_of_wpIn (F:=sT) trivial ?_⟩;have hab0:mf μ ⟨t,n,[]⟩ {tmps:=q.tmps,defers:=[]}:=⟨g7,g6.symm,by simp[DR]⟩;have hab:mf μ (zeo ps.toList args ⟨t,n,[]⟩) {tmps:=(q.params.zip args').foldl (fun tmps (t,a)=>tmps.setIfInBounds t a) q.tmps,defers:=[]}:=by have h9:=zen ps.toList args args'.toList _ _ hab0 ha;have h10:=zlz q.params args' q.tmps;rw[g3]at h10⊢;rw[<-h10]at h9;exact h9
   rw[g4,g5];have hro:RO μ (some r) (some l.b):=⟨l,hl,rfl⟩;split at h
   ·rename_i a1 A1 he;split at h
    ·rename_i j ps2 asg2 bd2 t2 n2 hg2;rw[iP]at h;split at h
     ·rename_i x a3 A3 he3;split at h
      ·rename_i v jj st3 j3 ps3 asg3 bd3 t3 n3 hx hg3;rw[iP]at h;cases h;refine zck (ro:=some l.b) hcall hsame hdr fuel asg _ A μ _ w _ _ _ _ he W hab hro fun e1 b1 w1 ⟨μ1,q1,q2,q3,q4⟩=>?_;simp only[XR]at q1;subst q1;have hl1:=q4.le _ _ hl;obtain⟨o2,ho2,p,rfl,k1,k2,k3,k4,k5,k6,k7⟩:=q3.has _ _ _ hg2 hl1;obtain⟨W2,E2⟩:=q3.upd (o:=.loop .busy j ps2 asg2 bd2 t2 n2) (o':=.loop {p with state:=.busy}) hg2 hl1 ⟨_,rfl,rfl,k2,k3,k4,k5,k6,k7⟩;refine⟨_,run_beginRound ho2 k1,?_⟩;refine zck (ro:=some l.b) hcall hsame hdr fuel bd _ _ μ1 _ _ _ _ _ _ he3 W2.lay q2 (hro.mono q4.le) fun e3 b3 w3 ⟨μ3,r1,r2,r3,r4⟩=>?_;have hl3:=r4.le _ _ hl1;obtain⟨o3,ho3,p3,rfl,m1,m2,m3,m4,m5,m6,m7⟩:=r3.has _ _ _ hg3 hl3;obtain⟨W4,E4⟩:=r3.upd (o:=.loop (zqu v) jj ps3 asg3 bd3 t3 n3) (o':=.loop {p3 with state:=zqu v,pending:=jj.code}) hg3 hl3 ⟨_,rfl,rfl,rfl,m3,m4,m5,m6,m7⟩;exact zrv hx r1 ho3 ⟨μ3,by simp only[ER,VR],W4.lay,((q4.trans E2.lay).trans r4).trans E4.lay⟩
      ·cases h
     ·cases h
    ·cases h
   ·cases h
   ·cases h
  ·cases h
 ·cases h
noncomputable def evF(P:sG)(same:XT)(fuel:Nat)(dr:aG->dq):Nat->aG
 |0=>fun _ _ _ _=>.error "too deep"
 |n+1=>fun y f args A=>if y then su P same fuel dr (evF P same fuel dr n) f args A else sw P same fuel dr (evF P same fuel dr n) f args A
theorem iS{same:XT}{fuel:Nat}{dr:aG->dq}(hsame:ck P same)(hdr:∀call,bC P call->fJ P (dr call)):∀n,bC P (evF P same fuel dr n)
 |0=>⟨fun f args A e A' h=>(by cases h),fun f args A e A' h=>(by cases h)⟩
 |n+1=>⟨fun f args A e A' h=>zdH (iS hsame hdr n) hsame (hdr _ (iS hsame hdr n)) (show sw P same fuel dr (evF P same fuel dr n) f args A=.ok (e,A')from h),fun r args A e A' h=>zdG (iS hsame hdr n) hsame (hdr _ (iS hsame hdr n)) (show su P same fuel dr (evF P same fuel dr n) r args A=.ok (e,A')from h)⟩
end Ev
end
section
namespace Ev
variable {P:sG}
def quiet:Op->Bool
 |.move _|.assign _|.pick _ _ _|.build _ _|.unOp _ _ _|.index _ _ _|.fieldAddr _ _ _|.field _ _ _|.indexAddr _ _ _|.extract _ _|.makeFunc _ _ _|.makeInterface _ _|.nilCheck _=>true
 |_=>false
def looks(P:sG):Op->Bool
 |.load _ _|.lookup _ _ _ _|.binOp _ _ _ _ _|.slice _ _ _ _ _=>true
 |.convert _ d _=>match P.underlying d with
  |some (.slice _)=>false
  |_=>true
 |.call {callee:=.builtin .len,args:=_,argTypes:=_}|.call {callee:=.builtin .unsafeSliceData,args:=_,argTypes:=_}|.call {callee:=.builtin .max,args:=_,argTypes:=_}|.call {callee:=.builtin .min,args:=_,argTypes:=_}=>true
 |_=>false
def zvh:Operand->Bool
 |.const _=>true
 |_=>false
def early(o:Oper):Bool:=match o.op with
 |.alloc _=>o.guard.isNone
 |.makeMap _ none=>o.guard.isNone
 |.makeSlice _ _ _=>o.guard.isNone
 |.buildSlice _ _ ps=>o.guard.isNone&&ps.toList.all fun x=>zvh x.2
 |_=>false
theorem zfi{o:Oper}(h:early o=true):looks P o.op=false/\o.guard=none:=by
 unfold early at h;split at h
 ·rename_i ht;rw[ht];exact⟨rfl,by simpa using h⟩
 ·rename_i ht;rw[ht];exact⟨rfl,by simpa using h⟩
 ·rename_i ht;rw[ht];exact⟨rfl,by simpa using h⟩
 ·rename_i ht;rw[ht];rw[sH]at h;exact⟨rfl,by simpa using h.1⟩
 ·cases h
def ig(P:sG)(o:Oper):Bool:= !(quiet o.op||looks P o.op||early o)
theorem d7{x:Option sD}{A A' B:AW}{v:sD}(h:o1 x A=some (v,A')):o1 x B=some (v,B):=by obtain⟨h,_⟩:=cO h;rw[h];rfl
theorem zkE{l:bR}{o:Oper}{A A':AW}{v:sD}(hq:quiet o.op=true)(h:kK P l o A=some (v,A'))(B:AW):kK P l o B=some (v,B):=by
 obtain⟨dst,op,type,pos,after,guard⟩:=o;simp only at hq;cases op<;>simp only[quiet]at hq<;>first
  |(cases hq;done)
  |skip
 ·exact d7 h
 ·exact d7 h
 ·unfold kK at h⊢;simp only at h⊢;split at h
  ·exact d7 h
  ·exact d7 h
  ·cases h
 ·exact d7 h
 ·unfold kK at h⊢;simp only at h⊢;split at h
  ·split at h
   ·rename_i hn;cases h;rw[if_pos hn]
   ·cases h
  ·cases h
 ·exact d7 h
 ·unfold kK at h⊢;simp only at h⊢;split at h
  ·exact d7 h
  ·cases h
 next fn first captured=>
  cases fn with
  |func f=>
   unfold kK at h⊢;simp only at h⊢;split at h
   ·cases h;rfl
   ·cases h
  |method n=>cases h
  |methodOf t n=>cases h
  |via t p f b=>cases h
  |yield n=>cases h
 ·unfold kK at h⊢;simp only at h⊢;split at h
  ·exact d7 h
  ·cases h
 ·unfold kK at h⊢;simp only at h⊢;split at h
  ·exact d7 h
  ·cases h
 ·unfold kK at h⊢;simp only at h⊢;split at h
  ·exact d7 h
  ·cases h
 ·exact d7 h
 ·unfold kK at h⊢;simp only at h⊢;split at h
  ·exact d7 h
  ·cases h
theorem zgO{l:bR}{o:Oper}{A A':AW}{v:sD}(hq:looks P o.op=true)(h:kK P l o A=some (v,A')):A'=A:=by
 obtain⟨dst,op,type,pos,after,guard⟩:=o;simp only at hq;unfold looks at hq;split at hq
 ·simp only[kK]at h;split at h
  ·exact(cO h).2
  ·cases h
 ·simp only[kK]at h;split at h
  ·exact(cO h).2
  ·cases h
 ·simp only[kK]at h;split at h
  ·cases h;rfl
  ·split at h
   ·exact(cO h).2
   ·cases h
 ·rename_i t x lo hi mx;cases mx with
  |none=>
   simp only[kK]at h;split at h
   ·cases h;rfl
   ·split at h
    ·cases h;rfl
    ·split at h
     ·exact(cO h).2
     ·cases h
  |some m=>cases h
 ·rename_i s d x;split at hq
  ·cases hq
  ·rename_i hnd;simp only[kK]at h;split at h
   ·cases h;rfl
   ·split at h
    ·split at h
     ·cases h;rfl
     ·split at h
      ·cases h;rfl
      ·split at h
       ·unfold zpE at h;split at h
        ·split at h
         ·rename_i e he;exact absurd he (hnd e)
         ·cases h
        ·cases h
       ·cases h
    ·cases h
 ·rename_i args ts;obtain⟨args⟩:=args;obtain⟨ts⟩:=ts;simp only[kK,eQ]at h;split at h
  ·cases h;rfl
  ·split at h
   ·split at h
    ·split at h
     ·cases h;rfl
     ·cases h
    ·cases h
   ·rename_i e1 _;cases e1
   ·rename_i e1 _;cases e1
   ·rename_i e1 _;cases e1
   ·rename_i e1 _;cases e1
   ·rename_i e1 _;cases e1
   ·cases h
 ·rename_i args ts;obtain⟨args⟩:=args;obtain⟨ts⟩:=ts;simp only[kK,eQ]at h;split at h
  ·cases h;rfl
  ·split at h
   ·rename_i e1 _;cases e1
   ·rename_i e1 _;cases e1
   ·split at h
    ·split at h
     ·cases h;rfl
     ·cases h
    ·cases h
   ·rename_i e1 _;cases e1
   ·rename_i e1 _;cases e1
   ·rename_i e1 _;cases e1
   ·cases h
 ·rename_i args ts;obtain⟨args⟩:=args;obtain⟨ts⟩:=ts;simp only[kK,eQ]at h;split at h
  ·cases h;rfl
  ·cases h
 ·rename_i args ts;obtain⟨args⟩:=args;obtain⟨ts⟩:=ts;simp only[kK,eQ]at h;split at h
  ·cases h;rfl
  ·cases h
 ·cases hq
end Ev
end
section
namespace Ev
variable {P:sG}
def zhp(acc:List Nat):List Edge->Nat
 |[]=>0
 |e::r=>if sY .any e then (1<<<e.on)|||acc.getD e.on 0|||zhp acc r else zhp acc r
def zpu:List Oper->List Nat->List Nat
 |[],acc=>acc
 |o::r,acc=>zpu r (acc++[zhp acc o.after.toList])
def bef(ops:Array Oper)(i p:Nat):Bool:=((zpu ops.toList []).getD i 0).testBit p
def zhH(ops:Array Oper)(lst:Nat->Bool):Prop:=∀i o,ops[i]?=some o->lst i=true->∀e∈o.after.toList,sY .any e=true->lst e.on=true
def zfI(ops:Array Oper)(lst:Nat->Bool)(i:Nat):Prop:=∀o,ops[i]?=some o->∀e∈o.after.toList,sY .any e=true->lst e.on=true
theorem mY{acc:List Nat}{p:Nat}:∀{es:List Edge},(zhp acc es).testBit p=true->∃e∈es,sY .any e=true/\(p=e.on\/(acc.getD e.on 0).testBit p=true)
 |[],h=>by simp[zhp]at h
 |e::r,h=>by
  simp only[zhp]at h;split at h
  ·rename_i hb;rw[tC,tC,tj,tj]at h;rcases h with (h|h)|h
   ·rw[Nat.one_shiftLeft,Nat.testBit_two_pow]at h;have h9:e.on=p:=by simpa using h
    exact⟨e,by simp,hb,.inl h9.symm⟩
   ·exact⟨e,by simp,hb,.inr h⟩
   ·obtain⟨e',h1,h2,h3⟩:=mY h;exact⟨e',by simp[h1],h2,h3⟩
  ·obtain⟨e',h1,h2,h3⟩:=mY h;exact⟨e',by simp[h1],h2,h3⟩
def zsS(ops:Array Oper)(i x:Nat):Prop:=∀p,x.testBit p=true->p<i/\∀lst,zhH ops lst->zfI ops lst i->lst p=true
def s0(ops:Array Oper):Bool:=(sN ops.size).all fun i=>match ops[i]? with
 |some o=>o.after.toList.all fun e=> !sY .any e||tJ e.on i
 |none=>true
theorem zik{ops:Array Oper}(h:s0 ops=true){i:Nat}{o:Oper}(ho:ops[i]?=some o){e:Edge}(he:e∈o.after.toList)(hb:sY .any e=true):e.on<i:=by have hi:i<ops.size:=(sE.1 ho).1;have h1:=sI.1 h i (sJ.2 hi);rw[ho]at h1;have h2:=sI.1 h1 e he;rw[hb]at h2;simp only[sZ,tf]at h2;exact tk h2
theorem zkW{l:List Nat}{x i:Nat}:(l++[x]).getD i 0=if i<l.length then l.getD i 0 else if i=l.length then x else 0:=by
 simp only[List.getD];by_cases h:i<l.length
 ·rw[if_pos h,te h]
 ·rw[if_neg h,List.getElem?_append_right (by omega)];by_cases e:i=l.length
  ·rw[if_pos e,e];simp
  ·rw[if_neg e,tn (by simp;omega)];rfl
theorem zaM{ops:Array Oper}(h0:s0 ops=true):∀(os:List Oper)(acc:List Nat),ops.toList.drop acc.length=os->(∀i,i<acc.length->zsS ops i (acc.getD i 0))->∀i,zsS ops i ((zpu os acc).getD i 0)
 |[],acc,_,h,i=>by
  simp only[zpu];rcases tK i acc.length with hi|hi
  ·exact h i hi
  ·intro p hp;rw[List.getD,tn hi]at hp;simp at hp
 |o::r,acc,hd,h,i=>by
  simp only[zpu];have ho:ops[acc.length]?=some o:=by rw[<-sM];have:=congrArg (fun l=>l[0]?) hd;simpa using this
  refine zaM h0 r (acc++[zhp acc o.after.toList]) ?_ (fun j hj=>?_) i
  ·rw[List.length_append,List.length_singleton,<-tD,hd];rfl
  ·rw[zkW];by_cases hlt:j<acc.length
   ·rw[if_pos hlt];exact h j hlt
   ·rw[if_neg hlt];have hje:j=acc.length:=by simp at hj;omega
    rw[if_pos hje];subst hje;intro p hp;obtain⟨e,he,hb,hor⟩:=mY hp;have hlt2:=zik h0 ho he hb;rcases hor with rfl|hor
    ·exact⟨hlt2,fun lst _ hpr=>hpr o ho e he hb⟩
    ·obtain⟨h1,h2⟩:=h e.on hlt2 p hor;refine⟨by omega,fun lst hcl hpr=>h2 lst hcl fun o' ho' e' he' hb'=>?_⟩;exact hcl e.on o' ho' (hpr o ho e he hb) e' he' hb'
theorem iW{ops:Array Oper}(h0:s0 ops=true){i p:Nat}(h:bef ops i p=true):p<i/\∀lst,zhH ops lst->zfI ops lst i->lst p=true:=
 zaM h0 ops.toList [] (by simp) (fun i hi=>by simp at hi) i p h
def cI(P:sG)(ops:Array Oper)(i:Nat):Bool:=match ops[i]? with
 |some o=>ig P o
 |none=>false
def cnt(P:sG)(ops:Array Oper):Nat->Nat
 |0=>0
 |i+1=>if cI P ops i then cnt P ops i+1 else cnt P ops i
theorem oT{ops:Array Oper}:∀{i c:Nat},c<cnt P ops i->∃j,j<i/\cI P ops j=true/\cnt P ops j=c
 |0,c,h=>by simp[cnt]at h
 |i+1,c,h=>by
  simp only[cnt]at h;split at h
  ·rename_i he;rcases tK c (cnt P ops i)with h1|h1
   ·obtain⟨j,h2,h3,h4⟩:=oT h1;exact⟨j,by omega,h3,h4⟩
   ·exact⟨i,by omega,he,by omega⟩
  ·obtain⟨j,h2,h3,h4⟩:=oT h;exact⟨j,by omega,h3,h4⟩
theorem zfo{ops : Array Oper} : ∀ {i j : Nat}, i ≤ j → cnt P ops i ≤ cnt P ops j
  | i, 0, h => by have : i = 0 := by omega
                  subst this; exact ta _
  | i, j + 1, h => by
    by_cases e : i = j + 1
    · subst e; exact ta _
    · have := zfo (ops := ops) (show i ≤ j by omega)
      simp only [cnt]
      split <;> omega
theorem zph{ops:Array Oper}{i j:Nat}(h:i<j)(he:cI P ops i=true):cnt P ops i<cnt P ops j:=by
 have h1:cnt P ops (i+1)=cnt P ops i+1:=by simp[cnt,he]
 have h2:=zfo (P:=P) (ops:=ops) (show i+1<=j by omega);omega
theorem zrI{ops:Array Oper}{i j:Nat}(hi:cI P ops i=true)(hj:cI P ops j=true)(h:cnt P ops i=cnt P ops j):i=j:=by
 rcases tw i j with h1|h1|h1
 ·have:=zph h1 hi;omega
 ·exact h1
 ·have:=zph h1 hj;omega
def bZ(ops:Array Oper)(i:Nat):Bool:=match ops[i]? with
 |some o=>early o
 |none=>false
def bO(ops:Array Oper):Nat->Nat
 |0=>0
 |i+1=>if bZ ops i then bO ops i+1 else bO ops i
theorem zaG{ops : Array Oper} : ∀ {i j : Nat}, i ≤ j → bO ops i ≤ bO ops j
  | i, 0, h => by have : i = 0 := by omega
                  subst this; exact ta _
  | i, j + 1, h => by
    by_cases e : i = j + 1
    · subst e; exact ta _
    · have := zaG (ops := ops) (show i ≤ j by omega)
      simp only [bO]
      split <;> omega
theorem oS{ops:Array Oper}{i j:Nat}(h:i<j)(he:bZ ops i=true):bO ops i<bO ops j:=by
 have h1:bO ops (i+1)=bO ops i+1:=by simp[bO,he]
 have h2:=zaG (ops:=ops) (show i+1<=j by omega);omega
theorem zoW{ops:Array Oper}{i j:Nat}(hi:bZ ops i=true)(hj:bZ ops j=true)(h:bO ops i=bO ops j):i=j:=by
 rcases tw i j with h1|h1|h1
 ·have:=oS h1 hi;omega
 ·exact h1
 ·have:=oS h1 hj;omega
theorem zoX{ops:Array Oper}{i:Nat}(h:bZ ops i=true):i<ops.size:=by
 unfold bZ at h;cases ho:ops[i]? with
 |none=>rw[ho]at h;cases h
 |some o=>exact(sE.1 ho).1
def nD(P:sG)(ops:Array Oper)(i j:Nat):Bool:=(sN ops.size).all fun k=> !cI P ops k||(if tJ (cnt P ops k) j then !bef ops k i else !bef ops i k)
def dk(ops:Array Oper)(i:Nat):Option Tmp:=(ops[i]?).bind (·.dst)
def eqT:Option Tmp->Nat->Bool
 |some d,t=>sK d t
 |none,_=>false
theorem oR{x:Option Tmp}{t:Nat}:eqT x t=true ↔ x=some t:=by
 cases x with
 |none=>simp[eqT]
 |some d=>simp only[eqT,Option.some.injEq];exact Nat.beq_eq ▸ Iff.rfl
def zgE(P:sG)(ops:Array Oper)(size:Nat):Bool:=
 s0 ops&&
 ((sN ops.size).all fun i=>match dk ops i with
  |some d=>tJ d size&&(sN ops.size).all fun j=>sK j i||!eqT (dk ops j) d
  |none=>true)&&
 ((sN ops.size).all fun i=>match ops[i]? with
  |some o=>(o.looksAt ops).all fun t=>(sN ops.size).all fun j=> !eqT (dk ops j) t||sK j i||bef ops i j||bef ops j i
  |none=>true)&&
 ((sN ops.size).all fun i=> !cI P ops i||(sN i).all fun j=> !cI P ops j||bef ops i j)
structure OkD(P:sG)(ops:Array Oper)(size:Nat):Prop where
 h0:s0 ops=true
 small:∀i d,dk ops i=some d->d<size
 uniq:∀i j d,dk ops i=some d->dk ops j=some d->i=j
 deps:∀i o t j,ops[i]?=some o->t∈o.looksAt ops->dk ops j=some t->j=i\/bef ops i j=true\/bef ops j i=true
 chain:∀i j,cI P ops i=true->cI P ops j=true->j<i->bef ops i j=true
theorem mV{ops:Array Oper}{i d:Nat}(h:dk ops i=some d):i<ops.size:=by
 unfold dk at h;cases ho:ops[i]? with
 |none=>rw[ho]at h;cases h
 |some o=>exact(sE.1 ho).1
theorem zoV{ops:Array Oper}{i:Nat}(h:cI P ops i=true):i<ops.size:=by
 unfold cI at h;cases ho:ops[i]? with
 |none=>rw[ho]at h;cases h
 |some o=>exact(sE.1 ho).1
theorem zey{ops:Array Oper}{size:Nat}(h:zgE P ops size=true):OkD P ops size:=by
 unfold zgE at h;simp only[sH]at h;obtain⟨⟨⟨h0,h1⟩,h2⟩,h3⟩:=h;refine⟨h0,fun i d hd=>?_,fun i j d hi hj=>?_,fun i o t j ho ht hj=>?_,fun i j hi hj hlt=>?_⟩
 ·have:=sI.1 h1 i (sJ.2 (mV hd));rw[hd]at this;simp only[sH]at this;exact tk this.1
 ·have:=sI.1 h1 i (sJ.2 (mV hi));rw[hi]at this;simp only[sH]at this;have h5:=sI.1 this.2 j (sJ.2 (mV hj));rw[oR.2 hj]at h5;simp only[sZ,Bool.or_false]at h5;exact(sU h5).symm
 ·have:=sI.1 h2 i (sJ.2 (sE.1 ho).1);rw[ho]at this;have h5:=sI.1 (sI.1 this t ht) j (sJ.2 (mV hj));rw[oR.2 hj]at h5;simp only[sZ,tf,tj]at h5;rcases h5 with (h5|h5)|h5
  ·exact .inl (sU h5)
  ·exact .inr (.inl h5)
  ·exact .inr (.inr h5)
 ·have:=sI.1 h3 i (sJ.2 (zoV hi));rw[hi]at this;simp only[sZ,tf]at this;have h5:=sI.1 this j (sJ.2 hlt);rw[hj]at h5;simpa using h5
def fC(ops:Array Oper)(t:Nat):Option Nat:=(sN ops.size).find? fun p=>eqT (dk ops p) t
theorem dQ{ops:Array Oper}{t p:Nat}(h:fC ops t=some p):dk ops p=some t:=by unfold fC at h;have h1:=List.find?_some (p:=fun p=>eqT (dk ops p) t) h;exact oR.1 h1
theorem mh{ops:Array Oper}{size t p:Nat}(hk:OkD P ops size)(h:dk ops p=some t):fC ops t=some p:=by
 cases hw:fC ops t with
 |none=>unfold fC at hw;have:=List.find?_eq_none.1 hw p (sJ.2 (mV h));exact absurd (oR.2 h) this
 |some q=>rw[hk.uniq p q t h (dQ hw)]
noncomputable def tv(ops:Array Oper)(val:Nat->sD)(l0:bR)(lst:Nat->Bool)(t:Nat):Option sD:=
 match fC ops t with
 |some p=>if lst p then some (val p)else l0.get t
 |none=>l0.get t
noncomputable def zfa{α:Type}(l:bR)(ts:List Nat):(bR->α)->α:=
 List.rec (motive:=fun _=>(bR->α)->α) (fun k=>k .nil) (fun t _ ih k=>ih fun m=>Option.rec (motive:=fun _=>α) (k m) (fun v=>Tr.fput (some v) (tg t) m t k) (l.get t)) ts
noncomputable def j7(l:bR):List Nat->bR
 |[]=>.nil
 |t::r=>match l.get t with
  |some v=>Tr.put (some v) (t+1) (j7 l r) t
  |none=>j7 l r
theorem lQ{α:Type}(l:bR):∀(ts:List Nat)(k:bR->α),zfa l ts k=k (j7 l ts)
 |[],k=>rfl
 |t::r,k=>by
  show zfa l r (fun m=>Option.rec (motive:=fun _=>α) (k m) (fun v=>Tr.fput (some v) (tg t) m t k) (l.get t))=_;rw[lQ l r];simp only[j7];cases h:l.get t with
  |none=>rfl
  |some v=>simp only;rw[Tr.fput_eq]
theorem qd{l:bR}:∀{ts:List Nat} {t:Nat} {v:sD},(j7 l ts).get t=some v->t∈ts/\l.get t=some v
 |[],t,v,h=>by simp only[j7,Tr.get_nil]at h;cases h
 |s::r,t,v,h=>by
  simp only[j7]at h;split at h
  ·rename_i u hu;rw[Tr.get_put _ _ _ _ _ (by omega)]at h;split at h
   ·rename_i e;subst e;cases h;exact⟨by simp,hu⟩
   ·obtain⟨h1,h2⟩:=qd h;exact⟨by simp[h1],h2⟩
  ·obtain⟨h1,h2⟩:=qd h;exact⟨by simp[h1],h2⟩
def zmy:sD->sD->Bool
 |.bool a,.bool b=>a==b
 |.int .i64 a,.int .i64 b=>a==b
 |.int .u8 a,.int .u8 b=>a==b
 |.int .i32 a,.int .i32 b=>a==b
 |.int .u16 a,.int .u16 b=>a==b
 |.int .u32 a,.int .u32 b=>a==b
 |.int .u64 a,.int .u64 b=>a==b
 |.string a,.string b=>a.data.toList==b.data.toList
 |.pointer none,.pointer none=>true
 |.pointer (some ⟨a,o,none⟩),.pointer (some ⟨b,p,none⟩)=>sK a b&&sK o p
 |.slice none n c,.slice none m d=>sK n m&&sK c d
 |.slice (some ⟨a,o,none⟩) n c,.slice (some ⟨b,p,none⟩) m d=>sK a b&&sK o p&&sK n m&&sK c d
 |.map none,.map none=>true
 |.map (some a),.map (some b)=>sK a b
 |.nilFunc,.nilFunc=>true
 |.func (.func f) ⟨[]⟩ ⟨[]⟩,.func (.func g) ⟨[]⟩ ⟨[]⟩=>sK f g
 |.func (.yield f) ⟨[]⟩ ⟨[]⟩,.func (.yield g) ⟨[]⟩ ⟨[]⟩=>sK f g
 |.nilIface,.nilIface=>true
 |_,_=>false
theorem dV{a b:Nat}(h:sK a b=true):a=b:=sU h
theorem zbd{x y:sD}(h:zmy x y=true):x=y:=by
 unfold zmy at h;split at h<;>first
  |rfl
  |(cases h;done)
  |(rw[eq_of_beq h];done)
  |(simp only[sH]at h;obtain⟨h1,h2⟩:=h;rw[dV h1,dV h2];done)
  |(simp only[sH]at h;obtain⟨⟨⟨h1,h2⟩,h3⟩,h4⟩:=h;rw[dV h1,dV h2,dV h3,dV h4];done)
  |(rw[dV h];done)
  |(rename_i a b;obtain⟨⟨a⟩⟩:=a;obtain⟨⟨b⟩⟩:=b;have:=eq_of_beq h;simp only at this;rw[this])
def rz:List sD->List sD->Bool
 |[],[]=>true
 |x::xs,y::ys=>zmy x y&&rz xs ys
 |_,_=>false
theorem eZ:∀{xs ys:List sD},rz xs ys=true->xs=ys
 |[],[],_=>rfl
 |x::xs,y::ys,h=>by simp only[rz,sH]at h;rw[zbd h.1,eZ h.2]
 |[],_::_,h=>by cases h
 |_::_,[],h=>by cases h
def veq:sD->sD->Bool
 |.agg ⟨x⟩,.agg ⟨y⟩=>rz x y
 |.tuple ⟨x⟩,.tuple ⟨y⟩=>rz x y
 |.func (.func f) ⟨x⟩ ⟨y⟩,.func (.func g) ⟨u⟩ ⟨v⟩=>sK f g&&rz x u&&rz y v
 |.iface t x,.iface u y=>sK t u&&zmy x y
 |x,y=>zmy x y
theorem mq{x y:sD}(h:veq x y=true):x=y:=by
 unfold veq at h;split at h
 ·rw[eZ h]
 ·rw[eZ h]
 ·simp only[sH]at h;obtain⟨⟨h1,h2⟩,h3⟩:=h;rw[dV h1,eZ h2,eZ h3]
 ·simp only[sH]at h;rw[dV h.1,zbd h.2]
 ·exact zbd h
end Ev
end
section
namespace Ev
variable {P:sG}
noncomputable def A00:AW:=⟨[],.nil,ng⟩
def zeP:sD->Bool
 |.pointer (some ⟨b,0,none⟩)=>sK b ng
 |.map (some b)=>sK b ng
 |.slice (some ⟨b,0,none⟩) _ c=>sK b ng&&tJ c px
 |_=>false
def rn(e:Nat):sD->sD
 |.pointer (some _)=>.pointer (some ⟨e,0,none⟩)
 |.map (some _)=>.map (some e)
 |.slice (some _) n c=>.slice (some ⟨e,0,none⟩) n c
 |v=>v
def zuU:sD->Nat
 |.pointer (some a)=>a.block
 |.map (some r)=>r
 |.slice (some a) _ _=>a.block
 |_=>0
theorem zrb{e:Nat}{v:sD}(h:zeP v=true):zuU (rn e v)=e:=by
 unfold zeP at h;split at h<;>first
  |rfl
  |cases h
def zoy:bz->Bool
 |.cells vs _ _ _ _=>bF vs
 |.map [] _=>true
 |_=>false
def zwU:Option Nat->Option Nat->Bool
 |none,none=>true
 |some a,some b=>sK a b
 |_,_=>false
def iF:bz->bz->Bool
 |.cells vs t op fz es,.cells vs' t' op' fz' es'=>rz vs vs'&&sK t t'&&(op==op')&&zwU fz fz'&&sK es es'
 |.map [] c,.map [] c'=>sK c c'
 |_,_=>false
theorem eL{x y:bz}(h:iF x y=true):x=y:=by
 unfold iF at h;split at h
 ·rename_i vs t op fz es vs' t' op' fz' es';simp only[sH]at h;obtain⟨⟨⟨⟨h1,h2⟩,h3⟩,h4⟩,h5⟩:=h;have h6:fz=fz':=by
   unfold zwU at h4;split at h4
   ·rfl
   ·rw[dV h4]
   ·cases h4
  rw[eZ h1,dV h2,eq_of_beq h3,h6,dV h5]
 ·rw[dV h]
 ·cases h
noncomputable def mkE(P:sG)(ts:List Nat)(m:bR)(o:Oper):Option (sD×bz):=
 if ts.all (fun t=>match m.get t with
  |some v=>bS v
  |none=>true)then match kK P m o A00 with
  |some (v,A1)=>if zeP v then match A1.get ng with
    |some obj=>if zoy obj then some (v,obj)else none
    |none=>none
   else none
  |none=>none
 else none
theorem zqS{ts:List Nat}{m:bR}{o:Oper}{v:sD}{obj:bz}(h:mkE P ts m o=some (v,obj)):zeP v=true:=by
 unfold mkE at h;split at h
 ·split at h
  ·split at h
   ·rename_i hn;split at h
    ·split at h
     ·cases h;exact hn
     ·cases h
    ·cases h
   ·cases h
  ·cases h
 ·cases h
end Ev
end
section
namespace Ev
variable {P:sG}
abbrev Rc:=Bool×sD×bR
noncomputable def dgo(P:sG)(call:aG)(same:XT)(rd:Option Nat)(ops:Array Oper)(size:Nat)(ds:List gV):List Oper->bR->AW->Nat->Except String (List Rc×List AW×bR)
 |[],l,_,_=>.ok ([],[],l)
 |o::r,l,A,e=>if early o then zfa l (o.looksAt ops) fun m=>match mkE P (o.looksAt ops) m o with
   |some (v0,_)=>fV (rn e v0) fun v=>dj ⟨l,size,ds⟩ o.dst v fun a'=>fN (e+1) fun e'=>match dgo P call same rd ops size ds r a'.tmps A e' with
    |.ok (rs,Ms,lf)=>.ok ((true,v,m)::rs,Ms,lf)
    |.error s=>.error s
   |none=>.error ("draw: new " ++o.pos)
  else zfa l (o.looksAt ops) fun m=>match dM ops m o with
  |some true=>if ig P o then
    match ce P call same rd o ⟨m,size,ds⟩ A with
    |.ok (.val v,A')=>fV v fun v=>dj ⟨l,size,ds⟩ o.dst v fun a'=>fW A' fun A'=>match dgo P call same rd ops size ds r a'.tmps A' e with
     |.ok (rs,Ms,lf)=>.ok ((true,v,m)::rs,A'::Ms,lf)
     |.error s=>.error s
    |.ok _=>.error ("draw: " ++o.pos)
    |.error s=>.error s
   else match kK P m o A with
    |some (v,_)=>fV v fun v=>dj ⟨l,size,ds⟩ o.dst v fun a'=>match dgo P call same rd ops size ds r a'.tmps A e with
     |.ok (rs,Ms,lf)=>.ok ((true,v,m)::rs,Ms,lf)
     |.error s=>.error s
    |none=>.error ("draw op: " ++o.pos)
  |some false=>dj ⟨l,size,ds⟩ o.dst undef fun a'=>match dgo P call same rd ops size ds r a'.tmps A e with
   |.ok (rs,Ms,lf)=>.ok ((false,undef,m)::rs,if ig P o then A::Ms else Ms,lf)
   |.error s=>.error s
  |none=>.error ("draw guard: " ++o.pos)
noncomputable def ei(recs:List Rc)(i:Nat):sD:=match recs[i]? with
 |some (_,v,_)=>v
 |none=>undef
def zsc(P:sG)(call:aG)(same:XT)(rd:Option Nat)(ops:Array Oper)(size:Nat)(ds:List gV)(l0:bR)(recs:List Rc)(mems:List AW)(base i:Nat)(o:Oper):Prop:=
 ∃wt v m,recs[i]?=some (wt,v,m)/\dM ops m o=some wt/\(∀t u,m.get t=some u->t∈o.looksAt ops/\tv ops (ei recs) l0 (fun p=>decide (p<i)) t=some u)/\(wt=false->v=undef)∧
  (ig P o=true->∃A A',mems[cnt P ops i]?=some A/\mems[cnt P ops i+1]?=some A'/\(wt=true->∃A1,ce P call same rd o ⟨m,size,ds⟩ A=.ok (.val v,A1)/\A'=fG A1)/\(wt=false->A'=A))∧
  (ig P o=false->early o=false->wt=true->∃A A',mems[cnt P ops i]?=some A/\kK P m o A=some (v,A'))/\(early o=true->∃v0 obj,mkE P (o.looksAt ops) m o=some (v0,obj)/\v=rn (base+bO ops i) v0)
theorem zaH{o:Oper}(h:early o=true):ig P o=false:=by simp[ig,h]
theorem zcm{ops:Array Oper}{m:bR}{o:Oper}(P:sG)(h:early o=true):dM ops m o=some true:=by unfold dM;rw[(zfi (P:=P) h).2]
theorem zux{ops:Array Oper}{size i:Nat}{ds:List gV}{l l0:bR}{recs:List Rc}{v:sD}{o:Oper}(hk:OkD P ops size)(ho:ops[i]?=some o)(hl:∀t,l.get t=tv ops (ei recs) l0 (fun p=>decide (p<i)) t)(hv:ei recs i=v)(t:Nat):
  ((AA.mk l size ds).put o.dst v).tmps.get t=tv ops (ei recs) l0 (fun p=>decide (p<i+1)) t:=by
 have hdst:dk ops i=o.dst:=by simp[dk,ho]
 have other:∀p,fC ops t=some p->p≠i->(decide (p<i+1))=decide (p<i):=fun p _ hp=>by rw[decide_eq_decide];omega
 have keep:(∀d,o.dst=some d->t≠d)->tv ops (ei recs) l0 (fun p=>decide (p<i+1)) t=l.get t:=fun hne=>by
  rw[hl t];unfold tv;split
  ·rename_i p hp;have hpi:p≠i:=fun e=>by subst e;have:=dQ hp;rw[hdst]at this;exact hne t this rfl
   simp only[other p hp hpi]
  ·rfl
 cases hd:o.dst with
 |none=>simp only[AA.put];rw[keep (fun d h=>by rw[hd]at h;cases h)]
 |some d=>
  have hsm:=hk.small i d (by rw[hdst,hd]);have hb:Nat.ble (tg d) size=true:=Nat.ble_eq_true_of_le hsm;simp only[AA.put,hb,if_true];rw[Tr.get_put _ _ _ _ _ (by omega)];by_cases e:t=d
  ·subst e;rw[if_pos rfl];have:=mh hk (show dk ops i=some t by rw[hdst,hd]);unfold tv;rw[this];simp[hv]
  ·rw[if_neg e,keep (fun d' h=>by rw[hd]at h;cases h;exact e)]
theorem bA{α:Type}{l r:List α}{x:α}{i:Nat}(h:l.drop i=x::r):l[i]?=some x/\l.drop (i+1)=r:=by
 constructor
 ·have:=congrArg (fun l=>l[0]?) h;simpa using this
 ·rw[<-tD,h];rfl
theorem zfm{call:aG}{same:XT}{rd:Option Nat}{ops:Array Oper}{size base:Nat}{ds:List gV}{l0:bR}(hk:OkD P ops size){recs:List Rc}{mems:List AW}:∀(os:List Oper)(i:Nat)(l:bR)(A:AW)(e:Nat)(rs:List Rc)(Ms:List AW)(lf:bR),e=base+bO ops i->
  ops.toList.drop i=os->dgo P call same rd ops size ds os l A e=.ok (rs,Ms,lf)->recs.drop i=rs->mems.drop (cnt P ops i)=A::Ms->(∀t,l.get t=tv ops (ei recs) l0 (fun p=>decide (p<i)) t)->
  (∀q o,i<=q->ops[q]?=some o->zsc P call same rd ops size ds l0 recs mems base q o)/\(∀t,lf.get t=tv ops (ei recs) l0 (fun p=>decide (p<i+os.length)) t)/\Ms.length+cnt P ops i=cnt P ops (i+os.length)
 |[],i,l,A,e,rs,Ms,lf,hee,hos,h,hrs,hms,hl=>by simp only[dgo]at h;cases h;refine⟨fun q o hq ho=>?_,fun t=>by simpa using hl t,by simp⟩;have h1:ops.toList.length<=i:=sP.1 hos;have h2:=(sE.1 ho).1;simp at h1;omega
 |o::r,i,l,A,e,rs,Ms,lf,hee,hos,h,hrs,hms,hl=>by
  obtain⟨ho',hor⟩:=bA hos;have ho:ops[i]?=some o:=by rw[<-sM];exact ho'
  have hmem:=(bA hms).1;have heff:cI P ops i=ig P o:=by simp[cI,ho]
  have hmask:∀t u,(j7 l (o.looksAt ops)).get t=some u->t∈o.looksAt ops/\tv ops (ei recs) l0 (fun p=>decide (p<i)) t=some u:=fun t u hu=>by obtain⟨h1,h2⟩:=qd hu;exact⟨h1,by rw[<-hl t];exact h2⟩
  have hisy:bZ ops i=early o:=by simp[bZ,ho]
  have finish:∀(wt:Bool)(v:sD)(A1:AW)(e1:Nat)(rs1:List Rc)(Ms1:List AW),e1=base+bO ops (i+1)->rs=(wt,v,j7 l (o.looksAt ops))::rs1->dgo P call same rd ops size ds r ((AA.mk l size ds).put o.dst v).tmps A1 e1=.ok (rs1,Ms1,lf)->(mems.drop (cnt P ops (i+1))=A1::Ms1)->(Ms.length+cnt P ops i=Ms1.length+cnt P ops (i+1))->
    (recs[i]?=some (wt,v,j7 l (o.looksAt ops))->zsc P call same rd ops size ds l0 recs mems base i o)->
    (∀q o,i<=q->ops[q]?=some o->zsc P call same rd ops size ds l0 recs mems base q o)/\(∀t,lf.get t=tv ops (ei recs) l0 (fun p=>decide (p<i+(o::r).length)) t)/\Ms.length+cnt P ops i=cnt P ops (i+(o::r).length):=by
   intro wt v A1 e1 rs1 Ms1 he1 hr hd hm hlen hE;rw[hr]at hrs;obtain⟨hri,hrr⟩:=bA hrs;have hv:ei recs i=v:=by simp[ei,hri]
   obtain⟨g1,g2,g3⟩:=zfm hk r (i+1) _ A1 e1 rs1 Ms1 lf he1 hor hd hrr hm (zux hk ho hl hv);refine⟨fun q o' hq hq'=>?_,fun t=>?_,?_⟩
   ·by_cases eq:q=i
    ·subst eq;rw[ho]at hq';cases hq';exact hE hri
    ·exact g1 q o' (by omega) hq'
   ·rw[g2 t,show i+1+r.length=i+(o::r).length by simp only[sR];omega]
   ·rw[show i+1+r.length=i+(o::r).length by simp only[sR];omega]at g3;omega
  unfold dgo at h;by_cases hey:early o=true
  ·rw[if_pos hey,lQ]at h;split at h
   ·rename_i v0 obj hmk;rw[ka,bN,cR]at h;split at h
    ·rename_i rs1 Ms1 lf1 h2;cases h;have hc:cnt P ops (i+1)=cnt P ops i:=by simp[cnt,heff,zaH (P:=P) hey]
     refine finish true _ A (e+1) rs1 Ms (by simp only[bO,hisy,hey,if_true];omega) rfl h2 (by rw[hc];exact hms) (by rw[hc]) fun hri=>?_;exact⟨true,_,_,hri,zcm P hey,hmask,fun hh=>(by cases hh),fun hh=>(by rw[zaH hey]at hh;cases hh),fun _ hh=>(by rw[hey]at hh;cases hh),fun _=>⟨v0,obj,hmk,by rw[hee]⟩⟩
    ·cases h
   ·cases h
  have hey':early o=false:=by simpa using hey
  have hen:e=base+bO ops (i+1):=by simp only[bO,hisy,hey'];exact hee
  rw[if_neg hey,lQ]at h;split at h
  ·rename_i hw;split at h
   ·rename_i he;split at h
    ·rename_i v A1 h1;rw[ka,bN,iP]at h;split at h
     ·rename_i rs1 Ms1 lf1 h2;cases h;have hc:cnt P ops (i+1)=cnt P ops i+1:=by simp[cnt,heff,he]
      have hms2:mems.drop (cnt P ops i+1)=fG A1::Ms1:=(bA hms).2;refine finish true v (fG A1) e rs1 Ms1 hen rfl h2 (by rw[hc];exact hms2) (by simp only[sR];omega) fun hri=>?_;refine⟨true,v,_,hri,hw,hmask,fun hh=>(by cases hh),fun _=>⟨A,fG A1,hmem,(bA hms2).1,fun _=>⟨A1,h1,rfl⟩,fun hh=>(by cases hh)⟩,fun hh=>(by rw[he]at hh;cases hh),fun hh=>(by rw[hey']at hh;cases hh)⟩
     ·cases h
    ·cases h
    ·cases h
   ·rename_i he;have he':ig P o=false:=by simpa using he
    split at h
    ·rename_i v A1 h1;rw[ka,bN]at h;split at h
     ·rename_i rs1 Ms1 lf1 h2;cases h;have hc:cnt P ops (i+1)=cnt P ops i:=by simp[cnt,heff,he']
      refine finish true v A e rs1 Ms hen rfl h2 (by rw[hc];exact hms) (by rw[hc]) fun hri=>?_;refine⟨true,v,_,hri,hw,hmask,fun hh=>(by cases hh),fun hh=>(by rw[he']at hh;cases hh),fun _ _ _=>⟨A,A1,hmem,h1⟩,fun hh=>(by rw[hey']at hh;cases hh)⟩
     ·cases h
    ·cases h
  ·rename_i hw;rw[bN]at h;split at h
   ·rename_i rs1 Ms1 lf1 h2;cases h;by_cases he:ig P o=true
    ·have hc:cnt P ops (i+1)=cnt P ops i+1:=by simp[cnt,heff,he]
     rw[if_pos he]at hms;have hms2:mems.drop (cnt P ops i+1)=A::Ms1:=(bA hms).2;have:=finish false undef A e rs1 Ms1 hen rfl h2 (by rw[hc];exact hms2) (by rw[if_pos he];simp only[sR];omega) fun hri=>⟨false,undef,_,hri,hw,hmask,fun _=>rfl,fun _=>⟨A,A,hmem,(bA hms2).1,fun hh=>(by cases hh),fun _=>rfl⟩,fun hh=>(by rw[he]at hh;cases hh),fun hh=>(by rw[hey']at hh;cases hh)⟩;exact this
    ·have he':ig P o=false:=by simpa using he
     have hc:cnt P ops (i+1)=cnt P ops i:=by simp[cnt,heff,he']
     rw[if_neg he]at hms;have:=finish false undef A e rs1 Ms1 hen rfl h2 (by rw[hc];exact hms) (by rw[if_neg he,hc]) fun hri=>⟨false,undef,_,hri,hw,hmask,fun _=>rfl,fun hh=>(by rw[he']at hh;cases hh),fun _ _ hh=>(by cases hh),fun hh=>(by rw[hey']at hh;cases hh)⟩;exact this
   ·cases h
  ·cases h
noncomputable def zcb(P:sG)(ops:Array Oper)(o:Oper)(m:bR)(v:sD)(A:AW):Bool:=match mkE P (o.looksAt ops) m o with
 |some (_,obj)=>(match A.get (zuU v)with
  |some obj'=>iF obj' obj
  |none=>false)
 |none=>false
noncomputable def zlh(P:sG)(ops:Array Oper)(mems:List AW):List Oper->Nat->List Rc->Bool
 |o::r,i,(wt,v,m)::rs=>(if wt&&looks P o.op then (sN mems.length).all fun j=> !nD P ops i j||(match mems[j]? with
   |some A=>(match kK P m o A with
    |some (v',_)=>veq v' v
    |none=>false)
   |none=>false)else if early o then (sN mems.length).all fun j=> !nD P ops i j||(match mems[j]? with
   |some A=>zcb P ops o m v A
   |none=>false)else true)&&zlh P ops mems r (i+1) rs
 |_,_,_=>true
theorem zaK{ops:Array Oper}{mems:List AW}{recs:List Rc}:∀(os:List Oper)(i:Nat)(rs:List Rc),ops.toList.drop i=os->recs.drop i=rs->zlh P ops mems os i rs=true->∀q o wt v m,i<=q->ops[q]?=some o->recs[q]?=some (wt,v,m)->wt=true->looks P o.op=true->
  ∀j A,nD P ops q j=true->mems[j]?=some A->∃A',kK P m o A=some (v,A')
 |[],i,rs,hos,hrs,h,q,o,wt,v,m,hq,ho,hr,hwt,hlk,j,A,hj,hA=>by have h1:ops.toList.length<=i:=sP.1 hos;have h2:=(sE.1 ho).1;simp at h1;omega
 |o'::r,i,[],hos,hrs,h,q,o,wt,v,m,hq,ho,hr,hwt,hlk,j,A,hj,hA=>by have h1:recs.length<=i:=sP.1 hrs;have h2:=(sO.1 hr).1;omega
 |o'::r,i,(wt',v',m')::rs,hos,hrs,h,q,o,wt,v,m,hq,ho,hr,hwt,hlk,j,A,hj,hA=>by
  simp only[zlh,sH]at h;obtain⟨ho',hor⟩:=bA hos;obtain⟨hr',hrr⟩:=bA hrs;by_cases e:q=i
  ·subst e;rw[hr]at hr';cases hr';have:ops[q]?=some o':=by rw[<-sM];exact ho'
   rw[ho]at this;cases this;subst hwt;have h1:=h.1;rw[hlk]at h1;have hjl:=(sO.1 hA).1;have h2:=sI.1 (show(sN mems.length).all _=true from h1) j (sJ.2 hjl);rw[hj,hA]at h2;simp only[sZ,tf]at h2;split at h2
   ·rename_i v'' A' h3;rw[mq h2]at h3;exact⟨A',h3⟩
   ·cases h2
  ·exact zaK r (i+1) rs hor hrr h.2 q o wt v m (by omega) ho hr hwt hlk j A hj hA
theorem nZ{o:Oper}(h:early o=true):looks P o.op=false:=(zfi h).1
theorem qJ{ops:Array Oper}{mems:List AW}{recs:List Rc}:∀(os:List Oper)(i:Nat)(rs:List Rc),ops.toList.drop i=os->recs.drop i=rs->zlh P ops mems os i rs=true->∀q o wt v m,i<=q->ops[q]?=some o->recs[q]?=some (wt,v,m)->early o=true->
  ∀j A,nD P ops q j=true->mems[j]?=some A->zcb P ops o m v A=true
 |[],i,rs,hos,hrs,h,q,o,wt,v,m,hq,ho,hr,hlk,j,A,hj,hA=>by have h1:ops.toList.length<=i:=sP.1 hos;have h2:=(sE.1 ho).1;simp at h1;omega
 |o'::r,i,[],hos,hrs,h,q,o,wt,v,m,hq,ho,hr,hlk,j,A,hj,hA=>by have h1:recs.length<=i:=sP.1 hrs;have h2:=(sO.1 hr).1;omega
 |o'::r,i,(wt',v',m')::rs,hos,hrs,h,q,o,wt,v,m,hq,ho,hr,hlk,j,A,hj,hA=>by
  simp only[zlh,sH]at h;obtain⟨ho',hor⟩:=bA hos;obtain⟨hr',hrr⟩:=bA hrs;by_cases e:q=i
  ·subst e;rw[hr]at hr';cases hr';have:ops[q]?=some o':=by rw[<-sM];exact ho'
   rw[ho]at this;cases this;have h1:=h.1;rw[nZ (P:=P) hlk]at h1;simp only[td,if_false,hlk,if_true,and_false]at h1;have hjl:=(sO.1 hA).1;have h2:=sI.1 h1 j (sJ.2 hjl);rw[hj,hA]at h2;simpa using h2
  ·exact qJ r (i+1) rs hor hrr h.2 q o wt v m (by omega) ho hr hlk j A hj hA
end Ev
end
end Go.Proofs.YtbbapnpdfcgjnaaGreatDoor
