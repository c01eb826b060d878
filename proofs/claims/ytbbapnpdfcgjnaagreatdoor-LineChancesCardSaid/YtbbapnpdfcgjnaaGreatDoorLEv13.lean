/- Ev13, Ev14, Ev15, Ev16, EvM: parts of the proof, joined. -/
import Derived.Test.YtbbapnpdfcgjnaaGreatDoorLEvQ
open Bool renaming and_eq_true->xa, not_true->xp, or_eq_true->xq, false_or->xw, false_eq_true->xx
open List renaming all_eq_true->xb, mem_range->xf, range->xg, getElem?_append_left->xn, getElem?_eq_none->xt, length_cons->xz, mapM_cons->xA
open Nat renaming beq->xd, eq_of_beq_eq_true->xh, le_refl->xk, le_of_ble_eq_true->xr, succ->xu, lt_trichotomy->xy, testBit_or->xB, blt->xC, lt_or_ge->xD
open Array renaming getElem?_eq_some_iff->xe, replicate->xi, getElem?_toList->xj, getD_eq_getD_getElem?->xm, toList_append->xv
set_option maxHeartbeats 64000000
namespace Go.Proofs.YtbbapnpdfcgjnaaGreatDoor
section
namespace Ev
variable {P:Program} {μ:Mu} {A:AW} {w:World}
theorem zeq (P:Program) (ro:Option Nat) (m:Machine):m.fenced P (FR ro):=fenced_wide P m
theorem zvw (ro:Option Nat) (n:Nat):(FR ro).room n:=fun d hd=>by cases hd
theorem zlo {b:Frame} {a:Act} {k:List Item} {cs:List Frame} {c:Code}:step P (lone (b.atR a (.code (.scope c)::k)) cs w)= .next (lone (b.atR a (.code c:: .inScope c::k)) cs w):=
 step_lone_go (by simp[stepG,stepG.exec,Frame.atR])
theorem zhW {b:Frame} {a:Act} {k:List Item} {cs:List Frame} {c:Code}:step P (lone (b.atR a (.inScope c::k)) cs w)= .next (lone (b.atR a k) cs w):=
 step_lone_go (by simp[stepG,stepG.exec,Frame.atR])
def zdn (ro:Option Nat) (P:Program) (c:Code) (Q:Exit->Act->World->Prop) (a:Act) (w:World):Prop:=
 ∀(b:Frame) (k:List Item) (cs:List Frame),b.roundOf=ro->∃e a' w',Q e a' w'/\ArrivesIn (Machine.fenced P (FR ro)) P (lone (b.atR a (.inLoop c::k)) cs w) b k cs e a' w'
theorem zdT {ro:Option Nat} {c:Code} {Q:Exit->Act->World->Prop} {a:Act} (h:c.wpIn (FR ro) 0 P (Exit.then (zdn ro P c Q) Q) a w) (b:Frame) (k:List Item) (cs:List Frame) (hb:b.roundOf=ro):
  ∃e a' w',Q e a' w'/\ArrivesIn (Machine.fenced P (FR ro)) P (lone (b.atR a (.code c:: .inLoop c::k)) cs w) b k cs e a' w':=by
 obtain⟨e,a₁,w₁,hq,harr⟩:=h b (.inLoop c::k) cs hb trivial (zvw _ _)
 cases e with
 | normal=>
  obtain⟨e₂,a₂,w₂,hq₂,harr₂⟩:=hq b k cs hb;exact⟨e₂,a₂,w₂,hq₂,.of_steps harr harr₂⟩
 | exit id=>exact⟨_,a₁,w₁,hq,.pass (x:=.inLoop c) rfl (fun _ _=>.inl (by simp)) harr⟩
 | goto l=>exact⟨_,a₁,w₁,hq,.pass (x:=.inLoop c) rfl (fun _ _=>.inl (by simp)) harr⟩
 | ret=>exact⟨_,a₁,w₁,hq,.pass (x:=.inLoop c) rfl (fun _ _=>.inl (by simp)) harr⟩
 | panic ch=>exact⟨_,a₁,w₁,hq,.pass (x:=.inLoop c) rfl (fun _ _=>.inl (by simp)) harr⟩
 | outgrown=>exact⟨_,a₁,w₁,hq,.pass (x:=.inLoop c) rfl (fun _ _=>.inl (by simp)) harr⟩
theorem zuh {ro:Option Nat} {c:Code} {Q:Exit->Act->World->Prop} {a:Act} (h:c.wpIn (FR ro) 0 P (Exit.then (zdn ro P c Q) Q) a w):zdn ro P c Q a w:=fun b k cs hb=>by
 obtain⟨e,a',w',hq,harr⟩:=zdT h b k cs hb;exact⟨e,a',w',hq,.of_steps (.one (zeq P ro _) stepR_inLoop) harr⟩
theorem zAN {ro:Option Nat} {c:Code} {Q:Exit->Act->World->Prop} {a:Act} (h:c.wpIn (FR ro) 0 P (Exit.then (zdn ro P c Q) Q) a w):(Code.loop c).wpIn (FR ro) 0 P Q a w:=fun b k cs hb _ _=>by
 obtain⟨e,a',w',hq,harr⟩:=zdT h b k cs hb;exact⟨e,a',w',hq,.of_steps (.one (zeq P ro _) stepR_loop) harr⟩
abbrev zcz:=Option Nat->Array Oper->AA->AW->Except String (AA × AW)
def zdC (P:Program) (dr:zcz):Prop:=∀rd ops a A a' A',dr rd ops a A= .ok (a',A')->∀(μ:Mu) (b:Act) (w:World) (id:Nat) (ro:Option Nat) (Q:Exit->Act->World->Prop),WR μ A w->AAR μ a b->RO μ rd ro->
 (∀b' w',QX μ A w .normal a' A' .normal b' w'->Q .normal b' w')->(Code.region id ops true).wpIn (FR ro) 0 P Q b w
def zeh (ro:Option Nat) (P:Program) (c rest:Code) (Q:Exit->Act->World->Prop) (a:Act) (w:World):Prop:=
 ∀(b:Frame) (k:List Item) (cs:List Frame),b.roundOf=ro->∃e a' w',Q e a' w'/\ArrivesIn (Machine.fenced P (FR ro)) P (lone (b.atR a (.code rest:: .inScope c::k)) cs w) b k cs e a' w'
def zdO (ro:Option Nat) (P:Program) (c:Code) (Q:Exit->Act->World->Prop):Exit->Act->World->Prop
 | .goto l,a,w=>(match findLabel c l with
  | some r=>zeh ro P c r Q a w
  | none=>Q (.goto l) a w)
 | e,a,w=>Q e a w
theorem zvY {ro:Option Nat} {c:Code} {Q:Exit->Act->World->Prop} {a:Act} (h:zeh ro P c c Q a w):(Code.scope c).wpIn (FR ro) 0 P Q a w:=fun b k cs hb _ _=>by
 obtain⟨e,a',w',hq,harr⟩:=h b k cs hb;exact⟨e,a',w',hq,.of_steps (.one (zeq P ro _) zlo) harr⟩
theorem zeK {ro:Option Nat} {c rest:Code} {Q:Exit->Act->World->Prop} {a:Act} (h:rest.wpIn (FR ro) 0 P (zdO ro P c Q) a w):zeh ro P c rest Q a w:=fun b k cs hb=>by
 obtain⟨e,a₁,w₁,hq,harr⟩:=h b (.inScope c::k) cs hb trivial (zvw _ _)
 cases e with
 | normal=>exact⟨.normal,a₁,w₁,hq,StepsIn.trans harr (.one (zeq P ro _) zhW)⟩
 | exit id=>
  have hx:exitTo id (.inScope c::k)=exitTo id k:=by simp[exitTo]
  exact⟨.exit id,a₁,w₁,hq,fun k' hk=>harr.1 k' (by rw[hx];exact hk),fun hr hk=>harr.2 hr (by rw[hx];exact hk)⟩
 | goto l=>
  simp only[zdO] at hq
  cases hf:findLabel c l with
  | some r=>
   rw[hf] at hq;obtain⟨e₂,a₂,w₂,hq₂,harr₂⟩:=hq b k cs hb;exact⟨e₂,a₂,w₂,hq₂,.of_steps (harr.1 _ (by simp[gotoIn,hf])) harr₂⟩
  | none=>
   rw[hf] at hq;have hx:gotoIn l (.inScope c::k)=gotoIn l k:=by simp[gotoIn,hf]
   exact⟨.goto l,a₁,w₁,hq,fun k' hk=>harr.1 k' (by rw[hx];exact hk),fun hr hk=>harr.2 hr (by rw[hx];exact hk)⟩
 | ret=>exact⟨_,a₁,w₁,hq,harr⟩
 | panic ch=>exact⟨_,a₁,w₁,hq,harr⟩
 | outgrown=>exact⟨_,a₁,w₁,hq,harr⟩
def AJ.exit':AJ->AX
 | .none=>.normal
 | .ret=>.ret
 | .exit id=>.exit id
 | .goto l=>.goto l
noncomputable def zAA:LoopState->Bool
 | .busy=>false
 | _=>true
noncomputable def rfGo (call:zaw) (f:FuncId) (first cap:List Value) (ps:Array Tmp) (asg bd:Code) (mk:List zjo) (A:AW) (a:AA):Except String (AX × AA × AW):=
 fW (A.push (.loop .ready .none ps asg bd a.tmps a.size)) fun A1=>
 match call false f (first++[.func (.yield A.next) #[] #[]]++cap) A1 with
 | .ok (.ret _,A2)=>(match A2.get A.next with
  | some (.loop st j ps asg bd t n)=>if zAA st then fW (A2.set A.next (some (.loop .exhausted j ps asg bd t n))) fun A3=>.ok (j.exit',⟨a.tmps,a.size,mk++a.defers⟩,A3) else .error "range: busy"
  | _=>.error "range: no record")
 | .ok (.panic _,_)=>.error "range: panic"
 | .error s=>.error s
theorem zrG {call:zaw} (hcall:zba P call) {ro:Option Nat} {f:FuncId} {first cap:List Value} {first' cap':Array Value} {ps:Array Tmp} {asg bd:Code} {mk:List zjo} {mk':List Deferred} {a a':AA} {b:Act} {x:AX} {A':AW} {Q:Exit->Act->World->Prop} {q:Loop}
  (W:WR μ A w) (hab:AAR μ a b) (hmk:∀μ' ds ds',Le μ μ'->DR μ' ds ds'->DR μ' (mk++ds) (mk'++ds')) (hfl:LR μ first first'.toList) (hcl:LR μ cap cap'.toList)
  (h:rfGo call f first cap ps asg bd mk A a= .ok (x,a',A')) (hq:∀e b' w',QX μ A w x a' A' e b' w'->Q e b' w')
  (h1:q.state= .ready) (h2:q.pending=none) (h3:q.params=ps) (h4:q.assign=asg) (h5:q.body=bd) (h6:q.tmps=b.tmps):
  CallsIn (FR ro) 0 P f (first'++#[.func (.yield w.heap.size) #[] #[]]++cap') (w.alloc (.loop q)) (rangePost (FR ro) 0 P w.heap.size Q {b with defers:=mk'++b.defers}):=by
 unfold rfGo at h;rw[zgs] at h;have hdom:=W.dom A.next (xk _);have hloc:(μ.add A.next ⟨w.heap.size,0,0,0⟩) A.next=some ⟨w.heap.size,0,0,0⟩:=Mu.add_get hdom;have hle:Le μ (μ.add A.next ⟨w.heap.size,0,0,0⟩):=Mu.add_le hdom;obtain⟨W1,E1⟩:=W.new (d:=0) (sz:=0) (k:=0) (o:=.loop .ready .none ps asg bd a.tmps a.size) (o':=.loop q) ⟨q,rfl,h1,h2,h3,h4,h5,by rw[h6,hab.len],fun t v ht=>by
  rw[h6];exact(hab.tmps.mono hle) t v ht⟩
 have hargs:LR (μ.add A.next ⟨w.heap.size,0,0,0⟩) (first++[Value.func (.yield A.next) #[] #[]]++cap) (first'++#[Value.func (.yield w.heap.size) #[] #[]]++cap').toList:=by
  rw[zdA];have hy:VR (μ.add A.next ⟨w.heap.size,0,0,0⟩) (.func (.yield A.next) #[] #[]) (.func (.yield w.heap.size) #[] #[]):=by
   simp only[VR]
   exact⟨trivial,trivial,_,rfl,hloc⟩
  exact((hfl.mono hle).append (LR.cons hy LR.nil)).append (hcl.mono hle)
 split at h
 ·rename_i v A2 hc
  have key:=hcall.fn _ _ _ _ _ hc _ _ _ W1.lay hargs;refine zpx (key.mono fun e w2 ⟨μ2,he,W2,E2⟩=>?_)
  cases e with
  | returned v'=>
   split at h
   ·rename_i st j ps2 asg2 bd2 t n hg
    split at h
    ·rename_i hst
     rw[zgs] at h
     cases h
     have hl2:μ2 A.next=some ⟨w.heap.size,0,0,0⟩:=E2.le _ _ hloc;obtain⟨o2,ho2,q2,rfl,g1,g2,g3,g4,g5,g6,g7⟩:=W2.has _ _ _ hg hl2;have hnb:q2.state≠ .busy:=fun e=>by rw[g1] at e;subst e;cases hst
     obtain⟨W3,E3⟩:=W2.upd (o:=.loop .exhausted j ps2 asg2 bd2 t n) (o':=.loop {q2 with state:=.exhausted}) hg hl2 ⟨_,rfl,rfl,g2,g3,g4,g5,g6,g7⟩
     refine⟨q2.pending,_,run_endLoop ho2 hnb,?_⟩;have EE:Ext μ A w μ2 _ _:=(E1.lay.trans E2).trans E3.lay;have hfin:AAR μ2 ⟨a.tmps,a.size,mk++a.defers⟩ {b with defers:=mk'++b.defers}:=⟨(hab.mono EE.le).tmps,hab.len,hmk _ _ _ EE.le (hab.mono EE.le).defers⟩
     have fin:∀jp:Option Code,jp=j.code->(match jp with
       | none=>Q .normal {b with defers:=mk'++b.defers} (w2.putObj w.heap.size (.loop {q2 with state:=.exhausted}))
       | some c=>c.wpIn (FR ro) 0 P Q {b with defers:=mk'++b.defers} (w2.putObj w.heap.size (.loop {q2 with state:=.exhausted}))):=fun jp hjp=>by
      subst hjp
      cases j with
      | none=>exact hq _ _ _ ⟨μ2,rfl,hfin,W3.lay,EE⟩
      | ret=>exact wpIn_ret (hq _ _ _ ⟨μ2,rfl,hfin,W3.lay,EE⟩)
      | exit id=>exact wpIn_exit (hq _ _ _ ⟨μ2,rfl,hfin,W3.lay,EE⟩)
      | goto l=>exact wpIn_goto (hq _ _ _ ⟨μ2,rfl,hfin,W3.lay,EE⟩)
     exact fin _ g2
    ·cases h
   ·cases h
  | panicked ch=>exact he.elim
  | outgrown=>exact he.elim
 ·cases h
 ·cases h
noncomputable def evRF (P:Program) (call:zaw) (rd:Option Nat) (g:Operand) (ps:Array Tmp) (asg bd:Code) (a:AA) (A:AW):Except String (AX × AA × AW):=
 match opv a.tmps g with
 | some (.func (.func f) ⟨first⟩ ⟨cap⟩)=>(match P.funcs[f]? with
  | some fn=>if fn.body.isSome/\(fn.name== "runtime.NumGoroutine")=false then
    (match rd with
    | none=>rfGo call f first cap ps asg bd [.mark A.next] (A.push (.dfr true)) a
    | some r=>(match A.get r with
     | some (.loop _ _ _ _ _ _ _)=>rfGo call f first cap ps asg bd [] A a
     | _=>.error "range: no record around"))
   else .error ("range: no body: " ++fn.name)
  | none=>.error "range: no such function")
 | _=>.error "range: callee"
theorem zgv {l₀:Nat} {r₀:Loop} (h:w.heap[l₀]? =some (.loop r₀)) (fn:FuncId) (tmps:Array Value) (ps:Array Tmp) (assign body:Code):
  (Instr.enterLoop fn tmps ps assign body (some l₀)).run P w=
   .ok (w.heap.size,[]) (w.alloc (.loop {state:=.ready,pending:=none,fn,tmps,params:=ps,assign,body,defers:=r₀.defers})):=by
 unfold Instr.enterLoop
 simp only[Sem.run_bind,run_getLoop h,run_newObj_alloc,Result.andThen,Sem.run_pure]
theorem zBo {call:zaw} (hcall:zba P call) {rd ro:Option Nat} {g:Operand} {ps:Array Tmp} {asg bd:Code} {a a':AA} {b:Act} {x:AX} {A':AW} {Q:Exit->Act->World->Prop} (W:WR μ A w) (hab:AAR μ a b) (hro:RO μ rd ro)
  (h:evRF P call rd g ps asg bd a A= .ok (x,a',A')) (hq:∀e b' w',QX μ A w x a' A' e b' w'->Q e b' w'):(Code.rangeFunc g ps asg bd).wpIn (FR ro) 0 P Q b w:=by
 unfold evRF at h
 split at h
 ·rename_i f first cap hg
  have hfv:=zam hab.tmps hg
  simp only[VR] at hfv
  obtain⟨first',cap',hfe,hfl,hcl⟩:=hfv
  split at h
  ·rename_i fn hfn
   split at h
   ·rename_i hb
    have hne:fn.body.isNone=false:=by
     cases hbb:fn.body with
     | none=>rw[hbb] at hb;simp at hb
     | some c=>rfl
    have hinv:∀(args:Array Value) (W:World),(callFunc f args).run P W= .ok (.enter f args) W:=fun args W=>by
     simp only[callFunc,Sem.run_bind,run_program,Result.andThen,hfn,hb.2,xx,if_false,hne,Sem.run_pure]
    have hres:∀(l:Nat) (W:World),(resolve b.eval (rangeCall g l) 0).run P W= .ok {target:=.fn (.func f) cap',args:=first'++#[.func (.yield l) #[] #[]]} W:=fun l W=>by
     simp only[resolve,hfe,Deferred.ofValue,Sem.run_pure]
     simp[Act.eval]
    refine wpIn_rangeFunc fun fnr _=>?_
    split at h
    ·simp only[RO] at hro
     subst hro;obtain⟨W1,E1⟩:=W.new (d:=0) (sz:=0) (k:=0) (o:=.dfr true) (o':=.deferred (some [])) rfl;have hdom:=W.dom A.next (xk _);have hloc:(μ.add A.next ⟨w.heap.size,0,0,0⟩) A.next=some ⟨w.heap.size,0,0,0⟩:=Mu.add_get hdom;have key:=zrG (ro:=none) (mk':=[{target:=.collected w.heap.size,args:=#[]}]) (q:={state:=.ready,pending:=none,fn:=fnr,tmps:=b.tmps,params:=ps,assign:=asg,body:=bd,defers:=w.heap.size}) (Q:=Q) hcall W1 (hab.mono E1.le) (fun μ' ds ds' hle hd=>by
      simp only[List.singleton_append,DR]
      exact⟨_,_,rfl,hle _ _ hloc,hd⟩) (hfl.mono E1.le) (hcl.mono E1.le) h (fun e b' w' ⟨μ',q1,q2,q3,q4⟩=>hq _ _ _ ⟨μ',q1,q2,q3,E1.trans q4⟩) rfl rfl rfl rfl rfl rfl
     have hsz:({w with heap:=w.heap.push (.deferred (some []))}:World).heap.size=w.heap.size+1:=by simp
     rw[hsz] at key;exact⟨_,_,_,_,_,f,_,_,run_enterLoop_outer fnr b.tmps ps asg bd,hres _ _,fun _ _=>trivial,hinv _ _,fun hd=>(by simp[FR] at hd),key⟩
    ·rename_i r
     split at h
     ·rename_i hgr
      obtain⟨l,hl,hroe⟩:=hro;subst hroe;obtain⟨o1,ho1,q1,rfl,_⟩:=W.has _ _ _ hgr hl;have key:=zrG (ro:=some l.b) (mk:=[]) (mk':=[]) (q:={state:=.ready,pending:=none,fn:=fnr,tmps:=b.tmps,params:=ps,assign:=asg,body:=bd,defers:=q1.defers}) (Q:=Q) hcall W hab (fun μ' ds ds' hle hd=>hd) hfl hcl h hq rfl rfl rfl rfl rfl rfl
      exact⟨_,_,_,_,_,f,_,_,zgv ho1 fnr b.tmps ps asg bd,hres _ _,fun _ _=>trivial,hinv _ _,fun hd=>(by simp[FR] at hd),key⟩
     ·cases h
   ·cases h
  ·cases h
 ·cases h
noncomputable def evK (P:Program) (call:zaw) (same:XT) (dr:zcz) (rd:Option Nat):Nat->Option Code->Code->AA->AW->Except String (AX × AA × AW)
 | 0,_,_,_,_=>.error "out of fuel"
 | n+1,some c0,c,a,A=>match evK P call same dr rd n none c a A with
  | .ok (.goto l,a',A')=>match findLabel c0 l with
   | some rest=>evK P call same dr rd n (some c0) rest a' A'
   | none=>.ok (.goto l,a',A')
  | r=>r
 | n+1,none,c,a,A=>match c with
  | .skip=>.ok (.normal,a,A)
  | .label _=>.ok (.normal,a,A)
  | .region _ ops false=>zoW P call same rd ops ops.toList a A
  | .region _ ops true=>match dr rd ops a A with
   | .ok (a',A')=>.ok (.normal,a',A')
   | .error s=>.error s
  | .seq x y=>match evK P call same dr rd n none x a A with
   | .ok (.normal,a',A')=>evK P call same dr rd n none y a' A'
   | r=>r
  | .cond c x y=>match opv a.tmps c with
   | some (.bool true)=>evK P call same dr rd n none x a A
   | some (.bool false)=>evK P call same dr rd n none y a A
   | _=>.error "cond"
  | .block id x=>match evK P call same dr rd n none x a A with
   | .ok (.exit id',a',A')=>.ok (if id'=id then .normal else .exit id',a',A')
   | r=>r
  | .loop x=>match evK P call same dr rd n none x a A with
   | .ok (.normal,a',A')=>evK P call same dr rd n none (.loop x) a' A'
   | r=>r
  | .exit id=>.ok (.exit id,a,A)
  | .ret=>.ok (.ret,a,A)
  | .goto l=>.ok (.goto l,a,A)
  | .scope x=>evK P call same dr rd n (some x) x a A
  | .rangeFunc g ps asg bd=>evRF P call rd g ps asg bd a A
  | _=>.error "this code is not served"
noncomputable def evC (P:Program) (call:zaw) (same:XT) (dr:zcz) (rd:Option Nat) (n:Nat) (c:Code) (a:AA) (A:AW):Except String (AX × AA × AW):=evK P call same dr rd n none c a A
theorem zuB {call:zaw} {same:XT} {dr:zcz} (hcall:zba P call) (hsame:zbr P same) (hdr:zdC P dr) {rd ro:Option Nat}:∀(n:Nat) (sc:Option Code) (c:Code) (a:AA) (A:AW) (μ:Mu) (b:Act) (w:World) (x:AX) (a':AA) (A':AW) (Q:Exit->Act->World->Prop),evK P call same dr rd n sc c a A= .ok (x,a',A')->WR μ A w->AAR μ a b->RO μ rd ro->
  (∀e b' w',QX μ A w x a' A' e b' w'->Q e b' w')->(sc=none->c.wpIn (FR ro) 0 P Q b w/\(∀y,c= .loop y->zdn ro P y Q b w))/\(∀c0,sc=some c0->zeh ro P c0 c Q b w)
 | 0,_,_,_,_,_,_,_,_,_,_,_,h,_,_,_,_=>by simp only[evK] at h;cases h
 | n+1,some c0,c,a,A,μ,b,w,x,a',A',Q,h,W,hab,hro,hq=>by
  have IH:=zuB (rd:=rd) (ro:=ro) hcall hsame hdr n;refine⟨fun hh=>(by cases hh),fun c1 hc=>?_⟩
  cases hc
  simp only[evK] at h
  split at h
  ·rename_i l a1 A1 h1
   split at h
   ·rename_i rest hf
    refine zeK ((IH none c a A μ b w (.goto l) a1 A1 _ h1 W hab hro fun e b' w' ⟨μ',q1,q2,q3,q4⟩=>?_).1 rfl).1
    simp only[XR] at q1;subst q1
    simp only[zdO,hf]
    exact(IH (some c0) rest a1 A1 μ' b' w' x a' A' Q h q3 q2 (hro.mono q4.le) fun e b'' w'' ⟨μ'',r1,r2,r3,r4⟩=>hq _ _ _ ⟨μ'',r1,r2,r3,q4.trans r4⟩).2 c0 rfl
   ·rename_i hf
    cases h
    refine zeK ((IH none c a A μ b w (.goto l) _ _ _ h1 W hab hro fun e b' w' hx=>?_).1 rfl).1
    have hx0:=hx;obtain⟨μ',q1,_⟩:=hx
    simp only[XR] at q1;subst q1
    simp only[zdO,hf]
    exact hq _ _ _ hx0
  ·rename_i r hr
   refine zeK ((IH none c a A μ b w x a' A' _ h W hab hro fun e b' w' hx=>?_).1 rfl).1
   have hx0:=hx;obtain⟨μ',q1,_⟩:=hx
   cases x with
   | goto l=>exact absurd h (hr _ _ _)
   | normal=>simp only[XR] at q1;subst q1;exact hq _ _ _ hx0
   | exit id=>simp only[XR] at q1;subst q1;exact hq _ _ _ hx0
   | ret=>simp only[XR] at q1;subst q1;exact hq _ _ _ hx0
   | panic v=>simp only[XR] at q1;obtain⟨v',rfl,q3⟩:=q1;exact hq _ _ _ hx0
 | n+1,none,c,a,A,μ,b,w,x,a',A',Q,h,W,hab,hro,hq=>by
  have IH:=zuB (rd:=rd) (ro:=ro) hcall hsame hdr n;refine⟨fun _=>?_,fun c1 hc=>(by cases hc)⟩
  simp only[evK] at h
  split at h
  ·cases h;exact⟨wpIn_skip (hq _ _ _ ⟨μ,rfl,hab,W,Ext.refl⟩),fun y hy=>by cases hy⟩
  ·cases h;exact⟨wpIn_label (hq _ _ _ ⟨μ,rfl,hab,W,Ext.refl⟩),fun y hy=>by cases hy⟩
  ·exact⟨wpIn_region (zft hcall hsame _ a A μ b w W hab hro (zuz.symm.trans h) hq),fun y hy=>by cases hy⟩
  ·split at h
   ·rename_i a1 A1 h1
    cases h
    exact⟨hdr _ _ _ _ _ _ h1 μ b w _ ro Q W hab hro fun b' w' hx=>hq _ _ _ hx,fun y hy=>by cases hy⟩
   ·cases h
  ·rename_i y z
   refine⟨wpIn_seq ?_,fun y hy=>by cases hy⟩
   split at h
   ·rename_i a1 A1 h1
    refine((IH none y a A μ b w .normal a1 A1 _ h1 W hab hro fun e b' w' ⟨μ',q1,q2,q3,q4⟩=>?_).1 rfl).1
    simp only[XR] at q1;subst q1
    exact((IH none z a1 A1 μ' b' w' x a' A' Q h q3 q2 (hro.mono q4.le) fun e b'' w'' ⟨μ'',r1,r2,r3,r4⟩=>hq _ _ _ ⟨μ'',r1,r2,r3,q4.trans r4⟩).1 rfl).1
   ·rename_i r hr
    refine((IH none y a A μ b w x a' A' _ h W hab hro fun e b' w' hx=>?_).1 rfl).1
    cases x with
    | normal=>exact absurd h (hr _ _)
    | exit id=>obtain⟨μ',q1,q2⟩:=hx;simp only[XR] at q1;subst q1;exact hq _ _ _ ⟨μ',rfl,q2⟩
    | goto l=>obtain⟨μ',q1,q2⟩:=hx;simp only[XR] at q1;subst q1;exact hq _ _ _ ⟨μ',rfl,q2⟩
    | ret=>obtain⟨μ',q1,q2⟩:=hx;simp only[XR] at q1;subst q1;exact hq _ _ _ ⟨μ',rfl,q2⟩
    | panic v=>obtain⟨μ',q1,q2⟩:=hx;simp only[XR] at q1;obtain⟨v',rfl,q3⟩:=q1;exact hq _ _ _ ⟨μ',⟨v',rfl,q3⟩,q2⟩
  ·rename_i cc y z
   split at h
   ·rename_i hc
    have:=zam hab.tmps hc
    simp only[VR] at this
    exact⟨wpIn_cond_true this ((IH none y a A μ b w x a' A' Q h W hab hro hq).1 rfl).1,fun y hy=>by cases hy⟩
   ·rename_i hc
    have:=zam hab.tmps hc
    simp only[VR] at this
    exact⟨wpIn_cond_false this ((IH none z a A μ b w x a' A' Q h W hab hro hq).1 rfl).1,fun y hy=>by cases hy⟩
   ·cases h
  ·rename_i id y
   refine⟨wpIn_block ?_,fun y hy=>by cases hy⟩
   split at h
   ·rename_i id' a1 A1 h1
    cases h
    refine((IH none y a A μ b w (.exit id') a' A' _ h1 W hab hro fun e b' w' ⟨μ',q1,q2⟩=>?_).1 rfl).1
    simp only[XR] at q1;subst q1
    simp only[Exit.inBlock]
    by_cases e:id'=id
    ·rw[if_pos e];exact hq _ _ _ ⟨μ',by rw[if_pos e];rfl,q2⟩
    ·rw[if_neg e];exact hq _ _ _ ⟨μ',by rw[if_neg e];rfl,q2⟩
   ·rename_i r hr
    refine((IH none y a A μ b w x a' A' _ h W hab hro fun e b' w' hx=>?_).1 rfl).1
    cases x with
    | exit id=>exact absurd h (hr _ _ _)
    | normal=>obtain⟨μ',q1,q2⟩:=hx;simp only[XR] at q1;subst q1;exact hq _ _ _ ⟨μ',rfl,q2⟩
    | goto l=>obtain⟨μ',q1,q2⟩:=hx;simp only[XR] at q1;subst q1;exact hq _ _ _ ⟨μ',rfl,q2⟩
    | ret=>obtain⟨μ',q1,q2⟩:=hx;simp only[XR] at q1;subst q1;exact hq _ _ _ ⟨μ',rfl,q2⟩
    | panic v=>obtain⟨μ',q1,q2⟩:=hx;simp only[XR] at q1;obtain⟨v',rfl,q3⟩:=q1;exact hq _ _ _ ⟨μ',⟨v',rfl,q3⟩,q2⟩
  ·rename_i y
   have hbody:y.wpIn (FR ro) 0 P (Exit.then (zdn ro P y Q) Q) b w:=by
    split at h
    ·rename_i a1 A1 h1
     refine((IH none y a A μ b w .normal a1 A1 _ h1 W hab hro fun e b' w' ⟨μ',q1,q2,q3,q4⟩=>?_).1 rfl).1
     simp only[XR] at q1;subst q1
     exact((IH none (.loop y) a1 A1 μ' b' w' x a' A' Q h q3 q2 (hro.mono q4.le) fun e b'' w'' ⟨μ'',r1,r2,r3,r4⟩=>hq _ _ _ ⟨μ'',r1,r2,r3,q4.trans r4⟩).1 rfl).2 y rfl
    ·rename_i r hr
     refine((IH none y a A μ b w x a' A' _ h W hab hro fun e b' w' hx=>?_).1 rfl).1
     cases x with
     | normal=>exact absurd h (hr _ _)
     | exit id=>obtain⟨μ',q1,q2⟩:=hx;simp only[XR] at q1;subst q1;exact hq _ _ _ ⟨μ',rfl,q2⟩
     | goto l=>obtain⟨μ',q1,q2⟩:=hx;simp only[XR] at q1;subst q1;exact hq _ _ _ ⟨μ',rfl,q2⟩
     | ret=>obtain⟨μ',q1,q2⟩:=hx;simp only[XR] at q1;subst q1;exact hq _ _ _ ⟨μ',rfl,q2⟩
     | panic v=>obtain⟨μ',q1,q2⟩:=hx;simp only[XR] at q1;obtain⟨v',rfl,q3⟩:=q1;exact hq _ _ _ ⟨μ',⟨v',rfl,q3⟩,q2⟩
   exact⟨zAN hbody,fun z hz=>by cases hz;exact zuh hbody⟩
  ·cases h;exact⟨wpIn_exit (hq _ _ _ ⟨μ,rfl,hab,W,Ext.refl⟩),fun y hy=>by cases hy⟩
  ·cases h;exact⟨wpIn_ret (hq _ _ _ ⟨μ,rfl,hab,W,Ext.refl⟩),fun y hy=>by cases hy⟩
  ·cases h;exact⟨wpIn_goto (hq _ _ _ ⟨μ,rfl,hab,W,Ext.refl⟩),fun y hy=>by cases hy⟩
  ·rename_i y
   exact⟨zvY ((IH (some y) y a A μ b w x a' A' Q h W hab hro hq).2 y rfl),fun y hy=>by cases hy⟩
  ·exact⟨zBo hcall W hab hro h hq,fun y hy=>by cases hy⟩
  ·cases h
theorem zoX {call:zaw} {same:XT} {dr:zcz} (hcall:zba P call) (hsame:zbr P same) (hdr:zdC P dr) {rd ro:Option Nat} (n:Nat) (c:Code) (a:AA) (A:AW) (μ:Mu) (b:Act) (w:World) (x:AX) (a':AA) (A':AW) (Q:Exit->Act->World->Prop) (h:evC P call same dr rd n c a A= .ok (x,a',A')) (W:WR μ A w) (hab:AAR μ a b) (hro:RO μ rd ro)
  (hq:∀e b' w',QX μ A w x a' A' e b' w'->Q e b' w'):c.wpIn (FR ro) 0 P Q b w:=((zuB hcall hsame hdr n none c a A μ b w x a' A' Q h W hab hro hq).1 rfl).1
inductive AM where
 | ret
 | pan (v:Value)
 | recd (v:Value)
def MoR (μ:Mu):AM->FrameMode->Prop
 | .ret,m=>m= .returning
 | .pan v,m=>∃v',m= .panicking [{v:=v',recovered:=false}]/\VR μ v v'
 | .recd v,m=>∃v',m= .panicking [{v:=v',recovered:=true}]/\VR μ v v'
theorem MoR.mono {μ μ':Mu} (h:Le μ μ'):∀{u:AM} {m:FrameMode},MoR μ u m->MoR μ' u m
 | .ret,_,r=>r
 | .pan _,_,r=>by obtain⟨v',h1,h2⟩:=r;exact⟨v',h1,h2.mono h⟩
 | .recd _,_,r=>by obtain⟨v',h1,h2⟩:=r;exact⟨v',h1,h2.mono h⟩
def zFO:Op->Bool
 | .call {callee:=.builtin .recover,args:=_,argTypes:=_}=>true
 | _=>false
noncomputable def zeW (P:Program) (call:zaw) (same:XT) (ops:Array Oper):List Nat->AA->AM->AW->Except String (AX × AA × AM × AW)
 | [],a,u,A=>.ok (.normal,a,u,A)
 | i::r,a,u,A=>match ops[i]? with
  | none=>.error "no such operation"
  | some o=>match zcf ops a.tmps o with
   | some true=>if zFO o.op then
     match u with
     | .pan v=>zcv a o.dst v fun a'=>zeW P call same ops r a' (.recd v) A
     | _=>zcv a o.dst .nilIface fun a'=>zeW P call same ops r a' u A
    else match zxC P call same o a A with
    | .ok (.val v,A')=>fV v fun v=>zcv a o.dst v fun a'=>fW A' fun A'=>zeW P call same ops r a' u A'
    | .ok (.dfr _,_)=>.error "defer in a deferred call"
    | .ok (.panic v,A')=>fV v fun v=>fW A' fun A'=>.ok (.panic v,a,u,A')
    | .error s=>.error s
   | some false=>zcv a o.dst undef fun a'=>zeW P call same ops r a' u A
   | none=>.error ("guard: " ++o.pos)
def QS (c0:Frame) (cs0:List Frame) (Q:Exit->Act->List Frame->World->Prop) (μ:Mu) (A:AW) (w:World) (x:AX) (a':AA) (u':AM) (A':AW):Prop:=
 ∀e b' m' w' μ',XR μ' x e->AAR μ' a' b'->MoR μ' u' m'->WR μ' A' w'->Ext μ A w μ' A' w'->Q e b' ({c0 with mode:=m'}::cs0) w'
theorem zcZ {call:zaw} {same:XT} (hcall:zba P call) (hsame:zbr P same) {ops:Array Oper} {c0:Frame} {cs0:List Frame} {Q:Exit->Act->List Frame->World->Prop} {x:AX} {a':AA} {u':AM} {A':AW}:∀(l:List Nat) (a:AA) (u:AM) (A:AW) (μ:Mu) (b:Act) (m:FrameMode) (w:World),WR μ A w->AAR μ a b->MoR μ u m->
  zeW P call same ops l a u A= .ok (x,a',u',A')->QS c0 cs0 Q μ A w x a' u' A'->wpOpsS P ops Q l b ({c0 with mode:=m}::cs0) w
 | [],a,u,A,μ,b,m,w,W,hab,hm,h,hq=>by
  simp only[zeW] at h;cases h
  simp only[wpOpsS]
  exact hq _ _ _ _ _ rfl hab hm W Ext.refl
 | i::r,a,u,A,μ,b,m,w,W,hab,hm,h,hq=>by
  have qtrans:∀{μ1:Mu} {A1:AW} {w1:World},Ext μ A w μ1 A1 w1->QS c0 cs0 Q μ1 A1 w1 x a' u' A':=fun E=>fun e b' m' w' μ' h1 h2 h3 h4 h5=>hq e b' m' w' μ' h1 h2 h3 h4 (E.trans h5)
  simp only[zeW] at h
  split at h
  ·cases h
  ·rename_i o ho
   simp only[wpOpsS,ho]
   split at h
   ·rename_i hw
    rw[zcp hab hw,if_pos rfl]
    split at h
    ·rename_i hr
     have hrun:(execOp b.eval o).run P w= .ok .recover w:=by
      unfold zFO at hr
      split at hr
      ·rename_i heq
       simp only[execOp,heq,resolve,Sem.run_bind,Sem.run_pure,Result.andThen,invoke,builtin]
      ·cases hr
     rw[hrun]
     simp only
     split at h
     ·rename_i v
      rw[zaX] at h;obtain⟨v',rfl,hv⟩:=hm
      simp only[recoverD]
      exact zcZ hcall hsame r _ (.recd v) A μ _ (.panicking [{v:=v',recovered:=true}]) w W (hab.put _ hv) ⟨v',rfl,hv⟩ h hq
     ·rename_i hnp
      rw[zaX] at h;have hrec:recoverD ({c0 with mode:=m}::cs0)=none:=by
       cases u with
       | ret=>simp only[MoR] at hm;subst hm;rfl
       | pan v=>exact absurd rfl (hnp v)
       | recd v=>obtain⟨v',rfl,hv⟩:=hm;rfl
      rw[hrec];exact zcZ hcall hsame r _ u A μ _ m w W (hab.put _ (by simp[VR])) hm h hq
    ·have hup:∀(K:Act->World->Prop) (Q':Exit->Act->World->Prop),o.wp P b w K Q'->(match (execOp b.eval o).run P w with
       | .ok .recover w'=>(match recoverD ({c0 with mode:=m}::cs0) with
        | some (v,cs')=>wpOpsS P ops Q r (b.put o.dst v) cs' w'
        | none=>wpOpsS P ops Q r (b.put o.dst .nilIface) ({c0 with mode:=m}::cs0) w')
       | rr=>o.upon P b K Q' rr):=fun K Q' hh=>by
      unfold Oper.wp at hh
      generalize (execOp b.eval o).run P w=rr at hh
      split
      ·exact hh.elim
      ·exact hh
     split at h
     ·rename_i v A1 h1
      rw[zhf,zaX,zgs] at h;refine hup _ _ (ziV hcall hsame W hab h1 (fun v2 hv2 μ' v' w' hv' W' E'=>?_) (fun d hd=>by cases hd) (fun v hv=>by cases hv))
      cases hv2
      exact zcZ hcall hsame r _ u _ μ' _ m w' W'.lay ((hab.mono E'.le).put _ hv') (hm.mono E'.le) h (qtrans E'.lay)
     ·cases h
     ·rename_i v A1 h1
      rw[zhf,zgs] at h
      cases h
      refine hup _ _ (ziV hcall hsame W hab h1 (fun v2 hv2=>by cases hv2) (fun d hd=>by cases hd) (fun v hv μ' v' w' hv' W' E'=>?_))
      cases hv
      exact hq _ _ _ _ μ' ⟨v',rfl,hv'⟩ (hab.mono E'.le) (hm.mono E'.le) W'.lay E'.lay
     ·cases h
   ·rename_i hw
    rw[zcp hab hw,if_neg (by simp)]
    rw[zaX] at h;exact zcZ hcall hsame r _ u A μ _ m w W (hab.put _ zcc) hm h hq
   ·cases h
noncomputable def evS (P:Program) (call:zaw) (same:XT) (dr:zcz):Nat->Code->AA->AM->AW->Except String (AX × AA × AM × AW)
 | 0,_,_,_,_=>.error "out of fuel"
 | n+1,c,a,u,A=>match c with
  | .region _ ops false=>zeW P call same ops (xg ops.size) a u A
  | .seq x y=>match evS P call same dr n x a u A with
   | .ok (.normal,a',u',A')=>evS P call same dr n y a' u' A'
   | r=>r
  | .cond c x y=>match opv a.tmps c with
   | some (.bool true)=>evS P call same dr n x a u A
   | some (.bool false)=>evS P call same dr n y a u A
   | _=>.error "cond"
  | c=>match evC P call same dr none n c a A with
   | .ok (x,a',A')=>.ok (x,a',u,A')
   | .error s=>.error s
theorem zzM {call:zaw} {same:XT} {dr:zcz} (hcall:zba P call) (hsame:zbr P same) (hdr:zdC P dr) {c0:Frame} {cs0:List Frame}:∀(n:Nat) (c:Code) (a:AA) (u:AM) (A:AW) (μ:Mu) (b:Act) (m:FrameMode) (w:World) (x:AX) (a':AA) (u':AM) (A':AW) (Q:Exit->Act->List Frame->World->Prop),evS P call same dr n c a u A= .ok (x,a',u',A')->WR μ A w->AAR μ a b->MoR μ u m->
  QS c0 cs0 Q μ A w x a' u' A'->c.wpS P Q b ({c0 with mode:=m}::cs0) w
 | 0,_,_,_,_,_,_,_,_,_,_,_,_,_,h,_,_,_,_=>by cases h
 | n+1,c,a,u,A,μ,b,m,w,x,a',u',A',Q,h,W,hab,hm,hq=>by
  have IH:=zzM (c0:=c0) (cs0:=cs0) hcall hsame hdr n;have qtrans:∀{μ1:Mu} {A1:AW} {w1:World},Ext μ A w μ1 A1 w1->QS c0 cs0 Q μ1 A1 w1 x a' u' A':=fun E=>fun e b' m' w' μ' h1 h2 h3 h4 h5=>hq e b' m' w' μ' h1 h2 h3 h4 (E.trans h5)
  unfold evS at h
  split at h
  ·exact wpS_region (zcZ hcall hsame _ a u A μ b m w W hab hm h hq)
  ·rename_i y z
   refine wpS_seq ?_
   split at h
   ·rename_i a1 u1 A1 h1
    refine IH y a u A μ b m w .normal a1 u1 A1 _ h1 W hab hm fun e b' m' w' μ' q1 q2 q3 q4 q5=>?_
    simp only[XR] at q1;subst q1
    exact IH z a1 u1 A1 μ' b' m' w' x a' u' A' Q h q4 q2 q3 (qtrans q5)
   ·rename_i r hr
    refine IH y a u A μ b m w x a' u' A' _ h W hab hm fun e b' m' w' μ' q1 q2 q3 q4 q5=>?_
    cases x with
    | normal=>exact absurd h (hr _ _ _)
    | exit id=>simp only[XR] at q1;subst q1;exact hq _ _ _ _ μ' rfl q2 q3 q4 q5
    | goto l=>simp only[XR] at q1;subst q1;exact hq _ _ _ _ μ' rfl q2 q3 q4 q5
    | ret=>simp only[XR] at q1;subst q1;exact hq _ _ _ _ μ' rfl q2 q3 q4 q5
    | panic v=>simp only[XR] at q1;obtain⟨v',rfl,q6⟩:=q1;exact hq _ _ _ _ μ' ⟨v',rfl,q6⟩ q2 q3 q4 q5
  ·rename_i cc y z
   split at h
   ·rename_i hc
    have:=zam hab.tmps hc
    simp only[VR] at this
    exact wpS_cond this (IH y a u A μ b m w x a' u' A' Q h W hab hm hq)
   ·rename_i hc
    have:=zam hab.tmps hc
    simp only[VR] at this
    exact wpS_cond this (IH z a u A μ b m w x a' u' A' Q h W hab hm hq)
   ·cases h
  ·split at h
   ·rename_i x1 a1 A1 h1
    cases h
    refine wpS_of_wp (wpIn_wide.1 (zoX (ro:=none) hcall hsame hdr n _ a A μ b w _ _ _ _ h1 W hab rfl fun e b' w' ⟨μ',q1,q2,q3,q4⟩=>?_))
    exact hq _ _ _ _ μ' q1 q2 (hm.mono q4.le) q3 q4
   ·cases h
end Ev
end
section
namespace Ev
variable {P:Program} {μ:Mu} {A:AW} {w:World}
noncomputable def zvk (P:Program) (A:AW) (l:Env):List ResultVar->Option (List Value)
 | []=>some []
 | .tmp t::r=>match l.get t,zvk P A l r with
  | some v,some vs=>some (v::vs)
  | _,_=>none
 | .cell t ty::r=>match l.get t,zvk P A l r with
  | some p,some vs=>match zjm P A ty p with
   | some v=>some (v::vs)
   | none=>none
  | _,_=>none
def zCA (tmps:Array Value):ResultVar->Sem Value
 | .tmp t=>pure (tmps.getD t undef)
 | .cell a t=>do loadVar t (<- asAddr (tmps.getD a undef))
theorem zpI (fn:Func) (tmps:Array Value):results fn tmps=(do
  let vs <- fn.results.mapM (zCA tmps)
  pure (if h:vs.size=1 then vs[0] else .tuple vs)):=rfl
theorem znm {l:Env} {tmps:Array Value} (W:WR μ A w) (hl:TR μ l tmps.toList):∀{rs:List ResultVar} {vs:List Value},zvk P A l rs=some vs->
  ∃vs':List Value,(rs.mapM (zCA tmps):Sem (List Value)).run P w= .ok vs' w/\LR μ vs vs'
 | [],vs,h=>by simp only[zvk] at h;cases h;exact⟨[],rfl,LR.nil⟩
 | .tmp t::r,vs,h=>by
  simp only[zvk] at h
  split at h
  ·rename_i v us hv hr
   cases h
   obtain⟨vs',h1,h2⟩:=znm W hl hr;obtain⟨v',h3,h4⟩:=hl t v hv;have h5:tmps.getD t undef=v':=by
    have:tmps[t]? =some v':=by rw[<- xj];exact h3
    rw[xm,this];rfl
   refine⟨v'::vs',?_,LR.cons h4 h2⟩
   simp only[xA,zCA,Sem.run_bind,Sem.run_pure,Result.andThen,h1,h5]
  ·cases h
 | .cell t ty::r,vs,h=>by
  simp only[zvk] at h
  split at h
  ·rename_i p us hp hr
   split at h
   ·rename_i v hv
    cases h
    obtain⟨vs',h1,h2⟩:=znm W hl hr;obtain⟨p',h3,h4⟩:=hl t p hp;have h5:tmps.getD t undef=p':=by
     have:tmps[t]? =some p':=by rw[<- xj];exact h3
     rw[xm,this];rfl
    have hp2:∃a,p= .pointer (some a):=by
     unfold zjm at hv
     split at hv
     ·exact⟨_,rfl⟩
     ·cases hv
    obtain⟨a,rfl⟩:=hp2
    simp only[VR] at h4
    obtain⟨a',rfl,ha⟩:=h4;obtain⟨v',h6,h7⟩:=zla W ha hv;refine⟨v'::vs',?_,LR.cons h7 h2⟩;have h8:(zCA tmps (.cell t ty)).run P w= .ok v' w:=by
     simp only[zCA,h5,Sem.run_bind,asAddr,Sem.run_pure,Result.andThen,h6]
    simp only[xA,Sem.run_bind,h8,Sem.run_pure,Result.andThen,h1]
   ·cases h
  ·cases h
def zws:List Value->Value
 | [v]=>v
 | vs=>.tuple ⟨vs⟩
theorem zpr {l:Env} {tmps:Array Value} {fn:Func} {vs:List Value} (W:WR μ A w) (hl:TR μ l tmps.toList) (h:zvk P A l fn.results.toList=some vs):∃v',(results fn tmps).run P w= .ok v' w/\VR μ (zws vs) v':=by
 obtain⟨vs',h1,h2⟩:=znm W hl h;refine⟨if h:vs'.toArray.size=1 then vs'.toArray[0] else .tuple vs'.toArray,?_,?_⟩
 ·rw[zpI,Array.mapM_eq_mapM_toList]
  simp only[Sem.run_bind,Sem.run_map]
  rw[h1]
  rfl
 ·have hlen:=h2.len
  match vs,h2,hlen with
  | [],h2,hlen=>
   have:vs'=[]:=List.eq_nil_of_length_eq_zero (by simpa using hlen)
   subst this
   simp only[zws,VR]
   exact⟨_,rfl,LR.nil⟩
  | [v],h2,hlen=>
   simp only[LR] at h2
   obtain⟨y,ys,rfl,h3,rfl⟩:=h2;exact h3
  | v::u::r,h2,hlen=>
   have hne:¬vs'.toArray.size=1:=by simp only[List.size_toArray,hlen,xz];omega
   rw[dif_neg hne]
   simp only[zws,VR]
   exact⟨_,rfl,h2⟩
def zls:AM->AM
 | .recd _=>.ret
 | m=>m
theorem zrn {u:AM} {m:FrameMode} (h:MoR μ u m):MoR μ (zls u) (settle m):=by
 cases u with
 | ret=>simp only[MoR] at h;subst h;rfl
 | pan v=>obtain⟨v',rfl,hv⟩:=h;exact⟨v',rfl,hv⟩
 | recd v=>obtain⟨v',rfl,hv⟩:=h;rfl
theorem MoR.ne {u:AM} {m:FrameMode} (h:MoR μ u m):m≠ .run:=by
 cases u with
 | ret=>simp only[MoR] at h;subst h;simp
 | pan v=>obtain⟨v',rfl,hv⟩:=h;simp
 | recd v=>obtain⟨v',rfl,hv⟩:=h;simp
noncomputable def zxB {α:Type} (l:List Value):Nat->Tr Value->(Tr Value->α)->α:=
 List.rec (motive:=fun _=>Nat->Tr Value->(Tr Value->α)->α) (fun _ t k=>k t) (fun v _ ih n t k=>fV v fun v=>Tr.fput (some v) (xu n) t n fun t=>fN (xu n) fun n=>ih n t k) l
noncomputable def zeH:List Value->Nat->Tr Value->Tr Value
 | [],_,t=>t
 | v::r,n,t=>zeH r (n+1) (Tr.put (some v) (n+1) t n)
theorem ziT {α:Type}:∀(l:List Value) (n:Nat) (t:Tr Value) (k:Tr Value->α),zxB l n t k=k (zeH l n t)
 | [],_,t,k=>rfl
 | v::r,n,t,k=>by
  show fV v (fun v=>Tr.fput (some v) (xu n) t n fun t=>fN (xu n) fun n=>zxB r n t k)=_
  rw[zhf,Tr.fput_eq,zck,ziT r]
  rfl
theorem zgk:∀(l:List Value) (n:Nat) (t:Tr Value) (j:Nat),(zeH l n t).get j=if n<=j/\j<n+l.length then l[j - n]? else t.get j
 | [],n,t,j=>by simp only[zeH,List.length_nil,Nat.add_zero];rw[if_neg (by omega)]
 | v::r,n,t,j=>by
  simp only[zeH]
  rw[zgk r (n+1),Tr.get_put _ _ _ _ _ (by omega)]
  simp only[xz]
  by_cases h1:j=n
  ·subst h1
   rw[if_neg (by omega),if_pos rfl,if_pos (by omega)]
   simp
  ·rw[if_neg h1]
   by_cases h2:n+1<=j/\j<n+1+r.length
   ·rw[if_pos h2,if_pos (by omega),show j - n=(j - (n+1))+1 by omega]
    simp
   ·rw[if_neg h2,if_neg (by omega)]
noncomputable def zhK (fn:Func) (args:List Value):AA:=⟨zeH args 0 .nil,args.length+(fn.ntmps - args.length),[]⟩
theorem zoZ {fn:Func} {args:List Value} {args':Array Value} (h:LR μ args args'.toList):AAR μ (zhK fn args) {tmps:=args'++xi (fn.ntmps - args'.size) undef,defers:=[]}:=by
 have hs:args'.size=args.length:=by simpa using h.len
 refine⟨fun t v hv=>?_,by simp[zhK,hs],by simp[zhK,DR]⟩
 simp only[zhK] at hv
 rw[zgk] at hv
 split at hv
 ·rename_i hc
  simp only[Nat.sub_zero] at hv
  obtain⟨v',h1,h2⟩:=h.get hv;refine⟨v',?_,h2⟩;rw[xv,xn (by simp[hs];omega)]
  exact h1
 ·cases hv
theorem zgy {f:FuncId} {fn:Func} {c:Code} {args:Array Value} {u:FrameMode} {w:World} {R:Ending->FrameMode->World->Prop}
  (hf:P.funcs[f]? =some fn) (hb:fn.body=some c)
  (h:∀(c₀:Frame) (cs:List Frame),c₀.mode=u->
   c.wpS P (bodyPostS P fn c₀ cs R) {tmps:=args++xi (fn.ntmps - args.size) undef,defers:=[]} (c₀::cs) w):
  CallsDIn Fence.wide 0 P f args u w R:=by
 refine⟨trivial,fun c₀ cs hu _=>?_⟩
 let b:Frame:={(default:Frame) with fn:=f,kind:=.deferred}
 have henter:Frame.enter P f args .deferred=
   b.at {tmps:=args++xi (fn.ntmps - args.size) undef,defers:=[]} [.code c]:=by
  simp[Frame.enter,Frame.at,hf,hb,b]
 obtain⟨e,a',cs',w',hq,harr⟩:=h c₀ cs hu b [] rfl rfl;rw[<- henter] at harr
 cases e with
 | normal=>
  obtain⟨hd,u',rfl,v,hr,hR⟩:=hq;exact⟨.returned v,u',w',_,hR,stepsIn_wide.2 (Steps.trans harr (.one step_end)),rfl,rfl,rfl,hd,fn,hf,hr⟩
 | ret=>
  obtain⟨hd,u',rfl,v,hr,hR⟩:=hq;obtain⟨todo,hs⟩:=harr;exact⟨.returned v,u',w',_,hR,stepsIn_wide.2 hs,rfl,rfl,rfl,hd,fn,hf,hr⟩
 | panic chain=>
  obtain⟨hd,u',rfl,hR⟩:=hq;obtain⟨todo,hs⟩:=harr;exact⟨.panicked chain,u',w',_,hR,stepsIn_wide.2 hs,rfl,rfl,rfl,hd,fn,hf⟩
 | exit id=>exact hq.elim
 | goto l=>exact hq.elim
 | outgrown=>
  obtain⟨u',hR⟩:=hq;exact⟨.outgrown,u',w',b,hR,harr.resolve_left (by simp[b]),rfl,rfl,trivial⟩
noncomputable def evD (P:Program) (call:zaw) (same:XT) (dr:zcz) (fuel:Nat) (df:FuncId) (dcap dargs:List Value) (u:AM) (A:AW):Except String (AM × AW):=
 match P.funcs[df]? with
 | some fn=>match fn.body with
  | some c=>if (fn.name== "runtime.NumGoroutine")=false then
    match zxB (dargs++dcap) 0 .nil fun l=>fN ((dargs++dcap).length+(fn.ntmps - (dargs++dcap).length)) fun n=>evS P call same dr fuel c ⟨l,n,[]⟩ u A with
    | .ok (.normal,a,u',A')=>match a.defers,zvk P A' a.tmps fn.results.toList with
     | [],some _=>.ok (u',A')
     | _,_=>.error "deferred"
    | .ok (.ret,a,u',A')=>match a.defers,zvk P A' a.tmps fn.results.toList with
     | [],some _=>.ok (u',A')
     | _,_=>.error "deferred"
    | .ok _=>.error "deferred: panic"
    | .error s=>.error s
   else .error "deferred: name"
  | none=>.error "deferred: body"
 | none=>.error "deferred: function"
theorem zGg {call:zaw} {same:XT} {dr:zcz} (hcall:zba P call) (hsame:zbr P same) (hdr:zdC P dr) {fuel:Nat} {df:FuncId} {dcap dargs:List Value} {u u':AM} {A':AW} {m:FrameMode} {args':Array Value} (h:evD P call same dr fuel df dcap dargs u A= .ok (u',A')) (W:WR μ A w) (hm:MoR μ u m) (ha:LR μ (dargs++dcap) args'.toList):
  (callFunc df args').run P w= .ok (.enter df args') w/\CallsDIn Fence.wide 0 P df args' m w fun e m' w'=>∃v,e= .returned v/\∃μ',MoR μ' u' m'/\WR μ' A' w'/\Ext μ A w μ' A' w':=by
 unfold evD at h
 split at h
 ·rename_i fn hfn
  split at h
  ·rename_i c hb
   split at h
   ·rename_i hnm
    refine⟨?_,?_⟩
    ·have hne:fn.body.isNone=false:=by rw[hb];rfl
     simp only[callFunc,Sem.run_bind,run_program,Result.andThen,hfn,hnm,xx,if_false,hne,Sem.run_pure]
    ·refine zgy hfn hb fun c0 cs0 hc0=>?_
     have hc:({c0 with mode:=m}:Frame)=c0:=by subst hc0;rfl
     rw[ziT,zck] at h;have key:∀x a1 u1 A1,evS P call same dr fuel c (zhK fn (dargs++dcap)) u A= .ok (x,a1,u1,A1)->(x= .normal\/x= .ret)->a1.defers=[]->(∃vs,zvk P A1 a1.tmps fn.results.toList=some vs)->u1=u'->A1=A'->
       c.wpS P (bodyPostS P fn c0 cs0 fun e m' w'=>∃v,e= .returned v/\∃μ',MoR μ' u' m'/\WR μ' A' w'/\Ext μ A w μ' A' w') {tmps:=args'++xi (fn.ntmps - args'.size) undef,defers:=[]} (c0::cs0) w:=by
      intro x a1 u1 A1 he hx hd ⟨vs,hvs⟩ hu hA;subst hu hA;have:=zzM (c0:=c0) (cs0:=cs0) hcall hsame hdr fuel c _ u A μ _ m w x a1 u1 A1 (bodyPostS P fn c0 cs0 fun e m' w'=>∃v,e= .returned v/\∃μ',MoR μ' u1 m'/\WR μ' A1 w'/\Ext μ A w μ' A1 w') he W (zoZ ha) hm (fun e b' m' w' μ' q1 q2 q3 q4 q5=>by
       have hdd:=q2.defers;rw[hd] at hdd
       simp only[DR] at hdd
       obtain⟨v',hr,_⟩:=zpr q4 q2.tmps hvs
       rcases hx with rfl | rfl
       ·simp only[XR] at q1;subst q1
        exact⟨hdd,m',rfl,v',hr,v',rfl,μ',q3,q4,q5⟩
       ·simp only[XR] at q1;subst q1
        exact⟨hdd,m',rfl,v',hr,v',rfl,μ',q3,q4,q5⟩)
      rw[hc] at this;exact this
     split at h
     ·rename_i a1 u1 A1 he
      split at h
      ·rename_i vs hd hvs
       cases h
       exact key _ _ _ _ he (.inl rfl) hd ⟨_,hvs⟩ rfl rfl
      ·cases h
     ·rename_i a1 u1 A1 he
      split at h
      ·rename_i vs hd hvs
       cases h
       exact key _ _ _ _ he (.inr rfl) hd ⟨_,hvs⟩ rfl rfl
      ·cases h
     ·cases h
     ·cases h
   ·cases h
  ·cases h
 ·cases h
noncomputable def zbC (P:Program) (call:zaw) (same:XT) (dr:zcz) (fuel:Nat) (fn:Func) (l:Env):List zjo->AM->AW->Except String (AE × AW)
 | [],.ret,A=>match zvk P A l fn.results.toList with
  | some vs=>.ok (.ret (zws vs),A)
  | none=>.error ("results of " ++fn.name)
 | [],.pan v,A=>.ok (.panic v,A)
 | [],.recd _,_=>.error "recovered"
 | .fn f cap args::ds,u,A=>match evD P call same dr fuel f cap args u A with
  | .ok (u',A')=>zbC P call same dr fuel fn l ds (zls u') A'
  | .error s=>.error s
 | .mark i::ds,u,A=>match A.get i with
  | some (.dfr true)=>fW (A.set i (some (.dfr false))) fun A'=>zbC P call same dr fuel fn l ds u A'
  | _=>.error "mark"
theorem zfB {call:zaw} {same:XT} {dr:zcz} (hcall:zba P call) (hsame:zbr P same) (hdr:zdC P dr) {fuel:Nat} {fn:Func} {l:Env} {tmps:Array Value} {R:Ending->World->Prop} {e:AE} {A':AW}:∀(ds:List zjo) (u:AM) (A:AW) (μ:Mu) (ds':List Deferred) (m:FrameMode) (w:World),
  zbC P call same dr fuel fn l ds u A= .ok (e,A')->WR μ A w->TR μ l tmps.toList->DR μ ds ds'->MoR μ u m->(∀e' w' μ',ER μ' e e'->WR μ' A' w'->Ext μ A w μ' A' w'->R e' w')->LeavesInM Fence.wide 0 P fn tmps R ds' m w
 | [],.ret,A,μ,ds',m,w,h,W,hl,hd,hm,hR=>by
  simp only[DR] at hd;subst hd
  simp only[MoR] at hm;subst hm
  simp only[zbC] at h
  split at h
  ·rename_i vs hvs
   cases h
   obtain⟨v',hr,hv⟩:=zpr W hl hvs;exact⟨v',hr,hR _ _ μ hv W Ext.refl⟩
  ·cases h
 | [],.pan v,A,μ,ds',m,w,h,W,hl,hd,hm,hR=>by
  simp only[DR] at hd;subst hd
  obtain⟨v',rfl,hv⟩:=hm
  simp only[zbC] at h;cases h
  exact hR _ _ μ ⟨v',rfl,hv⟩ W Ext.refl
 | [],.recd v,A,μ,ds',m,w,h,W,hl,hd,hm,hR=>by simp only[zbC] at h;cases h
 | .fn f cap args::ds,u,A,μ,ds',m,w,h,W,hl,hd,hm,hR=>by
  simp only[DR] at hd
  obtain⟨cap',args',r,rfl,h1,h2,h3⟩:=hd;unfold zbC at h
  split at h
  ·rename_i u1 A1 hD
   obtain⟨hinv,hc⟩:=zGg (args':=args'++cap') hcall hsame hdr hD W hm (by rw[xv];exact h2.append h1)
   refine⟨hm.ne,.inr ⟨fun hd=>(by simp[Fence.wide] at hd),.func f,cap',f,args'++cap',rfl,hinv,fun _ _=>trivial,hc.mono fun e1 m' w' ⟨v,he,μ',hm',W',E'⟩=>?_⟩⟩
   subst he;exact zfB hcall hsame hdr ds (zls u1) A1 μ' r (settle m') w' h W' (hl.mono E'.le) (h3.mono E'.le) (zrn hm') fun e' w'' μ'' g1 g2 g3=>hR e' w'' μ'' g1 g2 (E'.trans g3)
  ·cases h
 | .mark i::ds,u,A,μ,ds',m,w,h,W,hl,hd,hm,hR=>by
  simp only[DR] at hd
  obtain⟨lo,r,rfl,h1,h2⟩:=hd;unfold zbC at h
  split at h
  ·rename_i hg
   rw[zgs] at h;obtain⟨o1,ho1,ho2⟩:=W.has _ _ _ hg h1
   simp only[OR,if_true] at ho2
   subst ho2;obtain⟨W1,E1⟩:=W.upd (o:=.dfr false) (o':=.deferred none) hg h1 rfl;refine⟨hm.ne,.inl ⟨lo.b,_,rfl,run_takeDeferred ho1,?_⟩⟩;exact zfB hcall hsame hdr ds u _ μ r m _ h W1.lay hl h2 hm fun e' w'' μ'' g1 g2 g3=>hR e' w'' μ'' g1 g2 (E1.lay.trans g3)
  ·cases h
noncomputable def fPs {α:Type}:List Tmp->List Value->AA->(AA->α)->α
 | t::ts,v::vs,a,k=>fV v fun v=>zcv a (some t) v fun a=>fPs ts vs a k
 | _,_,a,k=>k a
noncomputable def zrL:List Tmp->List Value->AA->AA
 | t::ts,v::vs,a=>zrL ts vs (a.put (some t) v)
 | _,_,a=>a
theorem zzL {α:Type}:∀(ts:List Tmp) (vs:List Value) (a:AA) (k:AA->α),fPs ts vs a k=k (zrL ts vs a)
 | [],_,_,_=>rfl
 | _::_,[],_,_=>rfl
 | t::ts,v::vs,a,k=>by simp only[fPs,zrL,zhf,zaX,zzL ts vs]
theorem zoc:∀(ts:List Tmp) (vs:List Value) (vs':List Value) (a:AA) (b:Act),AAR μ a b->LR μ vs vs'->AAR μ (zrL ts vs a) {b with tmps:=(ts.zip vs').foldl (fun tmps (p:Tmp × Value)=>tmps.setIfInBounds p.1 p.2) b.tmps}
 | [],_,_,a,b,h,_=>h
 | t::ts,[],vs',a,b,h,hl=>by
  simp only[LR] at hl;subst hl
  exact h
 | t::ts,v::vs,vs',a,b,h,hl=>by
  simp only[LR] at hl
  obtain⟨y,ys,rfl,h1,h2⟩:=hl;have:=zoc ts vs ys _ _ (h.put (some t) h1) h2;exact this
noncomputable def zpB (P:Program) (same:XT) (fuel:Nat) (dr:zaw->zcz) (call:zaw) (f:FuncId) (args:List Value) (A:AW):Except String (AE × AW):=
 match P.funcs[f]? with
 | some fn=>match fn.body with
  | some c=>match zxB args 0 .nil fun l=>fN (args.length+(fn.ntmps - args.length)) fun n=>evC P call same (dr call) none fuel c ⟨l,n,[]⟩ A with
   | .ok (.normal,a,A')=>zbC P call same (dr call) fuel fn a.tmps a.defers .ret A'
   | .ok (.ret,a,A')=>zbC P call same (dr call) fuel fn a.tmps a.defers .ret A'
   | .ok (.panic v,a,A')=>zbC P call same (dr call) fuel fn a.tmps a.defers (.pan v) A'
   | .ok _=>.error "exit"
   | .error s=>.error (fn.name++ " > " ++s)
  | none=>.error "no body"
 | none=>.error "no function"
theorem znA {same:XT} {fuel:Nat} {dr:zaw->zcz} {call:zaw} (hcall:zba P call) (hsame:zbr P same) (hdr:zdC P (dr call)) {f:FuncId} {args:List Value} {A A':AW} {e:AE} (h:zpB P same fuel dr call f args A= .ok (e,A')) (μ:Mu) (w:World) (args':Array Value) (W:WR μ A w) (ha:LR μ args args'.toList):
  Calls P f args' w fun e' w'=>∃μ',ER μ' e e'/\WR μ' A' w'/\Ext μ A w μ' A' w':=by
 unfold zpB at h
 split at h
 ·rename_i fn hfn
  split at h
  ·rename_i c hb
   refine(callsIn_wide (n:=0)).1 (callsIn_of_wp_marks (F:=Fence.wide) hfn hb trivial ?_);rw[ziT,zck] at h;have key:∀x a1 A1 u,evC P call same (dr call) none fuel c (zhK fn args) A= .ok (x,a1,A1)->((x= .normal\/x= .ret)/\u=AM.ret\/∃v,x= .panic v/\u= .pan v)->zbC P call same (dr call) fuel fn a1.tmps a1.defers u A1= .ok (e,A')->
     c.wpIn Fence.wide 0 P (bodyPostM Fence.wide 0 P fn fun e' w'=>∃μ',ER μ' e e'/\WR μ' A' w'/\Ext μ A w μ' A' w') {tmps:=args'++xi (fn.ntmps - args'.size) undef,defers:=[]} w:=by
    intro x a1 A1 u he hx hu;refine zoX (ro:=none) hcall hsame hdr fuel c _ A μ _ w x a1 A1 _ he W (zoZ ha) rfl fun e1 b' w' ⟨μ',q1,q2,q3,q4⟩=>?_
    have fin:∀m,MoR μ' u m->LeavesInM Fence.wide 0 P fn b'.tmps (fun e' w'=>∃μ',ER μ' e e'/\WR μ' A' w'/\Ext μ A w μ' A' w') b'.defers m w':=fun m hm=>
     zfB hcall hsame hdr a1.defers u A1 μ' b'.defers m w' hu q3 q2.tmps q2.defers hm fun e' w'' μ'' g1 g2 g3=>⟨μ'',g1,g2,q4.trans g3⟩
    rcases hx with ⟨hx,rfl⟩ | ⟨v,rfl,rfl⟩
    ·rcases hx with rfl | rfl
     ·simp only[XR] at q1;subst q1;exact fin _ rfl
     ·simp only[XR] at q1;subst q1;exact fin _ rfl
    ·simp only[XR] at q1;obtain⟨v',rfl,hv⟩:=q1
     exact fin _ ⟨v',rfl,hv⟩
   split at h
   ·rename_i a1 A1 he;exact key _ _ _ .ret he (.inl ⟨.inl rfl,rfl⟩) h
   ·rename_i a1 A1 he;exact key _ _ _ .ret he (.inl ⟨.inr rfl,rfl⟩) h
   ·rename_i v a1 A1 he;exact key _ _ _ (.pan v) he (.inr ⟨v,rfl,rfl⟩) h
   ·cases h
   ·cases h
  ·cases h
 ·cases h
noncomputable def endR:AX->Option (Bool × AJ)
 | .normal=>some (true,.none)
 | .ret=>some (false,.ret)
 | .exit id=>some (false,.exit id)
 | .goto l=>some (false,.goto l)
 | .panic _=>none
noncomputable def stOf:Bool->LoopState
 | true=>.ready
 | false=>.done
noncomputable def zpA (P:Program) (same:XT) (fuel:Nat) (dr:zaw->zcz) (call:zaw) (r:Nat) (args:List Value) (A:AW):Except String (AE × AW):=
 match A.get r with
 | some (.loop .ready _ ps asg bd t n)=>if xd args.length ps.size then
   fPs ps.toList args ⟨t,n,[]⟩ fun a0=>match evC P call same (dr call) (some r) fuel asg a0 A with
   | .ok (.normal,a1,A1)=>(match A1.get r with
    | some (.loop .ready j ps2 asg2 bd2 t2 n2)=>fW (A1.set r (some (.loop .busy j ps2 asg2 bd2 t2 n2))) fun A2=>
     (match evC P call same (dr call) (some r) fuel bd a1 A2 with
     | .ok (x,_,A3)=>(match endR x,A3.get r with
      | some (v,jj),some (.loop _ _ ps3 asg3 bd3 t3 n3)=>fW (A3.set r (some (.loop (stOf v) jj ps3 asg3 bd3 t3 n3))) fun A4=>.ok (.ret (.bool v),A4)
      | _,_=>.error "round: its end")
     | .error s=>.error ("round > " ++s))
    | _=>.error "round: no record")
   | .ok _=>.error "round: assign"
   | .error s=>.error ("assign > " ++s)
  else .error "round: parameters"
 | _=>.error "round: not ready"
theorem zBp {v:Bool} {jj:AJ} {x:AX} {e:Exit} {l:Nat} {q:Loop} {R:Ending->World->Prop} {b:Act} (hx:endR x=some (v,jj)) (hX:XR μ x e) (hh:w.heap[l]? =some (.loop q)) (hR:R (.returned (.bool v)) (w.putObj l (.loop {q with state:=stOf v,pending:=jj.code}))):roundPost P l R e b w:=by
 cases x with
 | normal=>cases hx;simp only[XR] at hX;subst hX;exact⟨_,_,run_endRound none hh,hR⟩
 | ret=>cases hx;simp only[XR] at hX;subst hX;exact⟨_,_,run_endRound (some .ret) hh,hR⟩
 | exit id=>cases hx;simp only[XR] at hX;subst hX;exact⟨_,_,run_endRound (some (.exit id)) hh,hR⟩
 | goto t=>cases hx;simp only[XR] at hX;subst hX;exact⟨_,_,run_endRound (some (.goto t)) hh,hR⟩
 | panic v=>cases hx
theorem zvL (ps:Array Tmp) (vs:Array Value) (l:Array Value):(ps.zip vs).foldl (fun tmps (p:Tmp × Value)=>tmps.setIfInBounds p.1 p.2) l=(ps.toList.zip vs.toList).foldl (fun tmps (p:Tmp × Value)=>tmps.setIfInBounds p.1 p.2) l:=by
 rw[<- Array.foldl_toList,Array.toList_zip]
theorem znz {same:XT} {fuel:Nat} {dr:zaw->zcz} {call:zaw} (hcall:zba P call) (hsame:zbr P same) (hdr:zdC P (dr call)) {r:Nat} {args:List Value} {A A':AW} {e:AE} (h:zpA P same fuel dr call r args A= .ok (e,A')) (μ:Mu) (w:World) (args':Array Value) (l:Loc) (W:WR μ A w) (ha:LR μ args args'.toList) (hl:μ r=some l):
  ∃q:Loop,w.heap[l.b]? =some (.loop q)/\args'.size=q.params.size/\RoundIn Fence.wide 0 P l.b q.fn ((q.params.zip args').foldl (fun tmps (t,a)=>tmps.setIfInBounds t a) q.tmps) q.assign q.body w fun e' w'=>∃μ',ER μ' e e'/\WR μ' A' w'/\Ext μ A w μ' A' w':=by
 unfold zpA at h
 split at h
 ·rename_i j0 ps asg bd t n hg
  split at h
  ·rename_i hlen
   rw[zzL] at h;obtain⟨o1,ho1,q,rfl,g1,g2,g3,g4,g5,g6,g7⟩:=W.has _ _ _ hg hl;have hsz:args'.size=args.length:=by simpa using ha.len
   have hlen':args'.size=q.params.size:=by rw[hsz,g3];exact xh hlen
   refine⟨q,ho1,hlen',roundIn_of_wpIn (F:=Fence.wide) trivial ?_⟩;have hab0:AAR μ ⟨t,n,[]⟩ {tmps:=q.tmps,defers:=[]}:=⟨g7,g6.symm,by simp[DR]⟩
   have hab:AAR μ (zrL ps.toList args ⟨t,n,[]⟩) {tmps:=(q.params.zip args').foldl (fun tmps (t,a)=>tmps.setIfInBounds t a) q.tmps,defers:=[]}:=by
    have h9:=zoc ps.toList args args'.toList _ _ hab0 ha;have h10:=zvL q.params args' q.tmps;rw[g3] at h10⊢;rw[<- h10] at h9;exact h9
   rw[g4,g5];have hro:RO μ (some r) (some l.b):=⟨l,hl,rfl⟩
   split at h
   ·rename_i a1 A1 he
    split at h
    ·rename_i j ps2 asg2 bd2 t2 n2 hg2
     rw[zgs] at h
     split at h
     ·rename_i x a3 A3 he3
      split at h
      ·rename_i v jj st3 j3 ps3 asg3 bd3 t3 n3 hx hg3
       rw[zgs] at h
       cases h
       refine zoX (ro:=some l.b) hcall hsame hdr fuel asg _ A μ _ w _ _ _ _ he W hab hro fun e1 b1 w1 ⟨μ1,q1,q2,q3,q4⟩=>?_
       simp only[XR] at q1;subst q1
       have hl1:=q4.le _ _ hl;obtain⟨o2,ho2,p,rfl,k1,k2,k3,k4,k5,k6,k7⟩:=q3.has _ _ _ hg2 hl1;obtain⟨W2,E2⟩:=q3.upd (o:=.loop .busy j ps2 asg2 bd2 t2 n2) (o':=.loop {p with state:=.busy}) hg2 hl1 ⟨_,rfl,rfl,k2,k3,k4,k5,k6,k7⟩
       refine⟨_,run_beginRound ho2 k1,?_⟩;refine zoX (ro:=some l.b) hcall hsame hdr fuel bd _ _ μ1 _ _ _ _ _ _ he3 W2.lay q2 (hro.mono q4.le) fun e3 b3 w3 ⟨μ3,r1,r2,r3,r4⟩=>?_
       have hl3:=r4.le _ _ hl1;obtain⟨o3,ho3,p3,rfl,m1,m2,m3,m4,m5,m6,m7⟩:=r3.has _ _ _ hg3 hl3;obtain⟨W4,E4⟩:=r3.upd (o:=.loop (stOf v) jj ps3 asg3 bd3 t3 n3) (o':=.loop {p3 with state:=stOf v,pending:=jj.code}) hg3 hl3 ⟨_,rfl,rfl,rfl,m3,m4,m5,m6,m7⟩
       exact zBp hx r1 ho3 ⟨μ3,by simp only[ER,VR],W4.lay,((q4.trans E2.lay).trans r4).trans E4.lay⟩
      ·cases h
     ·cases h
    ·cases h
   ·cases h
   ·cases h
  ·cases h
 ·cases h
noncomputable def evF (P:Program) (same:XT) (fuel:Nat) (dr:zaw->zcz):Nat->zaw
 | 0=>fun _ _ _ _=>.error "too deep"
 | n+1=>fun y f args A=>if y then zpA P same fuel dr (evF P same fuel dr n) f args A else zpB P same fuel dr (evF P same fuel dr n) f args A
theorem zeX {same:XT} {fuel:Nat} {dr:zaw->zcz} (hsame:zbr P same) (hdr:∀call,zba P call->zdC P (dr call)):∀n,zba P (evF P same fuel dr n)
 | 0=>⟨fun f args A e A' h=>(by cases h),fun f args A e A' h=>(by cases h)⟩
 | n+1=>⟨fun f args A e A' h=>znA (zeX hsame hdr n) hsame (hdr _ (zeX hsame hdr n)) (show zpB P same fuel dr (evF P same fuel dr n) f args A= .ok (e,A') from h),fun r args A e A' h=>znz (zeX hsame hdr n) hsame (hdr _ (zeX hsame hdr n)) (show zpA P same fuel dr (evF P same fuel dr n) r args A= .ok (e,A') from h)⟩
end Ev
end
section
namespace Ev
variable {P:Program}
def quiet:Op->Bool
 | .move _ | .assign _ | .pick _ _ _ | .build _ _ | .unOp _ _ _ | .index _ _ _ | .fieldAddr _ _ _ | .field _ _ _ | .indexAddr _ _ _ | .extract _ _ | .makeFunc _ _ _ | .makeInterface _ _ | .nilCheck _=>true
 | _=>false
def looks (P:Program):Op->Bool
 | .load _ _ | .lookup _ _ _ _ | .binOp _ _ _ _ _ | .slice _ _ _ _ _=>true
 | .convert _ d _=>match P.underlying d with
  | some (.slice _)=>false
  | _=>true
 | .call {callee:=.builtin .len,args:=_,argTypes:=_} | .call {callee:=.builtin .unsafeSliceData,args:=_,argTypes:=_} | .call {callee:=.builtin .max,args:=_,argTypes:=_} | .call {callee:=.builtin .min,args:=_,argTypes:=_}=>true
 | _=>false
def zGr:Operand->Bool
 | .const _=>true
 | _=>false
def early (o:Oper):Bool:=match o.op with
 | .alloc _=>o.guard.isNone
 | .makeMap _ none=>o.guard.isNone
 | .makeSlice _ _ _=>o.guard.isNone
 | .buildSlice _ _ ps=>o.guard.isNone&&ps.toList.all fun x=>zGr x.2
 | _=>false
theorem zpb {o:Oper} (h:early o=true):looks P o.op=false/\o.guard=none:=by
 unfold early at h
 split at h
 ·rename_i ht
  rw[ht];exact⟨rfl,by simpa using h⟩
 ·rename_i ht
  rw[ht];exact⟨rfl,by simpa using h⟩
 ·rename_i ht
  rw[ht];exact⟨rfl,by simpa using h⟩
 ·rename_i ht
  rw[ht];rw[xa] at h;exact⟨rfl,by simpa using h.1⟩
 ·cases h
def zjr (P:Program) (o:Oper):Bool:= !(quiet o.op || looks P o.op || early o)
theorem zcO {x:Option Value} {A A' B:AW} {v:Value} (h:o1 x A=some (v,A')):o1 x B=some (v,B):=by
 obtain⟨h,_⟩:=zcg h;rw[h];rfl
theorem zrK {l:Env} {o:Oper} {A A':AW} {v:Value} (hq:quiet o.op=true) (h:aOp P l o A=some (v,A')) (B:AW):aOp P l o B=some (v,B):=by
 obtain⟨dst,op,type,pos,after,guard⟩:=o
 simp only at hq
 cases op<;>simp only[quiet] at hq<;>first
  | (cases hq;done)
  | skip
 ·exact zcO h
 ·exact zcO h
 ·unfold aOp at h⊢
  simp only at h⊢
  split at h
  ·exact zcO h
  ·exact zcO h
  ·cases h
 ·exact zcO h
 ·unfold aOp at h⊢
  simp only at h⊢
  split at h
  ·split at h
   ·rename_i hn;cases h;rw[if_pos hn]
   ·cases h
  ·cases h
 ·exact zcO h
 ·unfold aOp at h⊢
  simp only at h⊢
  split at h
  ·exact zcO h
  ·cases h
 ·rename_i fn first captured
  cases fn with
  | func f=>
   unfold aOp at h⊢
   simp only at h⊢
   split at h
   ·cases h;rfl
   ·cases h
  | method n=>cases h
  | methodOf t n=>cases h
  | via t p f b=>cases h
  | yield n=>cases h
 ·unfold aOp at h⊢
  simp only at h⊢
  split at h
  ·exact zcO h
  ·cases h
 ·unfold aOp at h⊢
  simp only at h⊢
  split at h
  ·exact zcO h
  ·cases h
 ·unfold aOp at h⊢
  simp only at h⊢
  split at h
  ·exact zcO h
  ·cases h
 ·exact zcO h
 ·unfold aOp at h⊢
  simp only at h⊢
  split at h
  ·exact zcO h
  ·cases h
theorem zpU {l:Env} {o:Oper} {A A':AW} {v:Value} (hq:looks P o.op=true) (h:aOp P l o A=some (v,A')):A'=A:=by
 obtain⟨dst,op,type,pos,after,guard⟩:=o
 simp only at hq
 unfold looks at hq
 split at hq
 ·simp only[aOp] at h
  split at h
  ·exact(zcg h).2
  ·cases h
 ·simp only[aOp] at h
  split at h
  ·exact(zcg h).2
  ·cases h
 ·simp only[aOp] at h
  split at h
  ·cases h;rfl
  ·split at h
   ·exact(zcg h).2
   ·cases h
 ·rename_i t x lo hi mx
  cases mx with
  | none=>
   simp only[aOp] at h
   split at h
   ·cases h;rfl
   ·split at h
    ·cases h;rfl
    ·split at h
     ·exact(zcg h).2
     ·cases h
  | some m=>cases h
 ·rename_i s d x
  split at hq
  ·cases hq
  ·rename_i hnd
   simp only[aOp] at h
   split at h
   ·cases h;rfl
   ·split at h
    ·split at h
     ·cases h;rfl
     ·split at h
      ·cases h;rfl
      ·split at h
       ·unfold zGC at h
        split at h
        ·split at h
         ·rename_i e he
          exact absurd he (hnd e)
         ·cases h
        ·cases h
       ·cases h
    ·cases h
 ·rename_i args ts
  obtain⟨args⟩:=args;obtain⟨ts⟩:=ts
  simp only[aOp,zcM] at h
  split at h
  ·cases h;rfl
  ·split at h
   ·split at h
    ·split at h
     ·cases h;rfl
     ·cases h
    ·cases h
   ·rename_i e1 _;cases e1
   ·rename_i e1 _;cases e1
   ·rename_i e1 _;cases e1
   ·rename_i e1 _;cases e1
   ·rename_i e1 _;cases e1
   ·cases h
 ·rename_i args ts
  obtain⟨args⟩:=args;obtain⟨ts⟩:=ts
  simp only[aOp,zcM] at h
  split at h
  ·cases h;rfl
  ·split at h
   ·rename_i e1 _;cases e1
   ·rename_i e1 _;cases e1
   ·split at h
    ·split at h
     ·cases h;rfl
     ·cases h
    ·cases h
   ·rename_i e1 _;cases e1
   ·rename_i e1 _;cases e1
   ·rename_i e1 _;cases e1
   ·cases h
 ·rename_i args ts
  obtain⟨args⟩:=args;obtain⟨ts⟩:=ts
  simp only[aOp,zcM] at h
  split at h
  ·cases h;rfl
  ·cases h
 ·rename_i args ts
  obtain⟨args⟩:=args;obtain⟨ts⟩:=ts
  simp only[aOp,zcM] at h
  split at h
  ·cases h;rfl
  ·cases h
 ·cases hq
end Ev
end
section
namespace Ev
variable {P:Program}
def zBE (acc:List Nat):List Edge->Nat
 | []=>0
 | e::r=>if Region.binds .any e then (1<<<e.on) ||| acc.getD e.on 0 ||| zBE acc r else zBE acc r
def zGz:List Oper->List Nat->List Nat
 | [],acc=>acc
 | o::r,acc=>zGz r (acc++[zBE acc o.after.toList])
def bef (ops:Array Oper) (i p:Nat):Bool:=((zGz ops.toList []).getD i 0).testBit p
def zvx (ops:Array Oper) (lst:Nat->Bool):Prop:=∀i o,ops[i]? =some o->lst i=true->∀e∈o.after.toList,Region.binds .any e=true->lst e.on=true
def zvv (ops:Array Oper) (lst:Nat->Bool) (i:Nat):Prop:=∀o,ops[i]? =some o->∀e∈o.after.toList,Region.binds .any e=true->lst e.on=true
theorem zgz {acc:List Nat} {p:Nat}:∀{es:List Edge},(zBE acc es).testBit p=true->∃e∈es,Region.binds .any e=true/\(p=e.on\/(acc.getD e.on 0).testBit p=true)
 | [],h=>by simp[zBE] at h
 | e::r,h=>by
  simp only[zBE] at h
  split at h
  ·rename_i hb
   rw[xB,xB,xq,xq] at h
   rcases h with (h | h) | h
   ·rw[Nat.one_shiftLeft,Nat.testBit_two_pow] at h
    have h9:e.on=p:=by simpa using h
    exact⟨e,by simp,hb,.inl h9.symm⟩
   ·exact⟨e,by simp,hb,.inr h⟩
   ·obtain⟨e',h1,h2,h3⟩:=zgz h
    exact⟨e',by simp[h1],h2,h3⟩
  ·obtain⟨e',h1,h2,h3⟩:=zgz h
   exact⟨e',by simp[h1],h2,h3⟩
def zGG (ops:Array Oper) (i x:Nat):Prop:=∀p,x.testBit p=true->p<i/\∀lst,zvx ops lst->zvv ops lst i->lst p=true
def s0 (ops:Array Oper):Bool:=(xg ops.size).all fun i=>match ops[i]? with
 | some o=>o.after.toList.all fun e=> !Region.binds .any e || xC e.on i
 | none=>true
theorem zrs {ops:Array Oper} (h:s0 ops=true) {i:Nat} {o:Oper} (ho:ops[i]? =some o) {e:Edge} (he:e∈o.after.toList) (hb:Region.binds .any e=true):e.on<i:=by
 have hi:i<ops.size:=(xe.1 ho).1;have h1:=xb.1 h i (xf.2 hi);rw[ho] at h1;have h2:=xb.1 h1 e he;rw[hb] at h2
 simp only[xp,xw] at h2
 exact xr h2
theorem zuo {l:List Nat} {x i:Nat}:(l++[x]).getD i 0=if i<l.length then l.getD i 0 else if i=l.length then x else 0:=by
 simp only[List.getD]
 by_cases h:i<l.length
 ·rw[if_pos h,xn h]
 ·rw[if_neg h,List.getElem?_append_right (by omega)]
  by_cases e:i=l.length
  ·rw[if_pos e,e];simp
  ·rw[if_neg e,xt (by simp;omega)];rfl
theorem zkT {ops:Array Oper} (h0:s0 ops=true):∀(os:List Oper) (acc:List Nat),ops.toList.drop acc.length=os->(∀i,i<acc.length->zGG ops i (acc.getD i 0))->∀i,zGG ops i ((zGz os acc).getD i 0)
 | [],acc,_,h,i=>by
  simp only[zGz]
  rcases xD i acc.length with hi | hi
  ·exact h i hi
  ·intro p hp
   rw[List.getD,xt hi] at hp
   simp at hp
 | o::r,acc,hd,h,i=>by
  simp only[zGz]
  have ho:ops[acc.length]? =some o:=by
   rw[<- xj];have:=congrArg (fun l=>l[0]?) hd
   simpa using this
  refine zkT h0 r (acc++[zBE acc o.after.toList]) ?_ (fun j hj=>?_) i
  ·rw[List.length_append,List.length_singleton,<- List.drop_drop,hd];rfl
  ·rw[zuo]
   by_cases hlt:j<acc.length
   ·rw[if_pos hlt];exact h j hlt
   ·rw[if_neg hlt]
    have hje:j=acc.length:=by simp at hj;omega
    rw[if_pos hje];subst hje;intro p hp;obtain⟨e,he,hb,hor⟩:=zgz hp;have hlt2:=zrs h0 ho he hb
    rcases hor with rfl | hor
    ·exact⟨hlt2,fun lst _ hpr=>hpr o ho e he hb⟩
    ·obtain⟨h1,h2⟩:=h e.on hlt2 p hor
     refine⟨by omega,fun lst hcl hpr=>h2 lst hcl fun o' ho' e' he' hb'=>?_⟩
     exact hcl e.on o' ho' (hpr o ho e he hb) e' he' hb'
theorem zem {ops:Array Oper} (h0:s0 ops=true) {i p:Nat} (h:bef ops i p=true):p<i/\∀lst,zvx ops lst->zvv ops lst i->lst p=true:=
 zkT h0 ops.toList [] (by simp) (fun i hi=>by simp at hi) i p h
def zbT (P:Program) (ops:Array Oper) (i:Nat):Bool:=match ops[i]? with
 | some o=>zjr P o
 | none=>false
def cnt (P:Program) (ops:Array Oper):Nat->Nat
 | 0=>0
 | i+1=>if zbT P ops i then cnt P ops i+1 else cnt P ops i
theorem zja {ops:Array Oper}:∀{i c:Nat},c<cnt P ops i->∃j,j<i/\zbT P ops j=true/\cnt P ops j=c
 | 0,c,h=>by simp[cnt] at h
 | i+1,c,h=>by
  simp only[cnt] at h
  split at h
  ·rename_i he
   rcases xD c (cnt P ops i) with h1 | h1
   ·obtain⟨j,h2,h3,h4⟩:=zja h1
    exact⟨j,by omega,h3,h4⟩
   ·exact⟨i,by omega,he,by omega⟩
  ·obtain⟨j,h2,h3,h4⟩:=zja h
   exact⟨j,by omega,h3,h4⟩
theorem zpg {ops : Array Oper} : ∀ {i j : Nat}, i ≤ j → cnt P ops i ≤ cnt P ops j
  | i, 0, h => by have : i = 0 := by omega
                  subst this; exact xk _
  | i, j + 1, h => by
    by_cases e : i = j + 1
    · subst e; exact xk _
    · have := zpg (ops := ops) (show i ≤ j by omega)
      simp only [cnt]
      split <;> omega
theorem zzW {ops:Array Oper} {i j:Nat} (h:i<j) (he:zbT P ops i=true):cnt P ops i<cnt P ops j:=by
 have h1:cnt P ops (i+1)=cnt P ops i+1:=by simp[cnt,he]
 have h2:=zpg (P:=P) (ops:=ops) (show i+1<=j by omega)
 omega
theorem zBA {ops:Array Oper} {i j:Nat} (hi:zbT P ops i=true) (hj:zbT P ops j=true) (h:cnt P ops i=cnt P ops j):i=j:=by
 rcases xy i j with h1 | h1 | h1
 ·have:=zzW h1 hi;omega
 ·exact h1
 ·have:=zzW h1 hj;omega
def zbj (ops:Array Oper) (i:Nat):Bool:=match ops[i]? with
 | some o=>early o
 | none=>false
def zbZ (ops:Array Oper):Nat->Nat
 | 0=>0
 | i+1=>if zbj ops i then zbZ ops i+1 else zbZ ops i
theorem zkJ {ops : Array Oper} : ∀ {i j : Nat}, i ≤ j → zbZ ops i ≤ zbZ ops j
  | i, 0, h => by have : i = 0 := by omega
                  subst this; exact xk _
  | i, j + 1, h => by
    by_cases e : i = j + 1
    · subst e; exact xk _
    · have := zkJ (ops := ops) (show i ≤ j by omega)
      simp only [zbZ]
      split <;> omega
theorem ziX {ops:Array Oper} {i j:Nat} (h:i<j) (he:zbj ops i=true):zbZ ops i<zbZ ops j:=by
 have h1:zbZ ops (i+1)=zbZ ops i+1:=by simp[zbZ,he]
 have h2:=zkJ (ops:=ops) (show i+1<=j by omega)
 omega
theorem zxH {ops:Array Oper} {i j:Nat} (hi:zbj ops i=true) (hj:zbj ops j=true) (h:zbZ ops i=zbZ ops j):i=j:=by
 rcases xy i j with h1 | h1 | h1
 ·have:=ziX h1 hi;omega
 ·exact h1
 ·have:=ziX h1 hj;omega
theorem zxI {ops:Array Oper} {i:Nat} (h:zbj ops i=true):i<ops.size:=by
 unfold zbj at h
 cases ho:ops[i]? with
 | none=>rw[ho] at h;cases h
 | some o=>exact(xe.1 ho).1
def zjX (P:Program) (ops:Array Oper) (i j:Nat):Bool:=(xg ops.size).all fun k=> !zbT P ops k || (if xC (cnt P ops k) j then !bef ops k i else !bef ops i k)
def zcw (ops:Array Oper) (i:Nat):Option Tmp:=(ops[i]?).bind (·.dst)
def eqT:Option Tmp->Nat->Bool
 | some d,t=>xd d t
 | none,_=>false
theorem ziW {x:Option Tmp} {t:Nat}:eqT x t=true ↔ x=some t:=by
 cases x with
 | none=>simp[eqT]
 | some d=>simp only[eqT,Option.some.injEq];exact Nat.beq_eq ▸ Iff.rfl
def zrX (P:Program) (ops:Array Oper) (size:Nat):Bool:=
 s0 ops&&
 ((xg ops.size).all fun i=>match zcw ops i with
  | some d=>xC d size&&(xg ops.size).all fun j=>xd j i || !eqT (zcw ops j) d
  | none=>true)&&
 ((xg ops.size).all fun i=>match ops[i]? with
  | some o=>(o.looksAt ops).all fun t=>(xg ops.size).all fun j=> !eqT (zcw ops j) t || xd j i || bef ops i j || bef ops j i
  | none=>true)&&
 ((xg ops.size).all fun i=> !zbT P ops i || (xg i).all fun j=> !zbT P ops j || bef ops i j)
structure OkD (P:Program) (ops:Array Oper) (size:Nat):Prop where
 h0:s0 ops=true
 small:∀i d,zcw ops i=some d->d<size
 uniq:∀i j d,zcw ops i=some d->zcw ops j=some d->i=j
 deps:∀i o t j,ops[i]? =some o->t∈o.looksAt ops->zcw ops j=some t->j=i\/bef ops i j=true\/bef ops j i=true
 chain:∀i j,zbT P ops i=true->zbT P ops j=true->j<i->bef ops i j=true
theorem zhL {ops:Array Oper} {i d:Nat} (h:zcw ops i=some d):i<ops.size:=by
 unfold zcw at h
 cases ho:ops[i]? with
 | none=>rw[ho] at h;cases h
 | some o=>exact(xe.1 ho).1
theorem zzQ {ops:Array Oper} {i:Nat} (h:zbT P ops i=true):i<ops.size:=by
 unfold zbT at h
 cases ho:ops[i]? with
 | none=>rw[ho] at h;cases h
 | some o=>exact(xe.1 ho).1
theorem zlM {ops:Array Oper} {size:Nat} (h:zrX P ops size=true):OkD P ops size:=by
 unfold zrX at h
 simp only[xa] at h
 obtain⟨⟨⟨h0,h1⟩,h2⟩,h3⟩:=h;refine⟨h0,fun i d hd=>?_,fun i j d hi hj=>?_,fun i o t j ho ht hj=>?_,fun i j hi hj hlt=>?_⟩
 ·have:=xb.1 h1 i (xf.2 (zhL hd))
  rw[hd] at this
  simp only[xa] at this
  exact xr this.1
 ·have:=xb.1 h1 i (xf.2 (zhL hi))
  rw[hi] at this
  simp only[xa] at this
  have h5:=xb.1 this.2 j (xf.2 (zhL hj));rw[ziW.2 hj] at h5
  simp only[xp,Bool.or_false] at h5
  exact(xh h5).symm
 ·have:=xb.1 h2 i (xf.2 (xe.1 ho).1)
  rw[ho] at this;have h5:=xb.1 (xb.1 this t ht) j (xf.2 (zhL hj));rw[ziW.2 hj] at h5
  simp only[xp,xw,xq] at h5
  rcases h5 with (h5 | h5) | h5
  ·exact .inl (xh h5)
  ·exact .inr (.inl h5)
  ·exact .inr (.inr h5)
 ·have:=xb.1 h3 i (xf.2 (zzQ hi))
  rw[hi] at this
  simp only[xp,xw] at this
  have h5:=xb.1 this j (xf.2 hlt);rw[hj] at h5
  simpa using h5
def zdy (ops:Array Oper) (t:Nat):Option Nat:=(xg ops.size).find? fun p=>eqT (zcw ops p) t
theorem zbL {ops:Array Oper} {t p:Nat} (h:zdy ops t=some p):zcw ops p=some t:=by
 unfold zdy at h;have h1:=List.find?_some (p:=fun p=>eqT (zcw ops p) t) h
 exact ziW.1 h1
theorem zfy {ops:Array Oper} {size t p:Nat} (hk:OkD P ops size) (h:zcw ops p=some t):zdy ops t=some p:=by
 cases hw:zdy ops t with
 | none=>
  unfold zdy at hw;have:=List.find?_eq_none.1 hw p (xf.2 (zhL h));exact absurd (ziW.2 h) this
 | some q=>rw[hk.uniq p q t h (zbL hw)]
noncomputable def tv (ops:Array Oper) (val:Nat->Value) (l0:Env) (lst:Nat->Bool) (t:Nat):Option Value:=
 match zdy ops t with
 | some p=>if lst p then some (val p) else l0.get t
 | none=>l0.get t
noncomputable def zux {α:Type} (l:Env) (ts:List Nat):(Env->α)->α:=
 List.rec (motive:=fun _=>(Env->α)->α) (fun k=>k .nil) (fun t _ ih k=>ih fun m=>Option.rec (motive:=fun _=>α) (k m) (fun v=>Tr.fput (some v) (xu t) m t k) (l.get t)) ts
noncomputable def zgG (l:Env):List Nat->Env
 | []=>.nil
 | t::r=>match l.get t with
  | some v=>Tr.put (some v) (t+1) (zgG l r) t
  | none=>zgG l r
theorem zfs {α:Type} (l:Env):∀(ts:List Nat) (k:Env->α),zux l ts k=k (zgG l ts)
 | [],k=>rfl
 | t::r,k=>by
  show zux l r (fun m=>Option.rec (motive:=fun _=>α) (k m) (fun v=>Tr.fput (some v) (xu t) m t k) (l.get t))=_
  rw[zfs l r]
  simp only[zgG]
  cases h:l.get t with
  | none=>rfl
  | some v=>simp only;rw[Tr.fput_eq]
theorem ziD {l:Env}:∀{ts:List Nat} {t:Nat} {v:Value},(zgG l ts).get t=some v->t∈ts/\l.get t=some v
 | [],t,v,h=>by simp only[zgG,Tr.get_nil] at h;cases h
 | s::r,t,v,h=>by
  simp only[zgG] at h
  split at h
  ·rename_i u hu
   rw[Tr.get_put _ _ _ _ _ (by omega)] at h
   split at h
   ·rename_i e;subst e;cases h;exact⟨by simp,hu⟩
   ·obtain⟨h1,h2⟩:=ziD h;exact⟨by simp[h1],h2⟩
  ·obtain⟨h1,h2⟩:=ziD h;exact⟨by simp[h1],h2⟩
def zCf:Value->Value->Bool
 | .bool a,.bool b=>a==b
 | .int .i64 a,.int .i64 b=>a==b
 | .int .u8 a,.int .u8 b=>a==b
 | .int .i32 a,.int .i32 b=>a==b
 | .int .u16 a,.int .u16 b=>a==b
 | .int .u32 a,.int .u32 b=>a==b
 | .int .u64 a,.int .u64 b=>a==b
 | .string a,.string b=>a.data.toList==b.data.toList
 | .pointer none,.pointer none=>true
 | .pointer (some ⟨a,o,none⟩),.pointer (some ⟨b,p,none⟩)=>xd a b&&xd o p
 | .slice none n c,.slice none m d=>xd n m&&xd c d
 | .slice (some ⟨a,o,none⟩) n c,.slice (some ⟨b,p,none⟩) m d=>xd a b&&xd o p&&xd n m&&xd c d
 | .map none,.map none=>true
 | .map (some a),.map (some b)=>xd a b
 | .nilFunc,.nilFunc=>true
 | .func (.func f) ⟨[]⟩ ⟨[]⟩,.func (.func g) ⟨[]⟩ ⟨[]⟩=>xd f g
 | .func (.yield f) ⟨[]⟩ ⟨[]⟩,.func (.yield g) ⟨[]⟩ ⟨[]⟩=>xd f g
 | .nilIface,.nilIface=>true
 | _,_=>false
theorem zeZ {a b:Nat} (h:xd a b=true):a=b:=xh h
theorem zlj {x y:Value} (h:zCf x y=true):x=y:=by
 unfold zCf at h
 split at h<;>first
  | rfl
  | (cases h;done)
  | (rw[eq_of_beq h];done)
  | (simp only[xa] at h;obtain⟨h1,h2⟩:=h;rw[zeZ h1,zeZ h2];done)
  | (simp only[xa] at h;obtain⟨⟨⟨h1,h2⟩,h3⟩,h4⟩:=h;rw[zeZ h1,zeZ h2,zeZ h3,zeZ h4];done)
  | (rw[zeZ h];done)
  | (rename_i a b;obtain⟨⟨a⟩⟩:=a;obtain⟨⟨b⟩⟩:=b;have:=eq_of_beq h;simp only at this;rw[this])
def zvy:List Value->List Value->Bool
 | [],[]=>true
 | x::xs,y::ys=>zCf x y&&zvy xs ys
 | _,_=>false
theorem zcS:∀{xs ys:List Value},zvy xs ys=true->xs=ys
 | [],[],_=>rfl
 | x::xs,y::ys,h=>by
  simp only[zvy,xa] at h
  rw[zlj h.1,zcS h.2]
 | [],_::_,h=>by cases h
 | _::_,[],h=>by cases h
def veq:Value->Value->Bool
 | .agg ⟨x⟩,.agg ⟨y⟩=>zvy x y
 | .tuple ⟨x⟩,.tuple ⟨y⟩=>zvy x y
 | .func (.func f) ⟨x⟩ ⟨y⟩,.func (.func g) ⟨u⟩ ⟨v⟩=>xd f g&&zvy x u&&zvy y v
 | .iface t x,.iface u y=>xd t u&&zCf x y
 | x,y=>zCf x y
theorem zhj {x y:Value} (h:veq x y=true):x=y:=by
 unfold veq at h
 split at h
 ·rw[zcS h]
 ·rw[zcS h]
 ·simp only[xa] at h
  obtain⟨⟨h1,h2⟩,h3⟩:=h;rw[zeZ h1,zcS h2,zcS h3]
 ·simp only[xa] at h
  rw[zeZ h.1,zlj h.2]
 ·exact zlj h
end Ev
end
section
namespace Ev
variable {P:Program}
noncomputable def A00:AW:=⟨[],.nil,ng⟩
def zue:Value->Bool
 | .pointer (some ⟨b,0,none⟩)=>xd b ng
 | .map (some b)=>xd b ng
 | .slice (some ⟨b,0,none⟩) _ c=>xd b ng&&xC c unk
 | _=>false
def rn (e:Nat):Value->Value
 | .pointer (some _)=>.pointer (some ⟨e,0,none⟩)
 | .map (some _)=>.map (some e)
 | .slice (some _) n c=>.slice (some ⟨e,0,none⟩) n c
 | v=>v
def idOf:Value->Nat
 | .pointer (some a)=>a.block
 | .map (some r)=>r
 | .slice (some a) _ _=>a.block
 | _=>0
theorem zAW {e:Nat} {v:Value} (h:zue v=true):idOf (rn e v)=e:=by
 unfold zue at h
 split at h<;>first
  | rfl
  | cases h
def zBj:zbK->Bool
 | .cells vs _ _ _ _=>zbk vs
 | .map [] _=>true
 | _=>false
def fzEq:Option Nat->Option Nat->Bool
 | none,none=>true
 | some a,some b=>xd a b
 | _,_=>false
def zfV:zbK->zbK->Bool
 | .cells vs t op fz es,.cells vs' t' op' fz' es'=>zvy vs vs'&&xd t t'&&(op==op')&&fzEq fz fz'&&xd es es'
 | .map [] c,.map [] c'=>xd c c'
 | _,_=>false
theorem zcF {x y:zbK} (h:zfV x y=true):x=y:=by
 unfold zfV at h
 split at h
 ·rename_i vs t op fz es vs' t' op' fz' es'
  simp only[xa] at h
  obtain⟨⟨⟨⟨h1,h2⟩,h3⟩,h4⟩,h5⟩:=h;have h6:fz=fz':=by
   unfold fzEq at h4
   split at h4
   ·rfl
   ·rw[zeZ h4]
   ·cases h4
  rw[zcS h1,zeZ h2,eq_of_beq h3,h6,zeZ h5]
 ·rw[zeZ h]
 ·cases h
noncomputable def mkE (P:Program) (ts:List Nat) (m:Env) (o:Oper):Option (Value × zbK):=
 if ts.all (fun t=>match m.get t with
  | some v=>zco v
  | none=>true) then match aOp P m o A00 with
  | some (v,A1)=>if zue v then match A1.get ng with
    | some obj=>if zBj obj then some (v,obj) else none
    | none=>none
   else none
  | none=>none
 else none
theorem zAK {ts:List Nat} {m:Env} {o:Oper} {v:Value} {obj:zbK} (h:mkE P ts m o=some (v,obj)):zue v=true:=by
 unfold mkE at h
 split at h
 ·split at h
  ·split at h
   ·rename_i hn
    split at h
    ·split at h
     ·cases h;exact hn
     ·cases h
    ·cases h
   ·cases h
  ·cases h
 ·cases h
end Ev
end
end Go.Proofs.YtbbapnpdfcgjnaaGreatDoor
