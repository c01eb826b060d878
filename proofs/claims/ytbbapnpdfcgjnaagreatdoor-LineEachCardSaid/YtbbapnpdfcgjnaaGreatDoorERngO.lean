/- RngO, RngP, RngQ: parts of the proof, joined. -/
import Derived.RangeFuncNested
import Derived.RangeFuncBound
open Go renaming World->sR, KeepsFrom->sU, OwnFrom->sY, run_endLoop->ta, Value->tc, wpIn_rangeFunc->tg, ownPostG->tj, run_enterLoop_outer->tk, run_enterLoop_inner->tn, wpIn_mono->tr, Program->tw, callFunc->tA, CallsIn->tB, Operand->tC
open Nat renaming le_refl->sS, le_succ->sT, lt_succ_self->td, le_trans->tq
open Array renaming getElem?_eq_some_iff->sV
open Go.World renaming alloc_heap_new->sW, putObj_heap_other->sX, putObj_heap_same->sZ
open Go.Instr renaming endRound->te
open Go.Code renaming rangeFunc->tf
open Go.Target renaming leads->ti
open Go.RowKit.Below renaming refl->tp, heap_alloc->tt
set_option maxHeartbeats 64000000
namespace Go.Proofs.YtbbapnpdfcgjnaaGreatDoor
section
open Go.RowKit
variable {F:Fence} {n:Nat} {P:tw}
def aV(fn:FuncId)(tm:Array tc)(ps:Array Tmp)(assign body:Code)(df:Nat)(st:LoopState)(pe:Option Code):Loop:={state:=st,pending:=pe,fn,tmps:=tm,params:=ps,assign,body,defers:=df}
theorem iW{A C:sR}{row:Option Nat}{m k:Nat}{o:Obj}(hg:A.grownBy C row)(hr:∀r,row=some r->m<=r/\∃o:Obj,A.heap[r]?=some o/\o.isCells=false)(hk:k<m)(h:A.heap[k]?=some o):C.heap[k]?=some o:=
 (hg.block k (sV.1 h).1 fun e=>by have:=(hr k e.symm).1;omega).trans h
theorem kd{β:Type}{B C:Nat}{J:β->sR->Prop}(h:sY B J)(hBC:B<=C):sY C J:=fun s W W' row hs hg hr=>
 h s W W' row hs hg fun r e=>⟨tq hBC (hr r e).1,(hr r e).2⟩
theorem fP{B C:Nat}{X Y:sR}(h:sU B X Y)(hBC:B<=C):sU C X Y:=⟨h.size,fun k o hk=>h.same k o (tq hBC hk)⟩
theorem jh(X:sR)(k:Nat)(o:Obj):sU (k+1) X (X.putObj k o):=⟨by simp,fun i o' hi h _=>(sX (by omega)).trans h⟩
end
section
open Go.RowKit
variable {F:Fence} {n:Nat} {P:tw}
def zkM{α:Type}(F:Fence)(n:Nat)(P:tw)(g:Nat)(lb:Array tc)(encs:α->Array tc)(Kp:Nat->sR->sR->Prop)(S Sp:List α->Prop)(w:sR):Prop:=
 ∀(l:Nat)(J Jx:List α->sR->Prop)(W:sR),Below w.heap.size w W->sY W.heap.size J->sY W.heap.size Jx->
  (∀pre x W1,J pre W1->Sp (pre++[x])->YieldAt F (n-1) P l (encs x) W1 fun e W'=>
   sU W.heap.size W1 W'/\((e=.returned (.bool true)/\J (pre++[x]) W'/\Kp W.heap.size W1 W')\/(e=.returned (.bool false)/\Jx (pre++[x]) W')))->
  J [] W->
  tB F n P g (#[.func (.yield l) #[] #[]]++lb) W fun e W'=>(∃v,e=.returned v)/\((∃xs,S xs/\J xs W')\/(∃pre,Sp pre/\Jx pre W'))
theorem qZ{α:Type}{fn:FuncId}(hfn:F.fn fn){ps:Array Tmp}{assign body:Code}{tm:Array tc}{df lr B:Nat}{W1 w0:sR}(hB:B<=lr)(hsz:W1.heap.size=lr+1)
  (hL:W1.heap[lr]?=some (.loop (aV fn tm ps assign body df .ready none)))
  {gf:Nat} {lb:Array tc} {encs:α->Array tc} {Kp:Nat->sR->sR->Prop} {S Sp:List α->Prop} (hseq:zkM F n P gf lb encs Kp S Sp w0) (hb1:Below w0.heap.size w0 W1)
  (hKt:∀{A B C:sR},Kp (lr+1) A B->Kp (lr+1) B C->Kp (lr+1) A C) (hKb:∀(W:sR)(o o':Obj),W.heap[lr]?=some o->o.isCells=false->o.isWalk=false->Kp (lr+1) W (W.putObj lr o')) (hps:∀x,(encs x).size=ps.size)
  (I:List α->sR->Prop) (Ix:Code->List α->sR->Prop) (hI:sY lr I) (hIx:∀c,sY lr (Ix c)) (h0:I [] W1) (Ax:α->Act->sR->Prop) (hAx:∀x a',sY lr (fun(_:Unit) W=>Ax x a' W))
  (hassign:∀(pre:List α)(x:α)(W:sR)(K:Act->sR->Prop),I pre W->(∀a' W',sU B W W'->Kp (lr+1) W W'->I pre W'->Ax x a' W'->K a' W')->
   assign.wpIn (F.inRound lr) (n-1) P (Exit.then K (fun _ _ _=>False)) {tmps:=(ps.zip (encs x)).foldl (fun t (p,v)=>t.setIfInBounds p v) tm,defers:=[]} W)
  (hbody:∀(pre:List α)(x:α)(a':Act)(W:sR),(∃r,W.heap[lr]?=some (.loop r))->I pre W->Ax x a' W->Sp (pre++[x])->body.wpIn (F.inRound lr) (n-1) P (tj B (Kp (lr+1)) I Ix (pre++[x]) W) a' W):
  tB F n P gf (#[.func (.yield lr) #[] #[]]++lb) W1 fun e W=>(∃v,e=.returned v)∧
   ((∃xs,S xs/\I xs W/\W.heap[lr]?=some (.loop (aV fn tm ps assign body df .ready none)))\/∃pre,Sp pre/\∃c,Ix c pre W/\W.heap[lr]?=some (.loop (aV fn tm ps assign body df .done (some c)))):=by
 refine hseq lr (fun pre W=>I pre W/\W.heap[lr]?=some (.loop (aV fn tm ps assign body df .ready none))) (fun pre W=>∃c,Ix c pre W/\W.heap[lr]?=some (.loop (aV fn tm ps assign body df .done (some c)))) W1 hb1 ?_ ?_ ?_ ⟨h0,hL⟩
 ·intro s A C row hs hg hr
  exact⟨kd hI (by omega) s A C row hs.1 hg hr,iW hg hr (by omega) hs.2⟩
 ·rintro s A C row ⟨c,h1,h2⟩ hg hr
  exact⟨c,kd (hIx c) (by omega) s A C row h1 hg hr,iW hg hr (by omega) h2⟩
 rintro pre x W ⟨hi,hl⟩ hlen;refine⟨fn,_,assign,body,run_yield (P:=P) (args:=encs x) hl (hps x),roundIn_of_wpIn hfn (hassign pre x W _ hi fun a' V hkf hkp hi' hax=>?_)⟩
 have hv:=hkf.same lr _ hB hl rfl;have hlt:lr<V.heap.size:=(sV.1 hv).1;refine⟨_,run_beginRound hv rfl,?_⟩;have hbz:(V.putObj lr (.loop (aV fn tm ps assign body df .busy none))).heap[lr]?=some (.loop (aV fn tm ps assign body df .busy none)):=sZ hlt;refine tr (hbody pre x a' _ ⟨_,hbz⟩ (hI.putObj _ hi' (sS _) hv rfl) ((hAx x a').putObj (s:=()) _ hax (sS _) hv rfl) hlen) ?_;have hK0:=hKb V _ (.loop (aV fn tm ps assign body df .busy none)) hv rfl rfl;have hk0:sU (lr+1) W (V.putObj lr (.loop (aV fn tm ps assign body df .busy none))):=(fP hkf (by omega)).trans (jh V lr _)
 have fin:∀(j:Option Code)(U:sR),sU B (V.putObj lr (.loop (aV fn tm ps assign body df .busy none))) U->∃U':sR,sU (lr+1) W U'/\(te lr j).run P U=.ok (.bool j.isNone) U'/\U'=U.putObj lr (.loop (aV fn tm ps assign body df (if j.isNone then .ready else .done) j))/\(∃o,U.heap[lr]?=some o/\o.isCells=false/\o.isWalk=false)/\U'.heap[lr]?=some (.loop (aV fn tm ps assign body df (if j.isNone then .ready else .done) j)):=fun j U hk=>by
  have h3:=hk.same lr _ hB hbz rfl;exact⟨_,(hk0.trans (fP hk (by omega))).trans (jh U lr _),run_endRound (P:=P) j h3,rfl,⟨_,h3,rfl,rfl⟩,sZ (sV.1 h3).1⟩
 have leave:∀(c:Code)(U:sR),sU B (V.putObj lr (.loop (aV fn tm ps assign body df .busy none))) U->Ix c (pre++[x]) U->∃(v:tc)(U':sR),sU (lr+1) W U'/\(te lr (some c)).run P U=.ok v U'/\(v=.bool false/\∃c,Ix c (pre++[x]) U'/\U'.heap[lr]?=some (.loop (aV fn tm ps assign body df .done (some c)))):=fun c U hk hx=>by
  obtain⟨U',hkk,hr,rfl,⟨o,ho,hc,_⟩,hl'⟩:=fin (some c) U hk;exact⟨_,_,hkk,hr,rfl,c,(hIx c).putObj _ hx (sS _) ho hc,hl'⟩
 rintro e a3 U hp
 cases e with
 |normal=>
  obtain⟨hk,hkp',hi3⟩:=hp;obtain⟨U',hkk,hr,rfl,⟨o,ho,hc,hw⟩,hl'⟩:=fin none U hk;exact⟨_,_,hr,by rw[hsz];exact hkk,.inl ⟨rfl,⟨hI.putObj _ hi3 (sS _) ho hc,hl'⟩,by rw[hsz];exact hKt hkp (hKt hK0 (hKt hkp' (hKb U o _ ho hc hw)))⟩⟩
 |ret=>
  obtain⟨v,U',hkk,hr,rfl,h⟩:=leave .ret U hp.1 hp.2;exact⟨_,_,hr,by rw[hsz];exact hkk,.inr ⟨rfl,h⟩⟩
 |exit i=>
  obtain⟨v,U',hkk,hr,rfl,h⟩:=leave (.exit i) U hp.1 hp.2;exact⟨_,_,hr,by rw[hsz];exact hkk,.inr ⟨rfl,h⟩⟩
 |goto t=>
  obtain⟨v,U',hkk,hr,rfl,h⟩:=leave (.goto t) U hp.1 hp.2;exact⟨_,_,hr,by rw[hsz];exact hkk,.inr ⟨rfl,h⟩⟩
 |panic c=>exact hp.elim
 |outgrown=>exact hp.elim
theorem zlO{α:Type}{g:tC}{ps:Array Tmp}{assign body:Code}{Q:Exit->Act->sR->Prop}{a:Act}{w:sR}
  (hro:F.round=none) (h1:1<=n) {gf:Nat} {lb:Array tc} (hg:a.eval g=.func (.func gf) #[] lb) (hFg:F.fn gf) (eg:∀args w,(tA gf args).run P w=.ok (.enter gf args) w)
  {encs:α->Array tc} {Kp:Nat->sR->sR->Prop} {S Sp:List α->Prop} {w0:sR} (hseq:zkM F (n-1) P gf lb encs Kp S Sp w0)
  (hKt:∀(N:Nat) {A B C:sR},Kp N A B->Kp N B C->Kp N A C) (hKb:∀(W:sR)(l:Nat)(o o':Obj),w.heap.size<=l->W.heap[l]?=some o->o.isCells=false->o.isWalk=false->Kp (l+1) W (W.putObj l o')) (hb0:Below w0.heap.size w0 w) (hps:∀x,(encs x).size=ps.size)
  (I:List α->sR->Prop) (Ix:Code->List α->sR->Prop) (hI:sY w.heap.size I) (hIx:∀c,sY w.heap.size (Ix c)) (h0:I [] w) (Ax:α->Act->sR->Prop) (hAx:∀x a',sY w.heap.size (fun(_:Unit) W=>Ax x a' W))
  (hassign:∀(l:Nat)(pre:List α)(x:α)(W:sR)(K:Act->sR->Prop),w.heap.size<=l->I pre W->(∀a' W',sU w.heap.size W W'->Kp (l+1) W W'->I pre W'->Ax x a' W'->K a' W')->
   assign.wpIn (F.inRound l) (n-1-1) P (Exit.then K (fun _ _ _=>False)) {tmps:=(ps.zip (encs x)).foldl (fun t (p,v)=>t.setIfInBounds p v) a.tmps,defers:=[]} W)
  (hbody:∀(l:Nat)(pre:List α)(x:α)(a':Act)(W:sR),w.heap.size<=l->(∃r,W.heap[l]?=some (.loop r))->I pre W->Ax x a' W->Sp (pre++[x])->body.wpIn (F.inRound l) (n-1-1) P (tj w.heap.size (Kp (l+1)) I Ix (pre++[x]) W) a' W)
  (hdone:∀(D:Nat)(xs:List α)(W:sR),w.heap.size<=D->S xs->I xs W->W.heap[D]?=some (.deferred (some []))->Q .normal {a with defers:={target:=.collected D,args:=#[]}::a.defers} W)
  (hstop:∀(D:Nat)(c:Code)(pre:List α)(W:sR),w.heap.size<=D->Sp pre->Ix c pre W->W.heap[D]?=some (.deferred (some []))->c.wpIn F n P Q {a with defers:={target:=.collected D,args:=#[]}::a.defers} W):
  (tf g ps assign body).wpIn F n P Q a w:=by
 refine tg fun fn hfn=>?_
 rw[hro];have hs:(w.alloc (.deferred (some []))).heap.size=w.heap.size+1:=by simp
 have hD0:((w.alloc (.deferred (some []))).alloc (.loop (aV fn a.tmps ps assign body w.heap.size .ready none))).heap[w.heap.size]?=some (.deferred (some [])):=(tt _ _ _ (by simp)).trans (sW w _)
 have hL0:=sW (w.alloc (.deferred (some []))) (.loop (aV fn a.tmps ps assign body w.heap.size .ready none));rw[hs]at hL0;have hI1:sY (w.heap.size+1) (fun pre W=>I pre W/\W.heap[w.heap.size]?=some (.deferred (some []))):=fun s A C row hq hgr hr=>⟨kd hI (sT _) s A C row hq.1 hgr hr,iW hgr hr (td _) hq.2⟩
 have hX1:∀c,sY (w.heap.size+1) (fun pre W=>Ix c pre W/\W.heap[w.heap.size]?=some (.deferred (some []))):=fun c s A C row hq hgr hr=>⟨kd (hIx c) (sT _) s A C row hq.1 hgr hr,iW hgr hr (td _) hq.2⟩
 have hE:=tk (P:=P) (w:=w) fn a.tmps ps assign body;have hbW:=hb0.trans ((((tp _ w).alloc (sS _) (.deferred (some []))).alloc (by simp) (.loop (aV fn a.tmps ps assign body w.heap.size .ready none))).mono hb0.size)
 have hiW:=hI.alloc (.loop (aV fn a.tmps ps assign body w.heap.size .ready none)) (hI.alloc (.deferred (some [])) h0);have hsW:((w.alloc (.deferred (some []))).alloc (.loop (aV fn a.tmps ps assign body w.heap.size .ready none))).heap.size=w.heap.size+1+1:=by simp
 change _=Result.ok _ ((w.alloc (.deferred (some []))).alloc (.loop (aV fn a.tmps ps assign body w.heap.size .ready none)))at hE
 generalize (w.alloc (.deferred (some []))).alloc (.loop (aV fn a.tmps ps assign body w.heap.size .ready none))=W1 at*
 refine⟨w.heap.size+1,[{target:=.collected w.heap.size,args:=#[]}],W1,{target:=.fn (.func gf) lb,args:=#[.func (.yield (w.heap.size+1)) #[] #[]]},W1,gf,#[.func (.yield (w.heap.size+1)) #[] #[]]++lb,W1,hE,?_,?_,?_,fun _=>h1,?_⟩
 ·simp only[resolve,hg]
  simp[go_sem]
 ·intro f' hf';simp[ti]at hf';subst hf';exact hFg
 ·simp[invoke,go_sem,eg]
 refine(qZ (B:=w.heap.size) hfn (sT _) hsW hL0 hseq hbW (fun h k=>hKt _ h k) (fun W o o'=>hKb W _ o o' (sT _)) hps _ _ hI1 hX1 ⟨hiW,hD0⟩ Ax (fun x a'=>kd (hAx x a') (sT _)) ?_ ?_).mono ?_
 ·rintro pre x W K ⟨hi,hd⟩ hK
  exact hassign _ pre x W K (sT _) hi fun a' W' k1 k2 k3 k4=>hK a' W' k1 k2 ⟨k3,k1.same _ _ (sS _) hd rfl⟩ k4
 ·rintro pre x a' W hr ⟨hi,hd⟩ hax hlen
  refine tr (hbody _ pre x a' W (sT _) hr hi hax hlen) ?_;rintro e a3 U hp
  cases e with
  |normal=>exact⟨hp.1,hp.2.1,hp.2.2,hp.1.same _ _ (sS _) hd rfl⟩
  |ret=>exact⟨hp.1,hp.2,hp.1.same _ _ (sS _) hd rfl⟩
  |exit i=>exact⟨hp.1,hp.2,hp.1.same _ _ (sS _) hd rfl⟩
  |goto t=>exact⟨hp.1,hp.2,hp.1.same _ _ (sS _) hd rfl⟩
  |panic c=>exact hp.elim
  |outgrown=>exact hp.elim
 ·rintro e W2 ⟨⟨v,rfl⟩,(⟨xs,hS,⟨hi,hd⟩,hl⟩|⟨pre,hSp,c,⟨hi,hd⟩,hl⟩)⟩
  ·exact⟨none,_,ta (P:=P) hl (by simp[aV]),hdone _ xs _ (sS _) hS (hI.putObj _ hi (sT _) hl rfl) ((sX (by omega)).trans hd)⟩
  ·exact⟨some c,_,ta (P:=P) hl (by simp[aV]),hstop _ c pre _ (sS _) hSp ((hIx c).putObj _ hi (sT _) hl rfl) ((sX (by omega)).trans hd)⟩
theorem zjj{α:Type}{g:tC}{ps:Array Tmp}{assign body:Code}{Q:Exit->Act->sR->Prop}{a:Act}{w:sR}
  {l₀:Nat} {r₀:Loop} (hro:F.round=some l₀) (hl₀:w.heap[l₀]?=some (.loop r₀)) (h1:1<=n) {gf:Nat} {lb:Array tc} (hg:a.eval g=.func (.func gf) #[] lb) (hFg:F.fn gf) (eg:∀args w,(tA gf args).run P w=.ok (.enter gf args) w)
  {encs:α->Array tc} {Kp:Nat->sR->sR->Prop} {S Sp:List α->Prop} {w0:sR} (hseq:zkM F (n-1) P gf lb encs Kp S Sp w0)
  (hKt:∀(N:Nat) {A B C:sR},Kp N A B->Kp N B C->Kp N A C) (hKb:∀(W:sR)(l:Nat)(o o':Obj),w.heap.size<=l->W.heap[l]?=some o->o.isCells=false->o.isWalk=false->Kp (l+1) W (W.putObj l o')) (hb0:Below w0.heap.size w0 w) (hps:∀x,(encs x).size=ps.size)
  (I:List α->sR->Prop) (Ix:Code->List α->sR->Prop) (hI:sY w.heap.size I) (hIx:∀c,sY w.heap.size (Ix c)) (h0:I [] w) (Ax:α->Act->sR->Prop) (hAx:∀x a',sY w.heap.size (fun(_:Unit) W=>Ax x a' W))
  (hassign:∀(l:Nat)(pre:List α)(x:α)(W:sR)(K:Act->sR->Prop),w.heap.size<=l->I pre W->(∀a' W',sU w.heap.size W W'->Kp (l+1) W W'->I pre W'->Ax x a' W'->K a' W')->
   assign.wpIn (F.inRound l) (n-1-1) P (Exit.then K (fun _ _ _=>False)) {tmps:=(ps.zip (encs x)).foldl (fun t (p,v)=>t.setIfInBounds p v) a.tmps,defers:=[]} W)
  (hbody:∀(l:Nat)(pre:List α)(x:α)(a':Act)(W:sR),w.heap.size<=l->(∃r,W.heap[l]?=some (.loop r))->I pre W->Ax x a' W->Sp (pre++[x])->body.wpIn (F.inRound l) (n-1-1) P (tj w.heap.size (Kp (l+1)) I Ix (pre++[x]) W) a' W)
  (hdone:∀(xs:List α)(W:sR),S xs->I xs W->Q .normal a W)
  (hstop:∀(c:Code)(pre:List α)(W:sR),Sp pre->Ix c pre W->c.wpIn F n P Q a W):
  (tf g ps assign body).wpIn F n P Q a w:=by
 refine tg fun fn hfn=>?_
 rw[hro];have hL0:=sW w (.loop (aV fn a.tmps ps assign body r₀.defers .ready none));have hE:=tn (P:=P) hl₀ fn a.tmps ps assign body;have hbW:=hb0.trans (((tp _ w).alloc (sS _) (.loop (aV fn a.tmps ps assign body r₀.defers .ready none))).mono hb0.size);have hiW:=hI.alloc (.loop (aV fn a.tmps ps assign body r₀.defers .ready none)) h0;have hsW:(w.alloc (.loop (aV fn a.tmps ps assign body r₀.defers .ready none))).heap.size=w.heap.size+1:=by simp
 change _=Result.ok _ (w.alloc (.loop (aV fn a.tmps ps assign body r₀.defers .ready none)))at hE
 generalize w.alloc (.loop (aV fn a.tmps ps assign body r₀.defers .ready none))=W1 at*
 refine⟨w.heap.size,[],W1,{target:=.fn (.func gf) lb,args:=#[.func (.yield w.heap.size) #[] #[]]},W1,gf,#[.func (.yield w.heap.size) #[] #[]]++lb,W1,hE,?_,?_,?_,fun _=>h1,?_⟩
 ·simp only[resolve,hg]
  simp[go_sem]
 ·intro f' hf';simp[ti]at hf';subst hf';exact hFg
 ·simp[invoke,go_sem,eg]
 refine(qZ (B:=w.heap.size) hfn (sS _) hsW hL0 hseq hbW (fun h k=>hKt _ h k) (fun W o o'=>hKb W _ o o' (sS _)) hps _ _ hI hIx hiW Ax hAx (fun pre x W K=>hassign _ pre x W K (sS _)) (fun pre x a' W=>hbody _ pre x a' W (sS _))).mono ?_
 rintro e W2 ⟨⟨v,rfl⟩,(⟨xs,hS,hi,hl⟩|⟨pre,hSp,c,hi,hl⟩)⟩
 ·exact⟨none,_,ta (P:=P) hl (by simp[aV]),hdone xs _ hS (hI.putObj _ hi (sS _) hl rfl)⟩
 ·exact⟨some c,_,ta (P:=P) hl (by simp[aV]),hstop c pre _ hSp ((hIx c).putObj _ hi (sS _) hl rfl)⟩
end
section
open Go.RowKit
variable {F:Fence} {n:Nat} {P:tw}
def br{β:Type}(B:Nat)(I:β->sR->Prop):Prop:=∀s W W' row,I s W->W.grownBy W' row->(∀r,row=some r->B<=r)->I s W'
theorem br.from{β:Type}{B:Nat}{I:β->sR->Prop}(h:br B I):sY B I:=fun s W W' row hs hg hr=>h s W W' row hs hg fun r e=>(hr r e).1
theorem br.putObj{β:Type}{B:Nat}{I:β->sR->Prop}(h:br B I){s:β}{W:sR}{l:Nat}{o:Obj}(o':Obj)(hs:I s W)(hB:B<=l)(_:W.heap[l]?=some o)(_:o.isCells=false):I s (W.putObj l o'):=
 h s W _ (some l) hs (grownBy_putObj' W l o') (fun r e=>by cases e;exact hB)
theorem br.alloc{β:Type}{B:Nat}{I:β->sR->Prop}(h:br B I){s:β}{W:sR}(o:Obj)(hs:I s W):I s (W.alloc o):=h s W _ none hs (sR.grownBy_alloc W o none) (fun r e=>by cases e)
theorem br.setCell{β:Type}{B:Nat}{I:β->sR->Prop}(h:br B I){s:β}{W:sR}{l:Nat}(v:tc)(hs:I s W)(hB:B<=l):I s (W.setCell ⟨l,0,none⟩ v):=
 h s W _ (some l) hs (grownBy_setCell' W l v) (fun r e=>by cases e;exact hB)
theorem kS{β:Type}{B C:Nat}{J:β->sR->Prop}(h:br B J)(hBC:B<=C):br C J:=fun s W W' row hs hg hr=>h s W W' row hs hg fun r e=>tq hBC (hr r e)
theorem gE{A C:sR}{row:Option Nat}{m k:Nat}{o:Obj}(hg:A.grownBy C row)(hr:∀r,row=some r->m<=r)(hk:k<m)(h:A.heap[k]?=some o):C.heap[k]?=some o:=
 (hg.block k (sV.1 h).1 fun e=>by have:=hr k e.symm;omega).trans h
def zkL{α:Type}(F:Fence)(n:Nat)(P:tw)(g:Nat)(lb:Array tc)(encs:α->Array tc)(Kp:Nat->sR->sR->Prop)(S Sp:List α->Prop)(w:sR):Prop:=
 ∀(l:Nat)(J Jx:List α->sR->Prop)(W:sR),Below w.heap.size w W->br W.heap.size J->br W.heap.size Jx->
  (∀pre x W1,J pre W1->Sp (pre++[x])->YieldAt F (n-1) P l (encs x) W1 fun e W'=>
   sU W.heap.size W1 W'/\((e=.returned (.bool true)/\J (pre++[x]) W'/\Kp W.heap.size W1 W')\/(e=.returned (.bool false)/\Jx (pre++[x]) W')))->
  J [] W->
  tB F n P g (#[.func (.yield l) #[] #[]]++lb) W fun e W'=>(∃v,e=.returned v)/\((∃xs,S xs/\J xs W')\/(∃pre,Sp pre/\Jx pre W'))
theorem qY{α:Type}{fn:FuncId}(hfn:F.fn fn){ps:Array Tmp}{assign body:Code}{tm:Array tc}{df lr B:Nat}{W1 w0:sR}(hB:B<=lr)(hsz:W1.heap.size=lr+1)
  (hL:W1.heap[lr]?=some (.loop (aV fn tm ps assign body df .ready none)))
  {gf:Nat} {lb:Array tc} {encs:α->Array tc} {Kp:Nat->sR->sR->Prop} {S Sp:List α->Prop} (hseq:zkL F n P gf lb encs Kp S Sp w0) (hb1:Below w0.heap.size w0 W1)
  (hKt:∀{A B C:sR},Kp (lr+1) A B->Kp (lr+1) B C->Kp (lr+1) A C) (hKb:∀(W:sR)(o o':Obj),W.heap[lr]?=some o->o.isCells=false->o.isWalk=false->Kp (lr+1) W (W.putObj lr o')) (hps:∀x,(encs x).size=ps.size)
  (I:List α->sR->Prop) (Ix:Code->List α->sR->Prop) (hI:br lr I) (hIx:∀c,br lr (Ix c)) (h0:I [] W1) (Ax:α->Act->sR->Prop) (hAx:∀x a',br lr (fun(_:Unit) W=>Ax x a' W))
  (hassign:∀(pre:List α)(x:α)(W:sR)(K:Act->sR->Prop),I pre W->(∀a' W',sU B W W'->Kp (lr+1) W W'->I pre W'->Ax x a' W'->K a' W')->
   assign.wpIn (F.inRound lr) (n-1) P (Exit.then K (fun _ _ _=>False)) {tmps:=(ps.zip (encs x)).foldl (fun t (p,v)=>t.setIfInBounds p v) tm,defers:=[]} W)
  (hbody:∀(pre:List α)(x:α)(a':Act)(W:sR),(∃r,W.heap[lr]?=some (.loop r))->I pre W->Ax x a' W->Sp (pre++[x])->body.wpIn (F.inRound lr) (n-1) P (tj B (Kp (lr+1)) I Ix (pre++[x]) W) a' W):
  tB F n P gf (#[.func (.yield lr) #[] #[]]++lb) W1 fun e W=>(∃v,e=.returned v)∧
   ((∃xs,S xs/\I xs W/\W.heap[lr]?=some (.loop (aV fn tm ps assign body df .ready none)))\/∃pre,Sp pre/\∃c,Ix c pre W/\W.heap[lr]?=some (.loop (aV fn tm ps assign body df .done (some c)))):=by
 refine hseq lr (fun pre W=>I pre W/\W.heap[lr]?=some (.loop (aV fn tm ps assign body df .ready none))) (fun pre W=>∃c,Ix c pre W/\W.heap[lr]?=some (.loop (aV fn tm ps assign body df .done (some c)))) W1 hb1 ?_ ?_ ?_ ⟨h0,hL⟩
 ·intro s A C row hs hg hr
  exact⟨kS hI (by omega) s A C row hs.1 hg hr,gE hg hr (by omega) hs.2⟩
 ·rintro s A C row ⟨c,h1,h2⟩ hg hr
  exact⟨c,kS (hIx c) (by omega) s A C row h1 hg hr,gE hg hr (by omega) h2⟩
 rintro pre x W ⟨hi,hl⟩ hlen;refine⟨fn,_,assign,body,run_yield (P:=P) (args:=encs x) hl (hps x),roundIn_of_wpIn hfn (hassign pre x W _ hi fun a' V hkf hkp hi' hax=>?_)⟩
 have hv:=hkf.same lr _ hB hl rfl;have hlt:lr<V.heap.size:=(sV.1 hv).1;refine⟨_,run_beginRound hv rfl,?_⟩;have hbz:(V.putObj lr (.loop (aV fn tm ps assign body df .busy none))).heap[lr]?=some (.loop (aV fn tm ps assign body df .busy none)):=sZ hlt;refine tr (hbody pre x a' _ ⟨_,hbz⟩ (hI.putObj _ hi' (sS _) hv rfl) ((hAx x a').putObj (s:=()) _ hax (sS _) hv rfl) hlen) ?_;have hK0:=hKb V _ (.loop (aV fn tm ps assign body df .busy none)) hv rfl rfl;have hk0:sU (lr+1) W (V.putObj lr (.loop (aV fn tm ps assign body df .busy none))):=(fP hkf (by omega)).trans (jh V lr _)
 have fin:∀(j:Option Code)(U:sR),sU B (V.putObj lr (.loop (aV fn tm ps assign body df .busy none))) U->∃U':sR,sU (lr+1) W U'/\(te lr j).run P U=.ok (.bool j.isNone) U'/\U'=U.putObj lr (.loop (aV fn tm ps assign body df (if j.isNone then .ready else .done) j))/\(∃o,U.heap[lr]?=some o/\o.isCells=false/\o.isWalk=false)/\U'.heap[lr]?=some (.loop (aV fn tm ps assign body df (if j.isNone then .ready else .done) j)):=fun j U hk=>by
  have h3:=hk.same lr _ hB hbz rfl;exact⟨_,(hk0.trans (fP hk (by omega))).trans (jh U lr _),run_endRound (P:=P) j h3,rfl,⟨_,h3,rfl,rfl⟩,sZ (sV.1 h3).1⟩
 have leave:∀(c:Code)(U:sR),sU B (V.putObj lr (.loop (aV fn tm ps assign body df .busy none))) U->Ix c (pre++[x]) U->∃(v:tc)(U':sR),sU (lr+1) W U'/\(te lr (some c)).run P U=.ok v U'/\(v=.bool false/\∃c,Ix c (pre++[x]) U'/\U'.heap[lr]?=some (.loop (aV fn tm ps assign body df .done (some c)))):=fun c U hk hx=>by
  obtain⟨U',hkk,hr,rfl,⟨o,ho,hc,_⟩,hl'⟩:=fin (some c) U hk;exact⟨_,_,hkk,hr,rfl,c,(hIx c).putObj _ hx (sS _) ho hc,hl'⟩
 rintro e a3 U hp
 cases e with
 |normal=>
  obtain⟨hk,hkp',hi3⟩:=hp;obtain⟨U',hkk,hr,rfl,⟨o,ho,hc,hw⟩,hl'⟩:=fin none U hk;exact⟨_,_,hr,by rw[hsz];exact hkk,.inl ⟨rfl,⟨hI.putObj _ hi3 (sS _) ho hc,hl'⟩,by rw[hsz];exact hKt hkp (hKt hK0 (hKt hkp' (hKb U o _ ho hc hw)))⟩⟩
 |ret=>
  obtain⟨v,U',hkk,hr,rfl,h⟩:=leave .ret U hp.1 hp.2;exact⟨_,_,hr,by rw[hsz];exact hkk,.inr ⟨rfl,h⟩⟩
 |exit i=>
  obtain⟨v,U',hkk,hr,rfl,h⟩:=leave (.exit i) U hp.1 hp.2;exact⟨_,_,hr,by rw[hsz];exact hkk,.inr ⟨rfl,h⟩⟩
 |goto t=>
  obtain⟨v,U',hkk,hr,rfl,h⟩:=leave (.goto t) U hp.1 hp.2;exact⟨_,_,hr,by rw[hsz];exact hkk,.inr ⟨rfl,h⟩⟩
 |panic c=>exact hp.elim
 |outgrown=>exact hp.elim
theorem zsQ{α:Type}{g:tC}{ps:Array Tmp}{assign body:Code}{Q:Exit->Act->sR->Prop}{a:Act}{w:sR}
  (hro:F.round=none) (h1:1<=n) {gf:Nat} {lb:Array tc} (hg:a.eval g=.func (.func gf) #[] lb) (hFg:F.fn gf) (eg:∀args w,(tA gf args).run P w=.ok (.enter gf args) w)
  {encs:α->Array tc} {Kp:Nat->sR->sR->Prop} {S Sp:List α->Prop} {w0:sR} (hseq:zkL F (n-1) P gf lb encs Kp S Sp w0)
  (hKt:∀(N:Nat) {A B C:sR},Kp N A B->Kp N B C->Kp N A C) (hKb:∀(W:sR)(l:Nat)(o o':Obj),w.heap.size<=l->W.heap[l]?=some o->o.isCells=false->o.isWalk=false->Kp (l+1) W (W.putObj l o')) (hb0:Below w0.heap.size w0 w) (hps:∀x,(encs x).size=ps.size)
  (I:List α->sR->Prop) (Ix:Code->List α->sR->Prop) (hI:br w.heap.size I) (hIx:∀c,br w.heap.size (Ix c)) (h0:I [] w) (Ax:α->Act->sR->Prop) (hAx:∀x a',br w.heap.size (fun(_:Unit) W=>Ax x a' W))
  (hassign:∀(l:Nat)(pre:List α)(x:α)(W:sR)(K:Act->sR->Prop),w.heap.size<=l->I pre W->(∀a' W',sU w.heap.size W W'->Kp (l+1) W W'->I pre W'->Ax x a' W'->K a' W')->
   assign.wpIn (F.inRound l) (n-1-1) P (Exit.then K (fun _ _ _=>False)) {tmps:=(ps.zip (encs x)).foldl (fun t (p,v)=>t.setIfInBounds p v) a.tmps,defers:=[]} W)
  (hbody:∀(l:Nat)(pre:List α)(x:α)(a':Act)(W:sR),w.heap.size<=l->(∃r,W.heap[l]?=some (.loop r))->I pre W->Ax x a' W->Sp (pre++[x])->body.wpIn (F.inRound l) (n-1-1) P (tj w.heap.size (Kp (l+1)) I Ix (pre++[x]) W) a' W)
  (hdone:∀(D:Nat)(xs:List α)(W:sR),w.heap.size<=D->S xs->I xs W->W.heap[D]?=some (.deferred (some []))->Q .normal {a with defers:={target:=.collected D,args:=#[]}::a.defers} W)
  (hstop:∀(D:Nat)(c:Code)(pre:List α)(W:sR),w.heap.size<=D->Sp pre->Ix c pre W->W.heap[D]?=some (.deferred (some []))->c.wpIn F n P Q {a with defers:={target:=.collected D,args:=#[]}::a.defers} W):
  (tf g ps assign body).wpIn F n P Q a w:=by
 refine tg fun fn hfn=>?_
 rw[hro];have hs:(w.alloc (.deferred (some []))).heap.size=w.heap.size+1:=by simp
 have hD0:((w.alloc (.deferred (some []))).alloc (.loop (aV fn a.tmps ps assign body w.heap.size .ready none))).heap[w.heap.size]?=some (.deferred (some [])):=(tt _ _ _ (by simp)).trans (sW w _)
 have hL0:=sW (w.alloc (.deferred (some []))) (.loop (aV fn a.tmps ps assign body w.heap.size .ready none));rw[hs]at hL0;have hI1:br (w.heap.size+1) (fun pre W=>I pre W/\W.heap[w.heap.size]?=some (.deferred (some []))):=fun s A C row hq hgr hr=>⟨kS hI (sT _) s A C row hq.1 hgr hr,gE hgr hr (td _) hq.2⟩
 have hX1:∀c,br (w.heap.size+1) (fun pre W=>Ix c pre W/\W.heap[w.heap.size]?=some (.deferred (some []))):=fun c s A C row hq hgr hr=>⟨kS (hIx c) (sT _) s A C row hq.1 hgr hr,gE hgr hr (td _) hq.2⟩
 have hE:=tk (P:=P) (w:=w) fn a.tmps ps assign body;have hbW:=hb0.trans ((((tp _ w).alloc (sS _) (.deferred (some []))).alloc (by simp) (.loop (aV fn a.tmps ps assign body w.heap.size .ready none))).mono hb0.size)
 have hiW:=hI.alloc (.loop (aV fn a.tmps ps assign body w.heap.size .ready none)) (hI.alloc (.deferred (some [])) h0);have hsW:((w.alloc (.deferred (some []))).alloc (.loop (aV fn a.tmps ps assign body w.heap.size .ready none))).heap.size=w.heap.size+1+1:=by simp
 change _=Result.ok _ ((w.alloc (.deferred (some []))).alloc (.loop (aV fn a.tmps ps assign body w.heap.size .ready none)))at hE
 generalize (w.alloc (.deferred (some []))).alloc (.loop (aV fn a.tmps ps assign body w.heap.size .ready none))=W1 at*
 refine⟨w.heap.size+1,[{target:=.collected w.heap.size,args:=#[]}],W1,{target:=.fn (.func gf) lb,args:=#[.func (.yield (w.heap.size+1)) #[] #[]]},W1,gf,#[.func (.yield (w.heap.size+1)) #[] #[]]++lb,W1,hE,?_,?_,?_,fun _=>h1,?_⟩
 ·simp only[resolve,hg]
  simp[go_sem]
 ·intro f' hf';simp[ti]at hf';subst hf';exact hFg
 ·simp[invoke,go_sem,eg]
 refine(qY (B:=w.heap.size) hfn (sT _) hsW hL0 hseq hbW (fun h k=>hKt _ h k) (fun W o o'=>hKb W _ o o' (sT _)) hps _ _ hI1 hX1 ⟨hiW,hD0⟩ Ax (fun x a'=>kS (hAx x a') (sT _)) ?_ ?_).mono ?_
 ·rintro pre x W K ⟨hi,hd⟩ hK
  exact hassign _ pre x W K (sT _) hi fun a' W' k1 k2 k3 k4=>hK a' W' k1 k2 ⟨k3,k1.same _ _ (sS _) hd rfl⟩ k4
 ·rintro pre x a' W hr ⟨hi,hd⟩ hax hlen
  refine tr (hbody _ pre x a' W (sT _) hr hi hax hlen) ?_;rintro e a3 U hp
  cases e with
  |normal=>exact⟨hp.1,hp.2.1,hp.2.2,hp.1.same _ _ (sS _) hd rfl⟩
  |ret=>exact⟨hp.1,hp.2,hp.1.same _ _ (sS _) hd rfl⟩
  |exit i=>exact⟨hp.1,hp.2,hp.1.same _ _ (sS _) hd rfl⟩
  |goto t=>exact⟨hp.1,hp.2,hp.1.same _ _ (sS _) hd rfl⟩
  |panic c=>exact hp.elim
  |outgrown=>exact hp.elim
 ·rintro e W2 ⟨⟨v,rfl⟩,(⟨xs,hS,⟨hi,hd⟩,hl⟩|⟨pre,hSp,c,⟨hi,hd⟩,hl⟩)⟩
  ·exact⟨none,_,ta (P:=P) hl (by simp[aV]),hdone _ xs _ (sS _) hS (hI.putObj _ hi (sT _) hl rfl) ((sX (by omega)).trans hd)⟩
  ·exact⟨some c,_,ta (P:=P) hl (by simp[aV]),hstop _ c pre _ (sS _) hSp ((hIx c).putObj _ hi (sT _) hl rfl) ((sX (by omega)).trans hd)⟩
theorem zji{α:Type}{g:tC}{ps:Array Tmp}{assign body:Code}{Q:Exit->Act->sR->Prop}{a:Act}{w:sR}
  {l₀:Nat} {r₀:Loop} (hro:F.round=some l₀) (hl₀:w.heap[l₀]?=some (.loop r₀)) (h1:1<=n) {gf:Nat} {lb:Array tc} (hg:a.eval g=.func (.func gf) #[] lb) (hFg:F.fn gf) (eg:∀args w,(tA gf args).run P w=.ok (.enter gf args) w)
  {encs:α->Array tc} {Kp:Nat->sR->sR->Prop} {S Sp:List α->Prop} {w0:sR} (hseq:zkL F (n-1) P gf lb encs Kp S Sp w0)
  (hKt:∀(N:Nat) {A B C:sR},Kp N A B->Kp N B C->Kp N A C) (hKb:∀(W:sR)(l:Nat)(o o':Obj),w.heap.size<=l->W.heap[l]?=some o->o.isCells=false->o.isWalk=false->Kp (l+1) W (W.putObj l o')) (hb0:Below w0.heap.size w0 w) (hps:∀x,(encs x).size=ps.size)
  (I:List α->sR->Prop) (Ix:Code->List α->sR->Prop) (hI:br w.heap.size I) (hIx:∀c,br w.heap.size (Ix c)) (h0:I [] w) (Ax:α->Act->sR->Prop) (hAx:∀x a',br w.heap.size (fun(_:Unit) W=>Ax x a' W))
  (hassign:∀(l:Nat)(pre:List α)(x:α)(W:sR)(K:Act->sR->Prop),w.heap.size<=l->I pre W->(∀a' W',sU w.heap.size W W'->Kp (l+1) W W'->I pre W'->Ax x a' W'->K a' W')->
   assign.wpIn (F.inRound l) (n-1-1) P (Exit.then K (fun _ _ _=>False)) {tmps:=(ps.zip (encs x)).foldl (fun t (p,v)=>t.setIfInBounds p v) a.tmps,defers:=[]} W)
  (hbody:∀(l:Nat)(pre:List α)(x:α)(a':Act)(W:sR),w.heap.size<=l->(∃r,W.heap[l]?=some (.loop r))->I pre W->Ax x a' W->Sp (pre++[x])->body.wpIn (F.inRound l) (n-1-1) P (tj w.heap.size (Kp (l+1)) I Ix (pre++[x]) W) a' W)
  (hdone:∀(xs:List α)(W:sR),S xs->I xs W->Q .normal a W)
  (hstop:∀(c:Code)(pre:List α)(W:sR),Sp pre->Ix c pre W->c.wpIn F n P Q a W):
  (tf g ps assign body).wpIn F n P Q a w:=by
 refine tg fun fn hfn=>?_
 rw[hro];have hL0:=sW w (.loop (aV fn a.tmps ps assign body r₀.defers .ready none));have hE:=tn (P:=P) hl₀ fn a.tmps ps assign body;have hbW:=hb0.trans (((tp _ w).alloc (sS _) (.loop (aV fn a.tmps ps assign body r₀.defers .ready none))).mono hb0.size);have hiW:=hI.alloc (.loop (aV fn a.tmps ps assign body r₀.defers .ready none)) h0;have hsW:(w.alloc (.loop (aV fn a.tmps ps assign body r₀.defers .ready none))).heap.size=w.heap.size+1:=by simp
 change _=Result.ok _ (w.alloc (.loop (aV fn a.tmps ps assign body r₀.defers .ready none)))at hE
 generalize w.alloc (.loop (aV fn a.tmps ps assign body r₀.defers .ready none))=W1 at*
 refine⟨w.heap.size,[],W1,{target:=.fn (.func gf) lb,args:=#[.func (.yield w.heap.size) #[] #[]]},W1,gf,#[.func (.yield w.heap.size) #[] #[]]++lb,W1,hE,?_,?_,?_,fun _=>h1,?_⟩
 ·simp only[resolve,hg]
  simp[go_sem]
 ·intro f' hf';simp[ti]at hf';subst hf';exact hFg
 ·simp[invoke,go_sem,eg]
 refine(qY (B:=w.heap.size) hfn (sS _) hsW hL0 hseq hbW (fun h k=>hKt _ h k) (fun W o o'=>hKb W _ o o' (sS _)) hps _ _ hI hIx hiW Ax hAx (fun pre x W K=>hassign _ pre x W K (sS _)) (fun pre x a' W=>hbody _ pre x a' W (sS _))).mono ?_
 rintro e W2 ⟨⟨v,rfl⟩,(⟨xs,hS,hi,hl⟩|⟨pre,hSp,c,hi,hl⟩)⟩
 ·exact⟨none,_,ta (P:=P) hl (by simp[aV]),hdone xs _ hS (hI.putObj _ hi (sS _) hl rfl)⟩
 ·exact⟨some c,_,ta (P:=P) hl (by simp[aV]),hstop c pre _ hSp ((hIx c).putObj _ hi (sS _) hl rfl)⟩
end
end Go.Proofs.YtbbapnpdfcgjnaaGreatDoor
