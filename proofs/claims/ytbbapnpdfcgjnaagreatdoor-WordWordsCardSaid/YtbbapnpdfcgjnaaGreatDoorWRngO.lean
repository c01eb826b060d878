/- RngO, RngS: parts of the proof, joined. -/
import Derived.RangeFuncNested
import Derived.RangeFuncBound
open Go renaming World->sD, KeepsFrom->sG, OwnFrom->sH, run_endLoop->sN, Value->sO
open Nat renaming le_refl->sE, le_succ->sJ, lt_succ_self->sP, le_trans->sS
open Array renaming getElem?_eq_some_iff->sI
open Go.World renaming putObj_heap_other->sK, alloc_heap_new->sL, putObj_heap_same->sM
set_option maxHeartbeats 64000000
namespace Go.Proofs.YtbbapnpdfcgjnaaGreatDoor
section
open Go.RowKit
variable {F:Fence} {n:Nat} {P:Program}
def cZ(fn:FuncId)(tm:Array sO)(ps:Array Tmp)(assign body:Code)(df:Nat)(st:LoopState)(pe:Option Code):Loop:={state:=st,pending:=pe,fn,tmps:=tm,params:=ps,assign,body,defers:=df}
theorem ji{A C:sD}{row:Option Nat}{m k:Nat}{o:Obj}(hg:A.grownBy C row)(hr:∀r,row=some r->m<=r/\∃o:Obj,A.heap[r]?=some o/\o.isCells=false)(hk:k<m)(h:A.heap[k]?=some o):C.heap[k]?=some o:=
 (hg.block k (sI.1 h).1 fun e=>by have:=(hr k e.symm).1;omega).trans h
theorem kz{β:Type}{B C:Nat}{J:β->sD->Prop}(h:sH B J)(hBC:B<=C):sH C J:=fun s W W' row hs hg hr=>h s W W' row hs hg fun r e=>⟨sS hBC (hr r e).1,(hr r e).2⟩
theorem lJ{B C:Nat}{X Y:sD}(h:sG B X Y)(hBC:B<=C):sG C X Y:=⟨h.size,fun k o hk=>h.same k o (sS hBC hk)⟩
theorem zau(X:sD)(k:Nat)(o:Obj):sG (k+1) X (X.putObj k o):=⟨by simp,fun i o' hi h _=>(sK (by omega)).trans h⟩
end
section
open Go.RowKit
variable {F:Fence} {n:Nat} {P:Program}
def zhC{α:Type}(F:Fence)(n:Nat)(P:Program)(g:Nat)(lb:Array sO)(encs:α->Array sO)(Kp:sD->sD->Prop)(S Sp:List α->Prop)(w:sD):Prop:=
 ∀(l:Nat)(J Jx:List α->sD->Prop)(W:sD),Below w.heap.size w W->sH W.heap.size J->sH W.heap.size Jx->
  (∀pre x W1,J pre W1->Sp (pre++[x])->YieldAt F (n-1) P l (encs x) W1 fun e W'=>sG W.heap.size W1 W'/\((e=.returned (.bool true)/\J (pre++[x]) W'/\Kp W1 W')\/(e=.returned (.bool false)/\Jx (pre++[x]) W')))->
  J [] W->
  CallsIn F n P g (#[.func (.yield l) #[] #[]]++lb) W fun e W'=>(∃v,e=.returned v)/\((∃xs,S xs/\J xs W')\/(∃pre,Sp pre/\Jx pre W'))
theorem sB{α:Type}{fn:FuncId}(hfn:F.fn fn){ps:Array Tmp}{assign body:Code}{tm:Array sO}{df lr B:Nat}{W1 w0:sD}(hB:B<=lr)(hsz:W1.heap.size=lr+1)
  (hL:W1.heap[lr]?=some (.loop (cZ fn tm ps assign body df .ready none)))
  {gf:Nat} {lb:Array sO} {encs:α->Array sO} {Kp:sD->sD->Prop} {S Sp:List α->Prop} (hseq:zhC F n P gf lb encs Kp S Sp w0) (hb1:Below w0.heap.size w0 W1)
  (hKt:∀{A B C:sD},Kp A B->Kp B C->Kp A C) (hKb:∀(W:sD)(o o':Obj),W.heap[lr]?=some o->o.isCells=false->o.isWalk=false->Kp W (W.putObj lr o')) (hps:∀x,(encs x).size=ps.size)
  (I:List α->sD->Prop) (Ix:Code->List α->sD->Prop) (hI:sH lr I) (hIx:∀c,sH lr (Ix c)) (h0:I [] W1) (Ax:α->Act->sD->Prop) (hAx:∀x a',sH lr (fun(_:Unit) W=>Ax x a' W))
  (hassign:∀(pre:List α)(x:α)(W:sD)(K:Act->sD->Prop),I pre W->(∀a' W',sG B W W'->Kp W W'->I pre W'->Ax x a' W'->K a' W')->
   assign.wpIn (F.inRound lr) (n-1) P (Exit.then K (fun _ _ _=>False)) {tmps:=(ps.zip (encs x)).foldl (fun t (p,v)=>t.setIfInBounds p v) tm,defers:=[]} W)
  (hbody:∀(pre:List α)(x:α)(a':Act)(W:sD),(∃r,W.heap[lr]?=some (.loop r))->I pre W->Ax x a' W->Sp (pre++[x])->body.wpIn (F.inRound lr) (n-1) P (ownPostG B Kp I Ix (pre++[x]) W) a' W):
  CallsIn F n P gf (#[.func (.yield lr) #[] #[]]++lb) W1 fun e W=>(∃v,e=.returned v)∧
   ((∃xs,S xs/\I xs W/\W.heap[lr]?=some (.loop (cZ fn tm ps assign body df .ready none)))\/∃pre,Sp pre/\∃c,Ix c pre W/\W.heap[lr]?=some (.loop (cZ fn tm ps assign body df .done (some c)))):=by
 refine hseq lr (fun pre W=>I pre W/\W.heap[lr]?=some (.loop (cZ fn tm ps assign body df .ready none))) (fun pre W=>∃c,Ix c pre W/\W.heap[lr]?=some (.loop (cZ fn tm ps assign body df .done (some c)))) W1 hb1 ?_ ?_ ?_ ⟨h0,hL⟩
 ·intro s A C row hs hg hr;exact⟨kz hI (by omega) s A C row hs.1 hg hr,ji hg hr (by omega) hs.2⟩
 ·rintro s A C row ⟨c,h1,h2⟩ hg hr;exact⟨c,kz (hIx c) (by omega) s A C row h1 hg hr,ji hg hr (by omega) h2⟩
 rintro pre x W ⟨hi,hl⟩ hlen;refine⟨fn,_,assign,body,run_yield (P:=P) (args:=encs x) hl (hps x),roundIn_of_wpIn hfn (hassign pre x W _ hi fun a' V hkf hkp hi' hax=>?_)⟩;have hv:=hkf.same lr _ hB hl rfl;have hlt:lr<V.heap.size:=(sI.1 hv).1;refine⟨_,run_beginRound hv rfl,?_⟩;have hbz:(V.putObj lr (.loop (cZ fn tm ps assign body df .busy none))).heap[lr]?=some (.loop (cZ fn tm ps assign body df .busy none)):=sM hlt;refine wpIn_mono (hbody pre x a' _ ⟨_,hbz⟩ (hI.putObj _ hi' (sE _) hv rfl) ((hAx x a').putObj (s:=()) _ hax (sE _) hv rfl) hlen) ?_;have hK0:=hKb V _ (.loop (cZ fn tm ps assign body df .busy none)) hv rfl rfl;have hk0:sG (lr+1) W (V.putObj lr (.loop (cZ fn tm ps assign body df .busy none))):=(lJ hkf (by omega)).trans (zau V lr _);have fin:∀(j:Option Code)(U:sD),sG B (V.putObj lr (.loop (cZ fn tm ps assign body df .busy none))) U->∃U':sD,sG (lr+1) W U'/\(Instr.endRound lr j).run P U=.ok (.bool j.isNone) U'/\U'=U.putObj lr (.loop (cZ fn tm ps assign body df (if j.isNone then .ready else .done) j))/\(∃o,U.heap[lr]?=some o/\o.isCells=false/\o.isWalk=false)/\U'.heap[lr]?=some (.loop (cZ fn tm ps assign body df (if j.isNone then .ready else .done) j)):=fun j U hk=>by have h3:=hk.same lr _ hB hbz rfl;exact⟨_,(hk0.trans (lJ hk (by omega))).trans (zau U lr _),run_endRound (P:=P) j h3,rfl,⟨_,h3,rfl,rfl⟩,sM (sI.1 h3).1⟩
 have leave:∀(c:Code)(U:sD),sG B (V.putObj lr (.loop (cZ fn tm ps assign body df .busy none))) U->Ix c (pre++[x]) U->∃(v:sO)(U':sD),sG (lr+1) W U'/\(Instr.endRound lr (some c)).run P U=.ok v U'/\(v=.bool false/\∃c,Ix c (pre++[x]) U'/\U'.heap[lr]?=some (.loop (cZ fn tm ps assign body df .done (some c)))):=fun c U hk hx=>by obtain⟨U',hkk,hr,rfl,⟨o,ho,hc,_⟩,hl'⟩:=fin (some c) U hk;exact⟨_,_,hkk,hr,rfl,c,(hIx c).putObj _ hx (sE _) ho hc,hl'⟩
 rintro e a3 U hp;cases e with
 |normal=>obtain⟨hk,hkp',hi3⟩:=hp;obtain⟨U',hkk,hr,rfl,⟨o,ho,hc,hw⟩,hl'⟩:=fin none U hk;exact⟨_,_,hr,by rw[hsz];exact hkk,.inl ⟨rfl,⟨hI.putObj _ hi3 (sE _) ho hc,hl'⟩,hKt hkp (hKt hK0 (hKt hkp' (hKb U o _ ho hc hw)))⟩⟩
 |ret=>obtain⟨v,U',hkk,hr,rfl,h⟩:=leave .ret U hp.1 hp.2;exact⟨_,_,hr,by rw[hsz];exact hkk,.inr ⟨rfl,h⟩⟩
 |exit i=>obtain⟨v,U',hkk,hr,rfl,h⟩:=leave (.exit i) U hp.1 hp.2;exact⟨_,_,hr,by rw[hsz];exact hkk,.inr ⟨rfl,h⟩⟩
 |goto t=>obtain⟨v,U',hkk,hr,rfl,h⟩:=leave (.goto t) U hp.1 hp.2;exact⟨_,_,hr,by rw[hsz];exact hkk,.inr ⟨rfl,h⟩⟩
 |panic c=>exact hp.elim
 |outgrown=>exact hp.elim
theorem zgx{α:Type}{g:Operand}{ps:Array Tmp}{assign body:Code}{Q:Exit->Act->sD->Prop}{a:Act}{w:sD}
  (hro:F.round=none) (h1:1<=n) {gf:Nat} {lb:Array sO} (hg:a.eval g=.func (.func gf) #[] lb) (hFg:F.fn gf) (eg:∀args w,(callFunc gf args).run P w=.ok (.enter gf args) w)
  {encs:α->Array sO} {Kp:sD->sD->Prop} {S Sp:List α->Prop} {w0:sD} (hseq:zhC F (n-1) P gf lb encs Kp S Sp w0)
  (hKt:∀{A B C:sD},Kp A B->Kp B C->Kp A C) (hKb:∀(W:sD)(l:Nat)(o o':Obj),w.heap.size<=l->W.heap[l]?=some o->o.isCells=false->o.isWalk=false->Kp W (W.putObj l o')) (hb0:Below w0.heap.size w0 w) (hps:∀x,(encs x).size=ps.size)
  (I:List α->sD->Prop) (Ix:Code->List α->sD->Prop) (hI:sH w.heap.size I) (hIx:∀c,sH w.heap.size (Ix c)) (h0:I [] w) (Ax:α->Act->sD->Prop) (hAx:∀x a',sH w.heap.size (fun(_:Unit) W=>Ax x a' W))
  (hassign:∀(l:Nat)(pre:List α)(x:α)(W:sD)(K:Act->sD->Prop),I pre W->(∀a' W',sG w.heap.size W W'->Kp W W'->I pre W'->Ax x a' W'->K a' W')->
   assign.wpIn (F.inRound l) (n-1-1) P (Exit.then K (fun _ _ _=>False)) {tmps:=(ps.zip (encs x)).foldl (fun t (p,v)=>t.setIfInBounds p v) a.tmps,defers:=[]} W)
  (hbody:∀(l:Nat)(pre:List α)(x:α)(a':Act)(W:sD),w.heap.size<=l->(∃r,W.heap[l]?=some (.loop r))->I pre W->Ax x a' W->Sp (pre++[x])->body.wpIn (F.inRound l) (n-1-1) P (ownPostG w.heap.size Kp I Ix (pre++[x]) W) a' W)
  (hdone:∀(D:Nat)(xs:List α)(W:sD),w.heap.size<=D->S xs->I xs W->W.heap[D]?=some (.deferred (some []))->Q .normal {a with defers:={target:=.collected D,args:=#[]}::a.defers} W)
  (hstop:∀(D:Nat)(c:Code)(pre:List α)(W:sD),w.heap.size<=D->Sp pre->Ix c pre W->W.heap[D]?=some (.deferred (some []))->c.wpIn F n P Q {a with defers:={target:=.collected D,args:=#[]}::a.defers} W):
  (Code.rangeFunc g ps assign body).wpIn F n P Q a w:=by
 refine wpIn_rangeFunc fun fn hfn=>?_;rw[hro];have hs:(w.alloc (.deferred (some []))).heap.size=w.heap.size+1:=by simp
 have hD0:((w.alloc (.deferred (some []))).alloc (.loop (cZ fn a.tmps ps assign body w.heap.size .ready none))).heap[w.heap.size]?=some (.deferred (some [])):=(Below.heap_alloc _ _ _ (by simp)).trans (sL w _);have hL0:=sL (w.alloc (.deferred (some []))) (.loop (cZ fn a.tmps ps assign body w.heap.size .ready none));rw[hs]at hL0;have hI1:sH (w.heap.size+1) (fun pre W=>I pre W/\W.heap[w.heap.size]?=some (.deferred (some []))):=fun s A C row hq hgr hr=>⟨kz hI (sJ _) s A C row hq.1 hgr hr,ji hgr hr (sP _) hq.2⟩;have hX1:∀c,sH (w.heap.size+1) (fun pre W=>Ix c pre W/\W.heap[w.heap.size]?=some (.deferred (some []))):=fun c s A C row hq hgr hr=>⟨kz (hIx c) (sJ _) s A C row hq.1 hgr hr,ji hgr hr (sP _) hq.2⟩;have hE:=run_enterLoop_outer (P:=P) (w:=w) fn a.tmps ps assign body;have hbW:=hb0.trans ((((Below.refl _ w).alloc (sE _) (.deferred (some []))).alloc (by simp) (.loop (cZ fn a.tmps ps assign body w.heap.size .ready none))).mono hb0.size);have hiW:=hI.alloc (.loop (cZ fn a.tmps ps assign body w.heap.size .ready none)) (hI.alloc (.deferred (some [])) h0);have hsW:((w.alloc (.deferred (some []))).alloc (.loop (cZ fn a.tmps ps assign body w.heap.size .ready none))).heap.size=w.heap.size+1+1:=by simp
 change _=Result.ok _ ((w.alloc (.deferred (some []))).alloc (.loop (cZ fn a.tmps ps assign body w.heap.size .ready none)))at hE;generalize (w.alloc (.deferred (some []))).alloc (.loop (cZ fn a.tmps ps assign body w.heap.size .ready none))=W1 at*;refine⟨w.heap.size+1,[{target:=.collected w.heap.size,args:=#[]}],W1,{target:=.fn (.func gf) lb,args:=#[.func (.yield (w.heap.size+1)) #[] #[]]},W1,gf,#[.func (.yield (w.heap.size+1)) #[] #[]]++lb,W1,hE,?_,?_,?_,fun _=>h1,?_⟩
 ·simp only[resolve,hg];simp[go_sem]
 ·intro f' hf';simp[Target.leads]at hf';subst hf';exact hFg
 ·simp[invoke,go_sem,eg]
 refine(sB (B:=w.heap.size) hfn (sJ _) hsW hL0 hseq hbW (fun h k=>hKt h k) (fun W o o'=>hKb W _ o o' (sJ _)) hps _ _ hI1 hX1 ⟨hiW,hD0⟩ Ax (fun x a'=>kz (hAx x a') (sJ _)) ?_ ?_).mono ?_
 ·rintro pre x W K ⟨hi,hd⟩ hK;exact hassign _ pre x W K hi fun a' W' k1 k2 k3 k4=>hK a' W' k1 k2 ⟨k3,k1.same _ _ (sE _) hd rfl⟩ k4
 ·rintro pre x a' W hr ⟨hi,hd⟩ hax hlen;refine wpIn_mono (hbody _ pre x a' W (sJ _) hr hi hax hlen) ?_;rintro e a3 U hp;cases e with
  |normal=>exact⟨hp.1,hp.2.1,hp.2.2,hp.1.same _ _ (sE _) hd rfl⟩
  |ret=>exact⟨hp.1,hp.2,hp.1.same _ _ (sE _) hd rfl⟩
  |exit i=>exact⟨hp.1,hp.2,hp.1.same _ _ (sE _) hd rfl⟩
  |goto t=>exact⟨hp.1,hp.2,hp.1.same _ _ (sE _) hd rfl⟩
  |panic c=>exact hp.elim
  |outgrown=>exact hp.elim
 ·rintro e W2 ⟨⟨v,rfl⟩,(⟨xs,hS,⟨hi,hd⟩,hl⟩|⟨pre,hSp,c,⟨hi,hd⟩,hl⟩)⟩
  ·exact⟨none,_,sN (P:=P) hl (by simp[cZ]),hdone _ xs _ (sE _) hS (hI.putObj _ hi (sJ _) hl rfl) ((sK (by omega)).trans hd)⟩
  ·exact⟨some c,_,sN (P:=P) hl (by simp[cZ]),hstop _ c pre _ (sE _) hSp ((hIx c).putObj _ hi (sJ _) hl rfl) ((sK (by omega)).trans hd)⟩
theorem zkD{α:Type}{g:Operand}{ps:Array Tmp}{assign body:Code}{Q:Exit->Act->sD->Prop}{a:Act}{w:sD}
  {l₀:Nat} {r₀:Loop} (hro:F.round=some l₀) (hl₀:w.heap[l₀]?=some (.loop r₀)) (h1:1<=n) {gf:Nat} {lb:Array sO} (hg:a.eval g=.func (.func gf) #[] lb) (hFg:F.fn gf) (eg:∀args w,(callFunc gf args).run P w=.ok (.enter gf args) w)
  {encs:α->Array sO} {Kp:sD->sD->Prop} {S Sp:List α->Prop} {w0:sD} (hseq:zhC F (n-1) P gf lb encs Kp S Sp w0)
  (hKt:∀{A B C:sD},Kp A B->Kp B C->Kp A C) (hKb:∀(W:sD)(l:Nat)(o o':Obj),w.heap.size<=l->W.heap[l]?=some o->o.isCells=false->o.isWalk=false->Kp W (W.putObj l o')) (hb0:Below w0.heap.size w0 w) (hps:∀x,(encs x).size=ps.size)
  (I:List α->sD->Prop) (Ix:Code->List α->sD->Prop) (hI:sH w.heap.size I) (hIx:∀c,sH w.heap.size (Ix c)) (h0:I [] w) (Ax:α->Act->sD->Prop) (hAx:∀x a',sH w.heap.size (fun(_:Unit) W=>Ax x a' W))
  (hassign:∀(l:Nat)(pre:List α)(x:α)(W:sD)(K:Act->sD->Prop),I pre W->(∀a' W',sG w.heap.size W W'->Kp W W'->I pre W'->Ax x a' W'->K a' W')->
   assign.wpIn (F.inRound l) (n-1-1) P (Exit.then K (fun _ _ _=>False)) {tmps:=(ps.zip (encs x)).foldl (fun t (p,v)=>t.setIfInBounds p v) a.tmps,defers:=[]} W)
  (hbody:∀(l:Nat)(pre:List α)(x:α)(a':Act)(W:sD),w.heap.size<=l->(∃r,W.heap[l]?=some (.loop r))->I pre W->Ax x a' W->Sp (pre++[x])->body.wpIn (F.inRound l) (n-1-1) P (ownPostG w.heap.size Kp I Ix (pre++[x]) W) a' W)
  (hdone:∀(xs:List α)(W:sD),S xs->I xs W->Q .normal a W)
  (hstop:∀(c:Code)(pre:List α)(W:sD),Sp pre->Ix c pre W->c.wpIn F n P Q a W):
  (Code.rangeFunc g ps assign body).wpIn F n P Q a w:=by
 refine wpIn_rangeFunc fun fn hfn=>?_;rw[hro];have hL0:=sL w (.loop (cZ fn a.tmps ps assign body r₀.defers .ready none));have hE:=run_enterLoop_inner (P:=P) hl₀ fn a.tmps ps assign body;have hbW:=hb0.trans (((Below.refl _ w).alloc (sE _) (.loop (cZ fn a.tmps ps assign body r₀.defers .ready none))).mono hb0.size);have hiW:=hI.alloc (.loop (cZ fn a.tmps ps assign body r₀.defers .ready none)) h0;have hsW:(w.alloc (.loop (cZ fn a.tmps ps assign body r₀.defers .ready none))).heap.size=w.heap.size+1:=by simp
 change _=Result.ok _ (w.alloc (.loop (cZ fn a.tmps ps assign body r₀.defers .ready none)))at hE;generalize w.alloc (.loop (cZ fn a.tmps ps assign body r₀.defers .ready none))=W1 at*;refine⟨w.heap.size,[],W1,{target:=.fn (.func gf) lb,args:=#[.func (.yield w.heap.size) #[] #[]]},W1,gf,#[.func (.yield w.heap.size) #[] #[]]++lb,W1,hE,?_,?_,?_,fun _=>h1,?_⟩
 ·simp only[resolve,hg];simp[go_sem]
 ·intro f' hf';simp[Target.leads]at hf';subst hf';exact hFg
 ·simp[invoke,go_sem,eg]
 refine(sB (B:=w.heap.size) hfn (sE _) hsW hL0 hseq hbW (fun h k=>hKt h k) (fun W o o'=>hKb W _ o o' (sE _)) hps _ _ hI hIx hiW Ax hAx (fun pre x W K=>hassign _ pre x W K) (fun pre x a' W=>hbody _ pre x a' W (sE _))).mono ?_;rintro e W2 ⟨⟨v,rfl⟩,(⟨xs,hS,hi,hl⟩|⟨pre,hSp,c,hi,hl⟩)⟩
 ·exact⟨none,_,sN (P:=P) hl (by simp[cZ]),hdone xs _ hS (hI.putObj _ hi (sE _) hl rfl)⟩
 ·exact⟨some c,_,sN (P:=P) hl (by simp[cZ]),hstop c pre _ hSp ((hIx c).putObj _ hi (sE _) hl rfl)⟩
end
end Go.Proofs.YtbbapnpdfcgjnaaGreatDoor
