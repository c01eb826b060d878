/- RngO, RngS: parts of the proof, joined. -/
import Derived.RangeFuncNested
import Derived.RangeFuncBound
set_option maxHeartbeats 64000000
namespace Go.Proofs.YtokpjifnlifafaaGreatDoor
section
open Go.RowKit
variable {F:Fence} {n:Nat} {P:Program}
def lrec (fn:FuncId) (tm:Array Value) (ps:Array Tmp) (assign body:Code) (df:Nat) (st:LoopState) (pe:Option Code):Loop:={state:=st,pending:=pe,fn,tmps:=tm,params:=ps,assign,body,defers:=df}
theorem zcY {A C:World} {row:Option Nat} {m k:Nat} {o:Obj} (hg:A.grownBy C row) (hr:∀r,row=some r->m<=r/\∃o:Obj,A.heap[r]? =some o/\o.isCells=false) (hk:k<m) (h:A.heap[k]? =some o):C.heap[k]? =some o:=
 (hg.block k (Array.getElem?_eq_some_iff.1 h).1 fun e=>by have:=(hr k e.symm).1;omega).trans h
theorem own_le {β:Type} {B C:Nat} {J:β->World->Prop} (h:OwnFrom B J) (hBC:B<=C):OwnFrom C J:=fun s W W' row hs hg hr=>
 h s W W' row hs hg fun r e=>⟨Nat.le_trans hBC (hr r e).1,(hr r e).2⟩
theorem keeps_le {B C:Nat} {X Y:World} (h:KeepsFrom B X Y) (hBC:B<=C):KeepsFrom C X Y:=⟨h.size,fun k o hk=>h.same k o (Nat.le_trans hBC hk)⟩
theorem keeps_put (X:World) (k:Nat) (o:Obj):KeepsFrom (k+1) X (X.putObj k o):=⟨by simp,fun i o' hi h _=>(World.putObj_heap_other (by omega)).trans h⟩
end
section
open Go.RowKit
variable {F:Fence} {n:Nat} {P:Program}
def SeqS {α:Type} (F:Fence) (n:Nat) (P:Program) (g:Nat) (lb:Array Value) (encs:α->Array Value) (Kp:World->World->Prop) (S Sp:List α->Prop) (w:World):Prop:=
 ∀(l:Nat) (J Jx:List α->World->Prop) (W:World),Below w.heap.size w W->OwnFrom W.heap.size J->OwnFrom W.heap.size Jx->
  (∀pre x W1,J pre W1->Sp (pre++[x])->YieldAt F (n - 1) P l (encs x) W1 fun e W'=>
   KeepsFrom W.heap.size W1 W'/\((e= .returned (.bool true)/\J (pre++[x]) W'/\Kp W1 W')\/(e= .returned (.bool false)/\Jx (pre++[x]) W')))->
  J [] W->
  CallsIn F n P g (#[.func (.yield l) #[] #[]]++lb) W fun e W'=>(∃v,e= .returned v)/\((∃xs,S xs/\J xs W')\/(∃pre,Sp pre/\Jx pre W'))
theorem seqS_core {α:Type} {fn:FuncId} (hfn:F.fn fn) {ps:Array Tmp} {assign body:Code} {tm:Array Value} {df lr B:Nat} {W1 w0:World} (hB:B<=lr) (hsz:W1.heap.size=lr+1)
  (hL:W1.heap[lr]? =some (.loop (lrec fn tm ps assign body df .ready none)))
  {gf:Nat} {lb:Array Value} {encs:α->Array Value} {Kp:World->World->Prop} {S Sp:List α->Prop} (hseq:SeqS F n P gf lb encs Kp S Sp w0) (hb1:Below w0.heap.size w0 W1)
  (hKt:∀{A B C:World},Kp A B->Kp B C->Kp A C) (hKb:∀(W:World) (o o':Obj),W.heap[lr]? =some o->o.isCells=false->o.isWalk=false->Kp W (W.putObj lr o')) (hps:∀x,(encs x).size=ps.size)
  (I:List α->World->Prop) (Ix:Code->List α->World->Prop) (hI:OwnFrom lr I) (hIx:∀c,OwnFrom lr (Ix c)) (h0:I [] W1) (Ax:α->Act->World->Prop) (hAx:∀x a',OwnFrom lr (fun(_:Unit) W=>Ax x a' W))
  (hassign:∀(pre:List α) (x:α) (W:World) (K:Act->World->Prop),I pre W->(∀a' W',KeepsFrom B W W'->Kp W W'->I pre W'->Ax x a' W'->K a' W')->
   assign.wpIn (F.inRound lr) (n - 1) P (Exit.then K (fun _ _ _=>False)) {tmps:=(ps.zip (encs x)).foldl (fun t (p,v)=>t.setIfInBounds p v) tm,defers:=[]} W)
  (hbody:∀(pre:List α) (x:α) (a':Act) (W:World),(∃r,W.heap[lr]? =some (.loop r))->I pre W->Ax x a' W->Sp (pre++[x])->body.wpIn (F.inRound lr) (n - 1) P (ownPostG B Kp I Ix (pre++[x]) W) a' W):
  CallsIn F n P gf (#[.func (.yield lr) #[] #[]]++lb) W1 fun e W=>(∃v,e= .returned v)∧
   ((∃xs,S xs/\I xs W/\W.heap[lr]? =some (.loop (lrec fn tm ps assign body df .ready none)))\/∃pre,Sp pre/\∃c,Ix c pre W/\W.heap[lr]? =some (.loop (lrec fn tm ps assign body df .done (some c)))):=by
 refine hseq lr (fun pre W=>I pre W/\W.heap[lr]? =some (.loop (lrec fn tm ps assign body df .ready none))) (fun pre W=>∃c,Ix c pre W/\W.heap[lr]? =some (.loop (lrec fn tm ps assign body df .done (some c)))) W1 hb1 ?_ ?_ ?_ ⟨h0,hL⟩
 ·intro s A C row hs hg hr
  exact⟨own_le hI (by omega) s A C row hs.1 hg hr,zcY hg hr (by omega) hs.2⟩
 ·rintro s A C row ⟨c,h1,h2⟩ hg hr
  exact⟨c,own_le (hIx c) (by omega) s A C row h1 hg hr,zcY hg hr (by omega) h2⟩
 rintro pre x W ⟨hi,hl⟩ hlen;refine⟨fn,_,assign,body,run_yield (P:=P) (args:=encs x) hl (hps x),roundIn_of_wpIn hfn (hassign pre x W _ hi fun a' V hkf hkp hi' hax=>?_)⟩
 have hv:=hkf.same lr _ hB hl rfl;have hlt:lr<V.heap.size:=(Array.getElem?_eq_some_iff.1 hv).1;refine⟨_,run_beginRound hv rfl,?_⟩;have hbz:(V.putObj lr (.loop (lrec fn tm ps assign body df .busy none))).heap[lr]? =some (.loop (lrec fn tm ps assign body df .busy none)):=World.putObj_heap_same hlt;refine wpIn_mono (hbody pre x a' _ ⟨_,hbz⟩ (hI.putObj _ hi' (Nat.le_refl _) hv rfl) ((hAx x a').putObj (s:=()) _ hax (Nat.le_refl _) hv rfl) hlen) ?_;have hK0:=hKb V _ (.loop (lrec fn tm ps assign body df .busy none)) hv rfl rfl;have hk0:KeepsFrom (lr+1) W (V.putObj lr (.loop (lrec fn tm ps assign body df .busy none))):=(keeps_le hkf (by omega)).trans (keeps_put V lr _)
 have fin:∀(j:Option Code) (U:World),KeepsFrom B (V.putObj lr (.loop (lrec fn tm ps assign body df .busy none))) U->∃U':World,KeepsFrom (lr+1) W U'/\(Instr.endRound lr j).run P U= .ok (.bool j.isNone) U'/\U'=U.putObj lr (.loop (lrec fn tm ps assign body df (if j.isNone then .ready else .done) j))/\(∃o,U.heap[lr]? =some o/\o.isCells=false/\o.isWalk=false)/\U'.heap[lr]? =some (.loop (lrec fn tm ps assign body df (if j.isNone then .ready else .done) j)):=fun j U hk=>by
  have h3:=hk.same lr _ hB hbz rfl;exact⟨_,(hk0.trans (keeps_le hk (by omega))).trans (keeps_put U lr _),run_endRound (P:=P) j h3,rfl,⟨_,h3,rfl,rfl⟩,World.putObj_heap_same (Array.getElem?_eq_some_iff.1 h3).1⟩
 have leave:∀(c:Code) (U:World),KeepsFrom B (V.putObj lr (.loop (lrec fn tm ps assign body df .busy none))) U->Ix c (pre++[x]) U->∃(v:Value) (U':World),KeepsFrom (lr+1) W U'/\(Instr.endRound lr (some c)).run P U= .ok v U'/\(v= .bool false/\∃c,Ix c (pre++[x]) U'/\U'.heap[lr]? =some (.loop (lrec fn tm ps assign body df .done (some c)))):=fun c U hk hx=>by
  obtain⟨U',hkk,hr,rfl,⟨o,ho,hc,_⟩,hl'⟩:=fin (some c) U hk;exact⟨_,_,hkk,hr,rfl,c,(hIx c).putObj _ hx (Nat.le_refl _) ho hc,hl'⟩
 rintro e a3 U hp
 cases e with
 | normal=>
  obtain⟨hk,hkp',hi3⟩:=hp;obtain⟨U',hkk,hr,rfl,⟨o,ho,hc,hw⟩,hl'⟩:=fin none U hk;exact⟨_,_,hr,by rw[hsz];exact hkk,.inl ⟨rfl,⟨hI.putObj _ hi3 (Nat.le_refl _) ho hc,hl'⟩,hKt hkp (hKt hK0 (hKt hkp' (hKb U o _ ho hc hw)))⟩⟩
 | ret=>
  obtain⟨v,U',hkk,hr,rfl,h⟩:=leave .ret U hp.1 hp.2;exact⟨_,_,hr,by rw[hsz];exact hkk,.inr ⟨rfl,h⟩⟩
 | exit i=>
  obtain⟨v,U',hkk,hr,rfl,h⟩:=leave (.exit i) U hp.1 hp.2;exact⟨_,_,hr,by rw[hsz];exact hkk,.inr ⟨rfl,h⟩⟩
 | goto t=>
  obtain⟨v,U',hkk,hr,rfl,h⟩:=leave (.goto t) U hp.1 hp.2;exact⟨_,_,hr,by rw[hsz];exact hkk,.inr ⟨rfl,h⟩⟩
 | panic c=>exact hp.elim
 | outgrown=>exact hp.elim
theorem rangeS {α:Type} {g:Operand} {ps:Array Tmp} {assign body:Code} {Q:Exit->Act->World->Prop} {a:Act} {w:World}
  (hro:F.round=none) (h1:1<=n) {gf:Nat} {lb:Array Value} (hg:a.eval g= .func (.func gf) #[] lb) (hFg:F.fn gf) (eg:∀args w,(callFunc gf args).run P w= .ok (.enter gf args) w)
  {encs:α->Array Value} {Kp:World->World->Prop} {S Sp:List α->Prop} {w0:World} (hseq:SeqS F (n - 1) P gf lb encs Kp S Sp w0)
  (hKt:∀{A B C:World},Kp A B->Kp B C->Kp A C) (hKb:∀(W:World) (l:Nat) (o o':Obj),w.heap.size<=l->W.heap[l]? =some o->o.isCells=false->o.isWalk=false->Kp W (W.putObj l o')) (hb0:Below w0.heap.size w0 w) (hps:∀x,(encs x).size=ps.size)
  (I:List α->World->Prop) (Ix:Code->List α->World->Prop) (hI:OwnFrom w.heap.size I) (hIx:∀c,OwnFrom w.heap.size (Ix c)) (h0:I [] w) (Ax:α->Act->World->Prop) (hAx:∀x a',OwnFrom w.heap.size (fun(_:Unit) W=>Ax x a' W))
  (hassign:∀(l:Nat) (pre:List α) (x:α) (W:World) (K:Act->World->Prop),I pre W->(∀a' W',KeepsFrom w.heap.size W W'->Kp W W'->I pre W'->Ax x a' W'->K a' W')->
   assign.wpIn (F.inRound l) (n - 1 - 1) P (Exit.then K (fun _ _ _=>False)) {tmps:=(ps.zip (encs x)).foldl (fun t (p,v)=>t.setIfInBounds p v) a.tmps,defers:=[]} W)
  (hbody:∀(l:Nat) (pre:List α) (x:α) (a':Act) (W:World),w.heap.size<=l->(∃r,W.heap[l]? =some (.loop r))->I pre W->Ax x a' W->Sp (pre++[x])->body.wpIn (F.inRound l) (n - 1 - 1) P (ownPostG w.heap.size Kp I Ix (pre++[x]) W) a' W)
  (hdone:∀(D:Nat) (xs:List α) (W:World),w.heap.size<=D->S xs->I xs W->W.heap[D]? =some (.deferred (some []))->Q .normal {a with defers:={target:=.collected D,args:=#[]}::a.defers} W)
  (hstop:∀(D:Nat) (c:Code) (pre:List α) (W:World),w.heap.size<=D->Sp pre->Ix c pre W->W.heap[D]? =some (.deferred (some []))->c.wpIn F n P Q {a with defers:={target:=.collected D,args:=#[]}::a.defers} W):
  (Code.rangeFunc g ps assign body).wpIn F n P Q a w:=by
 refine wpIn_rangeFunc fun fn hfn=>?_
 rw[hro];have hs:(w.alloc (.deferred (some []))).heap.size=w.heap.size+1:=by simp
 have hD0:((w.alloc (.deferred (some []))).alloc (.loop (lrec fn a.tmps ps assign body w.heap.size .ready none))).heap[w.heap.size]? =some (.deferred (some [])):=(Below.heap_alloc _ _ _ (by simp)).trans (World.alloc_heap_new w _)
 have hL0:=World.alloc_heap_new (w.alloc (.deferred (some []))) (.loop (lrec fn a.tmps ps assign body w.heap.size .ready none));rw[hs] at hL0;have hI1:OwnFrom (w.heap.size+1) (fun pre W=>I pre W/\W.heap[w.heap.size]? =some (.deferred (some []))):=fun s A C row hq hgr hr=>⟨own_le hI (Nat.le_succ _) s A C row hq.1 hgr hr,zcY hgr hr (Nat.lt_succ_self _) hq.2⟩
 have hX1:∀c,OwnFrom (w.heap.size+1) (fun pre W=>Ix c pre W/\W.heap[w.heap.size]? =some (.deferred (some []))):=fun c s A C row hq hgr hr=>⟨own_le (hIx c) (Nat.le_succ _) s A C row hq.1 hgr hr,zcY hgr hr (Nat.lt_succ_self _) hq.2⟩
 have hE:=run_enterLoop_outer (P:=P) (w:=w) fn a.tmps ps assign body;have hbW:=hb0.trans ((((Below.refl _ w).alloc (Nat.le_refl _) (.deferred (some []))).alloc (by simp) (.loop (lrec fn a.tmps ps assign body w.heap.size .ready none))).mono hb0.size)
 have hiW:=hI.alloc (.loop (lrec fn a.tmps ps assign body w.heap.size .ready none)) (hI.alloc (.deferred (some [])) h0);have hsW:((w.alloc (.deferred (some []))).alloc (.loop (lrec fn a.tmps ps assign body w.heap.size .ready none))).heap.size=w.heap.size+1+1:=by simp
 change _=Result.ok _ ((w.alloc (.deferred (some []))).alloc (.loop (lrec fn a.tmps ps assign body w.heap.size .ready none))) at hE
 generalize (w.alloc (.deferred (some []))).alloc (.loop (lrec fn a.tmps ps assign body w.heap.size .ready none))=W1 at *
 refine⟨w.heap.size+1,[{target:=.collected w.heap.size,args:=#[]}],W1,{target:=.fn (.func gf) lb,args:=#[.func (.yield (w.heap.size+1)) #[] #[]]},W1,gf,#[.func (.yield (w.heap.size+1)) #[] #[]]++lb,W1,hE,?_,?_,?_,fun _=>h1,?_⟩
 ·simp only[resolve,hg]
  simp[go_sem]
 ·intro f' hf';simp[Target.leads] at hf';subst hf';exact hFg
 ·simp[invoke,go_sem,eg]
 refine(seqS_core (B:=w.heap.size) hfn (Nat.le_succ _) hsW hL0 hseq hbW (fun h k=>hKt h k) (fun W o o'=>hKb W _ o o' (Nat.le_succ _)) hps _ _ hI1 hX1 ⟨hiW,hD0⟩ Ax (fun x a'=>own_le (hAx x a') (Nat.le_succ _)) ?_ ?_).mono ?_
 ·rintro pre x W K ⟨hi,hd⟩ hK
  exact hassign _ pre x W K hi fun a' W' k1 k2 k3 k4=>hK a' W' k1 k2 ⟨k3,k1.same _ _ (Nat.le_refl _) hd rfl⟩ k4
 ·rintro pre x a' W hr ⟨hi,hd⟩ hax hlen
  refine wpIn_mono (hbody _ pre x a' W (Nat.le_succ _) hr hi hax hlen) ?_;rintro e a3 U hp
  cases e with
  | normal=>exact⟨hp.1,hp.2.1,hp.2.2,hp.1.same _ _ (Nat.le_refl _) hd rfl⟩
  | ret=>exact⟨hp.1,hp.2,hp.1.same _ _ (Nat.le_refl _) hd rfl⟩
  | exit i=>exact⟨hp.1,hp.2,hp.1.same _ _ (Nat.le_refl _) hd rfl⟩
  | goto t=>exact⟨hp.1,hp.2,hp.1.same _ _ (Nat.le_refl _) hd rfl⟩
  | panic c=>exact hp.elim
  | outgrown=>exact hp.elim
 ·rintro e W2 ⟨⟨v,rfl⟩,(⟨xs,hS,⟨hi,hd⟩,hl⟩ | ⟨pre,hSp,c,⟨hi,hd⟩,hl⟩)⟩
  ·exact⟨none,_,run_endLoop (P:=P) hl (by simp[lrec]),hdone _ xs _ (Nat.le_refl _) hS (hI.putObj _ hi (Nat.le_succ _) hl rfl) ((World.putObj_heap_other (by omega)).trans hd)⟩
  ·exact⟨some c,_,run_endLoop (P:=P) hl (by simp[lrec]),hstop _ c pre _ (Nat.le_refl _) hSp ((hIx c).putObj _ hi (Nat.le_succ _) hl rfl) ((World.putObj_heap_other (by omega)).trans hd)⟩
theorem rangeS_in {α:Type} {g:Operand} {ps:Array Tmp} {assign body:Code} {Q:Exit->Act->World->Prop} {a:Act} {w:World}
  {l₀:Nat} {r₀:Loop} (hro:F.round=some l₀) (hl₀:w.heap[l₀]? =some (.loop r₀)) (h1:1<=n) {gf:Nat} {lb:Array Value} (hg:a.eval g= .func (.func gf) #[] lb) (hFg:F.fn gf) (eg:∀args w,(callFunc gf args).run P w= .ok (.enter gf args) w)
  {encs:α->Array Value} {Kp:World->World->Prop} {S Sp:List α->Prop} {w0:World} (hseq:SeqS F (n - 1) P gf lb encs Kp S Sp w0)
  (hKt:∀{A B C:World},Kp A B->Kp B C->Kp A C) (hKb:∀(W:World) (l:Nat) (o o':Obj),w.heap.size<=l->W.heap[l]? =some o->o.isCells=false->o.isWalk=false->Kp W (W.putObj l o')) (hb0:Below w0.heap.size w0 w) (hps:∀x,(encs x).size=ps.size)
  (I:List α->World->Prop) (Ix:Code->List α->World->Prop) (hI:OwnFrom w.heap.size I) (hIx:∀c,OwnFrom w.heap.size (Ix c)) (h0:I [] w) (Ax:α->Act->World->Prop) (hAx:∀x a',OwnFrom w.heap.size (fun(_:Unit) W=>Ax x a' W))
  (hassign:∀(l:Nat) (pre:List α) (x:α) (W:World) (K:Act->World->Prop),I pre W->(∀a' W',KeepsFrom w.heap.size W W'->Kp W W'->I pre W'->Ax x a' W'->K a' W')->
   assign.wpIn (F.inRound l) (n - 1 - 1) P (Exit.then K (fun _ _ _=>False)) {tmps:=(ps.zip (encs x)).foldl (fun t (p,v)=>t.setIfInBounds p v) a.tmps,defers:=[]} W)
  (hbody:∀(l:Nat) (pre:List α) (x:α) (a':Act) (W:World),w.heap.size<=l->(∃r,W.heap[l]? =some (.loop r))->I pre W->Ax x a' W->Sp (pre++[x])->body.wpIn (F.inRound l) (n - 1 - 1) P (ownPostG w.heap.size Kp I Ix (pre++[x]) W) a' W)
  (hdone:∀(xs:List α) (W:World),S xs->I xs W->Q .normal a W)
  (hstop:∀(c:Code) (pre:List α) (W:World),Sp pre->Ix c pre W->c.wpIn F n P Q a W):
  (Code.rangeFunc g ps assign body).wpIn F n P Q a w:=by
 refine wpIn_rangeFunc fun fn hfn=>?_
 rw[hro];have hL0:=World.alloc_heap_new w (.loop (lrec fn a.tmps ps assign body r₀.defers .ready none));have hE:=run_enterLoop_inner (P:=P) hl₀ fn a.tmps ps assign body;have hbW:=hb0.trans (((Below.refl _ w).alloc (Nat.le_refl _) (.loop (lrec fn a.tmps ps assign body r₀.defers .ready none))).mono hb0.size);have hiW:=hI.alloc (.loop (lrec fn a.tmps ps assign body r₀.defers .ready none)) h0;have hsW:(w.alloc (.loop (lrec fn a.tmps ps assign body r₀.defers .ready none))).heap.size=w.heap.size+1:=by simp
 change _=Result.ok _ (w.alloc (.loop (lrec fn a.tmps ps assign body r₀.defers .ready none))) at hE
 generalize w.alloc (.loop (lrec fn a.tmps ps assign body r₀.defers .ready none))=W1 at *
 refine⟨w.heap.size,[],W1,{target:=.fn (.func gf) lb,args:=#[.func (.yield w.heap.size) #[] #[]]},W1,gf,#[.func (.yield w.heap.size) #[] #[]]++lb,W1,hE,?_,?_,?_,fun _=>h1,?_⟩
 ·simp only[resolve,hg]
  simp[go_sem]
 ·intro f' hf';simp[Target.leads] at hf';subst hf';exact hFg
 ·simp[invoke,go_sem,eg]
 refine(seqS_core (B:=w.heap.size) hfn (Nat.le_refl _) hsW hL0 hseq hbW (fun h k=>hKt h k) (fun W o o'=>hKb W _ o o' (Nat.le_refl _)) hps _ _ hI hIx hiW Ax hAx (fun pre x W K=>hassign _ pre x W K) (fun pre x a' W=>hbody _ pre x a' W (Nat.le_refl _))).mono ?_
 rintro e W2 ⟨⟨v,rfl⟩,(⟨xs,hS,hi,hl⟩ | ⟨pre,hSp,c,hi,hl⟩)⟩
 ·exact⟨none,_,run_endLoop (P:=P) hl (by simp[lrec]),hdone xs _ hS (hI.putObj _ hi (Nat.le_refl _) hl rfl)⟩
 ·exact⟨some c,_,run_endLoop (P:=P) hl (by simp[lrec]),hstop c pre _ hSp ((hIx c).putObj _ hi (Nat.le_refl _) hl rfl)⟩
end
end Go.Proofs.YtokpjifnlifafaaGreatDoor
