/- PtEv, PtRunWo0, PtWoR, WoMath, WoLoc: parts of the proof, joined. -/
import Derived.Test.YtokpjifnlifafaaGreatDoorEPtChk
import Derived.Test.YtokpjifnlifafaaGreatDoorEPtBas
set_option maxHeartbeats 64000000
namespace Go.Proofs.YtokpjifnlifafaaGreatDoor
section
open Ev Go.RowKit
namespace Pt
structure Oth (g:Nat) (w w':World):Prop where
 os:w'.os=w.os
 tape:w'.tape=w.tape
 output:w'.output=w.output
 size:w.heap.size<=w'.heap.size
 block:∀b,b<w.heap.size->b≠g->w'.heap[b]? =w.heap[b]?
theorem Oth.trans {g:Nat} {w v u:World} (h:Oth g w v) (k:Oth g v u):Oth g w u:=⟨k.os.trans h.os,k.tape.trans h.tape,k.output.trans h.output,Nat.le_trans h.size k.size,fun b hb hne=>(k.block b (Nat.lt_of_lt_of_le hb h.size) hne).trans (h.block b hb hne)⟩
theorem Oth.of {g:Nat} {w w':World} (h:Below w.heap.size w w'):Oth g w w':=⟨h.os,h.tape,h.output,h.size,fun b hb _=>h.block b hb⟩
theorem Oth.below {g B:Nat} {w w':World} (h:Oth g w w') (hB:B<=w.heap.size) (hg:B<=g):Below B w w':=⟨h.os,h.tape,h.output,h.size,fun b hb=>h.block b (by omega) (by omega)⟩
def RdIx (w:World) (ao:Option Addr) (l:List Int):Prop:=∀(k:Nat) (z:Int),l[k]? =some z->∃b o c fr,ao=some ⟨b,o,none⟩/\w.heap[b]? =some (.cells c 3 fr)/\c[o+k]? =some (.int .i64 z)
mutual
def RdPx (w:World):Pat->Value->Value->Value->Prop
 | .mk op cls kids,v0,v1,v2=>v0= .int .i64 op/\(∃co cc,v1= .slice co cls.length cc/\RdIx w co cls/\cls.length<=1000000)/\(∃ko kc,v2= .slice ko kids.length kc/\RdKx w kids ko 0/\kids.length<=1000000/\kids.length<=kc)
def RdKx (w:World):List Pat->Option Addr->Nat->Prop
 | [],_,_=>True
 | p::ps,ko,i=>(∃b o c fr,ko=some ⟨b,o,none⟩/\w.heap[b]? =some (.cells c 105 fr)/\∃v0 v1 v2,c[o+i * 3]? =some v0/\c[o+i * 3+1]? =some v1/\c[o+i * 3+2]? =some v2/\RdPx w p v0 v1 v2)/\RdKx w ps ko (i+1)
end
def KtP (w w':World):Prop:=∀(b:Nat) (c:Array Value) (t:TypeId) (fr:Nat × Nat),w.heap[b]? =some (.cells c t fr)->(t=3\/t=105)->w'.heap[b]? =some (.cells c t fr)
theorem KtP.of {w w':World} (h:Below w.heap.size w w'):KtP w w':=fun b _ _ _ hb _=>(h.block b (zab hb)).trans hb
mutual
theorem RdPx.to {w:World}:∀(p:Pat) (v0 v1 v2:Value),RdPx w p v0 v1 v2->RdP w p v0 v1 v2
 | .mk op cls kids,v0,v1,v2,h=>by
  unfold RdPx at h;unfold RdP;obtain⟨h1,⟨co,cc,h2,h3,h4⟩,ko,kc,h5,h6,h7⟩:=h;refine⟨h1,⟨co,cc,h2,fun k z hk=>?_,h4⟩,ko,kc,h5,RdKx.to kids ko 0 h6,h7⟩
  obtain⟨b,o,c,fr,a1,a2,a3⟩:=h3 k z hk;exact⟨_,a1,zab a2,by rw[Addr.add_lit,cell_of_row w b _ c _ _ a2];exact a3⟩
theorem RdKx.to {w:World}:∀(ps:List Pat) (ko:Option Addr) (i:Nat),RdKx w ps ko i->RdK w ps ko i
 | [],_,_,_=>by unfold RdK;trivial
 | p::ps,ko,i,h=>by
  unfold RdKx at h;unfold RdK;obtain⟨⟨b,o,c,fr,h1,h2,v0,v1,v2,h3,h4,h5,h6⟩,h7⟩:=h;exact⟨⟨b,o,h1,zab h2,v0,v1,v2,by rw[cell_of_row w b _ c _ _ h2];exact h3,by rw[cell_of_row w b _ c _ _ h2];exact h4,by rw[cell_of_row w b _ c _ _ h2];exact h5,RdPx.to p _ _ _ h6⟩,RdKx.to ps ko (i+1) h7⟩
end
mutual
theorem RdPx.kt {w w':World} (ho:KtP w w'):∀(p:Pat) (v0 v1 v2:Value),RdPx w p v0 v1 v2->RdPx w' p v0 v1 v2
 | .mk op cls kids,v0,v1,v2,h=>by
  unfold RdPx at h⊢;obtain⟨h1,⟨co,cc,h2,h3,h4⟩,ko,kc,h5,h6,h7⟩:=h;refine⟨h1,⟨co,cc,h2,fun k z hk=>?_,h4⟩,ko,kc,h5,RdKx.kt ho kids ko 0 h6,h7⟩
  obtain⟨b,o,c,fr,a1,a2,a3⟩:=h3 k z hk;exact⟨b,o,c,fr,a1,ho b c _ fr a2 (.inl rfl),a3⟩
theorem RdKx.kt {w w':World} (ho:KtP w w'):∀(ps:List Pat) (ko:Option Addr) (i:Nat),RdKx w ps ko i->RdKx w' ps ko i
 | [],_,_,_=>by unfold RdKx;trivial
 | p::ps,ko,i,h=>by
  unfold RdKx at h⊢;obtain⟨⟨b,o,c,fr,h1,h2,v0,v1,v2,h3,h4,h5,h6⟩,h7⟩:=h;exact⟨⟨b,o,c,fr,h1,ho b c _ fr h2 (.inr rfl),v0,v1,v2,h3,h4,h5,RdPx.kt ho p _ _ _ h6⟩,RdKx.kt ho ps ko (i+1) h7⟩
end
noncomputable def rowOf (A:AW) (u:Value) (n:Nat) (es t:Nat) (k:List Value->Bool):Bool:=match u with
 | .slice none m _=>Nat.beq m n&&Nat.beq n 0
 | .slice (some a) m c=>Nat.beq m n&&(Nat.ble n c&&match n with
  | 0=>true
  | _=>match A.get a.block with
   | some (.cells vs t' _ _ _)=>Nat.beq t' t&&(Nat.ble (a.off+n * es) vs.length)&&k (vs.drop a.off)
   | _=>false)
 | _=>false
theorem rowOf_ok {A:AW} {μ:Mu} {w:World} {u v:Value} {n es t:Nat} {k:List Value->Bool} (h:rowOf A u n es t k=true) (W:WR μ A w) (hv:VR μ u v):
  ∃vo vc,v= .slice vo n vc/\n<=vc/\(n=0\/∃b o c fr us,vo=some ⟨b,o,none⟩/\w.heap[b]? =some (.cells c t fr)/\(∃i oi li,A.get i=some oi/\μ i=some li/\li.b=b)/\k us=true/\n * es<=us.length/\∀(j:Nat) (x:Value),us[j]? =some x->∃y,c[o+j]? =some y/\VR μ x y):=by
 unfold rowOf at h
 split at h
 ·rename_i m c
  simp only[Bool.and_eq_true] at h
  have e1:=beqN h.1;have e2:=beqN h.2;subst e1
  simp only[VR] at hv
  exact⟨none,c,hv,by omega,.inl e2⟩
 ·rename_i a m c
  simp only[Bool.and_eq_true] at h
  have e1:=beqN h.1;subst e1
  simp only[VR] at hv
  obtain⟨a',c',rfl,hs⟩:=hv;have h20:=h.2;refine⟨some a',c',rfl,?_,?_⟩
  ·rcases hs with ⟨_,h3,_⟩ | ⟨_,h3⟩
   ·rw[h3];exact Nat.le_of_ble_eq_true h20.1
   ·rcases h3 with ⟨h3,_⟩ | ⟨_,h4,_⟩
    ·omega
    ·exact h4
  by_cases hm:m=0
  ·exact .inl hm
  obtain⟨q,rfl⟩:∃q,m=q+1:=⟨m - 1,by omega⟩
  have h2:=h20.2
  simp only[] at h2
  split at h2
  ·rename_i vs t' op fz e hobj
   simp only[Bool.and_eq_true] at h2
   obtain⟨⟨e3,e4⟩,hk⟩:=h2;have e4':=Nat.le_of_ble_eq_true e4;have e3':=beqN e3;subst e3';have hl:∃l,μ a.block=some l/\a'=⟨l.b,l.d+a.off,none⟩:=by
    rcases hs with ⟨_,_,h3,l,h4,h5⟩ | ⟨_,h3⟩
    ·exact⟨l,h4,h5⟩
    ·rcases h3 with ⟨h3,_⟩ | ⟨_,_,l,h4,h5,_⟩
     ·omega
     ·exact⟨l,h4,h5⟩
   obtain⟨l,hl1,rfl⟩:=hl;obtain⟨o',g1,c2,fr,rfl,g3,g4,g5,g6,g7,g8⟩:=W.has _ _ _ hobj hl1;refine .inr ⟨l.b,l.d+a.off,c2,fr,vs.drop a.off,rfl,g1,⟨_,_,l,hobj,hl1,rfl⟩,hk,by rw[List.length_drop];omega,fun j x hj=>?_⟩
   rw[List.getElem?_drop] at hj;obtain⟨y,hy,hxy⟩:=g7.get hj;have hjl:=(List.getElem?_eq_some_iff.1 hj).1;rw[List.getElem?_take_of_lt hjl,List.getElem?_drop] at hy;refine⟨y,?_,hxy⟩;rw[<- hy]
   simp[Nat.add_assoc]
  ·cases h2
 ·cases h
def allK (g:Pat->Value->Value->Value->Bool):List Pat->List Value->Bool
 | [],_=>true
 | p::ps,v0::v1::v2::vs=>g p v0 v1 v2&&allK g ps vs
 | _,_=>false
noncomputable def chkP (A:AW):Nat->Pat->Value->Value->Value->Bool
 | 0,_,_,_,_=>false
 | f+1,.mk op cls kids,u0,u1,u2=>veq u0 (.int .i64 op)&&Nat.ble cls.length 1000000&&Nat.ble kids.length 1000000&&rowOf A u1 cls.length 1 3 (fun vs=>veqL (vs.take cls.length) (cls.map fun z=>.int .i64 z))&&rowOf A u2 kids.length 3 105 (allK (chkP A f) kids)
theorem allK_ok {g:Pat->Value->Value->Value->Bool} {w:World} {μ:Mu} {b o:Nat} {c:Array Value} {fr:Nat × Nat} (hb:w.heap[b]? =some (.cells c 105 fr)):∀(ps:List Pat) (i:Nat) (us:List Value),(∀p∈ps,∀u0 u1 u2 v0 v1 v2,g p u0 u1 u2=true->VR μ u0 v0->VR μ u1 v1->VR μ u2 v2->RdPx w p v0 v1 v2)->allK g ps us=true->
  (∀(j:Nat) (x:Value),us[j]? =some x->∃y,c[o+i * 3+j]? =some y/\VR μ x y)->RdKx w ps (some ⟨b,o,none⟩) i
 | [],i,us,_,_,_=>by unfold RdKx;trivial
 | p::ps,i,us,hg,h,hc=>by
  match us,h with
  | v0::v1::v2::vs,h=>
   simp only[allK,Bool.and_eq_true] at h
   unfold RdKx;obtain⟨y0,c0,r0⟩:=hc 0 v0 rfl;obtain⟨y1,c1,r1⟩:=hc 1 v1 rfl;obtain⟨y2,c2,r2⟩:=hc 2 v2 rfl;refine⟨⟨b,o,c,fr,rfl,hb,y0,y1,y2,c0,c1,c2,hg p (List.mem_cons_self ..) _ _ _ _ _ _ h.1 r0 r1 r2⟩,allK_ok hb ps (i+1) vs (fun q hq=>hg q (List.mem_cons_of_mem _ hq)) h.2 fun j x hj=>?_⟩
   obtain⟨y,h1,h2⟩:=hc (j+3) x (by simpa using hj)
   refine⟨y,?_,h2⟩;rw[show o+(i+1) * 3+j=o+i * 3+(j+3) by omega]
   exact h1
theorem chkP_ok {A:AW} {μ:Mu} {w:World} (W:WR μ A w):∀(f:Nat) (p:Pat) (u0 u1 u2 v0 v1 v2:Value),chkP A f p u0 u1 u2=true->VR μ u0 v0->VR μ u1 v1->VR μ u2 v2->RdPx w p v0 v1 v2
 | 0,_,_,_,_,_,_,_,h,_,_,_=>by simp[chkP] at h
 | f+1,.mk op cls kids,u0,u1,u2,v0,v1,v2,h,r0,r1,r2=>by
  simp only[chkP,Bool.and_eq_true] at h
  obtain⟨⟨⟨⟨h1,h2⟩,h3⟩,h4⟩,h5⟩:=h;have e0:=veq_eq h1;subst e0;unfold RdPx;refine⟨by simpa[VR] using r0,?_,?_⟩
  ·obtain⟨vo,vc,e1,_,e2⟩:=rowOf_ok h4 W r1
   refine⟨vo,vc,e1,fun k z hk=>?_,Nat.le_of_ble_eq_true h2⟩
   have hkl:=(List.getElem?_eq_some_iff.1 hk).1
   rcases e2 with e2 | ⟨b,o,c,fr,us,rfl,hb,_,hv,hn,hc⟩
   ·omega
   ·have e3:=zcc hv
    have e4:us[k]? =some (.int .i64 z):=by
     have:(us.take cls.length)[k]? =some (.int .i64 z):=by rw[e3,List.getElem?_map,hk];rfl
     rwa [List.getElem?_take_of_lt hkl] at this
    obtain⟨y,hy,hr⟩:=hc k _ e4
    simp only[VR] at hr
    subst hr;exact⟨b,o,c,fr,rfl,hb,hy⟩
  ·obtain⟨vo,vc,e1,e9,e2⟩:=rowOf_ok h5 W r2
   refine⟨vo,vc,e1,?_,Nat.le_of_ble_eq_true h3,e9⟩
   rcases e2 with e2 | ⟨b,o,c,fr,us,rfl,hb,_,hv,hn,hc⟩
   ·rw[List.length_eq_zero_iff.1 e2];unfold RdKx;trivial
   ·exact allK_ok hb kids 0 us (fun p _ u0 u1 u2 v0 v1 v2 hp a0 a1 a2=>chkP_ok W f p u0 u1 u2 v0 v1 v2 hp a0 a1 a2) hv (by simpa using hc)
noncomputable def nmO (vs:List Value):AObj:=.cells vs 9 true none 1
noncomputable def nmA (vs:List Value):AW:=(⟨[],.nil,ng⟩:AW).push (nmO vs)
theorem nmA_get {vs:List Value} {i:Nat} {o:AObj} (h:(nmA vs).get i=some o):i=ng/\o=nmO vs:=by
 unfold nmA at h;rw[AW.get_push] at h
 split at h
 ·rename_i e;exact⟨e,(Option.some.inj h).symm⟩
 ·exfalso
  have h':(Tr.nil:Tr AObj).get i=some o:=h;rw[Tr.get_nil] at h'
  cases h'
theorem zcf:mu0 ng=none:=rfl
theorem gloc_big {i:Nat} (h:ng<i):gloc i=none:=by
 cases hg:gloc i with
 | none=>rfl
 | some s=>exact absurd (gloc_lt hg) (by omega)
theorem nm_wr {w:World} {vs:List Value} {l:Ev.Loc} {o':Obj} (hf:flatL vs=true) (hh:w.heap[l.b]? =some o') (μ:Mu) (ho:OR μ l (nmO vs) o'):WR (mu0.add ng l) (nmA vs) w:=by
 refine⟨fun i o li hi hl=>?_,fun i j oi oj li lj hi hj _ _ _=>?_,fun i hi=>?_⟩
 ·obtain⟨rfl,rfl⟩:=nmA_get hi
  rw[Mu.add_get zcf] at hl
  cases hl
  refine⟨o',hh,?_⟩
  simp only[nmO,OR] at ho⊢
  obtain⟨c,fr,h1,h2,h3,h4,h5,h6,h7⟩:=ho;refine⟨c,fr,h1,h2,h3,h4,h5,?_,h7⟩;rw[zaP hf h6];exact zaE hf
 ·rw[(nmA_get hi).1,(nmA_get hj).1]
 ·have h1:(nmA vs).next=ng+1:=rfl
  rw[Mu.add_ne (by omega)]
  show(gloc i).map (fun s=>(⟨i,0,s.1,s.2⟩:Ev.Loc))=none
  rw[gloc_big (by omega)]
  rfl
theorem oth_of {w w':World} {vs:List Value} {l:Ev.Loc} {μ:Mu} {A':AW} (E:Ext (mu0.add ng l) (nmA vs) w μ A' w'):Oth l.b w w':=⟨E.os,E.tape,E.output,E.size,fun b hb hne=>E.stay b hb fun i o li hi hl=>by
 obtain⟨rfl,rfl⟩:=nmA_get hi;rw[Mu.add_get zcf] at hl
 cases hl
 exact fun e=>hne e.symm⟩
theorem oth_wr {w w':World} {A:AW} {μ:Mu} {l:Ev.Loc} {o':Obj} {o:AObj} (W:WR μ A w) (hO:Oth l.b w w') (hA:A.get ng=some o) (hl:μ ng=some l) (h1:w'.heap[l.b]? =some o') (h2:OR μ l o o'):WR μ A w'/\Ext μ A w μ A w':=by
 refine⟨⟨fun i oi li hi hli=>?_,W.inj,W.dom⟩,Le.refl _,hO.size,hO.tape,hO.os,hO.output,fun b hb hne=>hO.block b hb fun e=>hne ng o l hA hl e.symm,fun i oi li hi hli=>.inr ⟨i,oi,li,hi,hli,rfl⟩,Nat.le_refl _,fun _ _=>rfl⟩
 by_cases e:i=ng
 ·subst e
  rw[hA] at hi
  cases hi
  rw[hl] at hli
  cases hli
  exact⟨o',h1,h2⟩
 ·obtain⟨o2,h3,h4⟩:=W.has i oi li hi hli
  refine⟨o2,?_,h4⟩;rw[hO.block li.b (W.lt hi hli) fun e2=>e (W.inj i ng oi o li l hi hA hli hl e2)]
  exact h3
noncomputable def nmV (n:Nat):Value:=.slice (some ⟨ng,0,none⟩) n unk
noncomputable def chkN (vs:List Value):Except String (AE × AW)->Bool
 | .ok (.ret u,A)=>veq u (.bool true)&&(match A.get ng with
  | some o=>objEq o (nmO vs)
  | none=>false)
 | _=>false
noncomputable def runN (call:CallT) (f:FuncId) (vs:List Value):Bool:=chkN vs (call false f [nmV vs.length] (nmA vs))
noncomputable def ovN (f0:FuncId) (vs:List Value):OvT:=fun f args A=>bif Nat.beq f f0 then (match args with
 | [.slice (some ⟨b,0,none⟩) n c]=>bif Nat.beq b ng&&Nat.beq n vs.length&&Nat.beq c unk&&(match A.get ng with
  | some o=>objEq o (nmO vs)
  | none=>false) then some (.bool true,A) else none
 | _=>none) else none
theorem ovN_ok {P:Program} {call:CallT} {f0:FuncId} {vs:List Value} (hcall:zaT P call) (hf:flatL vs=true) (hn:vs.length≠0) (h:runN call f0 vs=true):OvOK P (ovN f0 vs):=by
 intro f args A v A' ho μ w args' W hargs;unfold ovN at ho
 cases hb:Nat.beq f f0 with
 | false=>rw[hb] at ho;cases ho
 | true=>
  rw[hb,cond_true] at ho;have e0:=beqN hb;subst e0
  split at ho
  ·rename_i b n c
   cases hc:(Nat.beq b ng&&Nat.beq n vs.length&&Nat.beq c unk&&(match A.get ng with
    | some o=>objEq o (nmO vs)
    | none=>false)) with
   | false=>rw[hc] at ho;cases ho
   | true=>
    rw[hc,cond_true] at ho
    cases ho
    simp only[Bool.and_eq_true] at hc
    obtain⟨⟨⟨c1,c2⟩,c3⟩,c4⟩:=hc;have e1:=beqN c1;have e2:=beqN c2;have e3:=beqN c3;subst e1 e2 e3
    split at c4
    ·rename_i o hA
     have e4:=zbT c4;subst e4
     simp only[LR] at hargs
     obtain⟨y,t,q1,hv,rfl⟩:=hargs;have e5:args'=#[y]:=Array.toList_inj.1 q1;subst e5;have hv':=hv
     simp only[VR] at hv
     obtain⟨a',c',rfl,hs⟩:=hv
     rcases hs with ⟨h1,_⟩ | ⟨_,h2⟩
     ·exact absurd rfl h1
     ·rcases h2 with ⟨h2,_⟩ | ⟨h3,h4,l,h5,h6,h7⟩
      ·exact absurd h2 hn
      ·simp only at h5 h6 h7
       subst h6;obtain⟨o',g1,g2⟩:=W.has ng _ l hA h5;have W0:=nm_wr hf g1 μ g2;unfold runN chkN at h
       split at h
       ·rename_i u A2 hr
        rw[Bool.and_eq_true] at h;have e6:=veq_eq h.1;subst e6;have h8:=h.2
        split at h8
        ·rename_i o2 hA2
         have e7:=zbT h8;subst e7;refine(hcall.fn f _ _ _ A2 hr (mu0.add ng l) w #[.slice (some ⟨l.b,l.d+0,none⟩) vs.length c'] W0 ?_).mono fun e w' ⟨μ',he,W',E⟩=>?_
         ·simp only[LR,nmV]
          refine⟨_,[],rfl,?_,rfl⟩
          simp only[VR]
          exact⟨_,c',rfl,.inr ⟨rfl,.inr ⟨rfl,h4,l,Mu.add_get zcf,rfl,h7⟩⟩⟩
         ·have hl2:μ' ng=some l:=(E.le ng l (Mu.add_get zcf))
          obtain⟨o3,k1,k2⟩:=W'.has ng _ l hA2 hl2;have k3:OR μ l (nmO vs) o3:=by
           simp only[nmO,OR] at k2⊢
           obtain⟨c,fr,a1,a2,a3,a4,a5,a6,a7⟩:=k2;refine⟨c,fr,a1,a2,a3,a4,a5,?_,a7⟩;rw[zaP hf a6];exact zaE hf
          obtain⟨W2,E2⟩:=oth_wr W (oth_of E) hA h5 k1 k3;refine⟨μ,?_,W2,E2⟩
          cases e with
          | returned v=>simp only[ER,VR] at he⊢;exact he
          | panicked ch=>exact he.elim
          | outgrown=>exact he.elim
        ·cases h8
       ·cases h
    ·cases c4
  ·cases ho
def NmAt (w:World) (g nc:Nat) (vs:List Value):Prop:=∃cur:Array Value,w.heap[g]? =some (.cells cur 9 (0,0))/\cur.size=nc/\vs.length<=nc/\cur.toList.take vs.length=vs
theorem NmAt.kt {w w':World} {g nc:Nat} {vs:List Value} (h:NmAt w g nc vs) (ho:Oth g w w'):KtP w w':=fun b c t fr hb ht=>by
 obtain⟨cur,h1,_⟩:=h;rw[ho.block b (zab hb) (fun e=>by
  rw[e,h1] at hb
  cases hb
  rcases ht with ht | ht<;>cases ht)]
 exact hb
noncomputable def okT (vs:List Value) (p:Pat):Except String (AE × AW)->Bool
 | .ok (.ret (.tuple ⟨[.agg ⟨[a,b,c]⟩,x,y]⟩),A)=>veqL [x,y] [.int .i64 0,.int .i64 0]&&chkP A 20 p a b c&&(match A.get ng with
  | some o=>objEq o (nmO vs)
  | none=>false)
 | _=>false
noncomputable def runT (call:CallT) (f:FuncId) (text:ByteArray) (vs:List Value) (p:Pat):Bool:=okT vs p (call false f [.string text,nmV vs.length] (nmA vs))
def PsQ (g nc:Nat) (vs:List Value) (w:World) (p:Pat) (e:Ending) (w':World):Prop:=∃v0 v1 v2,e= .returned (.tuple #[.agg #[v0,v1,v2],.int .i64 0,.int .i64 0])/\RdPx w' p v0 v1 v2/\NmAt w' g nc vs/\Oth g w w'
theorem zao {P:Program} {call:CallT} {f:FuncId} {text:ByteArray} {vs:List Value} {p:Pat} (hcall:zaT P call) (hf:flatL vs=true) (h:runT call f text vs p=true) (g nc:Nat) (w:World) (hN:NmAt w g nc vs):
  Calls P f #[.string text,.slice (some ⟨g,0,none⟩) vs.length nc] w (PsQ g nc vs w p):=by
 obtain⟨cur,hh,hsz,hnc,ht⟩:=hN;have W0:WR (mu0.add ng ⟨g,0,nc,1⟩) (nmA vs) w:=nm_wr (l:=⟨g,0,nc,1⟩) hf hh mu0 (by
  unfold nmO OR;refine⟨cur,(0,0),rfl,hsz,by simpa using hnc,(fun e=>by cases e),rfl,?_,rfl⟩
  show LR mu0 vs ((cur.toList.drop 0).take vs.length)
  rw[List.drop_zero,ht];exact zaE hf)
 unfold runT okT at h
 split at h
 ·rename_i a b c x y A hr
  refine(hcall.fn f _ _ _ A hr _ w #[.string text,.slice (some ⟨g,0,none⟩) vs.length nc] W0 ?_).mono fun e w' ⟨μ',he,W',E⟩=>?_
  ·simp only[LR,nmV]
   refine⟨_,[.slice (some ⟨g,0,none⟩) vs.length nc],rfl,by simp[VR],_,[],rfl,?_,rfl⟩
   simp only[VR]
   exact⟨_,nc,rfl,.inr ⟨rfl,.inr ⟨rfl,hnc,⟨g,0,nc,1⟩,Mu.add_get zcf,rfl,by simp⟩⟩⟩
  ·simp only[Bool.and_eq_true] at h
   obtain⟨⟨h1,h2⟩,h3⟩:=h
   split at h3
   ·rename_i o2 hA2
    have e7:=zbT h3;subst e7;have hl2:μ' ng=some ⟨g,0,nc,1⟩:=E.le ng _ (Mu.add_get zcf);have e1:=zcc h1
    simp only[List.cons.injEq,and_true] at e1
    obtain⟨rfl,rfl⟩:=e1
    cases e with
    | returned v=>
     simp only[ER,VR] at he
     obtain⟨ys,rfl,hl⟩:=he
     simp only[LR] at hl
     obtain⟨y1,t1,q1,⟨zs,rfl,hz⟩,y2,t2,rfl,h8,y3,t3,rfl,h9,rfl⟩:=hl
     simp only[VR] at h8 h9
     subst h8 h9
     simp only[LR] at hz
     obtain⟨z1,s1,p1,r1,z2,s2,rfl,r2,z3,s3,rfl,r3,rfl⟩:=hz;have e2:zs=#[z1,z2,z3]:=Array.toList_inj.1 p1;subst e2;have e3:ys=#[.agg #[z1,z2,z3],.int .i64 0,.int .i64 0]:=Array.toList_inj.1 q1;subst e3;obtain⟨o3,k1,k2⟩:=W'.has ng _ _ hA2 hl2;refine⟨z1,z2,z3,rfl,chkP_ok W' 20 p _ _ _ _ _ _ h2 r1 r2 r3,?_,oth_of E⟩
     simp only[nmO,OR] at k2
     obtain⟨c2,fr,rfl,a2,a3,a4,a5,a6,a7⟩:=k2
     simp only[FZ] at a7
     subst a7;refine⟨c2,k1,a2,hnc,?_⟩;have:=zaP hf a6
     simpa using this
    | panicked ch=>exact he.elim
    | outgrown=>exact he.elim
   ·cases h3
 ·cases h
theorem names_of {P:Program} {call:CallT} {f:FuncId} {vs:List Value} (hcall:zaT P call) (hf:flatL vs=true) (h:runN call f vs=true) (g nc:Nat) (w:World) (hN:NmAt w g nc vs):
  Calls P f #[.slice (some ⟨g,0,none⟩) vs.length nc] w fun e w'=>e= .returned (.bool true)/\NmAt w' g nc vs/\Oth g w w':=by
 obtain⟨cur,hh,hsz,hnc,ht⟩:=hN;have W0:WR (mu0.add ng ⟨g,0,nc,1⟩) (nmA vs) w:=nm_wr (l:=⟨g,0,nc,1⟩) hf hh mu0 (by
  unfold nmO OR;refine⟨cur,(0,0),rfl,hsz,by simpa using hnc,(fun e=>by cases e),rfl,?_,rfl⟩
  show LR mu0 vs ((cur.toList.drop 0).take vs.length)
  rw[List.drop_zero,ht];exact zaE hf)
 unfold runN chkN at h
 split at h
 ·rename_i u A hr
  refine(hcall.fn f _ _ _ A hr _ w #[.slice (some ⟨g,0,none⟩) vs.length nc] W0 ?_).mono fun e w' ⟨μ',he,W',E⟩=>?_
  ·simp only[LR,nmV]
   refine⟨_,[],rfl,?_,rfl⟩
   simp only[VR]
   exact⟨_,nc,rfl,.inr ⟨rfl,.inr ⟨rfl,hnc,⟨g,0,nc,1⟩,Mu.add_get zcf,rfl,by simp⟩⟩⟩
  ·simp only[Bool.and_eq_true] at h
   obtain⟨h1,h3⟩:=h
   split at h3
   ·rename_i o2 hA2
    have e7:=zbT h3;subst e7;have e8:=veq_eq h1;subst e8;have hl2:μ' ng=some ⟨g,0,nc,1⟩:=E.le ng _ (Mu.add_get zcf)
    cases e with
    | returned v=>
     simp only[ER,VR] at he
     subst he;obtain⟨o3,k1,k2⟩:=W'.has ng _ _ hA2 hl2;refine⟨rfl,?_,oth_of E⟩
     simp only[nmO,OR] at k2
     obtain⟨c2,fr,rfl,a2,a3,a4,a5,a6,a7⟩:=k2
     simp only[FZ] at a7
     subst a7;refine⟨c2,k1,a2,hnc,?_⟩;have:=zaP hf a6
     simpa using this
    | panicked ch=>exact he.elim
    | outgrown=>exact he.elim
   ·cases h3
 ·cases h
def LsAt (B:Nat) (w:World) (ao:Option Addr) (ls:List (List UInt8)):Prop:=∀(j:Nat) (s:List UInt8),ls[j]? =some s->∃b o c fr,ao=some ⟨b,o,none⟩/\B<=b/\w.heap[b]? =some (.cells c 9 fr)/\c[o+j]? =some (.string ⟨s.toArray⟩)
end Pt
end
section
open Ev Go.RowKit
namespace Pt
def wdNm:List Value:=[.string ⟨#[79,116,104,101,114]⟩,.string ⟨#[67,114]⟩,.string ⟨#[76,102]⟩,.string ⟨#[78,101,119,108,105,110,101]⟩,.string ⟨#[69,120,116,101,110,100]⟩,.string ⟨#[90,119,106]⟩,.string ⟨#[70,111,114,109,97,116]⟩,.string ⟨#[82,101,103,105,111,110]⟩,.string ⟨#[75,97,116,97,107,97,110,97]⟩,.string ⟨#[72,101,98,114,101,119]⟩,.string ⟨#[76,101,116,116,101,114]⟩,.string ⟨#[81,117,111,116,101]⟩,.string ⟨#[68,111,117,98,108,101]⟩,.string ⟨#[77,105,100,78,117,109,76,101,116]⟩,.string ⟨#[77,105,100,76,101,116,116,101,114]⟩,.string ⟨#[77,105,100,78,117,109]⟩,.string ⟨#[68,105,103,105,116]⟩,.string ⟨#[76,111,119]⟩,.string ⟨#[83,112,97,99,101]⟩,.string ⟨#[80,105,99,116]⟩]
theorem zah:flatL wdNm=true:=by kernel_rfl
theorem wdNm_run:runN (evF Tryz.prog none7 1000000 (evDraw Tryz.prog none7) 60) 70 wdNm=true:=by kernel_rfl
theorem wdOv:OvOK Tryz.prog (ovN 70 wdNm):=ovN_ok (zdO zbA (fun _ hc=>zci mixed zbA hc) 60) zah (by decide) wdNm_run
noncomputable def wdEv:CallT:=evG Tryz.prog none7 1000000 (evDraw Tryz.prog none7) (ovN 70 wdNm) 60
theorem zat:zaT Tryz.prog wdEv:=evG_ok zbA (fun _ hc=>zci mixed zbA hc) wdOv 60
def wdP0:Pat:=.mk 1 [1] []
def wdP0T:ByteArray:=⟨#[67,114]⟩
def wdP1:Pat:=.mk 1 [2] []
def wdP1T:ByteArray:=⟨#[76,102]⟩
def wdP2:Pat:=.mk 1 [1,2,3] []
def wdP2T:ByteArray:=⟨#[91,78,101,119,108,105,110,101,32,67,114,32,76,102,93]⟩
def wdP3:Pat:=.mk 0 [] []
def wdP3T:ByteArray:=⟨#[]⟩
def wdP4:Pat:=.mk 1 [5] []
def wdP4T:ByteArray:=⟨#[90,119,106]⟩
def wdP5:Pat:=.mk 1 [19] []
def wdP5T:ByteArray:=⟨#[80,105,99,116]⟩
def wdP6:Pat:=.mk 1 [18] []
def wdP6T:ByteArray:=⟨#[83,112,97,99,101]⟩
def wdP7:Pat:=.mk 1 [4,5,6] []
def wdP7T:ByteArray:=⟨#[91,69,120,116,101,110,100,32,70,111,114,109,97,116,32,90,119,106,93]⟩
def wdP8:Pat:=.mk 2 [] [(.mk 1 [9,10] []),(.mk 4 [] [(.mk 1 [4,5,6] [])])]
def wdP8T:ByteArray:=⟨#[91,76,101,116,116,101,114,32,72,101,98,114,101,119,93,32,91,69,120,116,101,110,100,32,70,111,114,109,97,116,32,90,119,106,93,42]⟩
def wdP9:Pat:=.mk 1 [9,10] []
def wdP9T:ByteArray:=⟨#[91,76,101,116,116,101,114,32,72,101,98,114,101,119,93]⟩
def wdP10:Pat:=.mk 2 [] [(.mk 1 [11,13,14] []),(.mk 4 [] [(.mk 1 [4,5,6] [])]),(.mk 1 [9,10] [])]
def wdP10T:ByteArray:=⟨#[91,77,105,100,76,101,116,116,101,114,32,77,105,100,78,117,109,76,101,116,32,81,117,111,116,101,93,32,91,69,120,116,101,110,100,32,70,111,114,109,97,116,32,90,119,106,93,42,32,91,76,101,116,116,101,114,32,72,101,98,114,101,119,93]⟩
def wdP11:Pat:=.mk 2 [] [(.mk 1 [9,10] []),(.mk 4 [] [(.mk 1 [4,5,6] [])]),(.mk 1 [11,13,14] []),(.mk 4 [] [(.mk 1 [4,5,6] [])])]
def wdP11T:ByteArray:=⟨#[91,76,101,116,116,101,114,32,72,101,98,114,101,119,93,32,91,69,120,116,101,110,100,32,70,111,114,109,97,116,32,90,119,106,93,42,32,91,77,105,100,76,101,116,116,101,114,32,77,105,100,78,117,109,76,101,116,32,81,117,111,116,101,93,32,91,69,120,116,101,110,100,32,70,111,114,109,97,116,32,90,119,106,93,42]⟩
def wdP12:Pat:=.mk 2 [] [(.mk 1 [9] []),(.mk 4 [] [(.mk 1 [4,5,6] [])])]
def wdP12T:ByteArray:=⟨#[72,101,98,114,101,119,32,91,69,120,116,101,110,100,32,70,111,114,109,97,116,32,90,119,106,93,42]⟩
def wdP13:Pat:=.mk 1 [11] []
def wdP13T:ByteArray:=⟨#[81,117,111,116,101]⟩
def wdP14:Pat:=.mk 2 [] [(.mk 1 [12] []),(.mk 4 [] [(.mk 1 [4,5,6] [])]),(.mk 1 [9] [])]
def wdP14T:ByteArray:=⟨#[68,111,117,98,108,101,32,91,69,120,116,101,110,100,32,70,111,114,109,97,116,32,90,119,106,93,42,32,72,101,98,114,101,119]⟩
def wdP15:Pat:=.mk 2 [] [(.mk 1 [9] []),(.mk 4 [] [(.mk 1 [4,5,6] [])]),(.mk 1 [12] []),(.mk 4 [] [(.mk 1 [4,5,6] [])])]
def wdP15T:ByteArray:=⟨#[72,101,98,114,101,119,32,91,69,120,116,101,110,100,32,70,111,114,109,97,116,32,90,119,106,93,42,32,68,111,117,98,108,101,32,91,69,120,116,101,110,100,32,70,111,114,109,97,116,32,90,119,106,93,42]⟩
def wdP16:Pat:=.mk 1 [9] []
def wdP16T:ByteArray:=⟨#[72,101,98,114,101,119]⟩
def wdP17:Pat:=.mk 2 [] [(.mk 1 [16] []),(.mk 4 [] [(.mk 1 [4,5,6] [])])]
def wdP17T:ByteArray:=⟨#[68,105,103,105,116,32,91,69,120,116,101,110,100,32,70,111,114,109,97,116,32,90,119,106,93,42]⟩
def wdP18:Pat:=.mk 1 [16] []
def wdP18T:ByteArray:=⟨#[68,105,103,105,116]⟩
def wdP19:Pat:=.mk 2 [] [(.mk 1 [16] []),(.mk 4 [] [(.mk 1 [4,5,6] [])]),(.mk 1 [11,13,15] []),(.mk 4 [] [(.mk 1 [4,5,6] [])])]
def wdP19T:ByteArray:=⟨#[68,105,103,105,116,32,91,69,120,116,101,110,100,32,70,111,114,109,97,116,32,90,119,106,93,42,32,91,77,105,100,78,117,109,32,77,105,100,78,117,109,76,101,116,32,81,117,111,116,101,93,32,91,69,120,116,101,110,100,32,70,111,114,109,97,116,32,90,119,106,93,42]⟩
def wdP20:Pat:=.mk 2 [] [(.mk 1 [11,13,15] []),(.mk 4 [] [(.mk 1 [4,5,6] [])]),(.mk 1 [16] [])]
def wdP20T:ByteArray:=⟨#[91,77,105,100,78,117,109,32,77,105,100,78,117,109,76,101,116,32,81,117,111,116,101,93,32,91,69,120,116,101,110,100,32,70,111,114,109,97,116,32,90,119,106,93,42,32,68,105,103,105,116]⟩
def wdP21:Pat:=.mk 2 [] [(.mk 1 [8] []),(.mk 4 [] [(.mk 1 [4,5,6] [])])]
def wdP21T:ByteArray:=⟨#[75,97,116,97,107,97,110,97,32,91,69,120,116,101,110,100,32,70,111,114,109,97,116,32,90,119,106,93,42]⟩
def wdP22:Pat:=.mk 1 [8] []
def wdP22T:ByteArray:=⟨#[75,97,116,97,107,97,110,97]⟩
def wdP23:Pat:=.mk 2 [] [(.mk 1 [8,9,10,16,17] []),(.mk 4 [] [(.mk 1 [4,5,6] [])])]
def wdP23T:ByteArray:=⟨#[91,76,101,116,116,101,114,32,72,101,98,114,101,119,32,68,105,103,105,116,32,75,97,116,97,107,97,110,97,32,76,111,119,93,32,91,69,120,116,101,110,100,32,70,111,114,109,97,116,32,90,119,106,93,42]⟩
def wdP24:Pat:=.mk 1 [17] []
def wdP24T:ByteArray:=⟨#[76,111,119]⟩
def wdP25:Pat:=.mk 2 [] [(.mk 1 [17] []),(.mk 4 [] [(.mk 1 [4,5,6] [])])]
def wdP25T:ByteArray:=⟨#[76,111,119,32,91,69,120,116,101,110,100,32,70,111,114,109,97,116,32,90,119,106,93,42]⟩
def wdP26:Pat:=.mk 1 [8,9,10,16] []
def wdP26T:ByteArray:=⟨#[91,76,101,116,116,101,114,32,72,101,98,114,101,119,32,68,105,103,105,116,32,75,97,116,97,107,97,110,97,93]⟩
def wdP27:Pat:=.mk 2 [] [(.mk 4 [] [(.mk 1 [4,5,6] [])]),(.mk 4 [] [(.mk 2 [] [(.mk 1 [7] []),(.mk 4 [] [(.mk 1 [4,5,6] [])]),(.mk 1 [7] []),(.mk 4 [] [(.mk 1 [4,5,6] [])])])]),(.mk 1 [7] []),(.mk 4 [] [(.mk 1 [4,5,6] [])])]
def wdP27T:ByteArray:=⟨#[32,91,69,120,116,101,110,100,32,70,111,114,109,97,116,32,90,119,106,93,42,32,40,82,101,103,105,111,110,32,91,69,120,116,101,110,100,32,70,111,114,109,97,116,32,90,119,106,93,42,32,82,101,103,105,111,110,32,91,69,120,116,101,110,100,32,70,111,114,109,97,116,32,90,119,106,93,42,41,42,32,82,101,103,105,111,110,32,91,69,120,116,101,110,100,32,70,111,114,109,97,116,32,90,119,106,93,42]⟩
def wdP28:Pat:=.mk 1 [7] []
def wdP28T:ByteArray:=⟨#[82,101,103,105,111,110]⟩
def wdP29:Pat:=.mk 2 [] [(.mk 1 [0,1,2,3,8,9,10,11,12,13,14,15,16,17,18,19] []),(.mk 4 [] [(.mk 1 [4,5,6] [])]),(.mk 4 [] [(.mk 2 [] [(.mk 1 [7] []),(.mk 4 [] [(.mk 1 [4,5,6] [])]),(.mk 1 [7] []),(.mk 4 [] [(.mk 1 [4,5,6] [])])])]),(.mk 1 [7] []),(.mk 4 [] [(.mk 1 [4,5,6] [])])]
def wdP29T:ByteArray:=⟨#[91,94,82,101,103,105,111,110,32,69,120,116,101,110,100,32,70,111,114,109,97,116,32,90,119,106,93,32,91,69,120,116,101,110,100,32,70,111,114,109,97,116,32,90,119,106,93,42,32,40,82,101,103,105,111,110,32,91,69,120,116,101,110,100,32,70,111,114,109,97,116,32,90,119,106,93,42,32,82,101,103,105,111,110,32,91,69,120,116,101,110,100,32,70,111,114,109,97,116,32,90,119,106,93,42,41,42,32,82,101,103,105,111,110,32,91,69,120,116,101,110,100,32,70,111,114,109,97,116,32,90,119,106,93,42]⟩
end Pt
end
section
open Go.RowKit
namespace Pt
def wdRs:List Rl:=[
 ⟨false,false,false,wdP0,wdP1⟩,
 ⟨true,false,false,wdP2,wdP3⟩,
 ⟨true,false,false,wdP3,wdP2⟩,
 ⟨false,false,false,wdP4,wdP5⟩,
 ⟨false,false,false,wdP6,wdP6⟩,
 ⟨false,false,false,wdP3,wdP7⟩,
 ⟨false,false,false,wdP8,wdP9⟩,
 ⟨false,false,false,wdP8,wdP10⟩,
 ⟨false,false,false,wdP11,wdP9⟩,
 ⟨false,false,false,wdP12,wdP13⟩,
 ⟨false,false,false,wdP12,wdP14⟩,
 ⟨false,false,false,wdP15,wdP16⟩,
 ⟨false,false,false,wdP17,wdP18⟩,
 ⟨false,false,false,wdP8,wdP18⟩,
 ⟨false,false,false,wdP17,wdP9⟩,
 ⟨false,false,false,wdP19,wdP18⟩,
 ⟨false,false,false,wdP17,wdP20⟩,
 ⟨false,false,false,wdP21,wdP22⟩,
 ⟨false,false,false,wdP23,wdP24⟩,
 ⟨false,false,false,wdP25,wdP26⟩,
 ⟨false,true,false,wdP27,wdP28⟩,
 ⟨false,false,false,wdP29,wdP28⟩]
end Pt
end
section
open Go.RowKit
namespace Wo
open Pt
def bkc (c:List Int) (k:Nat):List Int:=(c.take k).reverse
theorem bkc_0 (c:List Int):bkc c 0=[]:=rfl
theorem bkc_s {c:List Int} {k:Nat} (h:k<c.length):bkc c (k+1)=c.getD k 0::bkc c k:=by
 unfold bkc;rw[List.take_succ_eq_append_getElem h,List.reverse_append,List.getD_eq_getElem?_getD,List.getElem?_eq_getElem h]
 rfl
def stp (c:List Int) (f:Int->Bool):Nat->Nat
 | 0=>0
 | k+1=>if f (c.getD k 0) then stp c f k else k+1
theorem stp_le (c:List Int) (f:Int->Bool):∀k,stp c f k<=k
 | 0=>Nat.le_refl _
 | k+1=>by
  unfold stp;have:=stp_le c f k
  split<;>omega
theorem stp_dw (c:List Int) (f:Int->Bool):∀k,k<=c.length->(bkc c k).dropWhile f=bkc c (stp c f k)
 | 0,_=>rfl
 | k+1,h=>by
  rw[bkc_s (by omega)]
  unfold stp
  cases hf:f (c.getD k 0) with
  | true=>rw[List.dropWhile_cons_of_pos hf,if_pos rfl];exact stp_dw c f k (by omega)
  | false=>rw[List.dropWhile_cons_of_neg (by rw[hf];simp),if_neg (by simp),bkc_s (by omega)]
theorem stp_in (c:List Int) (f:Int->Bool):∀k m,stp c f k<=m->m<k->f (c.getD m 0)=true
 | 0,m,_,h=>by omega
 | k+1,m,h1,h2=>by
  unfold stp at h1
  split at h1
  ·rename_i hf
   rcases Nat.eq_or_lt_of_le (Nat.le_of_lt_succ h2) with e | e
   ·exact e ▸ hf
   ·exact stp_in c f k m h1 e
  ·omega
theorem stp_out (c:List Int) (f:Int->Bool):∀k,0<stp c f k->f (c.getD (stp c f k - 1) 0)=false
 | 0,h=>by unfold stp at h;omega
 | k+1,h=>by
  unfold stp at h⊢
  split
  ·rename_i hf
   rw[if_pos hf] at h;exact stp_out c f k h
  ·rename_i hf
   rw[Nat.add_sub_cancel]
   simpa using hf
theorem stp_eq {c:List Int} {f:Int->Bool} {j k:Nat} (hj:j<=k) (h1:∀m,j<=m->m<k->f (c.getD m 0)=true) (h2:j=0\/f (c.getD (j - 1) 0)=false):stp c f k=j:=by
 rcases Nat.lt_trichotomy (stp c f k) j with h | h | h
 ·rcases h2 with h2 | h2
  ·omega
  ·have:=stp_in c f k (j - 1) (by omega) (by omega)
   rw[h2] at this
   cases this
 ·exact h
 ·have h3:=stp_out c f k (by omega)
  have h4:=stp_le c f k;rw[h1 _ (by omega) (by omega)] at h3
  cases h3
theorem bkc_head {c:List Int} {k:Nat} (hk:k<=c.length) {z:Int} (hz:z≠0):(bkc c k).headD 0=z ↔ 0<k/\c.getD (k - 1) 0=z:=by
 cases k with
 | zero=>rw[bkc_0];exact⟨fun h=>absurd h.symm hz,fun h=>by omega⟩
 | succ k=>rw[bkc_s (by omega),List.headD_cons,Nat.add_sub_cancel];exact⟨fun h=>⟨by omega,h⟩,fun h=>h.2⟩
def clg (z:Int):Bool:=z==4 || z==6 || z==5
theorem clg_is (z:Int):clg z=true ↔ z∈([4,5,6]:List Int):=by
 unfold clg
 simp only[Bool.or_eq_true,beq_iff_eq,List.mem_cons,List.not_mem_nil,or_false]
 omega
theorem getD_at {c:List Int} {i:Nat} (h:i<c.length):c[i]? =some (c.getD i 0):=by
 rw[List.getD_eq_getElem?_getD,List.getElem?_eq_getElem h];rfl
def Rw (c:List Int) (i k:Nat):Prop:=i<=k/\∀m,i<=m->m<k->∃z,c[m]? =some z/\z∈([4,5,6]:List Int)
theorem star_e (c:List Int) (i k:Nat):Star (led c (.mk 1 [4,5,6] [])) i k ↔ Rw c i k:=star_set c [4,5,6] [] i k
theorem rw_f {c:List Int} {i k:Nat} (hk:k<=c.length):Rw c i k ↔ i<=k/\∀m,i<=m->m<k->clg (c.getD m 0)=true:=by
 unfold Rw;refine and_congr_right fun _=>forall_congr' fun m=>forall_congr' fun _=>forall_congr' fun hm=>?_
 rw[clg_is,getD_at (by omega)]
 exact⟨fun⟨z,h1,h2⟩=>by cases h1;exact h2,fun h=>⟨_,rfl,h⟩⟩
def EnR (c T:List Int) (k:Nat):Prop:=∃i,(∃z,c[i]? =some z/\z∈T)/\Rw c (i+1) k
theorem enr {c T:List Int} (hT:∀z∈T,clg z=false/\z≠0) {k:Nat} (hk:k<=c.length):EnR c T k ↔ ((bkc c k).dropWhile clg).headD 0∈T:=by
 have hle:=stp_le c clg k;rw[stp_dw c _ k hk]
 constructor
 ·rintro ⟨i,⟨z,h1,h2⟩,h3⟩
  have hil:=(List.getElem?_eq_some_iff.1 h1).1;obtain⟨h4,h5⟩:=(rw_f hk).1 h3;have hz:c.getD i 0=z:=by rw[List.getD_eq_getElem?_getD,h1];rfl
  have e:=stp_eq (f:=clg) h4 h5 (.inr (by rw[Nat.add_sub_cancel,hz];exact(hT z h2).1))
  rw[e,bkc_s hil,List.headD_cons,hz];exact h2
 ·intro h
  obtain⟨z,hz⟩:∃z,z=(bkc c (stp c clg k)).headD 0:=⟨_,rfl⟩;rw[<- hz] at h;obtain⟨h1,h2⟩:=(bkc_head (by omega) (hT z h).2).1 hz.symm
  refine⟨stp c clg k - 1,⟨z,?_,h⟩,?_⟩
  ·rw[getD_at (by omega),h2]
  ·rw[show stp c clg k - 1+1=stp c clg k by omega]
   exact(rw_f hk).2 ⟨hle,fun m h3 h4=>stp_in c _ k m h3 h4⟩
theorem en_te (c T:List Int) (k:Nat):En c (.mk 2 [] [(.mk 1 T []),(.mk 4 [] [(.mk 1 [4,5,6] [])])]) k ↔ EnR c T k:=by
 unfold En EnR
 simp only[led2,ledT_s,ledT_0,led4,star_e,led1]
 constructor
 ·rintro ⟨i,_,_,⟨rfl,z,h1,h2⟩,_,h3,rfl⟩
  exact⟨i,⟨z,h1,h2⟩,h3⟩
 ·rintro ⟨i,⟨z,h1,h2⟩,h3⟩
  have:=h3.1;exact⟨i,by omega,i+1,⟨rfl,z,h1,h2⟩,k,h3,rfl⟩
theorem en_tm {c T M:List Int} (hT:∀z∈T,clg z=false/\z≠0) (hM:∀z∈M,clg z=false/\z≠0) {k:Nat} (hk:k<=c.length):
  En c (.mk 2 [] [(.mk 1 T []),(.mk 4 [] [(.mk 1 [4,5,6] [])]),(.mk 1 M []),(.mk 4 [] [(.mk 1 [4,5,6] [])])]) k ↔ (((bkc c k).dropWhile clg).headD 0∈M/\((((bkc c k).dropWhile clg).tail).dropWhile clg).headD 0∈T):=by
 have hle:=stp_le c clg k;have e0:En c (.mk 2 [] [(.mk 1 T []),(.mk 4 [] [(.mk 1 [4,5,6] [])]),(.mk 1 M []),(.mk 4 [] [(.mk 1 [4,5,6] [])])]) k ↔ ∃m,(∃z,c[m]? =some z/\z∈M)/\Rw c (m+1) k/\EnR c T m:=by
  unfold En EnR
  simp only[led2,ledT_s,ledT_0,led4,star_e,led1]
  constructor
  ·rintro ⟨i,_,_,⟨rfl,z,h1,h2⟩,m,h3,_,⟨rfl,y,h4,h5⟩,_,h6,rfl⟩
   exact⟨m,⟨y,h4,h5⟩,h6,i,⟨z,h1,h2⟩,h3⟩
  ·rintro ⟨m,⟨y,h4,h5⟩,h6,i,⟨z,h1,h2⟩,h3⟩
   have:=h3.1;have:=h6.1;exact⟨i,by omega,i+1,⟨rfl,z,h1,h2⟩,m,h3,m+1,⟨rfl,y,h4,h5⟩,k,h6,rfl⟩
 rw[e0,stp_dw c _ k hk]
 constructor
 ·rintro ⟨m,⟨y,h1,h2⟩,h3,h4⟩
  have hml:=(List.getElem?_eq_some_iff.1 h1).1;obtain⟨h5,h6⟩:=(rw_f hk).1 h3;have hz:c.getD m 0=y:=by rw[List.getD_eq_getElem?_getD,h1];rfl
  have e:=stp_eq (f:=clg) h5 h6 (.inr (by rw[Nat.add_sub_cancel,hz];exact(hM y h2).1))
  rw[e,bkc_s hml,List.headD_cons,List.tail_cons,hz];exact⟨h2,(enr hT (Nat.le_of_lt hml)).1 h4⟩
 ·rintro ⟨h1,h2⟩
  obtain⟨y,hy⟩:∃y,y=(bkc c (stp c clg k)).headD 0:=⟨_,rfl⟩;rw[<- hy] at h1;obtain⟨h3,h4⟩:=(bkc_head (by omega) (hM y h1).2).1 hy.symm
  obtain⟨m,hm⟩:∃m,stp c clg k=m+1:=⟨stp c clg k - 1,by omega⟩
  rw[hm] at h2 h4 hle;rw[bkc_s (by omega),List.tail_cons] at h2
  rw[Nat.add_sub_cancel] at h4;exact⟨m,⟨y,by rw[getD_at (by omega),h4],h1⟩,(rw_f hk).2 ⟨hle,fun j h5 h6=>stp_in c _ k j (by omega) h6⟩,(enr hT (by omega)).2 h2⟩
theorem en_1 {c T:List Int} {k:Nat} (hk:0<k):En c (.mk 1 T []) k ↔ ∃z,c[k - 1]? =some z/\z∈T:=by
 unfold En
 simp only[led1]
 constructor
 ·rintro ⟨i,_,rfl,h⟩
  exact h
 ·intro h
  exact⟨k - 1,by omega,by omega,h⟩
theorem en_0 (c:List Int) (k:Nat):En c (.mk 0 [] []) k:=⟨k,Nat.le_refl _,(led0 _ _ _).2 rfl⟩
theorem sw_0 (c:List Int) {k:Nat} (hk:k<=c.length):Sw c (.mk 0 [] []) k:=⟨k,Nat.le_refl _,hk,(led0 _ _ _).2 rfl⟩
theorem sw_1 {c T:List Int} {k:Nat}:Sw c (.mk 1 T []) k ↔ ∃z,c[k]? =some z/\z∈T:=by
 unfold Sw
 simp only[led1]
 constructor
 ·rintro ⟨_,_,_,rfl,h⟩
  exact h
 ·rintro ⟨z,h1,h2⟩
  have:=(List.getElem?_eq_some_iff.1 h1).1;exact⟨k+1,by omega,by omega,rfl,z,h1,h2⟩
theorem on_at {c U:List Int} (hU:∀z∈U,clg z=false/\z≠0):∀(n k:Nat),c.length - k<=n->((∃m,Rw c k m/\∃z,c[m]? =some z/\z∈U) ↔ ((c.drop k).dropWhile clg).headD 0∈U)
 | n,k,hn=>by
  by_cases hk:k<c.length
  ·cases n with
   | zero=>omega
   | succ n=>
    have hg:=getD_at hk;have hd:c.drop k=c.getD k 0::c.drop (k+1):=by
     rw[List.drop_eq_getElem_cons hk,List.getD_eq_getElem?_getD,List.getElem?_eq_getElem hk];rfl
    rw[hd]
    generalize c.getD k 0=z at hg
    cases hf:clg z with
    | true=>
     rw[List.dropWhile_cons_of_pos hf,<- on_at hU n (k+1) (by omega)]
     constructor
     ·rintro ⟨m,h1,y,h2,h3⟩
      have h0:=h1.1;have:k≠m:=fun e=>by
       subst e;rw[hg] at h2
       cases h2
       rw[(hU _ h3).1] at hf
       cases hf
      exact⟨m,⟨by omega,fun j h4 h5=>h1.2 j (by omega) h5⟩,y,h2,h3⟩
     ·rintro ⟨m,h1,h2⟩
      have h0:=h1.1;refine⟨m,⟨by omega,fun j h4 h5=>?_⟩,h2⟩
      rcases Nat.eq_or_lt_of_le h4 with e | e
      ·exact e ▸ ⟨z,hg,(clg_is z).1 hf⟩
      ·exact h1.2 j e h5
    | false=>
     rw[List.dropWhile_cons_of_neg (by rw[hf];simp),List.headD_cons]
     constructor
     ·rintro ⟨m,h1,y,h2,h3⟩
      rcases Nat.eq_or_lt_of_le h1.1 with e | e
      ·subst e
       rw[hg] at h2
       cases h2
       exact h3
      ·obtain⟨x,h4,h5⟩:=h1.2 k (Nat.le_refl _) e
       rw[hg] at h4
       cases h4
       rw[(clg_is _).2 h5] at hf
       cases hf
     ·intro h
      exact⟨k,⟨Nat.le_refl _,fun j h1 h2=>by omega⟩,z,hg,h⟩
  ·rw[List.drop_of_length_le (by omega)]
   constructor
   ·rintro ⟨m,h1,y,h2,_⟩
    have:=(List.getElem?_eq_some_iff.1 h2).1;have:=h1.1;omega
   ·intro h
    exact absurd rfl (hU _ h).2
theorem sw_tu {c T U:List Int} (hU:∀z∈U,clg z=false/\z≠0) {k:Nat}:Sw c (.mk 2 [] [(.mk 1 T []),(.mk 4 [] [(.mk 1 [4,5,6] [])]),(.mk 1 U [])]) k ↔ ((∃z,c[k]? =some z/\z∈T)/\((c.drop (k+1)).dropWhile clg).headD 0∈U):=by
 rw[<- on_at hU _ (k+1) (Nat.le_refl _)];unfold Sw
 simp only[led2,ledT_s,ledT_0,led4,star_e,led1]
 constructor
 ·rintro ⟨_,_,_,_,⟨rfl,h1⟩,m,h2,_,⟨rfl,h3⟩,rfl⟩
  exact⟨h1,m,h2,h3⟩
 ·rintro ⟨h1,m,h2,z,h3,h4⟩
  have:=(List.getElem?_eq_some_iff.1 h3).1;have:=h2.1;exact⟨m+1,by omega,by omega,k+1,⟨rfl,h1⟩,m,h2,m+1,⟨rfl,z,h3,h4⟩,rfl⟩
def rgc (z:Int):Bool:=z==7 || clg z
def odR:List Int->Bool->Bool
 | [],o=>o
 | z::l,o=>if z==7 then odR l (!o) else if clg z then odR l o else o
def cnt (c:List Int) (i:Nat):Nat->Nat
 | 0=>0
 | k+1=>if i<=k then (cnt c i k+if c.getD k 0==7 then 1 else 0) else 0
theorem cnt_s {c:List Int} {i k:Nat} (h:i<=k):cnt c i (k+1)=cnt c i k+if c.getD k 0==7 then 1 else 0:=by
 conv=>lhs;unfold cnt
 rw[if_pos h]
theorem cnt_0 (c:List Int) (i:Nat):cnt c i i=0:=by
 cases i with
 | zero=>rfl
 | succ k=>unfold cnt;rw[if_neg (by omega)]
theorem zck (c:List Int) {i j:Nat} (hij:i<=j):∀k,j<=k->cnt c i k=cnt c i j+cnt c j k
 | 0,h=>by
  obtain rfl:j=0:=by omega
  rfl
 | k+1,h=>by
  rcases Nat.eq_or_lt_of_le h with e | e
  ·rw[<- e,cnt_0];rfl
  ·rw[cnt_s (by omega),cnt_s (by omega:j<=k),zck c hij k (by omega)]
   omega
theorem cnt_rw {c:List Int} {i:Nat}:∀k,Rw c i k->cnt c i k=0
 | 0,_=>rfl
 | k+1,h=>by
  rcases Nat.eq_or_lt_of_le h.1 with e | e
  ·rw[<- e,cnt_0]
  ·rw[cnt_s (by omega),cnt_rw k ⟨by omega,fun m h1 h2=>h.2 m h1 (by omega)⟩]
   obtain⟨z,h1,h2⟩:=h.2 k (by omega) (by omega)
   have hz:c.getD k 0=z:=by rw[List.getD_eq_getElem?_getD,h1];rfl
   rw[hz];have:(z==7)=false:=by
    rw[beq_eq_false_iff_ne];rintro rfl
    revert h2
    decide
   rw[this];rfl
theorem cnt_one {c:List Int} {i:Nat} (h:c[i]? =some 7):cnt c i (i+1)=1:=by
 rw[cnt_s (Nat.le_refl _),cnt_0];have hz:c.getD i 0=7:=by rw[List.getD_eq_getElem?_getD,h];rfl
 rw[hz];rfl
def Rg (c:List Int) (i k:Nat):Prop:=i<=k/\∀m,i<=m->m<k->∃z,c[m]? =some z/\rgc z=true
theorem Rg.nil (c:List Int) (i:Nat):Rg c i i:=⟨Nat.le_refl _,fun m h1 h2=>by omega⟩
theorem Rg.trans {c:List Int} {i j k:Nat} (h:Rg c i j) (h2:Rg c j k):Rg c i k:=⟨Nat.le_trans h.1 h2.1,fun m h3 h4=>by
 rcases Nat.lt_or_ge m j with e | e
 ·exact h.2 m h3 e
 ·exact h2.2 m e h4⟩
theorem Rw.rg {c:List Int} {i k:Nat} (h:Rw c i k):Rg c i k:=⟨h.1,fun m h1 h2=>by
 obtain⟨z,h3,h4⟩:=h.2 m h1 h2;exact⟨z,h3,by unfold rgc;rw[(clg_is z).2 h4,Bool.or_true]⟩⟩
theorem Rg.one {c:List Int} {i:Nat} (h:c[i]? =some 7):Rg c i (i+1):=⟨by omega,fun m h1 h2=>by
 obtain rfl:m=i:=by omega
 exact⟨7,h,by decide⟩⟩
def wdTwo:Pat:=.mk 2 [] [(.mk 1 [7] []),(.mk 4 [] [(.mk 1 [4,5,6] [])]),(.mk 1 [7] []),(.mk 4 [] [(.mk 1 [4,5,6] [])])]
theorem led_two (c:List Int) (i k:Nat):led c wdTwo i k ↔ c[i]? =some 7/\∃m,Rw c (i+1) m/\c[m]? =some 7/\Rw c (m+1) k:=by
 unfold wdTwo
 simp only[led2,ledT_s,ledT_0,led4,star_e,led1,List.mem_singleton]
 constructor
 ·rintro ⟨_,⟨rfl,z,h1,rfl⟩,m,h2,_,⟨rfl,y,h3,rfl⟩,_,h4,rfl⟩
  exact⟨h1,m,h2,h3,h4⟩
 ·rintro ⟨h1,m,h2,h3,h4⟩
  exact⟨_,⟨rfl,7,h1,rfl⟩,m,h2,_,⟨rfl,7,h3,rfl⟩,k,h4,rfl⟩
theorem two_cnt {c:List Int} {i k:Nat} (h:led c wdTwo i k):Rg c i k/\cnt c i k=2:=by
 obtain⟨h1,m,h2,h3,h4⟩:=(led_two c i k).1 h;have q1:=h2.1;have q2:=h4.1;refine⟨(((Rg.one h1).trans h2.rg).trans (Rg.one h3)).trans h4.rg,?_⟩;rw[zck c (by omega:i<=i+1) k (by omega),zck c (by omega:i+1<=m) k (by omega),zck c (by omega:m<=m+1) k (by omega),cnt_one h1,cnt_rw m h2,cnt_one h3,cnt_rw k h4]
theorem star_cnt {c:List Int} {i k:Nat} (h:Star (led c wdTwo) i k):Rg c i k/\cnt c i k % 2=0:=by
 induction h with
 | refl i=>exact⟨.nil c i,by rw[cnt_0]⟩
 | step h1 _ ih=>
  obtain⟨q1,q2⟩:=two_cnt h1;obtain⟨q3,q4⟩:=ih;refine⟨q1.trans q3,?_⟩;rw[zck c q1.1 _ q3.1];omega
theorem Rw.nil (c:List Int) (i:Nat):Rw c i i:=⟨Nat.le_refl _,fun m h1 h2=>by omega⟩
theorem Rw.snoc {c:List Int} {i k:Nat} {z:Int} (h:Rw c i k) (h1:c[k]? =some z) (h2:clg z=true):Rw c i (k+1):=⟨Nat.le_succ_of_le h.1,fun m h3 h4=>by
 rcases Nat.lt_or_ge m k with e | e
 ·exact h.2 m h3 e
 ·obtain rfl:m=k:=by omega
  exact⟨z,h1,(clg_is z).1 h2⟩⟩
def Ev (c:List Int) (i k:Nat):Prop:=Rw c i k\/∃j x m,Rw c i j/\Star (led c wdTwo) j x/\c[x]? =some 7/\Rw c (x+1) m/\c[m]? =some 7/\Rw c (m+1) k
def Od (c:List Int) (i k:Nat):Prop:=∃j x,Rw c i j/\Star (led c wdTwo) j x/\c[x]? =some 7/\Rw c (x+1) k
theorem ev_star {c:List Int} {i k:Nat} (h:Ev c i k):∃j,Rw c i j/\Star (led c wdTwo) j k:=by
 rcases h with h | ⟨j,x,m,h1,h2,h3,h4,h5,h6⟩
 ·exact⟨k,h,.refl k⟩
 ·exact⟨j,h1,h2.trans (.step ((led_two c x k).2 ⟨h3,m,h4,h5,h6⟩) (.refl k))⟩
theorem ev_od (c:List Int) (i:Nat):∀k,Rg c i k->(cnt c i k % 2=0->Ev c i k)/\(cnt c i k % 2=1->Od c i k)
 | 0,h=>by
  obtain rfl:i=0:=by have:=h.1;omega
  exact⟨fun _=>.inl (.nil c 0),fun e=>by rw[cnt_0] at e;cases e⟩
 | k+1,h=>by
  rcases Nat.eq_or_lt_of_le h.1 with e | e
  ·subst e
   exact⟨fun _=>.inl (.nil c _),fun e=>by rw[cnt_0] at e;cases e⟩
  ·obtain⟨h1,h2⟩:=ev_od c i k ⟨by omega,fun m h3 h4=>h.2 m h3 (by omega)⟩
   obtain⟨z,hz,hr⟩:=h.2 k (by omega) (by omega)
   have hzg:c.getD k 0=z:=by rw[List.getD_eq_getElem?_getD,hz];rfl
   rw[cnt_s (by omega),hzg]
   unfold rgc at hr
   cases h7:(z==7) with
   | true=>
    rw[if_pos rfl];have hz7:z=7:=eq_of_beq h7;subst hz7
    constructor
    ·intro e2
     obtain⟨j,x,k1,k2,k3,k4⟩:=h2 (by omega)
     exact .inr ⟨j,x,k,k1,k2,k3,k4,hz,.nil c _⟩
    ·intro e2
     obtain⟨j,k1,k2⟩:=ev_star (h1 (by omega))
     exact⟨j,k,k1,k2,hz,.nil c _⟩
   | false=>
    rw[if_neg (by simp),Nat.add_zero]
    rw[h7,Bool.false_or] at hr
    constructor
    ·intro e2
     rcases h1 e2 with h3 | ⟨j,x,m,k1,k2,k3,k4,k5,k6⟩
     ·exact .inl (h3.snoc hz hr)
     ·exact .inr ⟨j,x,m,k1,k2,k3,k4,k5,k6.snoc hz hr⟩
    ·intro e2
     obtain⟨j,x,k1,k2,k3,k4⟩:=h2 e2;exact⟨j,x,k1,k2,k3,k4.snoc hz hr⟩
theorem od_cnt {c:List Int} {i k:Nat} (h:Od c i k):Rg c i k/\cnt c i k % 2=1:=by
 obtain⟨j,x,h1,h2,h3,h4⟩:=h;obtain⟨q1,q2⟩:=star_cnt h2;have q3:=h1.1;have q4:=q1.1;have q5:=h4.1;refine⟨((h1.rg.trans q1).trans (Rg.one h3)).trans h4.rg,?_⟩;rw[zck c q3 k (by omega),zck c q4 k (by omega),zck c (by omega:x<=x+1) k (by omega),cnt_rw j h1,cnt_one h3,cnt_rw k h4]
 omega
theorem od_is (c:List Int) (i k:Nat):Od c i k ↔ Rg c i k/\cnt c i k % 2=1:=⟨od_cnt,fun h=>(ev_od c i k h.1).2 h.2⟩
theorem led_27 (c:List Int) (i k:Nat):led c wdP27 i k ↔ Od c i k:=by
 unfold wdP27 Od
 simp only[led2,ledT_s,ledT_0,led4,star_e,led1,List.mem_singleton]
 have e:(fun i j=>led c (.mk 2 [] [(.mk 1 [7] []),(.mk 4 [] [(.mk 1 [4,5,6] [])]),(.mk 1 [7] []),(.mk 4 [] [(.mk 1 [4,5,6] [])])]) i j)=led c wdTwo:=rfl
 constructor
 ·rintro ⟨j,h1,x,h2,_,⟨rfl,z,h3,rfl⟩,_,h4,rfl⟩
  exact⟨j,x,h1,h2,h3,h4⟩
 ·rintro ⟨j,x,h1,h2,h3,h4⟩
  exact⟨j,h1,x,h2,_,⟨rfl,7,h3,rfl⟩,k,h4,rfl⟩
theorem odr_is (c:List Int):∀k,k<=c.length->∀o,odR (bkc c k) o=(o != (cnt c (stp c rgc k) k % 2==1))
 | 0,_,o=>by cases o<;>rfl
 | k+1,hk,o=>by
  have hle:=stp_le c rgc k;have ih:=odr_is c k (by omega)
  rw[bkc_s (by omega)]
  unfold odR stp
  cases h7:(c.getD k 0==7) with
  | true=>
   have hr:rgc (c.getD k 0)=true:=by unfold rgc;rw[h7];rfl
   rw[if_pos rfl,if_pos hr,ih (!o),cnt_s hle,h7,if_pos rfl]
   generalize cnt c (stp c rgc k) k=n
   rcases Nat.mod_two_eq_zero_or_one n with e | e
   ·rw[e,show(n+1) % 2=1 by omega];cases o<;>rfl
   ·rw[e,show(n+1) % 2=0 by omega];cases o<;>rfl
  | false=>
   cases hc:clg (c.getD k 0) with
   | true=>
    have hr:rgc (c.getD k 0)=true:=by unfold rgc;rw[hc,Bool.or_true]
    rw[if_neg (by simp),if_pos rfl,if_pos hr,ih o,cnt_s hle,h7,if_neg (by simp),Nat.add_zero]
   | false=>
    have hr:rgc (c.getD k 0)=false:=by unfold rgc;rw[h7,hc];rfl
    rw[if_neg (by simp),if_neg (by simp),if_neg (by rw[hr];simp),cnt_0]
    cases o<;>rfl
def Cls (c:List Int):Prop:=∀z∈c,0<=z/\z<=19
def LR:List Int:=[0,1,2,3,8,9,10,11,12,13,14,15,16,17,18,19]
theorem lr_is {z:Int} (h:0<=z/\z<=19):z∈LR ↔ rgc z=false:=by
 obtain⟨n,rfl⟩:∃n:Nat,z=n:=⟨z.toNat,by omega⟩
 have H:((List.range 20).all fun(n:Nat)=>decide ((n:Int)∈LR)== !rgc (n:Int))=true:=by decide
 have h1:=eq_of_beq (List.all_eq_true.1 H n (List.mem_range.2 (by omega)))
 rw[<- decide_eq_true_iff (p:=(n:Int)∈LR),h1]
 simp
def Od2 (c:List Int) (k:Nat):Prop:=∃i,(∃z,c[i]? =some z/\z∈LR)/\Od c (i+1) k
theorem en_29 (c:List Int) (k:Nat):En c wdP29 k ↔ Od2 c k:=by
 have e:∀i,led c wdP29 i k ↔ (∃z,c[i]? =some z/\z∈LR)/\Od c (i+1) k:=fun i=>by
  unfold wdP29 Od LR
  simp only[led2,ledT_s,ledT_0,led4,star_e,led1]
  constructor
  ·rintro ⟨_,⟨rfl,h0⟩,j,h1,x,h2,_,⟨rfl,z,h3,hz⟩,_,h4,rfl⟩
   rw[List.mem_singleton] at hz;subst hz;exact⟨h0,j,x,h1,h2,h3,h4⟩
  ·rintro ⟨h0,j,x,h1,h2,h3,h4⟩
   exact⟨_,⟨rfl,h0⟩,j,h1,x,h2,_,⟨rfl,7,h3,by simp⟩,k,h4,rfl⟩
 unfold En Od2
 constructor
 ·rintro ⟨i,_,h⟩
  exact⟨i,(e i).1 h⟩
 ·rintro ⟨i,h⟩
  have:=(od_cnt h.2).1.1;exact⟨i,by omega,(e i).2 h⟩
theorem rg_stp {c:List Int} {i k:Nat} (h:Rg c i k) (h2:i=0\/rgc (c.getD (i - 1) 0)=false):stp c rgc k=i:=
 stp_eq h.1 (fun m h3 h4=>by
  obtain⟨z,h5,h6⟩:=h.2 m h3 h4;rw[List.getD_eq_getElem?_getD,h5];exact h6) h2
theorem od_all {c:List Int} (hc:Cls c) {k:Nat} (hk:k<=c.length):(Od c 0 k\/Od2 c k) ↔ odR (bkc c k) false=true:=by
 have hle:=stp_le c rgc k;rw[odr_is c k hk];have hrg:Rg c (stp c rgc k) k:=⟨hle,fun m h1 h2=>⟨_,getD_at (by omega),stp_in c rgc k m h1 h2⟩⟩
 constructor
 ·rintro (h | ⟨i,⟨z,h1,h2⟩,h3⟩)
  ·obtain⟨h4,h5⟩:=od_cnt h
   rw[rg_stp h4 (.inl rfl),h5];rfl
  ·obtain⟨h4,h5⟩:=od_cnt h3
   have hz:c.getD i 0=z:=by rw[List.getD_eq_getElem?_getD,h1];rfl
   rw[rg_stp h4 (.inr (by rw[Nat.add_sub_cancel,hz];exact(lr_is (hc z (List.mem_of_getElem? h1))).1 h2)),h5];rfl
 ·intro h
  have ho:cnt c (stp c rgc k) k % 2=1:=by
   rcases Nat.mod_two_eq_zero_or_one (cnt c (stp c rgc k) k) with e | e
   ·rw[e] at h;cases h
   ·exact e
  rcases Nat.eq_zero_or_pos (stp c rgc k) with e | e
  ·left
   rw[e] at hrg ho;exact(od_is c 0 k).2 ⟨hrg,ho⟩
  ·right
   obtain⟨i,hi⟩:∃i,stp c rgc k=i+1:=⟨stp c rgc k - 1,by omega⟩
   have ht:=stp_out c rgc k e;rw[hi] at hrg ho ht hle;rw[Nat.add_sub_cancel] at ht;have hg:=getD_at (c:=c) (i:=i) (by omega)
   exact⟨i,⟨_,hg,(lr_is (hc _ (List.mem_of_getElem? hg))).2 ht⟩,(od_is c (i+1) k).2 ⟨hrg,ho⟩⟩
theorem odr_base:∀A:List Int,odR A false=true->(A.dropWhile clg).headD 0=7
 | [],h=>by cases h
 | z::l,h=>by
  unfold odR at h
  cases h7:(z==7) with
  | true=>
   have:z=7:=eq_of_beq h7;subst this
   rfl
  | false=>
   rw[h7,if_neg (by simp)] at h
   cases hc:clg z with
   | true=>
    rw[hc,if_pos rfl] at h;rw[List.dropWhile_cons_of_pos hc];exact odr_base l h
   | false=>rw[hc,if_neg (by simp)] at h;cases h
def ltr (c:Int):Bool:=c==10 || c==9
def ends (c:Int):Bool:=c==1 || c==2 || c==3
def tog (a b:Int):Bool:=
 if a==10 then ltr b || b==16 || b==17 else if a==16 then ltr b || b==16 || b==17 else if a==9 then ltr b || b==16 || b==17 || b==11 else
 if a==8 then b==8 || b==17 else if a==17 then ltr b || b==8 || b==16 || b==17 else false
def mdl (c:Int):Bool:=c==14 || c==15 || c==13 || c==11 || c==12
def briB (m:Int) (al a16 a9 bl b16 b9:Bool):Bool:=if m==14 then al&&bl else if m==15 then a16&&b16 else if m==13 then al&&bl || a16&&b16 else if m==11 then al&&bl || a16&&b16 else if m==12 then a9&&b9 else false
def bri (a m b:Int):Bool:=
 if m==14 then ltr a&&ltr b else if m==15 then a==16&&b==16 else if m==13 then ltr a&&ltr b || a==16&&b==16 else if m==11 then ltr a&&ltr b || a==16&&b==16 else if m==12 then a==9&&b==9 else false
theorem bri_is (a m b:Int):bri a m b=briB m (ltr a) (a==16) (a==9) (ltr b) (b==16) (b==9):=rfl
def wjL (A B:List Int):Bool:=
 if tog ((A.dropWhile clg).headD 0) (B.headD 0) then true else
 if (A.dropWhile clg).headD 0==7&&B.headD 0==7 then odR A false else
 if mdl (B.headD 0) then bri ((A.dropWhile clg).headD 0) (B.headD 0) ((B.tail.dropWhile clg).headD 0) else
 if mdl ((A.dropWhile clg).headD 0) then bri (((A.dropWhile clg).tail.dropWhile clg).headD 0) ((A.dropWhile clg).headD 0) (B.headD 0) else false
def wcL (A B:List Int):Bool:=
 if A.headD 0==1&&B.headD 0==2 then false else if ends (A.headD 0) then true else if ends (B.headD 0) then true else
 if A.headD 0==5&&B.headD 0==19 then false else if A.headD 0==18&&B.headD 0==18 then false else
 if clg (B.headD 0) then false else !wjL A B
def wdE (b s:Int) (fl f16 f9 nl n16 n9 o0 o1:Bool):Bool:=bif (ltr s)&&(ltr b) then false else bif (ltr s)&&((b==11 || (b==13 || b==14))&&nl) then false else bif ((s==11 || (s==13 || s==14))&&fl)&&(ltr b) then false else bif (s==9)&&(b==11) then false else bif (s==9)&&((b==12)&&n9) then false else bif ((s==12)&&f9)&&(b==9) then false else bif (s==16)&&(b==16) then false else bif (ltr s)&&(b==16) then false else bif (s==16)&&(ltr b) then false else bif ((s==11 || (s==13 || s==15))&&f16)&&(b==16) then false else bif (s==16)&&((b==11 || (b==13 || b==15))&&n16) then false else bif (s==8)&&(b==8) then false else bif ((s==8 || (s==9 || (s==10 || (s==16 || s==17)))))&&(b==17) then false else bif (s==17)&&((b==8 || (b==9 || (b==10 || b==16)))) then false else bif o0&&b==7 then false else bif o1&&b==7 then false else true
def wdF (b s:Int) (fl f16 f9 nl n16 n9 o:Bool):Bool:=
 !(if tog s b then true else if s==7&&b==7 then o else if mdl b then briB b (ltr s) (s==16) (s==9) nl n16 n9 else if mdl s then briB s fl f16 f9 (ltr b) (b==16) (b==9) else false)
def al2 (p:Bool->Bool):Bool:=p true&&p false
theorem zdQ {p:Bool->Bool} (h:al2 p=true) (x:Bool):p x=true:=by
 unfold al2 at h;rw[Bool.and_eq_true] at h
 cases x
 ·exact h.2
 ·exact h.1
def wdB (b s:Int):Bool:=al2 fun fl=>al2 fun f16=>al2 fun f9=>al2 fun nl=>al2 fun n16=>al2 fun n9=>al2 fun o0=>al2 fun o1=>((o0 || o1)&& !(s==7)) || (wdE b s fl f16 f9 nl n16 n9 o0 o1==wdF b s fl f16 f9 nl n16 n9 (o0 || o1))
theorem wdB_all:((List.range 20).all fun b=>(List.range 20).all fun s=>wdB b s)=true:=by decide+kernel
theorem wdB_at {b s:Int} (hb:0<=b/\b<=19) (hs:0<=s/\s<=19) (fl f16 f9 nl n16 n9 o0 o1:Bool) (ho:(o0 || o1)=true->s=7):wdE b s fl f16 f9 nl n16 n9 o0 o1=wdF b s fl f16 f9 nl n16 n9 (o0 || o1):=by
 obtain⟨bn,rfl⟩:∃n:Nat,b=n:=⟨b.toNat,by omega⟩
 obtain⟨sn,rfl⟩:∃n:Nat,s=n:=⟨s.toNat,by omega⟩
 have k1:=List.all_eq_true.1 wdB_all bn (List.mem_range.2 (by omega))
 have k2:=List.all_eq_true.1 k1 sn (List.mem_range.2 (by omega))
 unfold wdB at k2;have k3:=zdQ (zdQ (zdQ (zdQ (zdQ (zdQ (zdQ (zdQ k2 fl) f16) f9) nl) n16) n9) o0) o1;rw[Bool.or_eq_true] at k3
 rcases k3 with k | k
 ·rw[Bool.and_eq_true] at k
  have:=ho k.1;rw[this] at k;exact absurd k.2 (by decide)
 ·exact eq_of_beq k
theorem m_1 (x t:Int):x∈ [t] ↔ (x==t)=true:=by rw[List.mem_singleton,beq_iff_eq]
theorem m_lt (x:Int):x∈([9,10]:List Int) ↔ ltr x=true:=by
 unfold ltr
 simp only[List.mem_cons,List.not_mem_nil,or_false,Bool.or_eq_true,beq_iff_eq]
 omega
theorem m_m4 (x:Int):x∈([11,13,14]:List Int) ↔ (x==11 || (x==13 || x==14))=true:=by
 simp only[List.mem_cons,List.not_mem_nil,or_false,Bool.or_eq_true,beq_iff_eq]
theorem m_m5 (x:Int):x∈([11,13,15]:List Int) ↔ (x==11 || (x==13 || x==15))=true:=by
 simp only[List.mem_cons,List.not_mem_nil,or_false,Bool.or_eq_true,beq_iff_eq]
theorem m_a5 (x:Int):x∈([8,9,10,16,17]:List Int) ↔ (x==8 || (x==9 || (x==10 || (x==16 || x==17))))=true:=by
 simp only[List.mem_cons,List.not_mem_nil,or_false,Bool.or_eq_true,beq_iff_eq]
theorem m_a4 (x:Int):x∈([8,9,10,16]:List Int) ↔ (x==8 || (x==9 || (x==10 || x==16)))=true:=by
 simp only[List.mem_cons,List.not_mem_nil,or_false,Bool.or_eq_true,beq_iff_eq]
theorem wd_dcd {c:List Int} (hc:Cls c) {k:Nat} (hk:0<k) (hkn:k<c.length):dcd true c k wdRs=wcL (c.take k).reverse (c.drop k):=by
 have hkl:k<=c.length:=Nat.le_of_lt hkn;have ha:c[k - 1]? =some (c.getD (k - 1) 0):=getD_at (by omega)
 have hb:c[k]? =some (c.getD k 0):=getD_at hkn;have hA:(c.take k).reverse=bkc c k:=rfl;have hAh:(bkc c k).headD 0=c.getD (k - 1) 0:=by
  obtain⟨j,rfl⟩:∃j,k=j+1:=⟨k - 1,by omega⟩
  rw[bkc_s (by omega),List.headD_cons,Nat.add_sub_cancel]
 have hd:c.drop k=c.getD k 0::c.drop (k+1):=by
  rw[List.drop_eq_getElem_cons hkn,List.getD_eq_getElem?_getD,List.getElem?_eq_getElem hkn];rfl
 have cA:=hc _ (List.mem_of_getElem? ha);have cB:=hc _ (List.mem_of_getElem? hb);have clA:∀z∈bkc c k,0<=z/\z<=19:=fun z hz=>hc z (List.mem_of_mem_take (List.mem_reverse.1 hz))
 have cS:0<=((bkc c k).dropWhile clg).headD 0/\((bkc c k).dropWhile clg).headD 0<=19:=by
  cases e:(bkc c k).dropWhile clg with
  | nil=>exact⟨by simp,by simp⟩
  | cons z Z=>exact clA z ((List.dropWhile_sublist _).subset (by rw[e];simp))
 have hO:=od_all hc hkl;have hOb:=odr_base (bkc c k);have nz:∀{T:List Int},(T.all fun z=> !clg z&& !(z==0))=true->∀z∈T,clg z=false/\z≠0:=fun h z hz=>by
  have:=List.all_eq_true.1 h z hz;rw[Bool.and_eq_true] at this;exact⟨by simpa using this.1,by simpa using this.2⟩
 have L1:∀(T:List Int),(T.all fun z=> !clg z&& !(z==0))=true->(En c (.mk 2 [] [(.mk 1 T []),(.mk 4 [] [(.mk 1 [4,5,6] [])])]) k ↔ ((bkc c k).dropWhile clg).headD 0∈T):=fun T h=>(en_te c T k).trans (enr (nz h) hkl)
 have L2:∀(T M:List Int),(T.all fun z=> !clg z&& !(z==0))=true->(M.all fun z=> !clg z&& !(z==0))=true->(En c (.mk 2 [] [(.mk 1 T []),(.mk 4 [] [(.mk 1 [4,5,6] [])]),(.mk 1 M []),(.mk 4 [] [(.mk 1 [4,5,6] [])])]) k ↔ (((bkc c k).dropWhile clg).headD 0∈M/\((((bkc c k).dropWhile clg).tail).dropWhile clg).headD 0∈T)):=fun T M h h2=>en_tm (nz h) (nz h2) hkl
 have R1:∀(T:List Int),Sw c (.mk 1 T []) k ↔ c.getD k 0∈T:=fun T=>by
  rw[sw_1,hb];exact⟨fun⟨z,h1,h2⟩=>by cases h1;exact h2,fun h=>⟨_,rfl,h⟩⟩
 have R2:∀(T U:List Int),(U.all fun z=> !clg z&& !(z==0))=true->(Sw c (.mk 2 [] [(.mk 1 T []),(.mk 4 [] [(.mk 1 [4,5,6] [])]),(.mk 1 U [])]) k ↔ (c.getD k 0∈T/\((c.drop (k+1)).dropWhile clg).headD 0∈U)):=fun T U h=>by
  rw[sw_tu (nz h),hb];exact and_congr_left fun _=>⟨fun⟨z,h1,h2⟩=>by cases h1;exact h2,fun h=>⟨_,rfl,h⟩⟩
 have A1:∀(T:List Int),En c (.mk 1 T []) k ↔ c.getD (k - 1) 0∈T:=fun T=>by
  rw[en_1 hk,ha];exact⟨fun⟨z,h1,h2⟩=>by cases h1;exact h2,fun h=>⟨_,rfl,h⟩⟩
 have A0:=en_0 c k;have S0:=sw_0 c hkl;have e2:wcL (c.take k).reverse (c.drop k)=(if c.getD (k - 1) 0==1&&c.getD k 0==2 then false else if ends (c.getD (k - 1) 0) then true else if ends (c.getD k 0) then true else
   if c.getD (k - 1) 0==5&&c.getD k 0==19 then false else if c.getD (k - 1) 0==18&&c.getD k 0==18 then false else if clg (c.getD k 0) then false else
   wdF (c.getD k 0) (((bkc c k).dropWhile clg).headD 0) (ltr ((((bkc c k).dropWhile clg).tail.dropWhile clg).headD 0)) (((((bkc c k).dropWhile clg).tail.dropWhile clg).headD 0)==16) (((((bkc c k).dropWhile clg).tail.dropWhile clg).headD 0)==9) (ltr (((c.drop (k+1)).dropWhile clg).headD 0)) ((((c.drop (k+1)).dropWhile clg).headD 0)==16) ((((c.drop (k+1)).dropWhile clg).headD 0)==9) (odR (bkc c k) false)):=by
  unfold wcL wjL wdF;rw[hA,hAh,hd,List.headD_cons,List.tail_cons,bri_is,bri_is]
 rw[e2];clear e2 hA hAh hd clA nz hc
 generalize c.getD (k - 1) 0=a at cA A1
 generalize c.getD k 0=b at cB R1 R2
 generalize ((bkc c k).dropWhile clg).headD 0=s at cS L1 L2 hOb
 generalize (((bkc c k).dropWhile clg).tail.dropWhile clg).headD 0=fu at L2
 generalize ((c.drop (k+1)).dropWhile clg).headD 0=on at R2
 obtain⟨o0,ho0⟩:∃o:Bool,Od c 0 k ↔ o=true:=by
  by_cases h:Od c 0 k
  ·exact⟨true,by simp[h]⟩
  ·exact⟨false,by simp[h]⟩
 obtain⟨o1,ho1⟩:∃o:Bool,Od2 c k ↔ o=true:=by
  by_cases h:Od2 c k
  ·exact⟨true,by simp[h]⟩
  ·exact⟨false,by simp[h]⟩
 have hoo:odR (bkc c k) false=(o0 || o1):=by
  rw[Bool.eq_iff_iff,Bool.or_eq_true,<- ho0,<- ho1];exact hO.symm
 have tail:dcd true c k [⟨false,false,false,wdP8,wdP9⟩,⟨false,false,false,wdP8,wdP10⟩,⟨false,false,false,wdP11,wdP9⟩,⟨false,false,false,wdP12,wdP13⟩,⟨false,false,false,wdP12,wdP14⟩,⟨false,false,false,wdP15,wdP16⟩,⟨false,false,false,wdP17,wdP18⟩,⟨false,false,false,wdP8,wdP18⟩,⟨false,false,false,wdP17,wdP9⟩,⟨false,false,false,wdP19,wdP18⟩,⟨false,false,false,wdP17,wdP20⟩,⟨false,false,false,wdP21,wdP22⟩,⟨false,false,false,wdP23,wdP24⟩,⟨false,false,false,wdP25,wdP26⟩,⟨false,true,false,wdP27,wdP28⟩,⟨false,false,false,wdP29,wdP28⟩]=wdE b s (ltr fu) (fu==16) (fu==9) (ltr on) (on==16) (on==9) o0 o1:=by
  unfold wdE;rw[zaw (d:=(ltr s)&&(ltr b)) (by rw[zas];unfold wdP8 wdP9;rw[L1 _ (by decide),R1,m_lt s,m_lt b];simp only[Bool.and_eq_true])]
  rw[zaw (d:=(ltr s)&&((b==11 || (b==13 || b==14))&&ltr on)) (by rw[zas];unfold wdP8 wdP10;rw[L1 _ (by decide),R2 _ _ (by decide),m_lt s,m_m4 b,m_lt on];simp only[Bool.and_eq_true])]
  rw[zaw (d:=((s==11 || (s==13 || s==14))&&ltr fu)&&(ltr b)) (by rw[zas];unfold wdP11 wdP9;rw[L2 _ _ (by decide) (by decide),R1,m_m4 s,m_lt fu,m_lt b];simp only[Bool.and_eq_true])]
  rw[zaw (d:=(s==9)&&(b==11)) (by rw[zas];unfold wdP12 wdP13;rw[L1 _ (by decide),R1,m_1 s 9,m_1 b 11];simp only[Bool.and_eq_true])]
  rw[zaw (d:=(s==9)&&((b==12)&&(on==9))) (by rw[zas];unfold wdP12 wdP14;rw[L1 _ (by decide),R2 _ _ (by decide),m_1 s 9,m_1 b 12,m_1 on 9];simp only[Bool.and_eq_true])]
  rw[zaw (d:=((s==12)&&(fu==9))&&(b==9)) (by rw[zas];unfold wdP15 wdP16;rw[L2 _ _ (by decide) (by decide),R1,m_1 s 12,m_1 fu 9,m_1 b 9];simp only[Bool.and_eq_true])]
  rw[zaw (d:=(s==16)&&(b==16)) (by rw[zas];unfold wdP17 wdP18;rw[L1 _ (by decide),R1,m_1 s 16,m_1 b 16];simp only[Bool.and_eq_true])]
  rw[zaw (d:=(ltr s)&&(b==16)) (by rw[zas];unfold wdP8 wdP18;rw[L1 _ (by decide),R1,m_lt s,m_1 b 16];simp only[Bool.and_eq_true])]
  rw[zaw (d:=(s==16)&&(ltr b)) (by rw[zas];unfold wdP17 wdP9;rw[L1 _ (by decide),R1,m_1 s 16,m_lt b];simp only[Bool.and_eq_true])]
  rw[zaw (d:=((s==11 || (s==13 || s==15))&&(fu==16))&&(b==16)) (by rw[zas];unfold wdP19 wdP18;rw[L2 _ _ (by decide) (by decide),R1,m_m5 s,m_1 fu 16,m_1 b 16];simp only[Bool.and_eq_true])]
  rw[zaw (d:=(s==16)&&((b==11 || (b==13 || b==15))&&(on==16))) (by rw[zas];unfold wdP17 wdP20;rw[L1 _ (by decide),R2 _ _ (by decide),m_1 s 16,m_m5 b,m_1 on 16];simp only[Bool.and_eq_true])]
  rw[zaw (d:=(s==8)&&(b==8)) (by rw[zas];unfold wdP21 wdP22;rw[L1 _ (by decide),R1,m_1 s 8,m_1 b 8];simp only[Bool.and_eq_true])]
  rw[zaw (d:=((s==8 || (s==9 || (s==10 || (s==16 || s==17)))))&&(b==17)) (by rw[zas];unfold wdP23 wdP24;rw[L1 _ (by decide),R1,m_a5 s,m_1 b 17];simp only[Bool.and_eq_true])]
  rw[zaw (d:=(s==17)&&((b==8 || (b==9 || (b==10 || b==16))))) (by rw[zas];unfold wdP25 wdP26;rw[L1 _ (by decide),R1,m_1 s 17,m_a4 b];simp only[Bool.and_eq_true])]
  rw[zaw (d:=o0&&b==7) (by rw[app_start,led_27,ho0];unfold wdP28;rw[R1,Bool.and_eq_true,beq_iff_eq,List.mem_singleton])]
  rw[zaw (d:=o1&&b==7) (by rw[zas,en_29,ho1];unfold wdP28;rw[R1,Bool.and_eq_true,beq_iff_eq,List.mem_singleton])]
  rw[dcd_nil]
 rw[hoo,<- wdB_at cB cS (ltr fu) (fu==16) (fu==9) (ltr on) (on==16) (on==9) o0 o1 (fun h=>hOb (by rw[hoo];exact h)),<- tail]
 unfold wdRs;rw[zaw (d:=a==1&&b==2) (by rw[zas];unfold wdP0 wdP1;rw[A1,R1,m_1 a 1,m_1 b 2,Bool.and_eq_true])]
 rw[zaw (d:=ends a) (by rw[zas];unfold wdP2 wdP3;rw[A1];simp only[S0,and_true,List.mem_cons,List.not_mem_nil,or_false,ends,Bool.or_eq_true,beq_iff_eq];omega)]
 rw[zaw (d:=ends b) (by rw[zas];unfold wdP2 wdP3;rw[R1];simp only[A0,true_and,List.mem_cons,List.not_mem_nil,or_false,ends,Bool.or_eq_true,beq_iff_eq];omega)]
 rw[zaw (d:=a==5&&b==19) (by rw[zas];unfold wdP4 wdP5;rw[A1,R1,m_1 a 5,m_1 b 19,Bool.and_eq_true])]
 rw[zaw (d:=a==18&&b==18) (by rw[zas];unfold wdP6;rw[A1,R1,m_1 a 18,m_1 b 18,Bool.and_eq_true])]
 rw[zaw (d:=clg b) (by rw[zas];unfold wdP3 wdP7;rw[R1,clg_is];simp only[A0,true_and])]
 simp only[Bool.cond_eq_ite]
end Wo
end
section
namespace Wo
theorem nft:¬(false=true):=by simp
theorem dw_nil {p:Int->Bool}:∀{l:List Int},l.dropWhile p=[] ↔ ∀x∈l,p x=true
 | []=>by simp
 | z::l=>by
  cases h:p z with
  | true=>
   rw[List.dropWhile_cons_of_pos h,dw_nil (l:=l)]
   simp[h]
  | false=>
   rw[List.dropWhile_cons_of_neg (by rw[h];simp)]
   simp[h]
theorem tw_mem {p:Int->Bool}:∀{l:List Int} {x:Int},x∈l.takeWhile p->p x=true
 | [],x,h=>by cases h
 | z::l,x,h=>by
  cases hz:p z with
  | true=>
   rw[List.takeWhile_cons_of_pos hz] at h
   rcases List.mem_cons.1 h with rfl | h
   ·exact hz
   ·exact tw_mem h
  | false=>
   rw[List.takeWhile_cons_of_neg (by rw[hz];simp)] at h
   cases h
theorem odr_c (z:Int) (l:List Int) (o:Bool):odR (z::l) o=if z==7 then odR l (!o) else if clg z then odR l o else o:=rfl
theorem odr_not:∀(Y:List Int) (o:Bool),odR Y (!o)= !odR Y o
 | [],o=>rfl
 | y::Y,o=>by
  unfold odR
  split
  ·exact odr_not Y (!o)
  ·split
   ·exact odr_not Y o
   ·rfl
theorem odr_app:∀(X Y:List Int) (o:Bool),X.all rgc=true->odR (X++Y) o=odR Y (odR X o)
 | [],Y,o,_=>rfl
 | x::X,Y,o,h=>by
  rw[List.all_cons,Bool.and_eq_true] at h;rw[List.cons_append,odr_c,odr_c]
  cases h7:(x==7) with
  | true=>rw[if_pos rfl,if_pos rfl];exact odr_app X Y (!o) h.2
  | false=>
   have hc:clg x=true:=by
    have:=h.1;unfold rgc at this;rw[h7,Bool.false_or] at this;exact this
   rw[if_neg nft,if_neg nft,if_pos hc,if_pos hc];exact odr_app X Y o h.2
theorem odr_stop:∀(X Y:List Int) (o:Bool),X.all rgc=false->odR (X++Y) o=odR X o
 | [],Y,o,h=>by cases h
 | x::X,Y,o,h=>by
  rw[List.cons_append,odr_c,odr_c]
  cases h7:(x==7) with
  | true=>
   have:X.all rgc=false:=by
    rw[List.all_cons] at h;unfold rgc at h;rw[h7,Bool.true_or,Bool.true_and] at h;exact h
   rw[if_pos rfl,if_pos rfl];exact odr_stop X Y (!o) this
  | false=>
   rw[if_neg nft,if_neg nft]
   cases hc:clg x with
   | true=>
    have:X.all rgc=false:=by
     rw[List.all_cons] at h;unfold rgc at h;rw[h7,hc,Bool.or_true,Bool.true_and] at h;exact h
    rw[if_pos rfl,if_pos rfl];exact odr_stop X Y o this
   | false=>rw[if_neg nft,if_neg nft]
theorem zdJ {y:Int} (h:ends y=true):y=1\/y=2\/y=3:=by
 unfold ends at h
 simpa[or_assoc] using h
theorem clg_cs {y:Int} (h:clg y=true):y=4\/y=6\/y=5:=by
 unfold clg at h
 simpa[or_assoc] using h
theorem bri_0 (m b:Int):bri 0 m b=false:=by
 unfold bri
 simp[ltr]
theorem bri_end {y:Int} (h:ends y=true) (m b:Int):bri y m b=false:=by
 rcases zdJ h with rfl | rfl | rfl<;>simp[bri,ltr]
theorem tog_0 (b:Int):tog 0 b=false:=by simp[tog]
theorem tog_end {y:Int} (h:ends y=true) (b:Int):tog y b=false:=by
 rcases zdJ h with rfl | rfl | rfl<;>simp[tog]
theorem mdl_end {y:Int} (h:ends y=true):mdl y=false:=by
 rcases zdJ h with rfl | rfl | rfl<;>rfl
theorem clg_end {y:Int} (h:ends y=true):clg y=false:=by
 rcases zdJ h with rfl | rfl | rfl<;>rfl
theorem cut_clg {Y R:List Int} {x:Int} (hx:clg x=true) (h:wcL Y (x::R)=true):ends (Y.headD 0)=true:=by
 unfold wcL at h;rw[List.headD_cons,hx] at h
 rcases clg_cs hx with rfl | rfl | rfl<;>
 ·cases he:ends (Y.headD 0) with
  | true=>rfl
  | false=>rw[he] at h;simp[ends] at h
theorem base_end {Y:List Int} (h:ends (Y.headD 0)=true):(Y.dropWhile clg).headD 0=Y.headD 0:=by
 cases Y with
 | nil=>rfl
 | cons y Y=>
  rw[List.headD_cons] at h;rw[List.dropWhile_cons_of_neg (by rw[clg_end h];simp)]
theorem odr_end {Y:List Int} (h:ends (Y.headD 0)=true) (o:Bool):odR Y o=o:=by
 cases Y with
 | nil=>rfl
 | cons y Y=>
  rw[List.headD_cons] at h;unfold odR;rw[if_neg (by rcases zdJ h with rfl | rfl | rfl<;>decide),if_neg (by rw[clg_end h];simp)]
theorem cut_jn {Y R:List Int} {x:Int} (hc:clg x=false) (he:ends x=false) (h19:x≠19) (h18:x≠18) (h:wcL Y (x::R)=true):ends (Y.headD 0)=true\/wjL Y (x::R)=false:=by
 unfold wcL at h;rw[List.headD_cons,hc,he] at h
 cases hy:ends (Y.headD 0) with
 | true=>exact .inl rfl
 | false=>
  right
  rw[hy] at h;have e19:(x==19)=false:=beq_eq_false_iff_ne.2 h19;have e18:(x==18)=false:=beq_eq_false_iff_ne.2 h18;rw[e19,e18,Bool.and_false,Bool.and_false] at h
  split at h
  ·cases h
  ·simpa using h
theorem wc_loc (X Y B:List Int) (hX:X≠ []) (hB:B≠ []) (hb:Y=[]\/wcL Y (X.reverse++B)=true):wcL (X++Y) B=wcL X B:=by
 rcases hb with rfl | hb
 ·rw[List.append_nil]
 obtain⟨a,X',rfl⟩:=List.exists_cons_of_ne_nil hX;obtain⟨b,B',rfl⟩:=List.exists_cons_of_ne_nil hB
 cases hcb:clg b with
 | true=>
  unfold wcL;rw[List.cons_append,List.headD_cons,List.headD_cons,List.headD_cons,if_pos hcb,if_pos hcb]
 | false=>
  have hj:wjL (a::X'++Y) (b::B')=wjL (a::X') (b::B'):=by
   generalize a::X'=X at hX hb
   obtain⟨U,x0,rfl⟩:∃U x0,X=U++[x0]:=by
    rcases List.eq_nil_or_concat X with h | ⟨U,x0,h⟩
    ·exact absurd h hX
    ·exact⟨U,x0,by rw[h,List.concat_eq_append]⟩
   rw[List.reverse_append,List.reverse_singleton,List.singleton_append,List.cons_append] at hb;have hE:clg x0=true->ends (Y.headD 0)=true:=fun h=>cut_clg h hb
   have hda:(U++[x0]++Y).dropWhile clg=if ((U++[x0]).dropWhile clg).isEmpty then Y.dropWhile clg else (U++[x0]).dropWhile clg++Y:=List.dropWhile_append
   cases hD:(U++[x0]).dropWhile clg with
   | nil=>
    have hx:=dw_nil.1 hD x0 (by simp)
    have he:=hE hx;rw[hD] at hda;have hda2:(U++[x0]++Y).dropWhile clg=Y.dropWhile clg:=hda;have h1:wjL (U++[x0]++Y) (b::B')=false:=by
     unfold wjL;rw[hda2,base_end he,tog_end he,mdl_end he,bri_end he];have:(Y.headD 0==7)=false:=by rcases zdJ he with e | e | e<;>rw[e]<;>decide
     rw[this]
     simp
    have h2:wjL (U++[x0]) (b::B')=false:=by
     unfold wjL;rw[hD,List.headD_nil,tog_0,bri_0]
     simp[mdl]
    rw[h1,h2]
   | cons m Z=>
    have hm:clg m=false:=by
     have:=List.head?_dropWhile_not clg (U++[x0]);rw[hD] at this
     simpa using this
    rw[hD] at hda;have hda2:(U++[x0]++Y).dropWhile clg=m::(Z++Y):=hda;have hodd:m=7->odR (U++[x0]++Y) false=odR (U++[x0]) false:=fun h7=>by
     cases hr:(U++[x0]).all rgc with
     | false=>exact odr_stop _ _ _ hr
     | true=>
      rw[odr_app _ _ _ hr];have hY:odR Y false=false:=by
       cases hc:clg x0 with
       | true=>exact odr_end (hE hc) false
       | false=>
        have hx:rgc x0=true:=List.all_eq_true.1 hr x0 (by simp)
        have hx7:x0=7:=by
         unfold rgc at hx;rw[hc,Bool.or_false] at hx;exact eq_of_beq hx
        subst hx7
        rcases cut_jn (by decide) (by decide) (by decide) (by decide) hb with h | h
        ·exact odr_end h false
        ·cases ho:odR Y false with
         | false=>rfl
         | true=>
          unfold wjL at h;rw[List.headD_cons,odr_base Y ho,ho] at h
          simp[tog] at h
      cases odR (U++[x0]) false with
      | false=>exact hY
      | true=>
       have:=odr_not Y false;rw[hY] at this;exact this
    have hfu:mdl m=true->bri (((Z++Y).dropWhile clg).headD 0) m b=bri ((Z.dropWhile clg).headD 0) m b:=fun hmd=>by
     have hza:(Z++Y).dropWhile clg=if (Z.dropWhile clg).isEmpty then Y.dropWhile clg else Z.dropWhile clg++Y:=List.dropWhile_append
     cases hZ:Z.dropWhile clg with
     | cons z Z'=>
      rw[hZ] at hza;have hza2:(Z++Y).dropWhile clg=z::(Z'++Y):=hza;rw[hza2,List.headD_cons,List.headD_cons]
     | nil=>
      rw[hZ] at hza;have hza2:(Z++Y).dropWhile clg=Y.dropWhile clg:=hza;rw[hza2,List.headD_nil,bri_0]
      cases hc:clg x0 with
      | true=>
       rw[base_end (hE hc)];exact bri_end (hE hc) m b
      | false=>
       have hsp:(U++[x0]).takeWhile clg++m::Z=U++[x0]:=by rw[<- hD];exact List.takeWhile_append_dropWhile
       have hZn:Z=[]:=by
        rcases List.eq_nil_or_concat Z with h | ⟨V,v,h⟩
        ·exact h
        ·exfalso
         rw[List.concat_eq_append] at h;have hv:clg v=true:=dw_nil.1 hZ v (by rw[h];simp)
         have h1:=List.append_inj' (show((U++[x0]).takeWhile clg++m::V)++[v]=U++[x0] by
          conv=>rhs;rw[<- hsp,h]
          simp) rfl
         have h2:v=x0:=by simpa using h1.2
         rw[h2,hc] at hv
         cases hv
       subst hZn;have h1:=List.append_inj' hsp rfl;have hm0:m=x0:=by simpa using h1.2
       subst hm0;have hU:∀z∈U,clg z=true:=fun z hz=>by
        rw[<- h1.1] at hz;exact tw_mem hz
       have hb2:((U.reverse++b::B').dropWhile clg).headD 0=b:=by
        rw[List.dropWhile_append,dw_nil.2 (fun z hz=>hU z (List.mem_reverse.1 hz))]
        show((b::B').dropWhile clg).headD 0=b
        rw[List.dropWhile_cons_of_neg (by rw[hcb];simp)];rfl
       have hmc:m=14\/m=15\/m=13\/m=11\/m=12:=by
        unfold mdl at hmd
        simpa[or_assoc] using hmd
       rcases cut_jn hm (by rcases hmc with rfl | rfl | rfl | rfl | rfl<;>decide) (by omega) (by omega) hb with h | h
       ·rw[base_end h]
        exact bri_end h m b
       ·unfold wjL at h
        rw[List.headD_cons,List.tail_cons,hb2,hmd] at h;have h7:(m==7)=false:=beq_eq_false_iff_ne.2 (by omega)
        rw[h7,Bool.and_false] at h
        split at h
        ·cases h
        ·simpa using h
    unfold wjL;rw[hda2,hD,List.headD_cons,List.headD_cons,List.tail_cons,List.tail_cons,List.headD_cons]
    cases h7:(m==7) with
    | true=>rw[hodd (eq_of_beq h7)];have:m=7:=eq_of_beq h7;subst this;rfl
    | false=>
     cases hmd:mdl m with
     | true=>
      rw[hfu hmd,Bool.false_and]
      rfl
     | false=>rw[Bool.false_and,if_neg nft,if_neg nft,if_neg nft,if_neg nft]
  unfold wcL;rw[hj,List.cons_append,List.headD_cons,List.headD_cons]
  rfl
end Wo
end
end Go.Proofs.YtokpjifnlifafaaGreatDoor
