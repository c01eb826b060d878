/- SdCopy, SdApp, SdFst: parts of the proof, joined. -/
import Derived.Deep.AppendSrc
import Derived.Test.YtbbapnpdfcgjnaaGreatDoorLSdMath
open List renaming getElem?_eq_getElem->xa, getElem_mem->xb, eq_nil_of_length_eq_zero->xd, mem_append_left->xe, getElem?_eq_some_iff->xf, getElem?_map->xg, mem_append_right->xj, getElem_of_mem->xm, length_append->xp, map_toArray->xq, length_map->xr, map_cons->xu, mem_map->xv, map_nil->xw
open Nat renaming zero_add->xi, zero_le->xk, lt_of_lt_of_le->xn, lt_or_ge->xx
set_option maxHeartbeats 64000000
namespace Go.Proofs.YtbbapnpdfcgjnaaGreatDoor
section
open Go.RowKit
namespace Pt
theorem zCe {P:Program} {c:Code} {Q:Exit->Act->World->Prop} {a:Act} {w:World} (R:Act->World->Prop) (h1:c.wp P (fun e a' w'=>e= .normal/\R a' w') a w) (h2:∀a' w',R a' w'->Q .normal a' w'):c.wp P Q a w:=
 Code.wp_mono (fun e a' w' h=>by obtain⟨rfl,h⟩:=h;exact h2 a' w' h) h1
def zbw (L:List Int):List Value:=L.map fun z=>.int .i64 z
theorem zoI (L:List Int):(zbw L).length=L.length:=xr ..
theorem zoH (L:List Int):∀v∈zbw L,v.oneCell'=true:=fun v hv=>by
 unfold zbw at hv;obtain⟨x,_,rfl⟩:=xv.1 hv
 rfl
theorem zbA {w:World} {B e sz g n c:Nat} {xs:List Value} (h:w.ownsRow B e sz (.slice (some ⟨g,0,none⟩) n c) n xs):B<=g/\(∃cur,w.heap[g]? =some (.cells cur e (0,0)))/\n<=c/\∀(j:Nat) (u:Value),xs[j]? =some u->w.cell? ⟨g,j,none⟩=some u:=by
 rcases h.2 with ⟨h1,_⟩ | ⟨g',cap,cur,h1,h2,h3,h4,h5,h6,h7⟩
 ·cases h1
 ·cases h1
  refine⟨h2,⟨cur,h3⟩,h4,fun j u hj=>?_⟩
  have hl:=h.1;have hjl:=(xf.1 hj).1;rw[cell_of_row w g j cur _ _ h3];rw[<- h7,List.getElem?_take_of_lt (by omega)] at hj
  simpa using hj
theorem zwa {B H:Nat} {w:World} (hown:w.ownsRow B 3 1 (.slice (some ⟨H,0,none⟩) 0 0) 0 []) (ty:TypeId) {fo:Option Addr} {fn fc:Nat} {F:List Int} (hF:RdI w fo F) (hfn:fn=F.length) (hl:fn<=1000000000000) (hB:B<=w.heap.size):
  ∃g cap w',(Builtin.append_ #[23,23] ty #[.slice (some ⟨H,0,none⟩) 0 0,.slice fo fn fc]).run Tryz.prog w= .ok (.slice (some ⟨g,0,none⟩) fn cap) w'/\w'.ownsRow B 3 1 (.slice (some ⟨g,0,none⟩) fn cap) fn (zbw F)/\w.grownBy w' (some H)/\(g=H\/g=w.heap.size)/\g<w'.heap.size:=by
 obtain⟨i,hi,hz,hsize,hby⟩:=info_parts Tryz.info3
 by_cases h0:fn=0
 ·subst h0
  have hF0:F=[]:=xd hfn.symm;subst hF0;have hs:Src Tryz.prog i.size 23 (.slice fo 0 fc) 0 [] w:=by
   cases fo with
   | none=>exact Src.ofNil w Tryz.underlying23 fc
   | some a=>exact Src.ofSlice w Tryz.underlying23 a 0 fc [] (by simp) (fun j u hj=>by simp at hj) (fun u hu=>by simp at hu)
  have hr:(Builtin.append_ #[23,23] ty #[.slice (some ⟨H,0,none⟩) 0 0,.slice fo 0 fc]).run Tryz.prog w= .ok (.slice (some ⟨H,0,none⟩) 0 0) w:=by
   simp[Builtin.append_,run_underlying Tryz.underlying23,sizeOf,typeInfo,hi,hs.len,hs.cells,storeCells]
  exact⟨H,0,w,hr,hown,⟨rfl,rfl,rfl,Nat.le_refl _,fun _ _ _=>rfl⟩,.inl rfl,(hown.lt H rfl).2⟩
 ·obtain⟨a,rfl,_,_⟩:=hF 0 F[0] (xa (by omega))
  obtain⟨g,cap,w',hr,h2,h3,h4,h5⟩:=run_append_lies (P:=Tryz.prog) w 23 ty B 3 i (.int .i64 0) 1 8 Tryz.underlying23 hi hz hsize hby rfl (by decide) (.slice (some ⟨H,0,none⟩) 0 0) 0 [] hown a fn fc (zbw F) (by rw[zoI,hfn,Nat.mul_one]) (fun j u hj=>by
   unfold zbw at hj;rw[xg] at hj;obtain⟨z,hz1,hz2⟩:=Option.map_eq_some_iff.1 hj;obtain⟨a',e,_,h⟩:=hF j z hz1
   cases e
   rw[h,hz2]) (zoH F) (by omega) (by unfold maxLen;omega) (by omega) hB w.heap.size rfl
  refine⟨g,cap,w',by simpa using hr,by simpa using h2,h3,?_,h5⟩
  rcases h4 with h | h
  ·exact .inl (Option.some.inj h).symm
  ·exact .inr h
theorem zlh {w:World} {o:Oper} {a:Act} {K:Act->World->Prop} {Q:Exit->Act->World->Prop} (s x:Operand) (ho:o.op= .call {callee:=.builtin .append,args:=#[s,x],argTypes:=#[23,23]}) (B H:Nat) (hs:a.eval s= .slice (some ⟨H,0,none⟩) 0 0) (hown:w.ownsRow B 3 1 (.slice (some ⟨H,0,none⟩) 0 0) 0 []) (fo:Option Addr) (fn fc:Nat) (F:List Int) (hx:a.eval x= .slice fo fn fc) (hF:RdI w fo F) (hfn:fn=F.length) (hl:fn<=1000000000000) (hB:B<=w.heap.size)
  (h:∀g cap w',w'.ownsRow B 3 1 (.slice (some ⟨g,0,none⟩) fn cap) fn (zbw F)->w.grownBy w' (some H)->(g=H\/g=w.heap.size)->g<w'.heap.size->K (a.put o.dst (.slice (some ⟨g,0,none⟩) fn cap)) w'):o.wp Tryz.prog a w K Q:=by
 obtain⟨g,cap,w',hr,h2,h3,h4,h5⟩:=zwa hown o.type (fc:=fc) hF hfn hl hB;unfold Oper.wp execOp
 simp only[ho,resolve,invoke,builtin,Sem.run_bind,Sem.run_pure,Result.andThen_ok,xq,xu,xw,hs,hx,hr]
 exact h g cap w' h2 h3 h4 h5
def zjt (w:World) (X:Nat->Prop) (ao:Option Addr) (l:List Int):Prop:=∀(k:Nat) (z:Int),l[k]? =some z->∃a:Addr,ao=some a/\a.block<w.heap.size/\¬X a.block/\w.cell? (a.add k)=some (.int .i64 z)
mutual
def zfb (w:World) (X:Nat->Prop):Pat->Value->Value->Value->Prop
 | .mk op cls kids,v0,v1,v2=>v0= .int .i64 op/\(∃co cc,v1= .slice co cls.length cc/\zjt w X co cls/\cls.length<=1000000)/\(∃ko kc,v2= .slice ko kids.length kc/\zhi w X kids ko 0/\kids.length<=1000000/\kids.length<=kc)
def zhi (w:World) (X:Nat->Prop):List Pat->Option Addr->Nat->Prop
 | [],_,_=>True
 | p::ps,ko,i=>(∃b o,ko=some ⟨b,o,none⟩/\b<w.heap.size/\¬X b/\∃v0 v1 v2,w.cell? ⟨b,o+i * 3,none⟩=some v0/\w.cell? ⟨b,o+i * 3+1,none⟩=some v1/\w.cell? ⟨b,o+i * 3+2,none⟩=some v2/\zfb w X p v0 v1 v2)/\zhi w X ps ko (i+1)
end
theorem zjt.rd {w:World} {X:Nat->Prop} {ao:Option Addr} {l:List Int} (h:zjt w X ao l):RdI w ao l:=fun k z hz=>by
 obtain⟨a,h1,h2,_,h4⟩:=h k z hz;exact⟨a,h1,h2,h4⟩
mutual
theorem zfb.rd {w:World} {X:Nat->Prop}:∀(p:Pat) (v0 v1 v2:Value),zfb w X p v0 v1 v2->RdP w p v0 v1 v2
 | .mk op cls kids,v0,v1,v2,h=>by
  unfold zfb at h;unfold RdP;obtain⟨h1,⟨co,cc,h2,h3,h4⟩,ko,kc,h5,h6,h7⟩:=h;exact⟨h1,⟨co,cc,h2,h3.rd,h4⟩,ko,kc,h5,zhi.rd kids ko 0 h6,h7⟩
theorem zhi.rd {w:World} {X:Nat->Prop}:∀(ps:List Pat) (ko:Option Addr) (i:Nat),zhi w X ps ko i->RdK w ps ko i
 | [],_,_,_=>by unfold RdK;trivial
 | p::ps,ko,i,h=>by
  unfold zhi at h;unfold RdK;obtain⟨⟨b,o,h1,h2,_,v0,v1,v2,h3,h4,h5,h6⟩,h7⟩:=h;exact⟨⟨b,o,h1,h2,v0,v1,v2,h3,h4,h5,zfb.rd p _ _ _ h6⟩,zhi.rd ps ko (i+1) h7⟩
end
structure KpX (w w':World) (X X':Nat->Prop):Prop where
 size:w.heap.size<=w'.heap.size
 block:∀k,k<w.heap.size->¬X k->w'.heap[k]? =w.heap[k]?
 sub:∀k,k<w.heap.size->X' k->X k
theorem KpX.cell {w w':World} {X X':Nat->Prop} (h:KpX w w' X X') {p:Addr} {v:Value} (hp:p.block<w.heap.size) (hx:¬X p.block) (hc:w.cell? p=some v):w'.cell? p=some v:=(World.cell?_of_block (h.block p.block hp hx)).trans hc
theorem zjt.keep {w w':World} {X X':Nat->Prop} {ao:Option Addr} {l:List Int} (h:zjt w X ao l) (hk:KpX w w' X X'):zjt w' X' ao l:=fun k z hz=>by
 obtain⟨a,h1,h2,h3,h4⟩:=h k z hz;exact⟨a,h1,xn h2 hk.size,fun hx=>h3 (hk.sub _ h2 hx),hk.cell (p:=a.add k) (by rw[add_blk];exact h2) (by rw[add_blk];exact h3) h4⟩
mutual
theorem zfb.keep {w w':World} {X X':Nat->Prop} (hk:KpX w w' X X'):∀(p:Pat) (v0 v1 v2:Value),zfb w X p v0 v1 v2->zfb w' X' p v0 v1 v2
 | .mk op cls kids,v0,v1,v2,h=>by
  unfold zfb at h⊢;obtain⟨h1,⟨co,cc,h2,h3,h4⟩,ko,kc,h5,h6,h7⟩:=h;exact⟨h1,⟨co,cc,h2,h3.keep hk,h4⟩,ko,kc,h5,zhi.keep hk kids ko 0 h6,h7⟩
theorem zhi.keep {w w':World} {X X':Nat->Prop} (hk:KpX w w' X X'):∀(ps:List Pat) (ko:Option Addr) (i:Nat),zhi w X ps ko i->zhi w' X' ps ko i
 | [],_,_,_=>by unfold zhi;trivial
 | p::ps,ko,i,h=>by
  unfold zhi at h⊢;obtain⟨⟨b,o,h1,h2,hx,v0,v1,v2,h3,h4,h5,h6⟩,h7⟩:=h;have hc:∀k v,w.cell? ⟨b,k,none⟩=some v->w'.cell? ⟨b,k,none⟩=some v:=fun k v hv=>hk.cell (p:=⟨b,k,none⟩) h2 hx hv
  exact⟨⟨b,o,h1,xn h2 hk.size,fun h=>hx (hk.sub _ h2 h),v0,v1,v2,hc _ _ h3,hc _ _ h4,hc _ _ h5,zfb.keep hk p _ _ _ h6⟩,zhi.keep hk ps ko (i+1) h7⟩
end
theorem zhi.of {w:World} {X:Nat->Prop} (g:Nat) (hg:g<w.heap.size) (hx:¬X g):∀(ps:List Pat) (i:Nat),(∀(j:Nat) (p:Pat),ps[j]? =some p->∃v0 v1 v2,w.cell? ⟨g,(i+j) * 3,none⟩=some v0/\w.cell? ⟨g,(i+j) * 3+1,none⟩=some v1/\w.cell? ⟨g,(i+j) * 3+2,none⟩=some v2/\zfb w X p v0 v1 v2)->zhi w X ps (some ⟨g,0,none⟩) i
 | [],_,_=>by unfold zhi;trivial
 | p::ps,i,h=>by
  unfold zhi;refine⟨⟨g,0,rfl,hg,hx,?_⟩,zhi.of g hg hx ps (i+1) fun j q hj=>?_⟩
  ·simp only[xi]
   exact h 0 p rfl
  ·have:=h (j+1) q (by simpa using hj)
   rw[show i+1+j=i+(j+1) by omega]
   exact this
def st3 (W:World) (p:Nat) (v0 v1 v2:Value):World:=((W.setCell ⟨p,0,none⟩ v0).setCell ⟨p,1,none⟩ v1).setCell ⟨p,2,none⟩ v2
theorem znF {W:World} {p:Nat} {x0 x1 x2 v0 v1 v2:Value} {t:TypeId} (h:W.heap[p]? =some (.cells #[x0,x1,x2] t (0,0))):(st3 W p v0 v1 v2).heap[p]? =some (.cells #[v0,v1,v2] t (0,0)):=by
 have e1:=heap_setCell_same W p 0 _ t v0 h;have e2:=heap_setCell_same _ p 1 _ t v1 e1;exact heap_setCell_same _ p 2 _ t v2 e2
theorem zhX (W:World) (p:Nat) (v0 v1 v2:Value):Ony p W (st3 W p v0 v1 v2):=((Ony.set p 0 W v0).trans (Ony.set p 1 _ v1)).trans (Ony.set p 2 _ v2)
theorem Tryz.infoPat:(Tryz.prog.info? 105).map (fun i=>(i.zero,i.size,i.bytes))=some (some (.agg #[.int .i64 0,.slice none 0 0,.slice none 0 0]),3,56):=by kernel_rfl
theorem Tryz.underPats:Tryz.prog.underlying 103=some (.slice 105):=by kernel_rfl
end Pt
end
section
open Go.RowKit
namespace Pt
theorem zxb (L M:List Int):zbw (L++M)=zbw L++zbw M:=List.map_append ..
theorem zwb {B:Nat} {w:World} (ty:TypeId) {v:Value} {n:Nat} {X:List Int} (hown:w.ownsRow B 3 1 v n (zbw X)) {fo:Option Addr} {fn fc:Nat} {F:List Int} (hF:RdI w fo F) (hfn:fn=F.length) (hl:n+fn<=1000000000000) (hB:B<=w.heap.size):
  ∃vo vc w',(Builtin.append_ #[23,23] ty #[v,.slice fo fn fc]).run Tryz.prog w= .ok (.slice vo (n+fn) vc) w'/\w'.ownsRow B 3 1 (.slice vo (n+fn) vc) (n+fn) (zbw (X++F))/\w.grownBy w' v.ownBlock/\((Value.slice vo (n+fn) vc).ownBlock=v.ownBlock\/(Value.slice vo (n+fn) vc).ownBlock=some w.heap.size):=by
 obtain⟨i,hi,hz,hsize,hby⟩:=info_parts Tryz.info3
 by_cases h0:fn=0
 ·subst h0
  have hF0:F=[]:=xd hfn.symm;subst hF0;have hs:Src Tryz.prog i.size 23 (.slice fo 0 fc) 0 [] w:=by
   cases fo with
   | none=>exact Src.ofNil w Tryz.underlying23 fc
   | some a=>exact Src.ofSlice w Tryz.underlying23 a 0 fc [] (by simp) (fun j u hj=>by simp at hj) (fun u hu=>by simp at hu)
  rw[List.append_nil];have hg:w.grownBy w v.ownBlock:=⟨rfl,rfl,rfl,Nat.le_refl _,fun _ _ _=>rfl⟩
  rcases hown.2 with ⟨h1,h2⟩ | ⟨g,cap,cur,h1,h2,h3,h4,h5⟩
  ·subst h1 h2
   refine⟨none,0,w,?_,hown,hg,.inl rfl⟩
   simp[Builtin.append_,run_underlying Tryz.underlying23,sizeOf,typeInfo,hi,hs.len,hs.cells]
  ·subst h1
   refine⟨some ⟨g,0,none⟩,cap,w,?_,hown,hg,.inl rfl⟩
   simp[Builtin.append_,run_underlying Tryz.underlying23,sizeOf,typeInfo,hi,hs.len,hs.cells,storeCells,h4]
 ·obtain⟨a,rfl,_,_⟩:=hF 0 F[0] (xa (by omega))
  obtain⟨g,cap,w',hr,h2,h3,h4,h5⟩:=run_append_lies (P:=Tryz.prog) w 23 ty B 3 i (.int .i64 0) 1 8 Tryz.underlying23 hi hz hsize hby rfl (by decide) v n (zbw X) hown a fn fc (zbw F) (by rw[zoI,hfn,Nat.mul_one]) (fun j u hj=>by
   unfold zbw at hj;rw[xg] at hj;obtain⟨z,hz1,hz2⟩:=Option.map_eq_some_iff.1 hj;obtain⟨a',e,_,h⟩:=hF j z hz1
   cases e
   rw[h,hz2]) (zoH F) (by omega) (by unfold maxLen;omega) (by omega) hB w.heap.size rfl
  refine⟨some ⟨g,0,none⟩,cap,w',hr,by rw[zxb];exact h2,h3,?_⟩
  rcases h4 with h | h
  ·exact .inl (by rw[h];rfl)
  ·exact .inr (by rw[h];rfl)
theorem zav {w:World} {o:Oper} {a:Act} {K:Act->World->Prop} {Q:Exit->Act->World->Prop} (s x:Operand) (ho:o.op= .call {callee:=.builtin .append,args:=#[s,x],argTypes:=#[23,23]}) (B:Nat) (v:Value) (n:Nat) (X:List Int) (hs:a.eval s=v) (hown:w.ownsRow B 3 1 v n (zbw X)) (fo:Option Addr) (fn fc:Nat) (F:List Int) (hx:a.eval x= .slice fo fn fc) (hF:RdI w fo F) (hfn:fn=F.length) (hl:n+fn<=1000000000000) (hB:B<=w.heap.size)
  (h:∀vo vc w',w'.ownsRow B 3 1 (.slice vo (n+fn) vc) (n+fn) (zbw (X++F))->w.grownBy w' v.ownBlock->((Value.slice vo (n+fn) vc).ownBlock=v.ownBlock\/(Value.slice vo (n+fn) vc).ownBlock=some w.heap.size)->K (a.put o.dst (.slice vo (n+fn) vc)) w'):o.wp Tryz.prog a w K Q:=by
 obtain⟨vo,vc,w',hr,h2,h3,h4⟩:=zwb o.type hown (fc:=fc) hF hfn hl hB;unfold Oper.wp execOp
 simp only[ho,resolve,invoke,builtin,Sem.run_bind,Sem.run_pure,Result.andThen_ok,xq,xu,xw,hs,hx,hr]
 exact h vo vc w' h2 h3 h4
theorem zbs {w:World} {ops:Array Oper} {rest:List Oper} {o:Oper} {a:Act} {Q:Exit->Act->World->Prop} (hgd:o.guard=none) (s x:Operand) (ho:o.op= .call {callee:=.builtin .append,args:=#[s,x],argTypes:=#[23,23]}) (B:Nat) (v:Value) (n:Nat) (X:List Int) (hs:a.eval s=v) (hown:w.ownsRow B 3 1 v n (zbw X)) (fo:Option Addr) (fn fc:Nat) (F:List Int) (hx:a.eval x= .slice fo fn fc) (hF:RdI w fo F) (hfn:fn=F.length) (hl:n+fn<=1000000000000) (hB:B<=w.heap.size)
  (h:∀vo vc w',w'.ownsRow B 3 1 (.slice vo (n+fn) vc) (n+fn) (zbw (X++F))->w.grownBy w' v.ownBlock->((Value.slice vo (n+fn) vc).ownBlock=v.ownBlock\/(Value.slice vo (n+fn) vc).ownBlock=some w.heap.size)->wpList Tryz.prog ops Q rest (a.put o.dst (.slice vo (n+fn) vc)) w'):wpList Tryz.prog ops Q (o::rest) a w:=
 wpList_plain hgd fun _ hK=>zav s x ho B v n X hs hown fo fn fc F hx hF hfn hl hB fun vo vc w' h2 h3 h4=>hK _ _ (h vo vc w' h2 h3 h4)
theorem grown_below {B n:Nat} {w w':World} {v:Value} {xs:List Value} (h:w.ownsRow B 3 1 v n xs) (hg:w.grownBy w' v.ownBlock) (hB:B<=w.heap.size):Below B w w':=⟨hg.os,hg.tape,hg.output,hg.size,fun k hk=>hg.block k (by omega) (fun e=>by
 rcases h.2 with ⟨rfl,_⟩ | ⟨g,cap,cur,rfl,h2,_⟩
 ·cases e
 ·have e':=Option.some.inj e
  have e2:k=g:=e';omega)⟩
theorem zcE {w:World} {B n:Nat} {vo:Option Addr} {vc:Nat} {L:List Int} (h:w.ownsRow B 3 1 (.slice vo n vc) n (zbw L)) (hn:n=L.length):RdI w vo L:=fun k z hk=>by
 have hkl:=(xf.1 hk).1
 rcases h.2 with ⟨h1,h2⟩ | ⟨g,cap,cur,h1,h2,h3,_⟩
 ·omega
 ·cases h1
  refine⟨_,rfl,zab h3,?_⟩;rw[Addr.add_lit,xi];exact(zbA h).2.2.2 k _ (by unfold zbw;rw[xg,hk];rfl)
theorem zap {w w':World} {B n:Nat} {v:Value} {xs:List Value} (h:w.ownsRow B 3 1 v n xs) (hb:Below w.heap.size w w'):w'.ownsRow B 3 1 v n xs:=⟨h.1,h.2.imp (fun e=>e) fun⟨g,cap,cur,a1,a2,a3,a4⟩=>⟨g,cap,cur,a1,a2,(hb.block g (zab a3)).trans a3,a4⟩⟩
theorem zeA (w:World) (ao:Option Addr):RdI w ao []:=fun k z hk=>by simp at hk
theorem zlW (p:Pat) (hO:OkP p) (hs:szP p<=2048) (v0 v1 v2:Value) (w:World) (hP:RdP w p v0 v1 v2):
  Calls Tryz.prog 147 #[.agg #[v0,v1,v2],.slice none 0 0] w (BlQ w (¬led [] p 0 0)):=by
 have HE:=hid (fun(W:World) (h:Below w.heap.size w W)=>zpa p hO hs v0 v1 v2 [] none 0 0 rfl (by omega) W (RdP.below h _ _ _ _ hP) (zeA W none))
 clear hP;go_enter Tryz.func147,Tryz.ntmps147;go_wp2_with fail;refine(HE.out _ below_box).mono ?_;rintro e w2 ⟨vo,vc,rfl,hO2,hB2⟩;have HB2:=hid (below_box.trans (hB2.mono (by simp)))
 have HR:=hid (zii hO2 rfl);have HM:=hid (fun(x:Nat)=>zmT (fun i=>led [] p 0 i) (0+1) x)
 obtain⟨L,hL⟩:∃L,L=flt (fun i=>led [] p 0 i) (0+1):=⟨_,rfl⟩
 have hl9:L.length<=1:=by rw[hL];exact zmU _ _
 rw[<- hL] at HR HM⊢;obtain⟨n,hn⟩:∃n,n=L.length:=⟨_,rfl⟩;rw[<- hn] at hl9⊢;have HN:=hid hn;clear hO2 hB2 hL hn HE;go_wp2_with fail;refine(zzC vo n vc _ 0 w2 HR.out (by rw[xr];exact HN.out) (by omega)).mono ?_
 rintro e w3 ⟨rfl,rfl⟩;have HQ:=hid (show inb (L.map fun(x:Nat)=>(x:Int)) 0=false->¬led [] p 0 0 from fun h hl=>by
  have h1:(0:Int)∈L.map fun(x:Nat)=>(x:Int):=xv.2 ⟨0,(HM.out 0).2 ⟨by omega,hl⟩,rfl⟩
  rw[(zbv _ _).2 h1] at h
  cases h)
 obtain⟨b,hb⟩:∃b,b=inb (L.map fun(x:Nat)=>(x:Int)) 0:=⟨_,rfl⟩
 rw[<- hb] at HQ⊢;clear hb;go_wp2;go_ret;exact⟨b,rfl,HQ.out,HB2.out⟩
theorem zej (p:Pat) (hO:OkP p) (hs:szP p<=2048) (v0 v1 v2:Value) (w:World) (hP:RdP w p v0 v1 v2):
  Calls Tryz.prog 109 #[.agg #[v0,v1,v2]] w (BlQ w (Ful p)):=by
 have HE:=hid (fun(W:World) (h:Below w.heap.size w W)=>zlW p hO hs v0 v1 v2 W (RdP.below h _ _ _ _ hP))
 clear hP;go_enter Tryz.func109,Tryz.ntmps109;go_wp2_with fail;refine(HE.out _ below_box).mono ?_;rintro e w2 ⟨b,rfl,hb,hB2⟩;have HB2:=hid (below_box.trans (hB2.mono (by simp)))
 have HQ:=hid (show b=false->Ful p from fun h=>zFT (hb h))
 clear hb hB2;go_wp2;go_ret;exact⟨b,rfl,HQ.out,HB2.out⟩
end Pt
end
section
open Go.RowKit
namespace Pt
def FsQ (p:Pat) (w:World) (e:Ending) (w':World):Prop:=∃(vo:Option Addr) (vc:Nat) (L:List Int),e= .returned (.slice vo L.length vc)/\RdI w' vo L/\zeS p L/\L.length<=1000000 * szP p/\Below w.heap.size w w'
theorem RdK.drop {w:World} {kids:List Pat} {b o:Nat} (h:RdK w kids (some ⟨b,o,none⟩) 0) (m:Nat):RdK w (kids.drop m) (some ⟨b,o+m * 3,none⟩) 0:=by
 have key:∀(ps:List Pat) (i:Nat),(∀(j:Nat) (q:Pat),ps[j]? =some q->kids[m+i+j]? =some q)->RdK w ps (some ⟨b,o+m * 3,none⟩) i:=by
  intro ps
  induction ps with
  | nil=>intro i _;unfold RdK;trivial
  | cons p ps ih=>
   intro i hp;unfold RdK;obtain⟨b',o',h1,h2,v0,v1,v2,q0,q1,q2,q3⟩:=RdK.at kids _ 0 (m+i) p h (hp 0 p rfl)
   cases h1
   rw[show o+(0+(m+i)) * 3=o+m * 3+i * 3 by omega] at q0 q1 q2
   refine⟨⟨b,o+m * 3,rfl,h2,v0,v1,v2,q0,q1,q2,q3⟩,ih (i+1) fun j q hj=>?_⟩
   have:=hp (j+1) q (by simpa using hj)
   rw[show m+(i+1)+j=m+i+(j+1) by omega]
   exact this
 exact key _ 0 fun j _ hj=>by rw[Nat.add_zero,<- List.getElem?_drop];exact hj
theorem zoh:∀ps:List Pat,(∀p∈ps,OkP p)->OkL ps
 | [],_=>by unfold OkL;trivial
 | p::ps,h=>by
  unfold OkL;exact⟨h p (List.mem_cons_self ..),zoh ps fun q hq=>h q (List.mem_cons_of_mem _ hq)⟩
theorem OkL.drop {ps:List Pat} (h:OkL ps) (m:Nat):OkL (ps.drop m):=zoh _ fun _ hp=>h.mem (List.mem_of_mem_drop hp)
theorem zxu (v1 v2:Value) (cls:List Int) (kids:List Pat) (w:World):Calls Tryz.prog 145 #[.agg #[.int .i64 0,v1,v2]] w (FsQ (.mk 0 cls kids) w):=by
 have HB:=hid (fun(o:Obj)=>below_box (w:=w) (o:=o))
 go_enter Tryz.func145,Tryz.ntmps145;go_wp2;go_ret;exact⟨none,0,[],rfl,zeA _ _,zBg 0 _ _ (by decide) (by decide) (by decide) (by decide) (by decide) (by decide),by simp,HB.out _⟩
theorem zxt (lo:Option Addr) (lc:Nat) (v2:Value) (cls:List Int) (kids:List Pat) (w:World) (hI:RdI w lo cls) (hl9:cls.length<=1000000):Calls Tryz.prog 145 #[.agg #[.int .i64 1,.slice lo cls.length lc,v2]] w (FsQ (.mk 1 cls kids) w):=by
 have HB:=hid (fun(o:Obj)=>below_box (w:=w) (o:=o))
 have HI:=hid hI;have HL:=hid hl9;obtain⟨n,hn⟩:∃n,n=cls.length:=⟨_,rfl⟩;rw[<- hn];have HN:=hid hn;clear hI hl9 hn;go_enter Tryz.func145,Tryz.ntmps145;go_wp2;go_ret;rw[HN.out];exact⟨lo,lc,cls,rfl,HI.out.below (HB.out _),zFU _ _,by
  have:=HL.out;unfold szP;omega,HB.out _⟩
set_option maxRecDepth 100000 in
theorem zxs (lo ko:Option Addr) (ln lc kn kc:Nat) (cls:List Int) (kids:List Pat) (w:World) (hkn:kn=kids.length) (hk9:kn<=1000000) (hkc:kn<=kc) (hk:RdK w kids ko 0) (hOK:OkL kids) (hsz:szL kids+1<=2048)
  (ih:∀p∈kids,∀(u0 u1 u2:Value) (W:World),RdP W p u0 u1 u2->Calls Tryz.prog 145 #[.agg #[u0,u1,u2]] W (FsQ p W)):
  Calls Tryz.prog 145 #[.agg #[.int .i64 2,.slice lo ln lc,.slice ko kn kc]] w (FsQ (.mk 2 cls kids) w):=by
 have HK:=hid hk;have HO:=hid hOK;have HSz:=hid hsz;have HIH:=hid ih;have HKN:=hid hkn;clear hk hOK hsz ih hkn;go_enter Tryz.func145,Tryz.ntmps145;go_wp2;obtain⟨w1,hw1⟩:∃w1,w1=w.alloc (.cells #[.int .i64 2,.slice lo ln lc,.slice ko kn kc] 105):=⟨_,rfl⟩;have hb1:Below w.heap.size w w1:=by rw[hw1];exact below_box
 have x0:w1.cell? ⟨w.heap.size,0,none⟩=some (.int .i64 2):=by rw[hw1];simp[go_sem]
 have x2:w1.cell? ⟨w.heap.size,2,none⟩=some (.slice ko kn kc):=by rw[hw1];simp[go_sem]
 have hs1:w.heap.size<w1.heap.size:=by rw[hw1];simp
 rw[<- hw1];have HB1:=hid hb1;have HX:=hid (fun(W:World) (h:Below w1.heap.size w1 W)=>show W.cell? ⟨w.heap.size,0,none⟩=some (.int .i64 2)/\W.cell? ⟨w.heap.size,2,none⟩=some (.slice ko kn kc) from⟨(h.cell (p:=⟨w.heap.size,0,none⟩) hs1).trans x0,(h.cell (p:=⟨w.heap.size,2,none⟩) hs1).trans x2⟩)
 clear hw1 hb1 x0 x2;go_loopw [3,4] (fun x y wr=>∃(j n:Nat) (vo:Option Addr) (vc:Nat) (M:List Int),x= .slice vo n vc/\y= .int .i64 j/\j<=kn/\n<=2048000000/\Hid (n=M.length)/\Hid (n<=1000000 * szL (kids.take j))/\Hid (wr.ownsRow w1.heap.size 3 1 (.slice vo n vc) n (zbw M))/\Hid (FsT kids j M)/\Hid (Below w1.heap.size w1 wr)) (fun _ y _=>kn - (intOf y).toNat)
 case atStart=>exact⟨0,0,none,0,[],rfl,rfl,xk _,by omega,hid rfl,hid (xk _),hid (World.ownsRow_nil _ _ _ _),hid (fst_0 _),hid (Below.refl _ _)⟩
 case round=>
  obtain⟨j,n,vo,vc,M,rfl,rfl,hj,hn9,HN,HN9,HOw,HF,HB⟩:=hrel;obtain⟨x0,x2⟩:=HX.out wr HB.out;have HBw:=hid (HB1.out.trans (HB.out.mono HB1.out.size))
  by_cases hlt:j<kn
  ·have j0:(0:Int)<=(j:Int):=by omega
   have j1:(j:Int)<(kn:Int):=by omega
   have hjk:j<kids.length:=by have:=HKN.out;omega
   obtain⟨b,o,hko,hb,u0,u1,u2,q0,q1,q2,hq⟩:=RdK.at kids ko 0 j _ HK.out (xa hjk);rw[xi] at q0 q1 q2;have HKb:=hid (show RdK w kids (some ⟨b,o,none⟩) 0 by rw[<- hko];exact HK.out)
   subst hko;have hKid:∀W,Below w1.heap.size w1 W->RdP W kids[j] u0 u1 u2/\W.cell? ⟨b,o+j * 3,none⟩=some u0/\W.cell? ⟨b,o+j * 3+1,none⟩=some u1/\W.cell? ⟨b,o+j * 3+2,none⟩=some u2:=fun W h=>by
    have h2:=HB1.out.trans (h.mono HB1.out.size);exact⟨RdP.below h2 _ _ _ _ hq,(h2.cell (p:=⟨b,o+j * 3,none⟩) hb).trans q0,(h2.cell (p:=⟨b,o+j * 3+1,none⟩) hb).trans q1,(h2.cell (p:=⟨b,o+j * 3+2,none⟩) hb).trans q2⟩
   have HKid:=hid hKid;have hOj:OkP kids[j]:=HO.out.mem (xb hjk);have hSj:szP kids[j]<=2048:=by
    have h1:=zcA kids j _ (xa hjk);have h2:=zdB kids (j+1);have h3:=HSz.out;omega
   have HSm:=hid (fun(W:World) (h:Below w1.heap.size w1 W)=>zhZ kids[j] hOj u0 u1 u2 W (hKid W h).1)
   have HEm:=hid (fun(W:World) (h:Below w1.heap.size w1 W)=>zej kids[j] hOj hSj u0 u1 u2 W (hKid W h).1)
   have HFs:=hid (fun(W:World) (h:Below w1.heap.size w1 W)=>HIH.out kids[j] (xb hjk) u0 u1 u2 W (hKid W h).1)
   have HST:=hid (zcA kids j _ (xa hjk));have HSL:=hid (zdB kids (j+1));obtain⟨_,y0,y1,y2⟩:=hKid wr HB.out;clear q0 q1 q2 hKid hq hb;go_wp2_with fail;refine(HSm.out wr HB.out).mono ?_;rintro e w3 ⟨b1,rfl,hv1,hB3⟩;have HV1:=hid hv1;have HB3:=hid (HB.out.trans (hB3.mono HB.out.size));have HO3:=hid (zap HOw.out hB3);obtain⟨_,y0,y1,y2⟩:=HKid.out w3 HB3.out;obtain⟨x0,x2⟩:=HX.out w3 HB3.out;clear hv1 hB3 HSm HOw
   cases b1 with
   | false=>
    have HM9:=hid (show n<=1000000 * szL (kids.take (j+1)) from by have a1:=HN9.out;have a2:=HST.out;omega)
    obtain⟨_,y0,y1,y2⟩:=HKid.out w3 HB3.out;obtain⟨x0,x2⟩:=HX.out w3 HB3.out;have HH:=hid (show zeS kids[j] M\/Nil kids[j]\/zyh (kids.drop (j+1)) from .inr (.inl (HV1.out rfl)))
    go_wp2_with fail;refine(HEm.out w3 HB3.out).mono ?_;rintro e w9 ⟨b3,rfl,hv3,hB9⟩;have HV3:=hid hv3;have HB9:=hid (HB3.out.trans (hB9.mono HB3.out.size));have HO9:=hid (zap HO3.out hB9);clear hv3 hB9 y0 y1 y2 x0 x2
    cases b3 with
    | true=>
     go_wp2;go_roundw
     case rel=>exact⟨j+1,n,vo,vc,M,rfl,by go_num,by omega,hn9,HN,HM9,HO9,hid (ziO hjk HF.out (fun z hz=>hz) HH.out),HB9⟩
     case measure=>simp[intOf];omega
    | false=>
     have HQ:=hid (show zeS (.mk 2 cls kids) M from ziN hjk HF.out (fun z hz=>hz) HH.out (HV3.out rfl) 2 cls rfl)
     have HBz:=hid (HB1.out.trans (HB9.out.mono HB1.out.size));have HNz:=hid (show M.length<=1000000 * szP (.mk 2 cls kids) from by
      have a1:=HN.out;have a2:=HM9.out;have a3:=HSL.out;unfold szP;omega)
     go_wp2;go_ret;exact⟨vo,vc,M,by rw[<- HN.out];rfl,zcE HO9.out HN.out,HQ.out,HNz.out,HBz.out⟩
   | true=>
    have HRs:=hid (fun(ao:Option Addr) (m cp:Nat) (W:World) (h:Below w1.heap.size w1 W) (hm:m=kn - (j+1)) (hao:(ao=some ⟨b,o,none⟩/\kn<=j+1)\/ao=some ⟨b,o+(j+1) * 3,none⟩)=>show Calls Tryz.prog 169 #[.slice ao m cp] W (BlQ W (zyh (kids.drop (j+1)))) from by
     have e:m=(kids.drop (j+1)).length:=by rw[List.length_drop,<- HKN.out];exact hm
     rw[e];refine zwk _ (HO.out.drop _) ao _ W ?_ (by rw[<- e];omega)
     rcases hao with ⟨_,h0⟩ | rfl
     ·rw[List.length_eq_zero_iff.1 (show(kids.drop (j+1)).length=0 by rw[<- e];omega)];unfold RdK;trivial
     ·exact(RdK.below (HB1.out.trans (h.mono HB1.out.size)) _ _ _ HKb.out).drop (j+1))
    have d1:(j:Int)+1<=(kn:Int):=by omega
    have d2:(kn:Int)<=(kc:Int):=by omega
    have d3:(j:Int)+1<=(kc:Int):=by omega
    go_wp2_with fail
    all_goals
     have HH0:=hid h
     first
      | rw[<- h]
      | skip
     clear h;refine(HRs.out _ _ _ w3 HB3.out (by have:=HH0.out;omega) (by first | exact .inr rfl | exact .inl ⟨rfl,by have:=HH0.out;omega⟩)).mono ?_
     rintro e w4 ⟨b2,rfl,hv2,hB4⟩;have HV2:=hid hv2;have HB4:=hid (HB3.out.trans (hB4.mono HB3.out.size));have HO4:=hid (zap HO3.out hB4);obtain⟨_,y0,y1,y2⟩:=HKid.out w4 HB4.out;obtain⟨x0,x2⟩:=HX.out w4 HB4.out;clear hv2 hB4 HRs d1 d2 d3
     cases b2 with
     | false=>
      have HM9:=hid (show n<=1000000 * szL (kids.take (j+1)) from by have a1:=HN9.out;have a2:=HST.out;omega)
      obtain⟨_,y0,y1,y2⟩:=HKid.out w4 HB4.out;obtain⟨x0,x2⟩:=HX.out w4 HB4.out;have HH:=hid (show zeS kids[j] M\/Nil kids[j]\/zyh (kids.drop (j+1)) from .inr (.inr (HV2.out rfl)))
      go_wp2_with fail;refine(HEm.out w4 HB4.out).mono ?_;rintro e w9 ⟨b3,rfl,hv3,hB9⟩;have HV3:=hid hv3;have HB9:=hid (HB4.out.trans (hB9.mono HB4.out.size));have HO9:=hid (zap HO4.out hB9);clear hv3 hB9 y0 y1 y2 x0 x2
      cases b3 with
      | true=>
       go_wp2;go_roundw
       case rel=>exact⟨j+1,n,vo,vc,M,rfl,by go_num,by omega,hn9,HN,HM9,HO9,hid (ziO hjk HF.out (fun z hz=>hz) HH.out),HB9⟩
       case measure=>simp[intOf];omega
      | false=>
       have HQ:=hid (show zeS (.mk 2 cls kids) M from ziN hjk HF.out (fun z hz=>hz) HH.out (HV3.out rfl) 2 cls rfl)
       have HBz:=hid (HB1.out.trans (HB9.out.mono HB1.out.size));have HNz:=hid (show M.length<=1000000 * szP (.mk 2 cls kids) from by
        have a1:=HN.out;have a2:=HM9.out;have a3:=HSL.out;unfold szP;omega)
       go_wp2;go_ret;exact⟨vo,vc,M,by rw[<- HN.out];rfl,zcE HO9.out HN.out,HQ.out,HNz.out,HBz.out⟩
     | true=>
      go_wp2_with fail;refine(HFs.out w4 HB4.out).mono ?_;rintro e w5 ⟨fo,fc,L,rfl,hI5,hF5,hL5,hB5⟩;have HI5:=hid hI5;have HF5:=hid hF5;have HB5:=hid (HB4.out.trans (hB5.mono HB4.out.size));have HO5:=hid (zap HO4.out hB5);have hl9:L.length<=2048000000:=by omega
      obtain⟨m,hm⟩:∃m,m=L.length:=⟨_,rfl⟩;have HM:=hid hm;have HL5:=hid hL5;rw[<- hm] at hl9⊢;have HM9:=hid (show n+m<=1000000 * szL (kids.take (j+1)) from by have a1:=HN9.out;have a2:=HST.out;have a3:=HL5.out;have a4:=HM.out;omega)
      have hnm:n+m<=2048000000:=by have a1:=HM9.out;have a2:=HSL.out;have a3:=HSz.out;omega
      clear hm hI5 hF5 hL5 hB5 y0 y1 y2 x0 x2;go_wp2_with (at_builtin;refine zbs rfl _ _ rfl w1.heap.size (.slice vo n vc) n M rfl HO5.out fo m fc L rfl HI5.out HM.out (by omega) HB5.out.size ?_;intro vo6 vc6 w6 ho6 hg6 _;have HO6:=hid ho6;have HB6:=hid (HB5.out.trans (grown_below HO5.out hg6 HB5.out.size));clear ho6 hg6;obtain⟨x0,x2⟩:=HX.out w6 HB6.out;obtain⟨_,y0,y1,y2⟩:=HKid.out w6 HB6.out)
      have HN6:=hid (show n+m=(M++L).length from by rw[xp,<- HN.out,<- HM.out])
      have HH:=hid (show zeS kids[j] (M++L)\/Nil kids[j]\/zyh (kids.drop (j+1)) from .inl (HF5.out.mono fun z hz=>xj _ hz))
      refine(HEm.out w6 HB6.out).mono ?_;rintro e w9 ⟨b3,rfl,hv3,hB9⟩;have HV3:=hid hv3;have HB9:=hid (HB6.out.trans (hB9.mono HB6.out.size));have HO9:=hid (zap HO6.out hB9);clear hv3 hB9 y0 y1 y2 x0 x2
      cases b3 with
      | true=>
       go_wp2;go_roundw
       case rel=>exact⟨j+1,(n+m),vo6,vc6,(M++L),rfl,by go_num,by omega,hnm,HN6,HM9,HO9,hid (ziO hjk HF.out (fun z hz=>xe _ hz) HH.out),HB9⟩
       case measure=>simp[intOf];omega
      | false=>
       have HQ:=hid (show zeS (.mk 2 cls kids) (M++L) from ziN hjk HF.out (fun z hz=>xe _ hz) HH.out (HV3.out rfl) 2 cls rfl)
       have HBz:=hid (HB1.out.trans (HB9.out.mono HB1.out.size));have HNz:=hid (show(M++L).length<=1000000 * szP (.mk 2 cls kids) from by
        have a1:=HN6.out;have a2:=HM9.out;have a3:=HSL.out;unfold szP;omega)
       go_wp2;go_ret;exact⟨vo6,vc6,(M++L),by rw[<- HN6.out];rfl,zcE HO9.out HN6.out,HQ.out,HNz.out,HBz.out⟩
  ·have j1:¬(j:Int)<(kn:Int):=by omega
   have hje:j=kn:=by omega
   have HQ:=hid (show zeS (.mk 2 cls kids) M from zBf (by rw[<- HKN.out,<- hje];exact HF.out) 2 cls rfl)
   have HNz:=hid (show M.length<=1000000 * szP (.mk 2 cls kids) from by
    have a1:=HN.out;have a2:=HN9.out;have a3:=zdB kids j;unfold szP;omega)
   clear hje;go_wp2;go_ret;exact⟨vo,vc,M,by rw[<- HN.out];rfl,zcE HOw.out HN.out,HQ.out,HNz.out,HBw.out⟩
set_option maxRecDepth 100000 in
theorem zxr (op:Int) (h0:op≠0) (h1:op≠1) (h2:op≠2) (lo ko:Option Addr) (ln lc kn kc:Nat) (cls:List Int) (kids:List Pat) (w:World) (hkn:kn=kids.length) (hk9:kn<=1000000) (hk:RdK w kids ko 0) (hOK:OkL kids) (hsz:szL kids+1<=2048)
  (ih:∀p∈kids,∀(u0 u1 u2:Value) (W:World),RdP W p u0 u1 u2->Calls Tryz.prog 145 #[.agg #[u0,u1,u2]] W (FsQ p W)):
  Calls Tryz.prog 145 #[.agg #[.int .i64 op,.slice lo ln lc,.slice ko kn kc]] w (FsQ (.mk op cls kids) w):=by
 have e0:(op==0)=false:=beq_eq_false_iff_ne.2 h0;have e1:(op==1)=false:=beq_eq_false_iff_ne.2 h1;have e2:(op != 2)=true:=bne_iff_ne.2 h2;have e3:(op==2)=false:=beq_eq_false_iff_ne.2 h2;have HOP:=hid (And.intro h1 h2);clear h0 h1 h2;have HK:=hid hk;have HO:=hid hOK;have HSz:=hid hsz;have HIH:=hid ih;have HKN:=hid hkn;clear hk hOK hsz ih hkn;go_enter Tryz.func145,Tryz.ntmps145;go_wp2;obtain⟨w1,hw1⟩:∃w1,w1=w.alloc (.cells #[.int .i64 op,.slice lo ln lc,.slice ko kn kc] 105):=⟨_,rfl⟩;have hb1:Below w.heap.size w w1:=by rw[hw1];exact below_box
 have x0:w1.cell? ⟨w.heap.size,0,none⟩=some (.int .i64 op):=by rw[hw1];simp[go_sem]
 have x2:w1.cell? ⟨w.heap.size,2,none⟩=some (.slice ko kn kc):=by rw[hw1];simp[go_sem]
 have hs1:w.heap.size<w1.heap.size:=by rw[hw1];simp
 rw[<- hw1];have HB1:=hid hb1;have HX:=hid (fun(W:World) (h:Below w1.heap.size w1 W)=>show W.cell? ⟨w.heap.size,0,none⟩=some (.int .i64 op)/\W.cell? ⟨w.heap.size,2,none⟩=some (.slice ko kn kc) from⟨(h.cell (p:=⟨w.heap.size,0,none⟩) hs1).trans x0,(h.cell (p:=⟨w.heap.size,2,none⟩) hs1).trans x2⟩)
 clear hw1 hb1 x0 x2;go_loopw [3,4] (fun x y wr=>∃(j n:Nat) (vo:Option Addr) (vc:Nat) (M:List Int),x= .slice vo n vc/\y= .int .i64 j/\j<=kn/\n<=2048000000/\Hid (n=M.length)/\Hid (n<=1000000 * szL (kids.take j))/\Hid (wr.ownsRow w1.heap.size 3 1 (.slice vo n vc) n (zbw M))/\Hid (∀x (hx:x<j) (hk:x<kids.length),zeS kids[x] M)/\Hid (Below w1.heap.size w1 wr)) (fun _ y _=>kn - (intOf y).toNat)
 case atStart=>exact⟨0,0,none,0,[],rfl,rfl,xk _,by omega,hid rfl,hid (xk _),hid (World.ownsRow_nil _ _ _ _),hid (fun x hx=>by omega),hid (Below.refl _ _)⟩
 case round=>
  obtain⟨j,n,vo,vc,M,rfl,rfl,hj,hn9,HN,HN9,HOw,HF,HB⟩:=hrel;obtain⟨x0,x2⟩:=HX.out wr HB.out;have HBw:=hid (HB1.out.trans (HB.out.mono HB1.out.size))
  by_cases hlt:j<kn
  ·have j0:(0:Int)<=(j:Int):=by omega
   have j1:(j:Int)<(kn:Int):=by omega
   have hjk:j<kids.length:=by have:=HKN.out;omega
   obtain⟨b,o,hko,hb,u0,u1,u2,q0,q1,q2,hq⟩:=RdK.at kids ko 0 j _ HK.out (xa hjk);rw[xi] at q0 q1 q2;have HKb:=hid (show RdK w kids (some ⟨b,o,none⟩) 0 by rw[<- hko];exact HK.out)
   subst hko;have hKid:∀W,Below w1.heap.size w1 W->RdP W kids[j] u0 u1 u2/\W.cell? ⟨b,o+j * 3,none⟩=some u0/\W.cell? ⟨b,o+j * 3+1,none⟩=some u1/\W.cell? ⟨b,o+j * 3+2,none⟩=some u2:=fun W h=>by
    have h2:=HB1.out.trans (h.mono HB1.out.size);exact⟨RdP.below h2 _ _ _ _ hq,(h2.cell (p:=⟨b,o+j * 3,none⟩) hb).trans q0,(h2.cell (p:=⟨b,o+j * 3+1,none⟩) hb).trans q1,(h2.cell (p:=⟨b,o+j * 3+2,none⟩) hb).trans q2⟩
   have HKid:=hid hKid;have hOj:OkP kids[j]:=HO.out.mem (xb hjk);have hSj:szP kids[j]<=2048:=by
    have h1:=zcA kids j _ (xa hjk);have h2:=zdB kids (j+1);have h3:=HSz.out;omega
   have HSm:=hid (fun(W:World) (h:Below w1.heap.size w1 W)=>zhZ kids[j] hOj u0 u1 u2 W (hKid W h).1)
   have HEm:=hid (fun(W:World) (h:Below w1.heap.size w1 W)=>zej kids[j] hOj hSj u0 u1 u2 W (hKid W h).1)
   have HFs:=hid (fun(W:World) (h:Below w1.heap.size w1 W)=>HIH.out kids[j] (xb hjk) u0 u1 u2 W (hKid W h).1)
   have HST:=hid (zcA kids j _ (xa hjk));have HSL:=hid (zdB kids (j+1));obtain⟨_,y0,y1,y2⟩:=hKid wr HB.out;clear q0 q1 q2 hKid hq hb;go_wp2_with fail;refine(HSm.out wr HB.out).mono ?_;rintro e w3 ⟨b1,rfl,hv1,hB3⟩;have HV1:=hid hv1;have HB3:=hid (HB.out.trans (hB3.mono HB.out.size));have HO3:=hid (zap HOw.out hB3);obtain⟨_,y0,y1,y2⟩:=HKid.out w3 HB3.out;obtain⟨x0,x2⟩:=HX.out w3 HB3.out;clear hv1 hB3 HSm HOw
   cases b1 with
   | false=>
    have HM9:=hid (show n<=1000000 * szL (kids.take (j+1)) from by have a1:=HN9.out;have a2:=HST.out;omega)
    have HH:=hid (show ∀x (hx:x<j+1) (hk:x<kids.length),zeS kids[x] M from fun x hx hkx=>by
     rcases xx x j with h | h
     ·exact(HF.out x h hkx).mono (fun z hz=>hz)
     ·obtain rfl:x=j:=by omega
      exact fun c i k hl _=>absurd hl (HV1.out rfl c i k))
    clear y0 y1 y2;go_wp2;go_roundw
    case rel=>exact⟨j+1,n,vo,vc,M,rfl,by go_num,by omega,hn9,HN,HM9,HO3,HH,HB3⟩
    case measure=>simp[intOf];omega
   | true=>
    go_wp2_with fail;refine(HFs.out w3 HB3.out).mono ?_;rintro e w5 ⟨fo,fc,L,rfl,hI5,hF5,hL5,hB5⟩;have HI5:=hid hI5;have HF5:=hid hF5;have HB5:=hid (HB3.out.trans (hB5.mono HB3.out.size));have HO5:=hid (zap HO3.out hB5);have hl9:L.length<=2048000000:=by omega
    obtain⟨m,hm⟩:∃m,m=L.length:=⟨_,rfl⟩;have HM:=hid hm;have HL5:=hid hL5;rw[<- hm] at hl9⊢;have HM9:=hid (show n+m<=1000000 * szL (kids.take (j+1)) from by have a1:=HN9.out;have a2:=HST.out;have a3:=HL5.out;have a4:=HM.out;omega)
    have hnm:n+m<=2048000000:=by have a1:=HM9.out;have a2:=HSL.out;have a3:=HSz.out;omega
    clear hm hI5 hF5 hL5 hB5 y0 y1 y2 x0 x2;go_wp2_with (at_builtin;refine zbs rfl _ _ rfl w1.heap.size (.slice vo n vc) n M rfl HO5.out fo m fc L rfl HI5.out HM.out (by omega) HB5.out.size ?_;intro vo6 vc6 w6 ho6 hg6 _;have HO6:=hid ho6;have HB6:=hid (HB5.out.trans (grown_below HO5.out hg6 HB5.out.size));clear ho6 hg6;obtain⟨x0,x2⟩:=HX.out w6 HB6.out;obtain⟨_,y0,y1,y2⟩:=HKid.out w6 HB6.out)
    have HN6:=hid (show n+m=(M++L).length from by rw[xp,<- HN.out,<- HM.out])
    have HH:=hid (show ∀x (hx:x<j+1) (hk:x<kids.length),zeS kids[x] (M++L) from fun x hx hkx=>by
     rcases xx x j with h | h
     ·exact(HF.out x h hkx).mono (fun z hz=>xe _ hz)
     ·obtain rfl:x=j:=by omega
      exact HF5.out.mono fun z hz=>xj _ hz)
    go_roundw
    case rel=>exact⟨j+1,(n+m),vo6,vc6,(M++L),rfl,by go_num,by omega,hnm,HN6,HM9,HO6,HH,HB6⟩
    case measure=>simp[intOf];omega
  ·have j1:¬(j:Int)<(kn:Int):=by omega
   have hje:j=kn:=by omega
   have HQ:=hid (show zeS (.mk op cls kids) M from zBh op cls kids M HOP.out.1 HOP.out.2 fun p hp=>by obtain⟨x,hx,rfl⟩:=xm hp;exact HF.out x (by have:=HKN.out;omega) hx)
   have HNz:=hid (show M.length<=1000000 * szP (.mk op cls kids) from by
    have a1:=HN.out;have a2:=HN9.out;have a3:=zdB kids j;unfold szP;omega)
   clear hje;go_wp2;go_ret;exact⟨vo,vc,M,by rw[<- HN.out];rfl,zcE HOw.out HN.out,HQ.out,HNz.out,HBw.out⟩
theorem zqt:∀p:Pat,OkP p->szP p<=2048->∀(v0 v1 v2:Value) (w:World),RdP w p v0 v1 v2->Calls Tryz.prog 145 #[.agg #[v0,v1,v2]] w (FsQ p w):=by
 refine Pat.ind fun op cls kids ih hO hs v0 v1 v2 w hP=>?_
 unfold RdP at hP;unfold OkP at hO;unfold szP at hs;obtain⟨rfl,⟨lo,lc,rfl,hl1,hl2⟩,ko,kc,rfl,hk1,hk2,hk3⟩:=hP;have hI:∀p∈kids,∀(u0 u1 u2:Value) (W:World),RdP W p u0 u1 u2->Calls Tryz.prog 145 #[.agg #[u0,u1,u2]] W (FsQ p W):=fun p hp u0 u1 u2 W hW=>by
  obtain⟨j,hj,rfl⟩:=xm hp;have h1:=zcA kids j _ (xa hj);have h2:=zdB kids (j+1);exact ih _ hp (hO.2.mem hp) (by omega) u0 u1 u2 W hW
 by_cases o0:op=0
 ·subst o0
  exact zxu _ _ cls kids w
 by_cases o1:op=1
 ·subst o1
  exact zxt lo lc _ cls kids w hl1 hl2
 by_cases o2:op=2
 ·subst o2
  exact zxs lo ko cls.length lc kids.length kc cls kids w rfl hk2 hk3 hk1 hO.2 hs hI
 ·exact zxr op o0 o1 o2 lo ko cls.length lc kids.length kc cls kids w rfl hk2 hk1 hO.2 hs hI
end Pt
end
end Go.Proofs.YtbbapnpdfcgjnaaGreatDoor
