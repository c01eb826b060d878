/- SdCopy: parts of the proof, joined. -/
import Derived.Deep.AppendSrc
import Derived.Test.YtbbapnpdfcgjnaaGreatDoorNPtFun1
open Go renaming World->sH, heap_setCell_same->sI, Value->sK
open Go.Builtin renaming append_->sJ
set_option maxHeartbeats 64000000
namespace Go.Proofs.YtbbapnpdfcgjnaaGreatDoor
section
open Go.RowKit
namespace Pt
theorem zrT {P:Program} {c:Code} {Q:Exit->Act->sH->Prop} {a:Act} {w:sH} (R:Act->sH->Prop) (h1:c.wp P (fun e a' w'=>e= .normal/\R a' w') a w) (h2:∀a' w',R a' w'->Q .normal a' w'):c.wp P Q a w:=
 Code.wp_mono (fun e a' w' h=>by obtain⟨rfl,h⟩:=h;exact h2 a' w' h) h1
def ba (L:List Int):List sK:=L.map fun z=>.int .i64 z
theorem zed (L:List Int):(ba L).length=L.length:=List.length_map ..
theorem zec (L:List Int):∀v∈ba L,v.oneCell'=true:=fun v hv=>by
 unfold ba at hv;obtain⟨x,_,rfl⟩:=List.mem_map.1 hv
 rfl
theorem cW {w:sH} {B e sz g n c:Nat} {xs:List sK} (h:w.ownsRow B e sz (.slice (some ⟨g,0,none⟩) n c) n xs):B<=g/\(∃cur,w.heap[g]? =some (.cells cur e (0,0)))/\n<=c/\∀(j:Nat) (u:sK),xs[j]? =some u->w.cell? ⟨g,j,none⟩=some u:=by
 rcases h.2 with ⟨h1,_⟩ | ⟨g',cap,cur,h1,h2,h3,h4,h5,h6,h7⟩
 ·cases h1
 ·cases h1
  refine⟨h2,⟨cur,h3⟩,h4,fun j u hj=>?_⟩
  have hl:=h.1;have hjl:=(List.getElem?_eq_some_iff.1 hj).1;rw[cell_of_row w g j cur _ _ h3];rw[<- h7,List.getElem?_take_of_lt (by omega)] at hj
  simpa using hj
theorem zkT {B H:Nat} {w:sH} (hown:w.ownsRow B 3 1 (.slice (some ⟨H,0,none⟩) 0 0) 0 []) (ty:TypeId) {fo:Option Addr} {fn fc:Nat} {F:List Int} (hF:RdI w fo F) (hfn:fn=F.length) (hl:fn<=1000000000000) (hB:B<=w.heap.size):
  ∃g cap w',(sJ #[23,23] ty #[.slice (some ⟨H,0,none⟩) 0 0,.slice fo fn fc]).run Tryz.prog w= .ok (.slice (some ⟨g,0,none⟩) fn cap) w'/\w'.ownsRow B 3 1 (.slice (some ⟨g,0,none⟩) fn cap) fn (ba F)/\w.grownBy w' (some H)/\(g=H\/g=w.heap.size)/\g<w'.heap.size:=by
 obtain⟨i,hi,hz,hsize,hby⟩:=info_parts Tryz.info3
 by_cases h0:fn=0
 ·subst h0
  have hF0:F=[]:=List.eq_nil_of_length_eq_zero hfn.symm;subst hF0;have hs:Src Tryz.prog i.size 23 (.slice fo 0 fc) 0 [] w:=by
   cases fo with
   | none=>exact Src.ofNil w Tryz.underlying23 fc
   | some a=>exact Src.ofSlice w Tryz.underlying23 a 0 fc [] (by simp) (fun j u hj=>by simp at hj) (fun u hu=>by simp at hu)
  have hr:(sJ #[23,23] ty #[.slice (some ⟨H,0,none⟩) 0 0,.slice fo 0 fc]).run Tryz.prog w= .ok (.slice (some ⟨H,0,none⟩) 0 0) w:=by
   simp[sJ,run_underlying Tryz.underlying23,sizeOf,typeInfo,hi,hs.len,hs.cells,storeCells]
  exact⟨H,0,w,hr,hown,⟨rfl,rfl,rfl,Nat.le_refl _,fun _ _ _=>rfl⟩,.inl rfl,(hown.lt H rfl).2⟩
 ·obtain⟨a,rfl,_,_⟩:=hF 0 F[0] (List.getElem?_eq_getElem (by omega))
  obtain⟨g,cap,w',hr,h2,h3,h4,h5⟩:=run_append_lies (P:=Tryz.prog) w 23 ty B 3 i (.int .i64 0) 1 8 Tryz.underlying23 hi hz hsize hby rfl (by decide) (.slice (some ⟨H,0,none⟩) 0 0) 0 [] hown a fn fc (ba F) (by rw[zed,hfn,Nat.mul_one]) (fun j u hj=>by
   unfold ba at hj;rw[List.getElem?_map] at hj;obtain⟨z,hz1,hz2⟩:=Option.map_eq_some_iff.1 hj;obtain⟨a',e,_,h⟩:=hF j z hz1
   cases e
   rw[h,hz2]) (zec F) (by omega) (by unfold maxLen;omega) (by omega) hB w.heap.size rfl
  refine⟨g,cap,w',by simpa using hr,by simpa using h2,h3,?_,h5⟩
  rcases h4 with h | h
  ·exact .inl (Option.some.inj h).symm
  ·exact .inr h
theorem rK {w:sH} {o:Oper} {a:Act} {K:Act->sH->Prop} {Q:Exit->Act->sH->Prop} (s x:Operand) (ho:o.op= .call {callee:=.builtin .append,args:=#[s,x],argTypes:=#[23,23]}) (B H:Nat) (hs:a.eval s= .slice (some ⟨H,0,none⟩) 0 0) (hown:w.ownsRow B 3 1 (.slice (some ⟨H,0,none⟩) 0 0) 0 []) (fo:Option Addr) (fn fc:Nat) (F:List Int) (hx:a.eval x= .slice fo fn fc) (hF:RdI w fo F) (hfn:fn=F.length) (hl:fn<=1000000000000) (hB:B<=w.heap.size)
  (h:∀g cap w',w'.ownsRow B 3 1 (.slice (some ⟨g,0,none⟩) fn cap) fn (ba F)->w.grownBy w' (some H)->(g=H\/g=w.heap.size)->g<w'.heap.size->K (a.put o.dst (.slice (some ⟨g,0,none⟩) fn cap)) w'):o.wp Tryz.prog a w K Q:=by
 obtain⟨g,cap,w',hr,h2,h3,h4,h5⟩:=zkT hown o.type (fc:=fc) hF hfn hl hB;unfold Oper.wp execOp
 simp only[ho,resolve,invoke,builtin,Sem.run_bind,Sem.run_pure,Result.andThen_ok,List.map_toArray,List.map_cons,List.map_nil,hs,hx,hr]
 exact h g cap w' h2 h3 h4 h5
def gN (w:sH) (X:Nat->Prop) (ao:Option Addr) (l:List Int):Prop:=∀(k:Nat) (z:Int),l[k]? =some z->∃a:Addr,ao=some a/\a.block<w.heap.size/\¬X a.block/\w.cell? (a.add k)=some (.int .i64 z)
mutual
def dO (w:sH) (X:Nat->Prop):aw->sK->sK->sK->Prop
 | .mk op cls kids,v0,v1,v2=>v0= .int .i64 op/\(∃co cc,v1= .slice co cls.length cc/\gN w X co cls/\cls.length<=1000000)/\(∃ko kc,v2= .slice ko kids.length kc/\ft w X kids ko 0/\kids.length<=1000000/\kids.length<=kc)
def ft (w:sH) (X:Nat->Prop):List aw->Option Addr->Nat->Prop
 | [],_,_=>True
 | p::ps,ko,i=>(∃b o,ko=some ⟨b,o,none⟩/\b<w.heap.size/\¬X b/\∃v0 v1 v2,w.cell? ⟨b,o+i * 3,none⟩=some v0/\w.cell? ⟨b,o+i * 3+1,none⟩=some v1/\w.cell? ⟨b,o+i * 3+2,none⟩=some v2/\dO w X p v0 v1 v2)/\ft w X ps ko (i+1)
end
theorem gN.rd {w:sH} {X:Nat->Prop} {ao:Option Addr} {l:List Int} (h:gN w X ao l):RdI w ao l:=fun k z hz=>by
 obtain⟨a,h1,h2,_,h4⟩:=h k z hz;exact⟨a,h1,h2,h4⟩
mutual
theorem dO.rd {w:sH} {X:Nat->Prop}:∀(p:aw) (v0 v1 v2:sK),dO w X p v0 v1 v2->ct w p v0 v1 v2
 | .mk op cls kids,v0,v1,v2,h=>by
  unfold dO at h;unfold ct;obtain⟨h1,⟨co,cc,h2,h3,h4⟩,ko,kc,h5,h6,h7⟩:=h;exact⟨h1,⟨co,cc,h2,h3.rd,h4⟩,ko,kc,h5,ft.rd kids ko 0 h6,h7⟩
theorem ft.rd {w:sH} {X:Nat->Prop}:∀(ps:List aw) (ko:Option Addr) (i:Nat),ft w X ps ko i->gh w ps ko i
 | [],_,_,_=>by unfold gh;trivial
 | p::ps,ko,i,h=>by
  unfold ft at h;unfold gh;obtain⟨⟨b,o,h1,h2,_,v0,v1,v2,h3,h4,h5,h6⟩,h7⟩:=h;exact⟨⟨b,o,h1,h2,v0,v1,v2,h3,h4,h5,dO.rd p _ _ _ h6⟩,ft.rd ps ko (i+1) h7⟩
end
structure KpX (w w':sH) (X X':Nat->Prop):Prop where
 size:w.heap.size<=w'.heap.size
 block:∀k,k<w.heap.size->¬X k->w'.heap[k]? =w.heap[k]?
 sub:∀k,k<w.heap.size->X' k->X k
theorem KpX.cell {w w':sH} {X X':Nat->Prop} (h:KpX w w' X X') {p:Addr} {v:sK} (hp:p.block<w.heap.size) (hx:¬X p.block) (hc:w.cell? p=some v):w'.cell? p=some v:=(sH.cell?_of_block (h.block p.block hp hx)).trans hc
theorem gN.keep {w w':sH} {X X':Nat->Prop} {ao:Option Addr} {l:List Int} (h:gN w X ao l) (hk:KpX w w' X X'):gN w' X' ao l:=fun k z hz=>by
 obtain⟨a,h1,h2,h3,h4⟩:=h k z hz;exact⟨a,h1,Nat.lt_of_lt_of_le h2 hk.size,fun hx=>h3 (hk.sub _ h2 hx),hk.cell (p:=a.add k) (by rw[add_blk];exact h2) (by rw[add_blk];exact h3) h4⟩
mutual
theorem dO.keep {w w':sH} {X X':Nat->Prop} (hk:KpX w w' X X'):∀(p:aw) (v0 v1 v2:sK),dO w X p v0 v1 v2->dO w' X' p v0 v1 v2
 | .mk op cls kids,v0,v1,v2,h=>by
  unfold dO at h⊢;obtain⟨h1,⟨co,cc,h2,h3,h4⟩,ko,kc,h5,h6,h7⟩:=h;exact⟨h1,⟨co,cc,h2,h3.keep hk,h4⟩,ko,kc,h5,ft.keep hk kids ko 0 h6,h7⟩
theorem ft.keep {w w':sH} {X X':Nat->Prop} (hk:KpX w w' X X'):∀(ps:List aw) (ko:Option Addr) (i:Nat),ft w X ps ko i->ft w' X' ps ko i
 | [],_,_,_=>by unfold ft;trivial
 | p::ps,ko,i,h=>by
  unfold ft at h⊢;obtain⟨⟨b,o,h1,h2,hx,v0,v1,v2,h3,h4,h5,h6⟩,h7⟩:=h;have hc:∀k v,w.cell? ⟨b,k,none⟩=some v->w'.cell? ⟨b,k,none⟩=some v:=fun k v hv=>hk.cell (p:=⟨b,k,none⟩) h2 hx hv
  exact⟨⟨b,o,h1,Nat.lt_of_lt_of_le h2 hk.size,fun h=>hx (hk.sub _ h2 h),v0,v1,v2,hc _ _ h3,hc _ _ h4,hc _ _ h5,dO.keep hk p _ _ _ h6⟩,ft.keep hk ps ko (i+1) h7⟩
end
theorem ft.of {w:sH} {X:Nat->Prop} (g:Nat) (hg:g<w.heap.size) (hx:¬X g):∀(ps:List aw) (i:Nat),(∀(j:Nat) (p:aw),ps[j]? =some p->∃v0 v1 v2,w.cell? ⟨g,(i+j) * 3,none⟩=some v0/\w.cell? ⟨g,(i+j) * 3+1,none⟩=some v1/\w.cell? ⟨g,(i+j) * 3+2,none⟩=some v2/\dO w X p v0 v1 v2)->ft w X ps (some ⟨g,0,none⟩) i
 | [],_,_=>by unfold ft;trivial
 | p::ps,i,h=>by
  unfold ft;refine⟨⟨g,0,rfl,hg,hx,?_⟩,ft.of g hg hx ps (i+1) fun j q hj=>?_⟩
  ·simp only[Nat.zero_add]
   exact h 0 p rfl
  ·have:=h (j+1) q (by simpa using hj)
   rw[show i+1+j=i+(j+1) by omega]
   exact this
def st3 (W:sH) (p:Nat) (v0 v1 v2:sK):sH:=((W.setCell ⟨p,0,none⟩ v0).setCell ⟨p,1,none⟩ v1).setCell ⟨p,2,none⟩ v2
theorem se {W:sH} {p:Nat} {x0 x1 x2 v0 v1 v2:sK} {t:TypeId} (h:W.heap[p]? =some (.cells #[x0,x1,x2] t (0,0))):(st3 W p v0 v1 v2).heap[p]? =some (.cells #[v0,v1,v2] t (0,0)):=by
 have e1:=sI W p 0 _ t v0 h;have e2:=sI _ p 1 _ t v1 e1;exact sI _ p 2 _ t v2 e2
theorem mZ (W:sH) (p:Nat) (v0 v1 v2:sK):dd p W (st3 W p v0 v1 v2):=((dd.set p 0 W v0).trans (dd.set p 1 _ v1)).trans (dd.set p 2 _ v2)
theorem Tryz.infoPat:(Tryz.prog.info? 105).map (fun i=>(i.zero,i.size,i.bytes))=some (some (.agg #[.int .i64 0,.slice none 0 0,.slice none 0 0]),3,56):=by kernel_rfl
theorem Tryz.underPats:Tryz.prog.underlying 103=some (.slice 105):=by kernel_rfl
end Pt
end
end Go.Proofs.YtbbapnpdfcgjnaaGreatDoor
