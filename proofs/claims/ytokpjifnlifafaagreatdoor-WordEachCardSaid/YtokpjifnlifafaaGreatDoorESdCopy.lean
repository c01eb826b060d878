/- SdCopy, SdApp, SdFst, SdFsl, SdRev, SdSide, SdSides: parts of the proof, joined. -/
import Derived.Deep.AppendSrc
import Derived.Test.YtokpjifnlifafaaGreatDoorEPtFun1
set_option maxHeartbeats 64000000
namespace Go.Proofs.YtokpjifnlifafaaGreatDoor
section
open Go.RowKit
namespace Pt
theorem wp_mid {P:Program} {c:Code} {Q:Exit->Act->World->Prop} {a:Act} {w:World} (R:Act->World->Prop) (h1:c.wp P (fun e a' w'=>e= .normal/\R a' w') a w) (h2:∀a' w',R a' w'->Q .normal a' w'):c.wp P Q a w:=
 Code.wp_mono (fun e a' w' h=>by obtain⟨rfl,h⟩:=h;exact h2 a' w' h) h1
def i64z (L:List Int):List Value:=L.map fun z=>.int .i64 z
theorem i64z_len (L:List Int):(i64z L).length=L.length:=List.length_map ..
theorem i64z_one (L:List Int):∀v∈i64z L,v.oneCell'=true:=fun v hv=>by
 unfold i64z at hv;obtain⟨x,_,rfl⟩:=List.mem_map.1 hv
 rfl
theorem zbu {w:World} {B e sz g n c:Nat} {xs:List Value} (h:w.ownsRow B e sz (.slice (some ⟨g,0,none⟩) n c) n xs):B<=g/\(∃cur,w.heap[g]? =some (.cells cur e (0,0)))/\n<=c/\∀(j:Nat) (u:Value),xs[j]? =some u->w.cell? ⟨g,j,none⟩=some u:=by
 rcases h.2 with ⟨h1,_⟩ | ⟨g',cap,cur,h1,h2,h3,h4,h5,h6,h7⟩
 ·cases h1
 ·cases h1
  refine⟨h2,⟨cur,h3⟩,h4,fun j u hj=>?_⟩
  have hl:=h.1;have hjl:=(List.getElem?_eq_some_iff.1 hj).1;rw[cell_of_row w g j cur _ _ h3];rw[<- h7,List.getElem?_take_of_lt (by omega)] at hj
  simpa using hj
theorem run_copy {B H:Nat} {w:World} (hown:w.ownsRow B 3 1 (.slice (some ⟨H,0,none⟩) 0 0) 0 []) (ty:TypeId) {fo:Option Addr} {fn fc:Nat} {F:List Int} (hF:RdI w fo F) (hfn:fn=F.length) (hl:fn<=1000000000000) (hB:B<=w.heap.size):
  ∃g cap w',(Builtin.append_ #[23,23] ty #[.slice (some ⟨H,0,none⟩) 0 0,.slice fo fn fc]).run Tryz.prog w= .ok (.slice (some ⟨g,0,none⟩) fn cap) w'/\w'.ownsRow B 3 1 (.slice (some ⟨g,0,none⟩) fn cap) fn (i64z F)/\w.grownBy w' (some H)/\(g=H\/g=w.heap.size)/\g<w'.heap.size:=by
 obtain⟨i,hi,hz,hsize,hby⟩:=info_parts Tryz.info3
 by_cases h0:fn=0
 ·subst h0
  have hF0:F=[]:=List.eq_nil_of_length_eq_zero hfn.symm;subst hF0;have hs:Src Tryz.prog i.size 23 (.slice fo 0 fc) 0 [] w:=by
   cases fo with
   | none=>exact Src.ofNil w Tryz.underlying23 fc
   | some a=>exact Src.ofSlice w Tryz.underlying23 a 0 fc [] (by simp) (fun j u hj=>by simp at hj) (fun u hu=>by simp at hu)
  have hr:(Builtin.append_ #[23,23] ty #[.slice (some ⟨H,0,none⟩) 0 0,.slice fo 0 fc]).run Tryz.prog w= .ok (.slice (some ⟨H,0,none⟩) 0 0) w:=by
   simp[Builtin.append_,run_underlying Tryz.underlying23,sizeOf,typeInfo,hi,hs.len,hs.cells,storeCells]
  exact⟨H,0,w,hr,hown,⟨rfl,rfl,rfl,Nat.le_refl _,fun _ _ _=>rfl⟩,.inl rfl,(hown.lt H rfl).2⟩
 ·obtain⟨a,rfl,_,_⟩:=hF 0 F[0] (List.getElem?_eq_getElem (by omega))
  obtain⟨g,cap,w',hr,h2,h3,h4,h5⟩:=run_append_lies (P:=Tryz.prog) w 23 ty B 3 i (.int .i64 0) 1 8 Tryz.underlying23 hi hz hsize hby rfl (by decide) (.slice (some ⟨H,0,none⟩) 0 0) 0 [] hown a fn fc (i64z F) (by rw[i64z_len,hfn,Nat.mul_one]) (fun j u hj=>by
   unfold i64z at hj;rw[List.getElem?_map] at hj;obtain⟨z,hz1,hz2⟩:=Option.map_eq_some_iff.1 hj;obtain⟨a',e,_,h⟩:=hF j z hz1
   cases e
   rw[h,hz2]) (i64z_one F) (by omega) (by unfold maxLen;omega) (by omega) hB w.heap.size rfl
  refine⟨g,cap,w',by simpa using hr,by simpa using h2,h3,?_,h5⟩
  rcases h4 with h | h
  ·exact .inl (Option.some.inj h).symm
  ·exact .inr h
theorem wp_copy {w:World} {o:Oper} {a:Act} {K:Act->World->Prop} {Q:Exit->Act->World->Prop} (s x:Operand) (ho:o.op= .call {callee:=.builtin .append,args:=#[s,x],argTypes:=#[23,23]}) (B H:Nat) (hs:a.eval s= .slice (some ⟨H,0,none⟩) 0 0) (hown:w.ownsRow B 3 1 (.slice (some ⟨H,0,none⟩) 0 0) 0 []) (fo:Option Addr) (fn fc:Nat) (F:List Int) (hx:a.eval x= .slice fo fn fc) (hF:RdI w fo F) (hfn:fn=F.length) (hl:fn<=1000000000000) (hB:B<=w.heap.size)
  (h:∀g cap w',w'.ownsRow B 3 1 (.slice (some ⟨g,0,none⟩) fn cap) fn (i64z F)->w.grownBy w' (some H)->(g=H\/g=w.heap.size)->g<w'.heap.size->K (a.put o.dst (.slice (some ⟨g,0,none⟩) fn cap)) w'):o.wp Tryz.prog a w K Q:=by
 obtain⟨g,cap,w',hr,h2,h3,h4,h5⟩:=run_copy hown o.type (fc:=fc) hF hfn hl hB;unfold Oper.wp execOp
 simp only[ho,resolve,invoke,builtin,Sem.run_bind,Sem.run_pure,Result.andThen_ok,List.map_toArray,List.map_cons,List.map_nil,hs,hx,hr]
 exact h g cap w' h2 h3 h4 h5
def RdIX (w:World) (X:Nat->Prop) (ao:Option Addr) (l:List Int):Prop:=∀(k:Nat) (z:Int),l[k]? =some z->∃a:Addr,ao=some a/\a.block<w.heap.size/\¬X a.block/\w.cell? (a.add k)=some (.int .i64 z)
mutual
def RdPX (w:World) (X:Nat->Prop):Pat->Value->Value->Value->Prop
 | .mk op cls kids,v0,v1,v2=>v0= .int .i64 op/\(∃co cc,v1= .slice co cls.length cc/\RdIX w X co cls/\cls.length<=1000000)/\(∃ko kc,v2= .slice ko kids.length kc/\RdKX w X kids ko 0/\kids.length<=1000000/\kids.length<=kc)
def RdKX (w:World) (X:Nat->Prop):List Pat->Option Addr->Nat->Prop
 | [],_,_=>True
 | p::ps,ko,i=>(∃b o,ko=some ⟨b,o,none⟩/\b<w.heap.size/\¬X b/\∃v0 v1 v2,w.cell? ⟨b,o+i * 3,none⟩=some v0/\w.cell? ⟨b,o+i * 3+1,none⟩=some v1/\w.cell? ⟨b,o+i * 3+2,none⟩=some v2/\RdPX w X p v0 v1 v2)/\RdKX w X ps ko (i+1)
end
theorem RdIX.rd {w:World} {X:Nat->Prop} {ao:Option Addr} {l:List Int} (h:RdIX w X ao l):RdI w ao l:=fun k z hz=>by
 obtain⟨a,h1,h2,_,h4⟩:=h k z hz;exact⟨a,h1,h2,h4⟩
mutual
theorem RdPX.rd {w:World} {X:Nat->Prop}:∀(p:Pat) (v0 v1 v2:Value),RdPX w X p v0 v1 v2->RdP w p v0 v1 v2
 | .mk op cls kids,v0,v1,v2,h=>by
  unfold RdPX at h;unfold RdP;obtain⟨h1,⟨co,cc,h2,h3,h4⟩,ko,kc,h5,h6,h7⟩:=h;exact⟨h1,⟨co,cc,h2,h3.rd,h4⟩,ko,kc,h5,RdKX.rd kids ko 0 h6,h7⟩
theorem RdKX.rd {w:World} {X:Nat->Prop}:∀(ps:List Pat) (ko:Option Addr) (i:Nat),RdKX w X ps ko i->RdK w ps ko i
 | [],_,_,_=>by unfold RdK;trivial
 | p::ps,ko,i,h=>by
  unfold RdKX at h;unfold RdK;obtain⟨⟨b,o,h1,h2,_,v0,v1,v2,h3,h4,h5,h6⟩,h7⟩:=h;exact⟨⟨b,o,h1,h2,v0,v1,v2,h3,h4,h5,RdPX.rd p _ _ _ h6⟩,RdKX.rd ps ko (i+1) h7⟩
end
structure KpX (w w':World) (X X':Nat->Prop):Prop where
 size:w.heap.size<=w'.heap.size
 block:∀k,k<w.heap.size->¬X k->w'.heap[k]? =w.heap[k]?
 sub:∀k,k<w.heap.size->X' k->X k
theorem KpX.cell {w w':World} {X X':Nat->Prop} (h:KpX w w' X X') {p:Addr} {v:Value} (hp:p.block<w.heap.size) (hx:¬X p.block) (hc:w.cell? p=some v):w'.cell? p=some v:=(World.cell?_of_block (h.block p.block hp hx)).trans hc
theorem RdIX.keep {w w':World} {X X':Nat->Prop} {ao:Option Addr} {l:List Int} (h:RdIX w X ao l) (hk:KpX w w' X X'):RdIX w' X' ao l:=fun k z hz=>by
 obtain⟨a,h1,h2,h3,h4⟩:=h k z hz;exact⟨a,h1,Nat.lt_of_lt_of_le h2 hk.size,fun hx=>h3 (hk.sub _ h2 hx),hk.cell (p:=a.add k) (by rw[add_blk];exact h2) (by rw[add_blk];exact h3) h4⟩
mutual
theorem RdPX.keep {w w':World} {X X':Nat->Prop} (hk:KpX w w' X X'):∀(p:Pat) (v0 v1 v2:Value),RdPX w X p v0 v1 v2->RdPX w' X' p v0 v1 v2
 | .mk op cls kids,v0,v1,v2,h=>by
  unfold RdPX at h⊢;obtain⟨h1,⟨co,cc,h2,h3,h4⟩,ko,kc,h5,h6,h7⟩:=h;exact⟨h1,⟨co,cc,h2,h3.keep hk,h4⟩,ko,kc,h5,RdKX.keep hk kids ko 0 h6,h7⟩
theorem RdKX.keep {w w':World} {X X':Nat->Prop} (hk:KpX w w' X X'):∀(ps:List Pat) (ko:Option Addr) (i:Nat),RdKX w X ps ko i->RdKX w' X' ps ko i
 | [],_,_,_=>by unfold RdKX;trivial
 | p::ps,ko,i,h=>by
  unfold RdKX at h⊢;obtain⟨⟨b,o,h1,h2,hx,v0,v1,v2,h3,h4,h5,h6⟩,h7⟩:=h;have hc:∀k v,w.cell? ⟨b,k,none⟩=some v->w'.cell? ⟨b,k,none⟩=some v:=fun k v hv=>hk.cell (p:=⟨b,k,none⟩) h2 hx hv
  exact⟨⟨b,o,h1,Nat.lt_of_lt_of_le h2 hk.size,fun h=>hx (hk.sub _ h2 h),v0,v1,v2,hc _ _ h3,hc _ _ h4,hc _ _ h5,RdPX.keep hk p _ _ _ h6⟩,RdKX.keep hk ps ko (i+1) h7⟩
end
theorem RdKX.of {w:World} {X:Nat->Prop} (g:Nat) (hg:g<w.heap.size) (hx:¬X g):∀(ps:List Pat) (i:Nat),(∀(j:Nat) (p:Pat),ps[j]? =some p->∃v0 v1 v2,w.cell? ⟨g,(i+j) * 3,none⟩=some v0/\w.cell? ⟨g,(i+j) * 3+1,none⟩=some v1/\w.cell? ⟨g,(i+j) * 3+2,none⟩=some v2/\RdPX w X p v0 v1 v2)->RdKX w X ps (some ⟨g,0,none⟩) i
 | [],_,_=>by unfold RdKX;trivial
 | p::ps,i,h=>by
  unfold RdKX;refine⟨⟨g,0,rfl,hg,hx,?_⟩,RdKX.of g hg hx ps (i+1) fun j q hj=>?_⟩
  ·simp only[Nat.zero_add]
   exact h 0 p rfl
  ·have:=h (j+1) q (by simpa using hj)
   rw[show i+1+j=i+(j+1) by omega]
   exact this
def st3 (W:World) (p:Nat) (v0 v1 v2:Value):World:=((W.setCell ⟨p,0,none⟩ v0).setCell ⟨p,1,none⟩ v1).setCell ⟨p,2,none⟩ v2
theorem st3_at {W:World} {p:Nat} {x0 x1 x2 v0 v1 v2:Value} {t:TypeId} (h:W.heap[p]? =some (.cells #[x0,x1,x2] t (0,0))):(st3 W p v0 v1 v2).heap[p]? =some (.cells #[v0,v1,v2] t (0,0)):=by
 have e1:=heap_setCell_same W p 0 _ t v0 h;have e2:=heap_setCell_same _ p 1 _ t v1 e1;exact heap_setCell_same _ p 2 _ t v2 e2
theorem st3_ony (W:World) (p:Nat) (v0 v1 v2:Value):Ony p W (st3 W p v0 v1 v2):=((Ony.set p 0 W v0).trans (Ony.set p 1 _ v1)).trans (Ony.set p 2 _ v2)
theorem Tryz.infoPat:(Tryz.prog.info? 105).map (fun i=>(i.zero,i.size,i.bytes))=some (some (.agg #[.int .i64 0,.slice none 0 0,.slice none 0 0]),3,56):=by kernel_rfl
theorem Tryz.underPats:Tryz.prog.underlying 103=some (.slice 105):=by kernel_rfl
end Pt
end
section
open Go.RowKit
namespace Pt
theorem i64z_app (L M:List Int):i64z (L++M)=i64z L++i64z M:=List.map_append ..
theorem run_appI {B:Nat} {w:World} (ty:TypeId) {v:Value} {n:Nat} {X:List Int} (hown:w.ownsRow B 3 1 v n (i64z X)) {fo:Option Addr} {fn fc:Nat} {F:List Int} (hF:RdI w fo F) (hfn:fn=F.length) (hl:n+fn<=1000000000000) (hB:B<=w.heap.size):
  ∃vo vc w',(Builtin.append_ #[23,23] ty #[v,.slice fo fn fc]).run Tryz.prog w= .ok (.slice vo (n+fn) vc) w'/\w'.ownsRow B 3 1 (.slice vo (n+fn) vc) (n+fn) (i64z (X++F))/\w.grownBy w' v.ownBlock/\((Value.slice vo (n+fn) vc).ownBlock=v.ownBlock\/(Value.slice vo (n+fn) vc).ownBlock=some w.heap.size):=by
 obtain⟨i,hi,hz,hsize,hby⟩:=info_parts Tryz.info3
 by_cases h0:fn=0
 ·subst h0
  have hF0:F=[]:=List.eq_nil_of_length_eq_zero hfn.symm;subst hF0;have hs:Src Tryz.prog i.size 23 (.slice fo 0 fc) 0 [] w:=by
   cases fo with
   | none=>exact Src.ofNil w Tryz.underlying23 fc
   | some a=>exact Src.ofSlice w Tryz.underlying23 a 0 fc [] (by simp) (fun j u hj=>by simp at hj) (fun u hu=>by simp at hu)
  rw[List.append_nil];have hg:w.grownBy w v.ownBlock:=⟨rfl,rfl,rfl,Nat.le_refl _,fun _ _ _=>rfl⟩
  rcases hown.2 with ⟨h1,h2⟩ | ⟨g,cap,cur,h1,h2,h3,h4,h5⟩
  ·subst h1 h2
   refine⟨none,0,w,?_,hown,hg,.inl rfl⟩
   simp[Builtin.append_,run_underlying Tryz.underlying23,sizeOf,typeInfo,hi,hs.len,hs.cells]
  ·subst h1
   refine⟨some ⟨g,0,none⟩,cap,w,?_,hown,hg,.inl rfl⟩
   simp[Builtin.append_,run_underlying Tryz.underlying23,sizeOf,typeInfo,hi,hs.len,hs.cells,storeCells,h4]
 ·obtain⟨a,rfl,_,_⟩:=hF 0 F[0] (List.getElem?_eq_getElem (by omega))
  obtain⟨g,cap,w',hr,h2,h3,h4,h5⟩:=run_append_lies (P:=Tryz.prog) w 23 ty B 3 i (.int .i64 0) 1 8 Tryz.underlying23 hi hz hsize hby rfl (by decide) v n (i64z X) hown a fn fc (i64z F) (by rw[i64z_len,hfn,Nat.mul_one]) (fun j u hj=>by
   unfold i64z at hj;rw[List.getElem?_map] at hj;obtain⟨z,hz1,hz2⟩:=Option.map_eq_some_iff.1 hj;obtain⟨a',e,_,h⟩:=hF j z hz1
   cases e
   rw[h,hz2]) (i64z_one F) (by omega) (by unfold maxLen;omega) (by omega) hB w.heap.size rfl
  refine⟨some ⟨g,0,none⟩,cap,w',hr,by rw[i64z_app];exact h2,h3,?_⟩
  rcases h4 with h | h
  ·exact .inl (by rw[h];rfl)
  ·exact .inr (by rw[h];rfl)
theorem zau {w:World} {o:Oper} {a:Act} {K:Act->World->Prop} {Q:Exit->Act->World->Prop} (s x:Operand) (ho:o.op= .call {callee:=.builtin .append,args:=#[s,x],argTypes:=#[23,23]}) (B:Nat) (v:Value) (n:Nat) (X:List Int) (hs:a.eval s=v) (hown:w.ownsRow B 3 1 v n (i64z X)) (fo:Option Addr) (fn fc:Nat) (F:List Int) (hx:a.eval x= .slice fo fn fc) (hF:RdI w fo F) (hfn:fn=F.length) (hl:n+fn<=1000000000000) (hB:B<=w.heap.size)
  (h:∀vo vc w',w'.ownsRow B 3 1 (.slice vo (n+fn) vc) (n+fn) (i64z (X++F))->w.grownBy w' v.ownBlock->((Value.slice vo (n+fn) vc).ownBlock=v.ownBlock\/(Value.slice vo (n+fn) vc).ownBlock=some w.heap.size)->K (a.put o.dst (.slice vo (n+fn) vc)) w'):o.wp Tryz.prog a w K Q:=by
 obtain⟨vo,vc,w',hr,h2,h3,h4⟩:=run_appI o.type hown (fc:=fc) hF hfn hl hB;unfold Oper.wp execOp
 simp only[ho,resolve,invoke,builtin,Sem.run_bind,Sem.run_pure,Result.andThen_ok,List.map_toArray,List.map_cons,List.map_nil,hs,hx,hr]
 exact h vo vc w' h2 h3 h4
theorem zbe {w:World} {ops:Array Oper} {rest:List Oper} {o:Oper} {a:Act} {Q:Exit->Act->World->Prop} (hgd:o.guard=none) (s x:Operand) (ho:o.op= .call {callee:=.builtin .append,args:=#[s,x],argTypes:=#[23,23]}) (B:Nat) (v:Value) (n:Nat) (X:List Int) (hs:a.eval s=v) (hown:w.ownsRow B 3 1 v n (i64z X)) (fo:Option Addr) (fn fc:Nat) (F:List Int) (hx:a.eval x= .slice fo fn fc) (hF:RdI w fo F) (hfn:fn=F.length) (hl:n+fn<=1000000000000) (hB:B<=w.heap.size)
  (h:∀vo vc w',w'.ownsRow B 3 1 (.slice vo (n+fn) vc) (n+fn) (i64z (X++F))->w.grownBy w' v.ownBlock->((Value.slice vo (n+fn) vc).ownBlock=v.ownBlock\/(Value.slice vo (n+fn) vc).ownBlock=some w.heap.size)->wpList Tryz.prog ops Q rest (a.put o.dst (.slice vo (n+fn) vc)) w'):wpList Tryz.prog ops Q (o::rest) a w:=
 wpList_plain hgd fun _ hK=>zau s x ho B v n X hs hown fo fn fc F hx hF hfn hl hB fun vo vc w' h2 h3 h4=>hK _ _ (h vo vc w' h2 h3 h4)
theorem zae {B n:Nat} {w w':World} {v:Value} {xs:List Value} (h:w.ownsRow B 3 1 v n xs) (hg:w.grownBy w' v.ownBlock) (hB:B<=w.heap.size):Below B w w':=⟨hg.os,hg.tape,hg.output,hg.size,fun k hk=>hg.block k (by omega) (fun e=>by
 rcases h.2 with ⟨rfl,_⟩ | ⟨g,cap,cur,rfl,h2,_⟩
 ·cases e
 ·have e':=Option.some.inj e
  have e2:k=g:=e';omega)⟩
theorem zbS {w:World} {B n:Nat} {vo:Option Addr} {vc:Nat} {L:List Int} (h:w.ownsRow B 3 1 (.slice vo n vc) n (i64z L)) (hn:n=L.length):RdI w vo L:=fun k z hk=>by
 have hkl:=(List.getElem?_eq_some_iff.1 hk).1
 rcases h.2 with ⟨h1,h2⟩ | ⟨g,cap,cur,h1,h2,h3,_⟩
 ·omega
 ·cases h1
  refine⟨_,rfl,zab h3,?_⟩;rw[Addr.add_lit,Nat.zero_add];exact(zbu h).2.2.2 k _ (by unfold i64z;rw[List.getElem?_map,hk];rfl)
theorem zak {w w':World} {B n:Nat} {v:Value} {xs:List Value} (h:w.ownsRow B 3 1 v n xs) (hb:Below w.heap.size w w'):w'.ownsRow B 3 1 v n xs:=⟨h.1,h.2.imp (fun e=>e) fun⟨g,cap,cur,a1,a2,a3,a4⟩=>⟨g,cap,cur,a1,a2,(hb.block g (zab a3)).trans a3,a4⟩⟩
theorem zdv (w:World) (ao:Option Addr):RdI w ao []:=fun k z hk=>by simp at hk
theorem matches_any (p:Pat) (hO:OkP p) (hs:szP p<=2048) (v0 v1 v2:Value) (w:World) (hP:RdP w p v0 v1 v2):
  Calls Tryz.prog 147 #[.agg #[v0,v1,v2],.slice none 0 0] w (BlQ w (¬led [] p 0 0)):=by
 have HE:=hid (fun(W:World) (h:Below w.heap.size w W)=>ends_any p hO hs v0 v1 v2 [] none 0 0 rfl (by omega) W (RdP.below h _ _ _ _ hP) (zdv W none))
 clear hP;go_enter Tryz.func147,Tryz.ntmps147;go_wp2_with fail;refine(HE.out _ zaa).mono ?_;rintro e w2 ⟨vo,vc,rfl,hO2,hB2⟩;have HB2:=hid (zaa.trans (hB2.mono (by simp)))
 have HR:=hid (rdi_own hO2 rfl);have HM:=hid (fun(x:Nat)=>flt_mem (fun i=>led [] p 0 i) (0+1) x)
 obtain⟨L,hL⟩:∃L,L=flt (fun i=>led [] p 0 i) (0+1):=⟨_,rfl⟩
 have hl9:L.length<=1:=by rw[hL];exact flt_len _ _
 rw[<- hL] at HR HM⊢;obtain⟨n,hn⟩:∃n,n=L.length:=⟨_,rfl⟩;rw[<- hn] at hl9⊢;have HN:=hid hn;clear hO2 hB2 hL hn HE;go_wp2_with fail;refine(in_any vo n vc _ 0 w2 HR.out (by rw[List.length_map];exact HN.out) (by omega)).mono ?_
 rintro e w3 ⟨rfl,rfl⟩;have HQ:=hid (show inb (L.map fun(x:Nat)=>(x:Int)) 0=false->¬led [] p 0 0 from fun h hl=>by
  have h1:(0:Int)∈L.map fun(x:Nat)=>(x:Int):=List.mem_map.2 ⟨0,(HM.out 0).2 ⟨by omega,hl⟩,rfl⟩
  rw[(zbh _ _).2 h1] at h
  cases h)
 obtain⟨b,hb⟩:∃b,b=inb (L.map fun(x:Nat)=>(x:Int)) 0:=⟨_,rfl⟩
 rw[<- hb] at HQ⊢;clear hb;go_wp2;go_ret;exact⟨b,rfl,HQ.out,HB2.out⟩
theorem zdh (p:Pat) (hO:OkP p) (hs:szP p<=2048) (v0 v1 v2:Value) (w:World) (hP:RdP w p v0 v1 v2):
  Calls Tryz.prog 109 #[.agg #[v0,v1,v2]] w (BlQ w (Ful p)):=by
 have HE:=hid (fun(W:World) (h:Below w.heap.size w W)=>matches_any p hO hs v0 v1 v2 W (RdP.below h _ _ _ _ hP))
 clear hP;go_enter Tryz.func109,Tryz.ntmps109;go_wp2_with fail;refine(HE.out _ zaa).mono ?_;rintro e w2 ⟨b,rfl,hb,hB2⟩;have HB2:=hid (zaa.trans (hB2.mono (by simp)))
 have HQ:=hid (show b=false->Ful p from fun h=>ful_of (hb h))
 clear hb hB2;go_wp2;go_ret;exact⟨b,rfl,HQ.out,HB2.out⟩
end Pt
end
section
open Go.RowKit
namespace Pt
def FsQ (p:Pat) (w:World) (e:Ending) (w':World):Prop:=∃(vo:Option Addr) (vc:Nat) (L:List Int),e= .returned (.slice vo L.length vc)/\RdI w' vo L/\FsOk p L/\L.length<=1000000 * szP p/\Below w.heap.size w w'
theorem RdK.drop {w:World} {kids:List Pat} {b o:Nat} (h:RdK w kids (some ⟨b,o,none⟩) 0) (m:Nat):RdK w (kids.drop m) (some ⟨b,o+m * 3,none⟩) 0:=by
 have key:∀(ps:List Pat) (i:Nat),(∀(j:Nat) (q:Pat),ps[j]? =some q->kids[m+i+j]? =some q)->RdK w ps (some ⟨b,o+m * 3,none⟩) i:=by
  intro ps
  induction ps with
  | nil=>intro i _;unfold RdK;trivial
  | cons p ps ih=>
   intro i hp;unfold RdK;obtain⟨b',o',h1,h2,v0,v1,v2,q0,q1,q2,q3⟩:=RdK.at kids _ 0 (m+i) p h (hp 0 p rfl)
   cases h1
   rw[show o+(0+(m+i)) * 3=o+m * 3+i * 3 by omega] at q0 q1 q2
   refine⟨⟨b,o+m * 3,rfl,h2,v0,v1,v2,q0,q1,q2,q3⟩,ih (i+1) fun j q hj=>?_⟩
   have:=hp (j+1) q (by simpa using hj)
   rw[show m+(i+1)+j=m+i+(j+1) by omega]
   exact this
 exact key _ 0 fun j _ hj=>by rw[Nat.add_zero,<- List.getElem?_drop];exact hj
theorem okL_all':∀ps:List Pat,(∀p∈ps,OkP p)->OkL ps
 | [],_=>by unfold OkL;trivial
 | p::ps,h=>by
  unfold OkL;exact⟨h p (List.mem_cons_self ..),okL_all' ps fun q hq=>h q (List.mem_cons_of_mem _ hq)⟩
theorem OkL.drop {ps:List Pat} (h:OkL ps) (m:Nat):OkL (ps.drop m):=okL_all' _ fun _ hp=>h.mem (List.mem_of_mem_drop hp)
theorem firsts_0 (v1 v2:Value) (cls:List Int) (kids:List Pat) (w:World):Calls Tryz.prog 145 #[.agg #[.int .i64 0,v1,v2]] w (FsQ (.mk 0 cls kids) w):=by
 have HB:=hid (fun(o:Obj)=>zaa (w:=w) (o:=o))
 go_enter Tryz.func145,Tryz.ntmps145;go_wp2;go_ret;exact⟨none,0,[],rfl,zdv _ _,fs_none 0 _ _ (by decide) (by decide) (by decide) (by decide) (by decide) (by decide),by simp,HB.out _⟩
theorem firsts_1 (lo:Option Addr) (lc:Nat) (v2:Value) (cls:List Int) (kids:List Pat) (w:World) (hI:RdI w lo cls) (hl9:cls.length<=1000000):Calls Tryz.prog 145 #[.agg #[.int .i64 1,.slice lo cls.length lc,v2]] w (FsQ (.mk 1 cls kids) w):=by
 have HB:=hid (fun(o:Obj)=>zaa (w:=w) (o:=o))
 have HI:=hid hI;have HL:=hid hl9;obtain⟨n,hn⟩:∃n,n=cls.length:=⟨_,rfl⟩;rw[<- hn];have HN:=hid hn;clear hI hl9 hn;go_enter Tryz.func145,Tryz.ntmps145;go_wp2;go_ret;rw[HN.out];exact⟨lo,lc,cls,rfl,HI.out.below (HB.out _),fs_set _ _,by
  have:=HL.out;unfold szP;omega,HB.out _⟩
set_option maxRecDepth 100000 in
theorem firsts_2 (lo ko:Option Addr) (ln lc kn kc:Nat) (cls:List Int) (kids:List Pat) (w:World) (hkn:kn=kids.length) (hk9:kn<=1000000) (hkc:kn<=kc) (hk:RdK w kids ko 0) (hOK:OkL kids) (hsz:szL kids+1<=2048)
  (ih:∀p∈kids,∀(u0 u1 u2:Value) (W:World),RdP W p u0 u1 u2->Calls Tryz.prog 145 #[.agg #[u0,u1,u2]] W (FsQ p W)):
  Calls Tryz.prog 145 #[.agg #[.int .i64 2,.slice lo ln lc,.slice ko kn kc]] w (FsQ (.mk 2 cls kids) w):=by
 have HK:=hid hk;have HO:=hid hOK;have HSz:=hid hsz;have HIH:=hid ih;have HKN:=hid hkn;clear hk hOK hsz ih hkn;go_enter Tryz.func145,Tryz.ntmps145;go_wp2;obtain⟨w1,hw1⟩:∃w1,w1=w.alloc (.cells #[.int .i64 2,.slice lo ln lc,.slice ko kn kc] 105):=⟨_,rfl⟩;have hb1:Below w.heap.size w w1:=by rw[hw1];exact zaa
 have x0:w1.cell? ⟨w.heap.size,0,none⟩=some (.int .i64 2):=by rw[hw1];simp[go_sem]
 have x2:w1.cell? ⟨w.heap.size,2,none⟩=some (.slice ko kn kc):=by rw[hw1];simp[go_sem]
 have hs1:w.heap.size<w1.heap.size:=by rw[hw1];simp
 rw[<- hw1];have HB1:=hid hb1;have HX:=hid (fun(W:World) (h:Below w1.heap.size w1 W)=>show W.cell? ⟨w.heap.size,0,none⟩=some (.int .i64 2)/\W.cell? ⟨w.heap.size,2,none⟩=some (.slice ko kn kc) from⟨(h.cell (p:=⟨w.heap.size,0,none⟩) hs1).trans x0,(h.cell (p:=⟨w.heap.size,2,none⟩) hs1).trans x2⟩)
 clear hw1 hb1 x0 x2;go_loopw [3,4] (fun x y wr=>∃(j n:Nat) (vo:Option Addr) (vc:Nat) (M:List Int),x= .slice vo n vc/\y= .int .i64 j/\j<=kn/\n<=2048000000/\Hid (n=M.length)/\Hid (n<=1000000 * szL (kids.take j))/\Hid (wr.ownsRow w1.heap.size 3 1 (.slice vo n vc) n (i64z M))/\Hid (FsT kids j M)/\Hid (Below w1.heap.size w1 wr)) (fun _ y _=>kn - (intOf y).toNat)
 case atStart=>exact⟨0,0,none,0,[],rfl,rfl,Nat.zero_le _,by omega,hid rfl,hid (Nat.zero_le _),hid (World.ownsRow_nil _ _ _ _),hid (fst_0 _),hid (Below.refl _ _)⟩
 case round=>
  obtain⟨j,n,vo,vc,M,rfl,rfl,hj,hn9,HN,HN9,HOw,HF,HB⟩:=hrel;obtain⟨x0,x2⟩:=HX.out wr HB.out;have HBw:=hid (HB1.out.trans (HB.out.mono HB1.out.size))
  by_cases hlt:j<kn
  ·have j0:(0:Int)<=(j:Int):=by omega
   have j1:(j:Int)<(kn:Int):=by omega
   have hjk:j<kids.length:=by have:=HKN.out;omega
   obtain⟨b,o,hko,hb,u0,u1,u2,q0,q1,q2,hq⟩:=RdK.at kids ko 0 j _ HK.out (List.getElem?_eq_getElem hjk);rw[Nat.zero_add] at q0 q1 q2;have HKb:=hid (show RdK w kids (some ⟨b,o,none⟩) 0 by rw[<- hko];exact HK.out)
   subst hko;have hKid:∀W,Below w1.heap.size w1 W->RdP W kids[j] u0 u1 u2/\W.cell? ⟨b,o+j * 3,none⟩=some u0/\W.cell? ⟨b,o+j * 3+1,none⟩=some u1/\W.cell? ⟨b,o+j * 3+2,none⟩=some u2:=fun W h=>by
    have h2:=HB1.out.trans (h.mono HB1.out.size);exact⟨RdP.below h2 _ _ _ _ hq,(h2.cell (p:=⟨b,o+j * 3,none⟩) hb).trans q0,(h2.cell (p:=⟨b,o+j * 3+1,none⟩) hb).trans q1,(h2.cell (p:=⟨b,o+j * 3+2,none⟩) hb).trans q2⟩
   have HKid:=hid hKid;have hOj:OkP kids[j]:=HO.out.mem (List.getElem_mem hjk);have hSj:szP kids[j]<=2048:=by
    have h1:=zbO kids j _ (List.getElem?_eq_getElem hjk);have h2:=zcF kids (j+1);have h3:=HSz.out;omega
   have HSm:=hid (fun(W:World) (h:Below w1.heap.size w1 W)=>some_any kids[j] hOj u0 u1 u2 W (hKid W h).1)
   have HEm:=hid (fun(W:World) (h:Below w1.heap.size w1 W)=>zdh kids[j] hOj hSj u0 u1 u2 W (hKid W h).1)
   have HFs:=hid (fun(W:World) (h:Below w1.heap.size w1 W)=>HIH.out kids[j] (List.getElem_mem hjk) u0 u1 u2 W (hKid W h).1)
   have HST:=hid (zbO kids j _ (List.getElem?_eq_getElem hjk));have HSL:=hid (zcF kids (j+1));obtain⟨_,y0,y1,y2⟩:=hKid wr HB.out;clear q0 q1 q2 hKid hq hb;go_wp2_with fail;refine(HSm.out wr HB.out).mono ?_;rintro e w3 ⟨b1,rfl,hv1,hB3⟩;have HV1:=hid hv1;have HB3:=hid (HB.out.trans (hB3.mono HB.out.size));have HO3:=hid (zak HOw.out hB3);obtain⟨_,y0,y1,y2⟩:=HKid.out w3 HB3.out;obtain⟨x0,x2⟩:=HX.out w3 HB3.out;clear hv1 hB3 HSm HOw
   cases b1 with
   | false=>
    have HM9:=hid (show n<=1000000 * szL (kids.take (j+1)) from by have a1:=HN9.out;have a2:=HST.out;omega)
    obtain⟨_,y0,y1,y2⟩:=HKid.out w3 HB3.out;obtain⟨x0,x2⟩:=HX.out w3 HB3.out;have HH:=hid (show FsOk kids[j] M\/Nil kids[j]\/NilT (kids.drop (j+1)) from .inr (.inl (HV1.out rfl)))
    go_wp2_with fail;refine(HEm.out w3 HB3.out).mono ?_;rintro e w9 ⟨b3,rfl,hv3,hB9⟩;have HV3:=hid hv3;have HB9:=hid (HB3.out.trans (hB9.mono HB3.out.size));have HO9:=hid (zak HO3.out hB9);clear hv3 hB9 y0 y1 y2 x0 x2
    cases b3 with
    | true=>
     go_wp2;go_roundw
     case rel=>exact⟨j+1,n,vo,vc,M,rfl,by go_num,by omega,hn9,HN,HM9,HO9,hid (fst_step hjk HF.out (fun z hz=>hz) HH.out),HB9⟩
     case measure=>simp[intOf];omega
    | false=>
     have HQ:=hid (show FsOk (.mk 2 cls kids) M from fst_stop hjk HF.out (fun z hz=>hz) HH.out (HV3.out rfl) 2 cls rfl)
     have HBz:=hid (HB1.out.trans (HB9.out.mono HB1.out.size));have HNz:=hid (show M.length<=1000000 * szP (.mk 2 cls kids) from by
      have a1:=HN.out;have a2:=HM9.out;have a3:=HSL.out;unfold szP;omega)
     go_wp2;go_ret;exact⟨vo,vc,M,by rw[<- HN.out];rfl,zbS HO9.out HN.out,HQ.out,HNz.out,HBz.out⟩
   | true=>
    have HRs:=hid (fun(ao:Option Addr) (m cp:Nat) (W:World) (h:Below w1.heap.size w1 W) (hm:m=kn - (j+1)) (hao:(ao=some ⟨b,o,none⟩/\kn<=j+1)\/ao=some ⟨b,o+(j+1) * 3,none⟩)=>show Calls Tryz.prog 169 #[.slice ao m cp] W (BlQ W (NilT (kids.drop (j+1)))) from by
     have e:m=(kids.drop (j+1)).length:=by rw[List.length_drop,<- HKN.out];exact hm
     rw[e];refine rest_any _ (HO.out.drop _) ao _ W ?_ (by rw[<- e];omega)
     rcases hao with ⟨_,h0⟩ | rfl
     ·rw[List.length_eq_zero_iff.1 (show(kids.drop (j+1)).length=0 by rw[<- e];omega)];unfold RdK;trivial
     ·exact(RdK.below (HB1.out.trans (h.mono HB1.out.size)) _ _ _ HKb.out).drop (j+1))
    have d1:(j:Int)+1<=(kn:Int):=by omega
    have d2:(kn:Int)<=(kc:Int):=by omega
    have d3:(j:Int)+1<=(kc:Int):=by omega
    go_wp2_with fail
    all_goals
     have HH0:=hid h
     first
      | rw[<- h]
      | skip
     clear h;refine(HRs.out _ _ _ w3 HB3.out (by have:=HH0.out;omega) (by first | exact .inr rfl | exact .inl ⟨rfl,by have:=HH0.out;omega⟩)).mono ?_
     rintro e w4 ⟨b2,rfl,hv2,hB4⟩;have HV2:=hid hv2;have HB4:=hid (HB3.out.trans (hB4.mono HB3.out.size));have HO4:=hid (zak HO3.out hB4);obtain⟨_,y0,y1,y2⟩:=HKid.out w4 HB4.out;obtain⟨x0,x2⟩:=HX.out w4 HB4.out;clear hv2 hB4 HRs d1 d2 d3
     cases b2 with
     | false=>
      have HM9:=hid (show n<=1000000 * szL (kids.take (j+1)) from by have a1:=HN9.out;have a2:=HST.out;omega)
      obtain⟨_,y0,y1,y2⟩:=HKid.out w4 HB4.out;obtain⟨x0,x2⟩:=HX.out w4 HB4.out;have HH:=hid (show FsOk kids[j] M\/Nil kids[j]\/NilT (kids.drop (j+1)) from .inr (.inr (HV2.out rfl)))
      go_wp2_with fail;refine(HEm.out w4 HB4.out).mono ?_;rintro e w9 ⟨b3,rfl,hv3,hB9⟩;have HV3:=hid hv3;have HB9:=hid (HB4.out.trans (hB9.mono HB4.out.size));have HO9:=hid (zak HO4.out hB9);clear hv3 hB9 y0 y1 y2 x0 x2
      cases b3 with
      | true=>
       go_wp2;go_roundw
       case rel=>exact⟨j+1,n,vo,vc,M,rfl,by go_num,by omega,hn9,HN,HM9,HO9,hid (fst_step hjk HF.out (fun z hz=>hz) HH.out),HB9⟩
       case measure=>simp[intOf];omega
      | false=>
       have HQ:=hid (show FsOk (.mk 2 cls kids) M from fst_stop hjk HF.out (fun z hz=>hz) HH.out (HV3.out rfl) 2 cls rfl)
       have HBz:=hid (HB1.out.trans (HB9.out.mono HB1.out.size));have HNz:=hid (show M.length<=1000000 * szP (.mk 2 cls kids) from by
        have a1:=HN.out;have a2:=HM9.out;have a3:=HSL.out;unfold szP;omega)
       go_wp2;go_ret;exact⟨vo,vc,M,by rw[<- HN.out];rfl,zbS HO9.out HN.out,HQ.out,HNz.out,HBz.out⟩
     | true=>
      go_wp2_with fail;refine(HFs.out w4 HB4.out).mono ?_;rintro e w5 ⟨fo,fc,L,rfl,hI5,hF5,hL5,hB5⟩;have HI5:=hid hI5;have HF5:=hid hF5;have HB5:=hid (HB4.out.trans (hB5.mono HB4.out.size));have HO5:=hid (zak HO4.out hB5);have hl9:L.length<=2048000000:=by omega
      obtain⟨m,hm⟩:∃m,m=L.length:=⟨_,rfl⟩;have HM:=hid hm;have HL5:=hid hL5;rw[<- hm] at hl9⊢;have HM9:=hid (show n+m<=1000000 * szL (kids.take (j+1)) from by have a1:=HN9.out;have a2:=HST.out;have a3:=HL5.out;have a4:=HM.out;omega)
      have hnm:n+m<=2048000000:=by have a1:=HM9.out;have a2:=HSL.out;have a3:=HSz.out;omega
      clear hm hI5 hF5 hL5 hB5 y0 y1 y2 x0 x2;go_wp2_with (at_builtin;refine zbe rfl _ _ rfl w1.heap.size (.slice vo n vc) n M rfl HO5.out fo m fc L rfl HI5.out HM.out (by omega) HB5.out.size ?_;intro vo6 vc6 w6 ho6 hg6 _;have HO6:=hid ho6;have HB6:=hid (HB5.out.trans (zae HO5.out hg6 HB5.out.size));clear ho6 hg6;obtain⟨x0,x2⟩:=HX.out w6 HB6.out;obtain⟨_,y0,y1,y2⟩:=HKid.out w6 HB6.out)
      have HN6:=hid (show n+m=(M++L).length from by rw[List.length_append,<- HN.out,<- HM.out])
      have HH:=hid (show FsOk kids[j] (M++L)\/Nil kids[j]\/NilT (kids.drop (j+1)) from .inl (HF5.out.mono fun z hz=>List.mem_append_right _ hz))
      refine(HEm.out w6 HB6.out).mono ?_;rintro e w9 ⟨b3,rfl,hv3,hB9⟩;have HV3:=hid hv3;have HB9:=hid (HB6.out.trans (hB9.mono HB6.out.size));have HO9:=hid (zak HO6.out hB9);clear hv3 hB9 y0 y1 y2 x0 x2
      cases b3 with
      | true=>
       go_wp2;go_roundw
       case rel=>exact⟨j+1,(n+m),vo6,vc6,(M++L),rfl,by go_num,by omega,hnm,HN6,HM9,HO9,hid (fst_step hjk HF.out (fun z hz=>List.mem_append_left _ hz) HH.out),HB9⟩
       case measure=>simp[intOf];omega
      | false=>
       have HQ:=hid (show FsOk (.mk 2 cls kids) (M++L) from fst_stop hjk HF.out (fun z hz=>List.mem_append_left _ hz) HH.out (HV3.out rfl) 2 cls rfl)
       have HBz:=hid (HB1.out.trans (HB9.out.mono HB1.out.size));have HNz:=hid (show(M++L).length<=1000000 * szP (.mk 2 cls kids) from by
        have a1:=HN6.out;have a2:=HM9.out;have a3:=HSL.out;unfold szP;omega)
       go_wp2;go_ret;exact⟨vo6,vc6,(M++L),by rw[<- HN6.out];rfl,zbS HO9.out HN6.out,HQ.out,HNz.out,HBz.out⟩
  ·have j1:¬(j:Int)<(kn:Int):=by omega
   have hje:j=kn:=by omega
   have HQ:=hid (show FsOk (.mk 2 cls kids) M from fst_end (by rw[<- HKN.out,<- hje];exact HF.out) 2 cls rfl)
   have HNz:=hid (show M.length<=1000000 * szP (.mk 2 cls kids) from by
    have a1:=HN.out;have a2:=HN9.out;have a3:=zcF kids j;unfold szP;omega)
   clear hje;go_wp2;go_ret;exact⟨vo,vc,M,by rw[<- HN.out];rfl,zbS HOw.out HN.out,HQ.out,HNz.out,HBw.out⟩
set_option maxRecDepth 100000 in
theorem firsts_n (op:Int) (h0:op≠0) (h1:op≠1) (h2:op≠2) (lo ko:Option Addr) (ln lc kn kc:Nat) (cls:List Int) (kids:List Pat) (w:World) (hkn:kn=kids.length) (hk9:kn<=1000000) (hk:RdK w kids ko 0) (hOK:OkL kids) (hsz:szL kids+1<=2048)
  (ih:∀p∈kids,∀(u0 u1 u2:Value) (W:World),RdP W p u0 u1 u2->Calls Tryz.prog 145 #[.agg #[u0,u1,u2]] W (FsQ p W)):
  Calls Tryz.prog 145 #[.agg #[.int .i64 op,.slice lo ln lc,.slice ko kn kc]] w (FsQ (.mk op cls kids) w):=by
 have e0:(op==0)=false:=beq_eq_false_iff_ne.2 h0;have e1:(op==1)=false:=beq_eq_false_iff_ne.2 h1;have e2:(op != 2)=true:=bne_iff_ne.2 h2;have e3:(op==2)=false:=beq_eq_false_iff_ne.2 h2;have HOP:=hid (And.intro h1 h2);clear h0 h1 h2;have HK:=hid hk;have HO:=hid hOK;have HSz:=hid hsz;have HIH:=hid ih;have HKN:=hid hkn;clear hk hOK hsz ih hkn;go_enter Tryz.func145,Tryz.ntmps145;go_wp2;obtain⟨w1,hw1⟩:∃w1,w1=w.alloc (.cells #[.int .i64 op,.slice lo ln lc,.slice ko kn kc] 105):=⟨_,rfl⟩;have hb1:Below w.heap.size w w1:=by rw[hw1];exact zaa
 have x0:w1.cell? ⟨w.heap.size,0,none⟩=some (.int .i64 op):=by rw[hw1];simp[go_sem]
 have x2:w1.cell? ⟨w.heap.size,2,none⟩=some (.slice ko kn kc):=by rw[hw1];simp[go_sem]
 have hs1:w.heap.size<w1.heap.size:=by rw[hw1];simp
 rw[<- hw1];have HB1:=hid hb1;have HX:=hid (fun(W:World) (h:Below w1.heap.size w1 W)=>show W.cell? ⟨w.heap.size,0,none⟩=some (.int .i64 op)/\W.cell? ⟨w.heap.size,2,none⟩=some (.slice ko kn kc) from⟨(h.cell (p:=⟨w.heap.size,0,none⟩) hs1).trans x0,(h.cell (p:=⟨w.heap.size,2,none⟩) hs1).trans x2⟩)
 clear hw1 hb1 x0 x2;go_loopw [3,4] (fun x y wr=>∃(j n:Nat) (vo:Option Addr) (vc:Nat) (M:List Int),x= .slice vo n vc/\y= .int .i64 j/\j<=kn/\n<=2048000000/\Hid (n=M.length)/\Hid (n<=1000000 * szL (kids.take j))/\Hid (wr.ownsRow w1.heap.size 3 1 (.slice vo n vc) n (i64z M))/\Hid (∀x (hx:x<j) (hk:x<kids.length),FsOk kids[x] M)/\Hid (Below w1.heap.size w1 wr)) (fun _ y _=>kn - (intOf y).toNat)
 case atStart=>exact⟨0,0,none,0,[],rfl,rfl,Nat.zero_le _,by omega,hid rfl,hid (Nat.zero_le _),hid (World.ownsRow_nil _ _ _ _),hid (fun x hx=>by omega),hid (Below.refl _ _)⟩
 case round=>
  obtain⟨j,n,vo,vc,M,rfl,rfl,hj,hn9,HN,HN9,HOw,HF,HB⟩:=hrel;obtain⟨x0,x2⟩:=HX.out wr HB.out;have HBw:=hid (HB1.out.trans (HB.out.mono HB1.out.size))
  by_cases hlt:j<kn
  ·have j0:(0:Int)<=(j:Int):=by omega
   have j1:(j:Int)<(kn:Int):=by omega
   have hjk:j<kids.length:=by have:=HKN.out;omega
   obtain⟨b,o,hko,hb,u0,u1,u2,q0,q1,q2,hq⟩:=RdK.at kids ko 0 j _ HK.out (List.getElem?_eq_getElem hjk);rw[Nat.zero_add] at q0 q1 q2;have HKb:=hid (show RdK w kids (some ⟨b,o,none⟩) 0 by rw[<- hko];exact HK.out)
   subst hko;have hKid:∀W,Below w1.heap.size w1 W->RdP W kids[j] u0 u1 u2/\W.cell? ⟨b,o+j * 3,none⟩=some u0/\W.cell? ⟨b,o+j * 3+1,none⟩=some u1/\W.cell? ⟨b,o+j * 3+2,none⟩=some u2:=fun W h=>by
    have h2:=HB1.out.trans (h.mono HB1.out.size);exact⟨RdP.below h2 _ _ _ _ hq,(h2.cell (p:=⟨b,o+j * 3,none⟩) hb).trans q0,(h2.cell (p:=⟨b,o+j * 3+1,none⟩) hb).trans q1,(h2.cell (p:=⟨b,o+j * 3+2,none⟩) hb).trans q2⟩
   have HKid:=hid hKid;have hOj:OkP kids[j]:=HO.out.mem (List.getElem_mem hjk);have hSj:szP kids[j]<=2048:=by
    have h1:=zbO kids j _ (List.getElem?_eq_getElem hjk);have h2:=zcF kids (j+1);have h3:=HSz.out;omega
   have HSm:=hid (fun(W:World) (h:Below w1.heap.size w1 W)=>some_any kids[j] hOj u0 u1 u2 W (hKid W h).1)
   have HEm:=hid (fun(W:World) (h:Below w1.heap.size w1 W)=>zdh kids[j] hOj hSj u0 u1 u2 W (hKid W h).1)
   have HFs:=hid (fun(W:World) (h:Below w1.heap.size w1 W)=>HIH.out kids[j] (List.getElem_mem hjk) u0 u1 u2 W (hKid W h).1)
   have HST:=hid (zbO kids j _ (List.getElem?_eq_getElem hjk));have HSL:=hid (zcF kids (j+1));obtain⟨_,y0,y1,y2⟩:=hKid wr HB.out;clear q0 q1 q2 hKid hq hb;go_wp2_with fail;refine(HSm.out wr HB.out).mono ?_;rintro e w3 ⟨b1,rfl,hv1,hB3⟩;have HV1:=hid hv1;have HB3:=hid (HB.out.trans (hB3.mono HB.out.size));have HO3:=hid (zak HOw.out hB3);obtain⟨_,y0,y1,y2⟩:=HKid.out w3 HB3.out;obtain⟨x0,x2⟩:=HX.out w3 HB3.out;clear hv1 hB3 HSm HOw
   cases b1 with
   | false=>
    have HM9:=hid (show n<=1000000 * szL (kids.take (j+1)) from by have a1:=HN9.out;have a2:=HST.out;omega)
    have HH:=hid (show ∀x (hx:x<j+1) (hk:x<kids.length),FsOk kids[x] M from fun x hx hkx=>by
     rcases Nat.lt_or_ge x j with h | h
     ·exact(HF.out x h hkx).mono (fun z hz=>hz)
     ·obtain rfl:x=j:=by omega
      exact fun c i k hl _=>absurd hl (HV1.out rfl c i k))
    clear y0 y1 y2;go_wp2;go_roundw
    case rel=>exact⟨j+1,n,vo,vc,M,rfl,by go_num,by omega,hn9,HN,HM9,HO3,HH,HB3⟩
    case measure=>simp[intOf];omega
   | true=>
    go_wp2_with fail;refine(HFs.out w3 HB3.out).mono ?_;rintro e w5 ⟨fo,fc,L,rfl,hI5,hF5,hL5,hB5⟩;have HI5:=hid hI5;have HF5:=hid hF5;have HB5:=hid (HB3.out.trans (hB5.mono HB3.out.size));have HO5:=hid (zak HO3.out hB5);have hl9:L.length<=2048000000:=by omega
    obtain⟨m,hm⟩:∃m,m=L.length:=⟨_,rfl⟩;have HM:=hid hm;have HL5:=hid hL5;rw[<- hm] at hl9⊢;have HM9:=hid (show n+m<=1000000 * szL (kids.take (j+1)) from by have a1:=HN9.out;have a2:=HST.out;have a3:=HL5.out;have a4:=HM.out;omega)
    have hnm:n+m<=2048000000:=by have a1:=HM9.out;have a2:=HSL.out;have a3:=HSz.out;omega
    clear hm hI5 hF5 hL5 hB5 y0 y1 y2 x0 x2;go_wp2_with (at_builtin;refine zbe rfl _ _ rfl w1.heap.size (.slice vo n vc) n M rfl HO5.out fo m fc L rfl HI5.out HM.out (by omega) HB5.out.size ?_;intro vo6 vc6 w6 ho6 hg6 _;have HO6:=hid ho6;have HB6:=hid (HB5.out.trans (zae HO5.out hg6 HB5.out.size));clear ho6 hg6;obtain⟨x0,x2⟩:=HX.out w6 HB6.out;obtain⟨_,y0,y1,y2⟩:=HKid.out w6 HB6.out)
    have HN6:=hid (show n+m=(M++L).length from by rw[List.length_append,<- HN.out,<- HM.out])
    have HH:=hid (show ∀x (hx:x<j+1) (hk:x<kids.length),FsOk kids[x] (M++L) from fun x hx hkx=>by
     rcases Nat.lt_or_ge x j with h | h
     ·exact(HF.out x h hkx).mono (fun z hz=>List.mem_append_left _ hz)
     ·obtain rfl:x=j:=by omega
      exact HF5.out.mono fun z hz=>List.mem_append_right _ hz)
    go_roundw
    case rel=>exact⟨j+1,(n+m),vo6,vc6,(M++L),rfl,by go_num,by omega,hnm,HN6,HM9,HO6,HH,HB6⟩
    case measure=>simp[intOf];omega
  ·have j1:¬(j:Int)<(kn:Int):=by omega
   have hje:j=kn:=by omega
   have HQ:=hid (show FsOk (.mk op cls kids) M from fs_kids op cls kids M HOP.out.1 HOP.out.2 fun p hp=>by obtain⟨x,hx,rfl⟩:=List.getElem_of_mem hp;exact HF.out x (by have:=HKN.out;omega) hx)
   have HNz:=hid (show M.length<=1000000 * szP (.mk op cls kids) from by
    have a1:=HN.out;have a2:=HN9.out;have a3:=zcF kids j;unfold szP;omega)
   clear hje;go_wp2;go_ret;exact⟨vo,vc,M,by rw[<- HN.out];rfl,zbS HOw.out HN.out,HQ.out,HNz.out,HBw.out⟩
theorem firsts_any:∀p:Pat,OkP p->szP p<=2048->∀(v0 v1 v2:Value) (w:World),RdP w p v0 v1 v2->Calls Tryz.prog 145 #[.agg #[v0,v1,v2]] w (FsQ p w):=by
 refine Pat.ind fun op cls kids ih hO hs v0 v1 v2 w hP=>?_
 unfold RdP at hP;unfold OkP at hO;unfold szP at hs;obtain⟨rfl,⟨lo,lc,rfl,hl1,hl2⟩,ko,kc,rfl,hk1,hk2,hk3⟩:=hP;have hI:∀p∈kids,∀(u0 u1 u2:Value) (W:World),RdP W p u0 u1 u2->Calls Tryz.prog 145 #[.agg #[u0,u1,u2]] W (FsQ p W):=fun p hp u0 u1 u2 W hW=>by
  obtain⟨j,hj,rfl⟩:=List.getElem_of_mem hp;have h1:=zbO kids j _ (List.getElem?_eq_getElem hj);have h2:=zcF kids (j+1);exact ih _ hp (hO.2.mem hp) (by omega) u0 u1 u2 W hW
 by_cases o0:op=0
 ·subst o0
  exact firsts_0 _ _ cls kids w
 by_cases o1:op=1
 ·subst o1
  exact firsts_1 lo lc _ cls kids w hl1 hl2
 by_cases o2:op=2
 ·subst o2
  exact firsts_2 lo ko cls.length lc kids.length kc cls kids w rfl hk2 hk3 hk1 hO.2 hs hI
 ·exact firsts_n op o0 o1 o2 lo ko cls.length lc kids.length kc cls kids w rfl hk2 hk1 hO.2 hs hI
end Pt
end
section
open Go.RowKit
namespace Pt
def FlQ (p:Pat) (w:World) (e:Ending) (w':World):Prop:=∃(vo:Option Addr) (vc:Nat) (L:List Int),e= .returned (.slice vo L.length vc)/\RdIX w' (fun b=>b<w.heap.size) vo L/\FsOk p L/\L.length<=2048000000/\Below w.heap.size w w'
theorem rdix_ownz {w:World} {B C n:Nat} {vo:Option Addr} {vc:Nat} {L:List Int} (h:w.ownsRow C 3 1 (.slice vo n vc) n (i64z L)) (hn:n=L.length) (hB:B<=C):RdIX w (fun b=>b<B) vo L:=fun k z hk=>by
 have hkl:=(List.getElem?_eq_some_iff.1 hk).1
 rcases h.2 with ⟨h1,h2⟩ | ⟨g,cap,cur,h1,h2,h3,_⟩
 ·omega
 ·cases h1
  refine⟨_,rfl,zab h3,fun h=>?_,?_⟩
  ·have h':g<B:=h
   omega
  ·rw[Addr.add_lit,Nat.zero_add]
   exact(zbu h).2.2.2 k _ (by unfold i64z;rw[List.getElem?_map,hk];rfl)
theorem zay {w:World} {B C n:Nat} {v:Value} {xs:List Value} (h:w.ownsRow C 3 1 v n xs) (hB:B<=C):w.ownsRow B 3 1 v n xs:=⟨h.1,h.2.imp (fun e=>e) fun⟨g,cap,cur,a1,a2,a3,a4⟩=>⟨g,cap,cur,a1,by omega,a3,a4⟩⟩
theorem rdi_put {M:List Int} {k:Nat} {z:Int} {F:List Int} (h1:∀x∈F,x∈M\/x=z) (x:Int) (hx:x∈F):x∈M.take k++[z]++M.drop k:=by
 rcases h1 x hx with h | h
 ·rw[<- List.take_append_drop k M,List.mem_append] at h
  rcases h with h | h
  ·exact List.mem_append_left _ (List.mem_append_left _ h)
  ·exact List.mem_append_right _ h
 ·exact List.mem_append_left _ (List.mem_append_right _ (by rw[h];simp))
theorem zdw (M:List Int) {k:Nat} (z:Int) (hk:k<=M.length):(M.take k++[z]++M.drop k).length=M.length+1:=by
 simp
 omega
theorem zbb {w:World} {q:Nat} {z:Int} (h:w.heap[q]? =some (.cells #[.int .i64 z] 3)):RdI w (some ⟨q,0,none⟩) [z]:=fun k y hk=>by
 cases k with
 | succ k=>simp at hk
 | zero=>
  cases hk
  refine⟨_,rfl,zab h,?_⟩;rw[Addr.add_lit,cell_of_row w q _ _ _ _ h]
  rfl
theorem zct (w:World):(w.alloc (.cells #[] 3)).ownsRow w.heap.size 3 1 (.slice (some ⟨w.heap.size,0,none⟩) 0 0) 0 (i64z []):=World.ownsRow_lit w #[] 0 (Nat.le_refl _) (by decide) (by simp)
theorem kept_q {w w':World} {v:Value} {q:Nat} {o:Obj} (h:w.heap[q]? =some o) (hg:w.grownBy w' v.ownBlock) (hne:v.ownBlock≠some q):w'.heap[q]? =some o:=(hg.block q (zab h) (fun e=>hne e.symm)).trans h
set_option maxRecDepth 100000 in
theorem zeX (p:Pat) (hO:OkP p) (hs:szP p<=2048) (u0 u1 u2:Value) (w:World) (hP:RdP w p u0 u1 u2):Calls Tryz.prog 107 #[.agg #[u0,u1,u2]] w (FlQ p w):=by
 have HG:=hid (fun(W:World) (h:Below w.heap.size w W)=>zcw p hO hs u0 u1 u2 W (RdP.below h _ _ _ _ hP))
 have HFs:=hid (fun(W:World) (h:Below w.heap.size w W)=>firsts_any p hO hs u0 u1 u2 W (RdP.below h _ _ _ _ hP))
 clear hP hO;go_enter Tryz.func107,Tryz.ntmps107;go_wp2_with fail;obtain⟨w1,hw1⟩:∃w1,w1=w.alloc (.cells #[u0,u1,u2] 105):=⟨_,rfl⟩;have hb1:Below w.heap.size w w1:=by rw[hw1];exact zaa
 have hN:w1.heap[w.heap.size]? =some (.cells #[u0,u1,u2] 105):=by rw[hw1];exact heap_alloc_new _ _
 rw[<- hw1];have HB1:=hid hb1;have HN:=hid hN;clear hw1 hb1 hN;refine(HG.out w1 HB1.out).mono ?_;rintro e w2 ⟨rfl,hB2⟩;have hN2:=(hB2.block _ (zab HN.out)).trans HN.out;have x0:w2.cell? ⟨w.heap.size,0,none⟩=some u0:=by rw[cell_of_row w2 _ 0 _ _ _ hN2];rfl
 have x1:w2.cell? ⟨w.heap.size,1,none⟩=some u1:=by rw[cell_of_row w2 _ 1 _ _ _ hN2];rfl
 have x2:w2.cell? ⟨w.heap.size,2,none⟩=some u2:=by rw[cell_of_row w2 _ 2 _ _ _ hN2];rfl
 have HB2:=hid (HB1.out.trans (hB2.mono HB1.out.size));clear hB2 hN2;go_wp2_with fail;refine(HFs.out w2 HB2.out).mono ?_;rintro e w3 ⟨lo,lc,L,rfl,hI,hF,hL9,hB3⟩;have HI:=hid hI;have HF:=hid hF;have HB3:=hid (HB2.out.trans (hB3.mono HB2.out.size));have hl9:L.length<=2048000000:=by omega
 obtain⟨n,hn⟩:∃n,n=L.length:=⟨_,rfl⟩;rw[<- hn] at hl9⊢;have HNn:=hid hn;clear hI hF hL9 hB3 hn x0 x1 x2 HG HFs hs;go_wp2;go_loopw [4,5] (fun x y wr=>∃(i m:Nat) (vo:Option Addr) (vc:Nat) (M:List Int),x= .slice vo m vc/\y= .int .i64 i/\i<=n/\m<=i/\Hid (m=M.length)/\Hid (wr.ownsRow w3.heap.size 3 1 (.slice vo m vc) m (i64z M))/\Hid (∀x∈L.take i,x∈M)/\Hid (Below w3.heap.size w3 wr)) (fun _ y _=>n - (intOf y).toNat)
 case atStart=>exact⟨0,0,none,0,[],rfl,rfl,Nat.zero_le _,Nat.le_refl _,hid rfl,hid (World.ownsRow_nil _ _ _ _),hid (by simp),hid (Below.refl _ _)⟩
 case round=>
  obtain⟨i,m,vo,vc,M,rfl,rfl,hi,hmi,HM,HOw,HIn,HBr0⟩:=hrel
  by_cases hlt:i<n
  ·have i0:(0:Int)<=(i:Int):=by omega
   have i1:(i:Int)<(n:Int):=by omega
   have hil:i<L.length:=by have:=HNn.out;omega
   obtain⟨ad,rfl,had,c1⟩:=HI.out.at hil;have HAd:=hid had;obtain⟨z,hz⟩:∃z,z=L[i]:=⟨_,rfl⟩;rw[<- hz] at c1;have HCz0:=hid c1;have HTk:=hid (show ∀x∈L.take (i+1),x∈M\/x=z from fun x hx=>by
    rw[List.take_succ_eq_append_getElem hil,List.mem_append] at hx
    rcases hx with hx | hx
    ·exact .inl (HIn.out x hx)
    ·exact .inr (by rw[hz];simpa using hx))
   have HRM0:=hid (zbS HOw.out HM.out);have hmc:m<=vc:=by
    rcases HOw.out.2 with ⟨h1,h2⟩ | ⟨g,cap,cur,h1,_,_,h4,_⟩
    ·omega
    ·cases h1;exact h4
   clear hz c1 had;obtain⟨wo,rfl⟩:∃wo,wo=wr:=⟨_,rfl⟩;go_wp2;go_loopw [6] (fun y wr2=>∃k:Nat,y= .int .i64 k/\k<=m/\Hid (Below wo.heap.size wo wr2)) (fun y _=>m - (intOf y).toNat)
   case atStart=>exact⟨0,rfl,Nat.zero_le _,hid (Below.refl _ _)⟩
   case round=>
    obtain⟨k,rfl,hk,HB⟩:=hrel;have k0:(0:Int)<=(k:Int):=by omega
    have HBr:=hid (HBr0.out.trans (HB.out.mono HBr0.out.size));have c2:wr.cell? (ad.add i)=some (.int .i64 z):=(HBr.out.cell (p:=ad.add i) (by rw[add_blk];exact HAd.out)).trans HCz0.out
    have HCz:=hid c2
    by_cases hkm:k<m
    ·have k1:(k:Int)<(m:Int):=by omega
     have hkM:k<M.length:=by have:=HM.out;omega
     obtain⟨a2,hvo,h2,c3⟩:=(HRM0.out.below HB.out).at hkM;obtain⟨g,hg⟩:∃g,vo=some ⟨g,0,none⟩:=by
      rcases HOw.out.2 with ⟨h1,h2⟩ | ⟨g,cap,cur,h1,_⟩
      ·omega
      ·cases h1;exact⟨g,rfl⟩
     subst hg
     cases hvo
     have hgw:g<wo.heap.size:=(zbu HOw.out).2.1.elim fun cur h=>zab h
     rw[Addr.add_lit,Nat.zero_add] at c3;obtain⟨y,hy⟩:∃y,y=M[k]:=⟨_,rfl⟩;rw[<- hy] at c3;have HY:=hid hy;clear hy h2
     by_cases hyz:y<z
     ·go_wp2_with fail
      go_quiet (fail);have HBd:=hid (show Below wo.heap.size wo (wr.drewN nq) from⟨HB.out.os,HB.out.tape,HB.out.output,HB.out.size,HB.out.block⟩)
      go_wp2;go_roundw
      case rel=>exact⟨k+1,by go_num,by omega,HBd⟩
      case measure=>simp[intOf];omega
     ·have d1:decide (y<z)=false:=decide_eq_false hyz
      go_wp2_with fail;go_quiet (fail);obtain⟨wq,hwq⟩:∃W,W=wr.drewN nq:=⟨_,rfl⟩;have HBq:=hid (show Below wo.heap.size wo wq by rw[hwq];exact⟨HB.out.os,HB.out.tape,HB.out.output,HB.out.size,HB.out.block⟩)
      rw[<- hwq];clear hwq;have c4:wq.cell? (ad.add i)=some (.int .i64 z):=((HBr0.out.trans (HBq.out.mono HBr0.out.size)).cell (p:=ad.add i) (by rw[add_blk];exact HAd.out)).trans HCz0.out
      have c5:wq.cell? ⟨g,k,none⟩=some (.int .i64 y):=(World.cell?_of_block (a:=⟨g,k,none⟩) (by rw[HBq.out.block g hgw,HB.out.block g hgw])).trans c3
      by_cases hyz2:y=z
      ·subst hyz2
       have HPut:=hid (show ∀x∈L.take (i+1),x∈M from fun x hx=>by
        rcases HTk.out x hx with h | h
        ·exact h
        ·rw[h,HY.out];exact List.getElem_mem _)
       have b1:(y==y)=true:=by simp
       go_wp2_with fail;go_quiet (fail);obtain⟨wx,hwq⟩:∃W,W=wq.drewN nq:=⟨_,rfl⟩;have HBx:=hid (show Below wo.heap.size wo wx by rw[hwq];exact⟨HBq.out.os,HBq.out.tape,HBq.out.output,HBq.out.size,HBq.out.block⟩)
       rw[<- hwq];clear hwq;go_wp2;go_roundw
       case rel=>exact⟨i+1,m,some ⟨g,0,none⟩,vc,M,rfl,by go_num,by omega,by omega,HM,hid (zak HOw.out HBx.out),HPut,hid (HBr0.out.trans (HBx.out.mono HBr0.out.size))⟩
       case measure=>simp[intOf];omega
      ·have b1:(y==z)=false:=beq_eq_false_iff_ne.2 hyz2
       go_wp2_with fail;go_quiet (fail);obtain⟨wx,hwq⟩:∃W,W=wq.drewN nq:=⟨_,rfl⟩;have HBx:=hid (show Below wo.heap.size wo wx by rw[hwq];exact⟨HBq.out.os,HBq.out.tape,HBq.out.output,HBq.out.size,HBq.out.block⟩)
       rw[<- hwq];clear hwq;go_wp2_with fail;have HBr:=hid (HBr0.out.trans (HBx.out.mono HBr0.out.size));have HCz:=hid (show wx.cell? (ad.add i)=some (.int .i64 z) from(HBr.out.cell (p:=ad.add i) (by rw[add_blk];exact HAd.out)).trans HCz0.out)
       have HRM:=hid (HRM0.out.below HBx.out);have HPut:=hid (fun(x:Int) (hx:x∈L.take (i+1))=>rdi_put (M:=M) (k:=k) HTk.out x hx)
       have HLT:=hid (show k=(M.take k).length from by rw[List.length_take,<- HM.out];omega)
       have HLD:=hid (show m - k=(M.drop k).length from by rw[List.length_drop,<- HM.out])
       have k3:(k:Int)<=(m:Int):=by omega
       have k4:(m:Int)<=(vc:Int):=by omega
       have k5:(k:Int)<=(vc:Int):=by omega
       have k6:¬vc<k:=by omega
       clear HBq c4 c5 c3 HY b1 hyz hyz2 d1 k1 HTk HCz0;obtain⟨v0,hv0⟩:∃v0,v0=wx.drew:=⟨_,rfl⟩;have HBv:=hid (show Below wx.heap.size wx v0 by rw[hv0];exact(Below.refl _ _).drew)
       have HB0:=hid (Below.refl v0.heap.size v0);have HT:=hid (fun(W:World) (h:Below v0.heap.size v0 W)=>show W.cell? (ad.add i)=some (.int .i64 z)/\True from⟨(((HBv.out.trans (h.mono HBv.out.size))).cell (p:=ad.add i) (by rw[add_blk];exact Nat.lt_of_lt_of_le HAd.out (HBr.out.size))).trans HCz.out,trivial⟩)
       have HB0s:=hid (show w3.heap.size<=v0.heap.size from Nat.le_trans HBr.out.size HBv.out.size)
       have HR0:=hid (fun(W:World) (h:Below v0.heap.size v0 W)=>show RdI W (some ⟨g,0,none⟩) M from HRM.out.below (HBv.out.trans (h.mono HBv.out.size)))
       have HRT:=hid (fun(W:World) (h:Below v0.heap.size v0 W)=>rdi_take (n:=k) (HR0.out W h))
       have HRD0:=hid (fun(ao:Option Addr) (hao:ao=if vc=k then some ⟨g,0,none⟩ else some ⟨g,k,none⟩) (W:World) (h:Below v0.heap.size v0 W)=>show RdI W ao (M.drop k) from by
        rw[hao]
        split
        ·rw[List.drop_of_length_le (by have:=HM.out;omega)];exact zdv _ _
        ·have hd:=rdi_drop (n:=k) (HR0.out W h)
         rw[Nat.zero_add] at hd;exact hd)
       refine zbj (.one 1 1 (.one 2 1 (.one 3 1 (.one 5 1 (.one 6 1 (.one 7 1 (.one 8 1 (.one 11 1 (.one 12 1 (.one 13 1 (.two 0 9 (.two 4 9 (.one 9 2 (.one 10 2 (.one 14 2 (.one 15 1 .nil)))) (.one 4 2 (.one 10 2 (.one 14 2 (.one 15 1 .nil))))) (.one 0 2 (.one 4 2 (.one 10 2 (.one 14 2 (.one 15 1 .nil)))))))))))))))) (fun _=>True) (fun W=>W.cell? (ad.add i)=some (.int .i64 z)/\True) (fun _=>false) (by kernel_rfl) (by kernel_rfl) (fun j hj=>by cases hj) rfl (by kernel_rfl) trivial (HT.out _ (by rw[hv0];exact Below.refl _ _)) ?_
       rw[<- hv0];clear hv0
       iterate 10 (refine zbp ?_ rfl (by kernel_rfl) (fun w' hS=>?_) ?_;(rotate_left;(obtain⟨s1,_⟩:=hS;go_simp;with_reducible rfl);rotate_left))
       obtain⟨ao,hao⟩:∃ao,ao=(if vc=k then some (⟨g,0,none⟩:Addr) else some ⟨g,k,none⟩):=⟨_,rfl⟩;have HRD:=hid (HRD0.out ao hao)
       try rw[<- hao]
       clear hao HRD0;refine zbB ?x0 ?x9
       case x0=>
        refine zaS rfl (by kernel_rfl) fun KK hKK=>?_
        go_simp;have HB1:=hid (HB0.out.trans ((zaa (w:=v0) (o:=.cells #[] 3)).mono HB0.out.size));refine hKK _ _ (fun _=>trivial) (HT.out _ HB1.out) ?_
        clear hKK KK;obtain⟨v1,hv1⟩:∃W,W=v0.alloc (.cells #[] 3):=⟨_,rfl⟩;rw[<- hv1] at HB1;rw[<- hv1];have HZ1:=hid (show v1.heap.size=v0.heap.size+1 by rw[hv1];simp)
        have HW1:=hid (show v1.ownsRow v0.heap.size 3 1 (.slice (some ⟨v0.heap.size,0,none⟩) 0 0) 0 (i64z []) by rw[hv1];exact zay (zct v0) HB0.out.size)
        have HK1:=hid (show Below v0.heap.size v0 v1 by rw[hv1];exact zaa)
        clear hv1;refine zbB ?x04 ?x09
        case x04=>
         refine zaS rfl (by kernel_rfl) fun KK hKK=>?_
         refine zau _ _ rfl v0.heap.size (.slice (some ⟨v0.heap.size,0,none⟩) 0 0) 0 [] rfl HW1.out (some ⟨g,0,none⟩) k vc (M.take k) rfl (HRT.out _ HB1.out) HLT.out (by omega) HB1.out.size ?_
         intro vo2 vc2 v2 o2 gr2 hb2;rw[Nat.zero_add] at o2 hb2⊢;have HB2:=hid (HB1.out.trans (zae HW1.out gr2 HB1.out.size));have HW2:=hid o2;have HG2:=hid gr2;have HBk2:=hid hb2;refine hKK _ _ (fun _=>trivial) (HT.out _ HB2.out) ?_
         clear hKK KK o2 gr2 hb2;refine zap rfl (by kernel_rfl) fun KK hKK=>?_
         go_simp;have HB3:=hid (HB2.out.trans ((zaa (w:=v2) (o:=.cells #[.int .i64 z] 3)).mono HB2.out.size));refine hKK _ _ (fun _=>trivial) (HT.out _ HB3.out) ?_
         clear hKK KK;obtain⟨v3,hv3⟩:∃W,W=v2.alloc (.cells #[.int .i64 z] 3):=⟨_,rfl⟩;rw[<- hv3] at HB3;rw[<- hv3];have HZ3:=hid (show v3.heap.size=v2.heap.size+1 by rw[hv3];simp)
         have HQ3:=hid (show v3.heap[v2.heap.size]? =some (.cells #[.int .i64 z] 3) by rw[hv3];exact heap_alloc_new _ _)
         have HK3:=hid (show Below v2.heap.size v2 v3 by rw[hv3];exact zaa)
         clear hv3;have HW3:=hid (zak HW2.out HK3.out);refine zap rfl (by kernel_rfl) fun KK hKK=>?_
         refine zau _ _ rfl v0.heap.size (.slice vo2 k vc2) k ([]++M.take k) rfl HW3.out (some ⟨v2.heap.size,0,none⟩) 1 1 [z] rfl (zbb HQ3.out) rfl (by omega) HB3.out.size ?_
         intro vo4 vc4 v4 o4 gr4 hb4;have HB4:=hid (HB3.out.trans (zae HW3.out gr4 HB3.out.size));have HW4:=hid o4;have HG4:=hid gr4;have HBk4:=hid hb4;refine hKK _ _ (fun _=>trivial) (HT.out _ HB4.out) ?_
         clear hKK KK o4 gr4 hb4;refine zap rfl (by kernel_rfl) fun KK hKK=>?_
         refine zau _ _ rfl v0.heap.size (.slice vo4 (k+1) vc4) (k+1) ([]++M.take k++[z]) rfl HW4.out (ao) (m - k) (vc - k) (M.drop k) rfl (HRD.out _ HB4.out) HLD.out (by omega) HB4.out.size ?_
         intro vo5 vc5 v5 o5 gr5 hb5;have HB5:=hid (HB4.out.trans (zae HW4.out gr5 HB4.out.size));have HW5:=hid o5;have HG5:=hid gr5;have HBk5:=hid hb5;refine hKK _ _ (fun _=>trivial) (HT.out _ HB5.out) ?_
         clear hKK KK o5 gr5 hb5;refine zbp ?_ rfl (by kernel_rfl) (fun w' hS=>?_) ?_;(rotate_left;(go_simp;with_reducible rfl);rotate_left)
         refine zaW (NoPanic.normal ?_);have HFin:=hid (show v5.ownsRow w3.heap.size 3 1 (.slice vo5 (m+1) vc5) (m+1) (i64z (M.take k++[z]++M.drop k)) by
          have h1:=zay HW5.out HB0s.out;rw[show k+1+(m - k)=m+1 by omega,List.nil_append] at h1
          exact h1)
         have HFb:=hid (HBr.out.trans (HBv.out.trans (HB5.out.mono HBv.out.size) |>.mono HBr.out.size))
         have em:k+1+(m - k)=m+1:=by omega
         rw[em];clear em;go_wp2;go_roundw
         case rel=>exact⟨i+1,m+1,vo5,vc5,M.take k++[z]++M.drop k,rfl,by go_num,by omega,by omega,hid (by rw[zdw M z (by rw[<- HM.out];exact hk),<- HM.out]),HFin,HPut,HFb⟩
         case measure=>simp[intOf];omega
        case x09=>
         refine zaS rfl (by kernel_rfl) fun KK hKK=>?_
         go_simp;have HB2:=hid (HB1.out.trans ((zaa (w:=v1) (o:=.cells #[.int .i64 z] 3)).mono HB1.out.size));refine hKK _ _ (fun _=>trivial) (HT.out _ HB2.out) ?_
         clear hKK KK;obtain⟨v2,hv2⟩:∃W,W=v1.alloc (.cells #[.int .i64 z] 3):=⟨_,rfl⟩;rw[<- hv2] at HB2;rw[<- hv2];have HZ2:=hid (show v2.heap.size=v1.heap.size+1 by rw[hv2];simp)
         have HQ2:=hid (show v2.heap[v1.heap.size]? =some (.cells #[.int .i64 z] 3) by rw[hv2];exact heap_alloc_new _ _)
         have HK2:=hid (show Below v1.heap.size v1 v2 by rw[hv2];exact zaa)
         clear hv2;have HW2:=hid (zak HW1.out HK2.out);refine zap rfl (by kernel_rfl) fun KK hKK=>?_
         refine zau _ _ rfl v0.heap.size (.slice (some ⟨v0.heap.size,0,none⟩) 0 0) 0 [] rfl HW2.out (some ⟨g,0,none⟩) k vc (M.take k) rfl (HRT.out _ HB2.out) HLT.out (by omega) HB2.out.size ?_
         intro vo3 vc3 v3 o3 gr3 hb3;rw[Nat.zero_add] at o3 hb3⊢;have HB3:=hid (HB2.out.trans (zae HW2.out gr3 HB2.out.size));have HW3:=hid o3;have HG3:=hid gr3;have HBk3:=hid hb3;have HQ3:=hid (kept_q HQ2.out gr3 (by simp[Value.ownBlock];have:=HZ2.out;have:=HZ1.out;omega))
         refine hKK _ _ (fun _=>trivial) (HT.out _ HB3.out) ?_
         clear hKK KK o3 gr3 hb3;refine zap rfl (by kernel_rfl) fun KK hKK=>?_
         refine zau _ _ rfl v0.heap.size (.slice vo3 k vc3) k ([]++M.take k) rfl HW3.out (some ⟨v1.heap.size,0,none⟩) 1 1 [z] rfl (zbb HQ3.out) rfl (by omega) HB3.out.size ?_
         intro vo4 vc4 v4 o4 gr4 hb4;have HB4:=hid (HB3.out.trans (zae HW3.out gr4 HB3.out.size));have HW4:=hid o4;have HG4:=hid gr4;have HBk4:=hid hb4;refine hKK _ _ (fun _=>trivial) (HT.out _ HB4.out) ?_
         clear hKK KK o4 gr4 hb4;refine zap rfl (by kernel_rfl) fun KK hKK=>?_
         refine zau _ _ rfl v0.heap.size (.slice vo4 (k+1) vc4) (k+1) ([]++M.take k++[z]) rfl HW4.out (ao) (m - k) (vc - k) (M.drop k) rfl (HRD.out _ HB4.out) HLD.out (by omega) HB4.out.size ?_
         intro vo5 vc5 v5 o5 gr5 hb5;have HB5:=hid (HB4.out.trans (zae HW4.out gr5 HB4.out.size));have HW5:=hid o5;have HG5:=hid gr5;have HBk5:=hid hb5;refine hKK _ _ (fun _=>trivial) (HT.out _ HB5.out) ?_
         clear hKK KK o5 gr5 hb5;refine zbp ?_ rfl (by kernel_rfl) (fun w' hS=>?_) ?_;(rotate_left;(go_simp;with_reducible rfl);rotate_left)
         refine zaW (NoPanic.normal ?_);have HFin:=hid (show v5.ownsRow w3.heap.size 3 1 (.slice vo5 (m+1) vc5) (m+1) (i64z (M.take k++[z]++M.drop k)) by
          have h1:=zay HW5.out HB0s.out;rw[show k+1+(m - k)=m+1 by omega,List.nil_append] at h1
          exact h1)
         have HFb:=hid (HBr.out.trans (HBv.out.trans (HB5.out.mono HBv.out.size) |>.mono HBr.out.size))
         have em:k+1+(m - k)=m+1:=by omega
         rw[em];clear em;go_wp2;go_roundw
         case rel=>exact⟨i+1,m+1,vo5,vc5,M.take k++[z]++M.drop k,rfl,by go_num,by omega,by omega,hid (by rw[zdw M z (by rw[<- HM.out];exact hk),<- HM.out]),HFin,HPut,HFb⟩
         case measure=>simp[intOf];omega
       case x9=>
        refine zaS rfl (by kernel_rfl) fun KK hKK=>?_
        go_simp;have HB1:=hid (HB0.out.trans ((zaa (w:=v0) (o:=.cells #[.int .i64 z] 3)).mono HB0.out.size));refine hKK _ _ (fun _=>trivial) (HT.out _ HB1.out) ?_
        clear hKK KK;obtain⟨v1,hv1⟩:∃W,W=v0.alloc (.cells #[.int .i64 z] 3):=⟨_,rfl⟩;rw[<- hv1] at HB1;rw[<- hv1];have HZ1:=hid (show v1.heap.size=v0.heap.size+1 by rw[hv1];simp)
        have HQ1:=hid (show v1.heap[v0.heap.size]? =some (.cells #[.int .i64 z] 3) by rw[hv1];exact heap_alloc_new _ _)
        have HK1:=hid (show Below v0.heap.size v0 v1 by rw[hv1];exact zaa)
        clear hv1;refine zap rfl (by kernel_rfl) fun KK hKK=>?_
        go_simp;have HB2:=hid (HB1.out.trans ((zaa (w:=v1) (o:=.cells #[] 3)).mono HB1.out.size));refine hKK _ _ (fun _=>trivial) (HT.out _ HB2.out) ?_
        clear hKK KK;obtain⟨v2,hv2⟩:∃W,W=v1.alloc (.cells #[] 3):=⟨_,rfl⟩;rw[<- hv2] at HB2;rw[<- hv2];have HZ2:=hid (show v2.heap.size=v1.heap.size+1 by rw[hv2];simp)
        have HW2:=hid (show v2.ownsRow v0.heap.size 3 1 (.slice (some ⟨v1.heap.size,0,none⟩) 0 0) 0 (i64z []) by rw[hv2];exact zay (zct v1) HB1.out.size)
        have HK2:=hid (show Below v1.heap.size v1 v2 by rw[hv2];exact zaa)
        clear hv2;have HQ2:=hid ((HK2.out.block _ (zab HQ1.out)).trans HQ1.out);refine zap rfl (by kernel_rfl) fun KK hKK=>?_
        refine zau _ _ rfl v0.heap.size (.slice (some ⟨v1.heap.size,0,none⟩) 0 0) 0 [] rfl HW2.out (some ⟨g,0,none⟩) k vc (M.take k) rfl (HRT.out _ HB2.out) HLT.out (by omega) HB2.out.size ?_
        intro vo3 vc3 v3 o3 gr3 hb3;rw[Nat.zero_add] at o3 hb3⊢;have HB3:=hid (HB2.out.trans (zae HW2.out gr3 HB2.out.size));have HW3:=hid o3;have HG3:=hid gr3;have HBk3:=hid hb3;have HQ3:=hid (kept_q HQ2.out gr3 (by simp[Value.ownBlock];have:=HZ2.out;have:=HZ1.out;omega))
        refine hKK _ _ (fun _=>trivial) (HT.out _ HB3.out) ?_
        clear hKK KK o3 gr3 hb3;refine zap rfl (by kernel_rfl) fun KK hKK=>?_
        refine zau _ _ rfl v0.heap.size (.slice vo3 k vc3) k ([]++M.take k) rfl HW3.out (some ⟨v0.heap.size,0,none⟩) 1 1 [z] rfl (zbb HQ3.out) rfl (by omega) HB3.out.size ?_
        intro vo4 vc4 v4 o4 gr4 hb4;have HB4:=hid (HB3.out.trans (zae HW3.out gr4 HB3.out.size));have HW4:=hid o4;have HG4:=hid gr4;have HBk4:=hid hb4;refine hKK _ _ (fun _=>trivial) (HT.out _ HB4.out) ?_
        clear hKK KK o4 gr4 hb4;refine zap rfl (by kernel_rfl) fun KK hKK=>?_
        refine zau _ _ rfl v0.heap.size (.slice vo4 (k+1) vc4) (k+1) ([]++M.take k++[z]) rfl HW4.out (ao) (m - k) (vc - k) (M.drop k) rfl (HRD.out _ HB4.out) HLD.out (by omega) HB4.out.size ?_
        intro vo5 vc5 v5 o5 gr5 hb5;have HB5:=hid (HB4.out.trans (zae HW4.out gr5 HB4.out.size));have HW5:=hid o5;have HG5:=hid gr5;have HBk5:=hid hb5;refine hKK _ _ (fun _=>trivial) (HT.out _ HB5.out) ?_
        clear hKK KK o5 gr5 hb5;refine zbp ?_ rfl (by kernel_rfl) (fun w' hS=>?_) ?_;(rotate_left;(go_simp;with_reducible rfl);rotate_left)
        refine zaW (NoPanic.normal ?_);have HFin:=hid (show v5.ownsRow w3.heap.size 3 1 (.slice vo5 (m+1) vc5) (m+1) (i64z (M.take k++[z]++M.drop k)) by
         have h1:=zay HW5.out HB0s.out;rw[show k+1+(m - k)=m+1 by omega,List.nil_append] at h1
         exact h1)
        have HFb:=hid (HBr.out.trans (HBv.out.trans (HB5.out.mono HBv.out.size) |>.mono HBr.out.size))
        have em:k+1+(m - k)=m+1:=by omega
        rw[em];clear em;go_wp2;go_roundw
        case rel=>exact⟨i+1,m+1,vo5,vc5,M.take k++[z]++M.drop k,rfl,by go_num,by omega,by omega,hid (by rw[zdw M z (by rw[<- HM.out];exact hk),<- HM.out]),HFin,HPut,HFb⟩
        case measure=>simp[intOf];omega
    ·have k1:¬(k:Int)<(m:Int):=by omega
     have hkm2:k=m:=by omega
     rcases HOw.out.2 with ⟨h1,h2⟩ | ⟨g,cap,cur,h1,h2,h3,h4,h5⟩
     ·cases h1
      obtain rfl:k=0:=by omega
      obtain rfl:M=[]:=List.length_eq_zero_iff.1 HM.out.symm;clear hkm2 HRM0 HOw h2;go_wp2_with fail;go_quiet (fail);obtain⟨wq,hwq⟩:∃W,W=wr.drewN nq:=⟨_,rfl⟩;have HBq:=hid (show Below wo.heap.size wo wq by rw[hwq];exact⟨HB.out.os,HB.out.tape,HB.out.output,HB.out.size,HB.out.block⟩)
      rw[<- hwq];clear hwq;go_wp2_with fail;go_quiet (fail);obtain⟨wx,hwq⟩:∃W,W=wq.drewN nq:=⟨_,rfl⟩;have HBx:=hid (show Below wo.heap.size wo wx by rw[hwq];exact⟨HBq.out.os,HBq.out.tape,HBq.out.output,HBq.out.size,HBq.out.block⟩)
      rw[<- hwq];clear hwq;go_wp2_with fail;have HBr:=hid (HBr0.out.trans (HBx.out.mono HBr0.out.size));have HCz:=hid (show wx.cell? (ad.add i)=some (.int .i64 z) from(HBr.out.cell (p:=ad.add i) (by rw[add_blk];exact HAd.out)).trans HCz0.out)
      have HPut:=hid (fun(x:Int) (hx:x∈L.take (i+1))=>rdi_put (M:=[]) (k:=0) HTk.out x hx)
      have HLT:=hid (show 0=(([]:List Int).take 0).length from rfl)
      have HLD:=hid (show 0 - 0=(([]:List Int).drop 0).length from rfl)
      clear HBq k1 HTk HCz0;obtain⟨v0,hv0⟩:∃v0,v0=wx.drew:=⟨_,rfl⟩;have HBv:=hid (show Below wx.heap.size wx v0 by rw[hv0];exact(Below.refl _ _).drew)
      have HB0:=hid (Below.refl v0.heap.size v0);have HT:=hid (fun(W:World) (h:Below v0.heap.size v0 W)=>show W.cell? (ad.add i)=some (.int .i64 z)/\True from⟨(((HBv.out.trans (h.mono HBv.out.size))).cell (p:=ad.add i) (by rw[add_blk];exact Nat.lt_of_lt_of_le HAd.out (HBr.out.size))).trans HCz.out,trivial⟩)
      have HB0s:=hid (show w3.heap.size<=v0.heap.size from Nat.le_trans HBr.out.size HBv.out.size)
      have HRT:=hid (fun(W:World) (_:Below v0.heap.size v0 W)=>show RdI W none (([]:List Int).take 0) from by rw[List.take_nil];exact zdv _ _)
      have HRD:=hid (fun(W:World) (_:Below v0.heap.size v0 W)=>show RdI W none (([]:List Int).drop 0) from by rw[List.drop_nil];exact zdv _ _)
      refine zbj (.one 1 1 (.one 2 1 (.one 3 1 (.one 5 1 (.one 6 1 (.one 7 1 (.one 8 1 (.one 11 1 (.one 12 1 (.one 13 1 (.two 0 9 (.two 4 9 (.one 9 2 (.one 10 2 (.one 14 2 (.one 15 1 .nil)))) (.one 4 2 (.one 10 2 (.one 14 2 (.one 15 1 .nil))))) (.one 0 2 (.one 4 2 (.one 10 2 (.one 14 2 (.one 15 1 .nil)))))))))))))))) (fun _=>True) (fun W=>W.cell? (ad.add i)=some (.int .i64 z)/\True) (fun _=>false) (by kernel_rfl) (by kernel_rfl) (fun j hj=>by cases hj) rfl (by kernel_rfl) trivial (HT.out _ (by rw[hv0];exact Below.refl _ _)) ?_
      rw[<- hv0];clear hv0
      iterate 10 (refine zbp ?_ rfl (by kernel_rfl) (fun w' hS=>?_) ?_;(rotate_left;(obtain⟨s1,_⟩:=hS;go_simp;with_reducible rfl);rotate_left))
      refine zbB ?x0 ?x9
      case x0=>
       refine zaS rfl (by kernel_rfl) fun KK hKK=>?_
       go_simp;have HB1:=hid (HB0.out.trans ((zaa (w:=v0) (o:=.cells #[] 3)).mono HB0.out.size));refine hKK _ _ (fun _=>trivial) (HT.out _ HB1.out) ?_
       clear hKK KK;obtain⟨v1,hv1⟩:∃W,W=v0.alloc (.cells #[] 3):=⟨_,rfl⟩;rw[<- hv1] at HB1;rw[<- hv1];have HZ1:=hid (show v1.heap.size=v0.heap.size+1 by rw[hv1];simp)
       have HW1:=hid (show v1.ownsRow v0.heap.size 3 1 (.slice (some ⟨v0.heap.size,0,none⟩) 0 0) 0 (i64z []) by rw[hv1];exact zay (zct v0) HB0.out.size)
       have HK1:=hid (show Below v0.heap.size v0 v1 by rw[hv1];exact zaa)
       clear hv1;refine zbB ?x04 ?x09
       case x04=>
        refine zaS rfl (by kernel_rfl) fun KK hKK=>?_
        refine zau _ _ rfl v0.heap.size (.slice (some ⟨v0.heap.size,0,none⟩) 0 0) 0 [] rfl HW1.out (none) 0 0 (([]:List Int).take 0) rfl (HRT.out _ HB1.out) HLT.out (by omega) HB1.out.size ?_
        intro vo2 vc2 v2 o2 gr2 hb2;rw[Nat.zero_add] at o2 hb2⊢;have HB2:=hid (HB1.out.trans (zae HW1.out gr2 HB1.out.size));have HW2:=hid o2;have HG2:=hid gr2;have HBk2:=hid hb2;refine hKK _ _ (fun _=>trivial) (HT.out _ HB2.out) ?_
        clear hKK KK o2 gr2 hb2;refine zap rfl (by kernel_rfl) fun KK hKK=>?_
        go_simp;have HB3:=hid (HB2.out.trans ((zaa (w:=v2) (o:=.cells #[.int .i64 z] 3)).mono HB2.out.size));refine hKK _ _ (fun _=>trivial) (HT.out _ HB3.out) ?_
        clear hKK KK;obtain⟨v3,hv3⟩:∃W,W=v2.alloc (.cells #[.int .i64 z] 3):=⟨_,rfl⟩;rw[<- hv3] at HB3;rw[<- hv3];have HZ3:=hid (show v3.heap.size=v2.heap.size+1 by rw[hv3];simp)
        have HQ3:=hid (show v3.heap[v2.heap.size]? =some (.cells #[.int .i64 z] 3) by rw[hv3];exact heap_alloc_new _ _)
        have HK3:=hid (show Below v2.heap.size v2 v3 by rw[hv3];exact zaa)
        clear hv3;have HW3:=hid (zak HW2.out HK3.out);refine zap rfl (by kernel_rfl) fun KK hKK=>?_
        refine zau _ _ rfl v0.heap.size (.slice vo2 0 vc2) 0 ([]++([]:List Int).take 0) rfl HW3.out (some ⟨v2.heap.size,0,none⟩) 1 1 [z] rfl (zbb HQ3.out) rfl (by omega) HB3.out.size ?_
        intro vo4 vc4 v4 o4 gr4 hb4;have HB4:=hid (HB3.out.trans (zae HW3.out gr4 HB3.out.size));have HW4:=hid o4;have HG4:=hid gr4;have HBk4:=hid hb4;refine hKK _ _ (fun _=>trivial) (HT.out _ HB4.out) ?_
        clear hKK KK o4 gr4 hb4;refine zap rfl (by kernel_rfl) fun KK hKK=>?_
        refine zau _ _ rfl v0.heap.size (.slice vo4 (0+1) vc4) (0+1) ([]++([]:List Int).take 0++[z]) rfl HW4.out (none) (0 - 0) 0 (([]:List Int).drop 0) rfl (HRD.out _ HB4.out) HLD.out (by omega) HB4.out.size ?_
        intro vo5 vc5 v5 o5 gr5 hb5;have HB5:=hid (HB4.out.trans (zae HW4.out gr5 HB4.out.size));have HW5:=hid o5;have HG5:=hid gr5;have HBk5:=hid hb5;refine hKK _ _ (fun _=>trivial) (HT.out _ HB5.out) ?_
        clear hKK KK o5 gr5 hb5;refine zbp ?_ rfl (by kernel_rfl) (fun w' hS=>?_) ?_;(rotate_left;(go_simp;with_reducible rfl);rotate_left)
        refine zaW (NoPanic.normal ?_);have HFin:=hid (show v5.ownsRow w3.heap.size 3 1 (.slice vo5 (0+1) vc5) (0+1) (i64z (([]:List Int).take 0++[z]++([]:List Int).drop 0)) by
         have h1:=zay HW5.out HB0s.out;rw[show 0+1+(0 - 0)=0+1 by omega,List.nil_append] at h1
         exact h1)
        have HFb:=hid (HBr.out.trans (HBv.out.trans (HB5.out.mono HBv.out.size) |>.mono HBr.out.size))
        have em:0+1+(0 - 0)=0+1:=by omega
        rw[em];clear em;go_wp2;go_roundw
        case rel=>exact⟨i+1,0+1,vo5,vc5,([]:List Int).take 0++[z]++([]:List Int).drop 0,rfl,by go_num,by omega,by omega,hid (rfl),HFin,HPut,HFb⟩
        case measure=>simp[intOf];omega
       case x09=>
        refine zaS rfl (by kernel_rfl) fun KK hKK=>?_
        go_simp;have HB2:=hid (HB1.out.trans ((zaa (w:=v1) (o:=.cells #[.int .i64 z] 3)).mono HB1.out.size));refine hKK _ _ (fun _=>trivial) (HT.out _ HB2.out) ?_
        clear hKK KK;obtain⟨v2,hv2⟩:∃W,W=v1.alloc (.cells #[.int .i64 z] 3):=⟨_,rfl⟩;rw[<- hv2] at HB2;rw[<- hv2];have HZ2:=hid (show v2.heap.size=v1.heap.size+1 by rw[hv2];simp)
        have HQ2:=hid (show v2.heap[v1.heap.size]? =some (.cells #[.int .i64 z] 3) by rw[hv2];exact heap_alloc_new _ _)
        have HK2:=hid (show Below v1.heap.size v1 v2 by rw[hv2];exact zaa)
        clear hv2;have HW2:=hid (zak HW1.out HK2.out);refine zap rfl (by kernel_rfl) fun KK hKK=>?_
        refine zau _ _ rfl v0.heap.size (.slice (some ⟨v0.heap.size,0,none⟩) 0 0) 0 [] rfl HW2.out (none) 0 0 (([]:List Int).take 0) rfl (HRT.out _ HB2.out) HLT.out (by omega) HB2.out.size ?_
        intro vo3 vc3 v3 o3 gr3 hb3;rw[Nat.zero_add] at o3 hb3⊢;have HB3:=hid (HB2.out.trans (zae HW2.out gr3 HB2.out.size));have HW3:=hid o3;have HG3:=hid gr3;have HBk3:=hid hb3;have HQ3:=hid (kept_q HQ2.out gr3 (by simp[Value.ownBlock];have:=HZ2.out;have:=HZ1.out;omega))
        refine hKK _ _ (fun _=>trivial) (HT.out _ HB3.out) ?_
        clear hKK KK o3 gr3 hb3;refine zap rfl (by kernel_rfl) fun KK hKK=>?_
        refine zau _ _ rfl v0.heap.size (.slice vo3 0 vc3) 0 ([]++([]:List Int).take 0) rfl HW3.out (some ⟨v1.heap.size,0,none⟩) 1 1 [z] rfl (zbb HQ3.out) rfl (by omega) HB3.out.size ?_
        intro vo4 vc4 v4 o4 gr4 hb4;have HB4:=hid (HB3.out.trans (zae HW3.out gr4 HB3.out.size));have HW4:=hid o4;have HG4:=hid gr4;have HBk4:=hid hb4;refine hKK _ _ (fun _=>trivial) (HT.out _ HB4.out) ?_
        clear hKK KK o4 gr4 hb4;refine zap rfl (by kernel_rfl) fun KK hKK=>?_
        refine zau _ _ rfl v0.heap.size (.slice vo4 (0+1) vc4) (0+1) ([]++([]:List Int).take 0++[z]) rfl HW4.out (none) (0 - 0) 0 (([]:List Int).drop 0) rfl (HRD.out _ HB4.out) HLD.out (by omega) HB4.out.size ?_
        intro vo5 vc5 v5 o5 gr5 hb5;have HB5:=hid (HB4.out.trans (zae HW4.out gr5 HB4.out.size));have HW5:=hid o5;have HG5:=hid gr5;have HBk5:=hid hb5;refine hKK _ _ (fun _=>trivial) (HT.out _ HB5.out) ?_
        clear hKK KK o5 gr5 hb5;refine zbp ?_ rfl (by kernel_rfl) (fun w' hS=>?_) ?_;(rotate_left;(go_simp;with_reducible rfl);rotate_left)
        refine zaW (NoPanic.normal ?_);have HFin:=hid (show v5.ownsRow w3.heap.size 3 1 (.slice vo5 (0+1) vc5) (0+1) (i64z (([]:List Int).take 0++[z]++([]:List Int).drop 0)) by
         have h1:=zay HW5.out HB0s.out;rw[show 0+1+(0 - 0)=0+1 by omega,List.nil_append] at h1
         exact h1)
        have HFb:=hid (HBr.out.trans (HBv.out.trans (HB5.out.mono HBv.out.size) |>.mono HBr.out.size))
        have em:0+1+(0 - 0)=0+1:=by omega
        rw[em];clear em;go_wp2;go_roundw
        case rel=>exact⟨i+1,0+1,vo5,vc5,([]:List Int).take 0++[z]++([]:List Int).drop 0,rfl,by go_num,by omega,by omega,hid (rfl),HFin,HPut,HFb⟩
        case measure=>simp[intOf];omega
      case x9=>
       refine zaS rfl (by kernel_rfl) fun KK hKK=>?_
       go_simp;have HB1:=hid (HB0.out.trans ((zaa (w:=v0) (o:=.cells #[.int .i64 z] 3)).mono HB0.out.size));refine hKK _ _ (fun _=>trivial) (HT.out _ HB1.out) ?_
       clear hKK KK;obtain⟨v1,hv1⟩:∃W,W=v0.alloc (.cells #[.int .i64 z] 3):=⟨_,rfl⟩;rw[<- hv1] at HB1;rw[<- hv1];have HZ1:=hid (show v1.heap.size=v0.heap.size+1 by rw[hv1];simp)
       have HQ1:=hid (show v1.heap[v0.heap.size]? =some (.cells #[.int .i64 z] 3) by rw[hv1];exact heap_alloc_new _ _)
       have HK1:=hid (show Below v0.heap.size v0 v1 by rw[hv1];exact zaa)
       clear hv1;refine zap rfl (by kernel_rfl) fun KK hKK=>?_
       go_simp;have HB2:=hid (HB1.out.trans ((zaa (w:=v1) (o:=.cells #[] 3)).mono HB1.out.size));refine hKK _ _ (fun _=>trivial) (HT.out _ HB2.out) ?_
       clear hKK KK;obtain⟨v2,hv2⟩:∃W,W=v1.alloc (.cells #[] 3):=⟨_,rfl⟩;rw[<- hv2] at HB2;rw[<- hv2];have HZ2:=hid (show v2.heap.size=v1.heap.size+1 by rw[hv2];simp)
       have HW2:=hid (show v2.ownsRow v0.heap.size 3 1 (.slice (some ⟨v1.heap.size,0,none⟩) 0 0) 0 (i64z []) by rw[hv2];exact zay (zct v1) HB1.out.size)
       have HK2:=hid (show Below v1.heap.size v1 v2 by rw[hv2];exact zaa)
       clear hv2;have HQ2:=hid ((HK2.out.block _ (zab HQ1.out)).trans HQ1.out);refine zap rfl (by kernel_rfl) fun KK hKK=>?_
       refine zau _ _ rfl v0.heap.size (.slice (some ⟨v1.heap.size,0,none⟩) 0 0) 0 [] rfl HW2.out (none) 0 0 (([]:List Int).take 0) rfl (HRT.out _ HB2.out) HLT.out (by omega) HB2.out.size ?_
       intro vo3 vc3 v3 o3 gr3 hb3;rw[Nat.zero_add] at o3 hb3⊢;have HB3:=hid (HB2.out.trans (zae HW2.out gr3 HB2.out.size));have HW3:=hid o3;have HG3:=hid gr3;have HBk3:=hid hb3;have HQ3:=hid (kept_q HQ2.out gr3 (by simp[Value.ownBlock];have:=HZ2.out;have:=HZ1.out;omega))
       refine hKK _ _ (fun _=>trivial) (HT.out _ HB3.out) ?_
       clear hKK KK o3 gr3 hb3;refine zap rfl (by kernel_rfl) fun KK hKK=>?_
       refine zau _ _ rfl v0.heap.size (.slice vo3 0 vc3) 0 ([]++([]:List Int).take 0) rfl HW3.out (some ⟨v0.heap.size,0,none⟩) 1 1 [z] rfl (zbb HQ3.out) rfl (by omega) HB3.out.size ?_
       intro vo4 vc4 v4 o4 gr4 hb4;have HB4:=hid (HB3.out.trans (zae HW3.out gr4 HB3.out.size));have HW4:=hid o4;have HG4:=hid gr4;have HBk4:=hid hb4;refine hKK _ _ (fun _=>trivial) (HT.out _ HB4.out) ?_
       clear hKK KK o4 gr4 hb4;refine zap rfl (by kernel_rfl) fun KK hKK=>?_
       refine zau _ _ rfl v0.heap.size (.slice vo4 (0+1) vc4) (0+1) ([]++([]:List Int).take 0++[z]) rfl HW4.out (none) (0 - 0) 0 (([]:List Int).drop 0) rfl (HRD.out _ HB4.out) HLD.out (by omega) HB4.out.size ?_
       intro vo5 vc5 v5 o5 gr5 hb5;have HB5:=hid (HB4.out.trans (zae HW4.out gr5 HB4.out.size));have HW5:=hid o5;have HG5:=hid gr5;have HBk5:=hid hb5;refine hKK _ _ (fun _=>trivial) (HT.out _ HB5.out) ?_
       clear hKK KK o5 gr5 hb5;refine zbp ?_ rfl (by kernel_rfl) (fun w' hS=>?_) ?_;(rotate_left;(go_simp;with_reducible rfl);rotate_left)
       refine zaW (NoPanic.normal ?_);have HFin:=hid (show v5.ownsRow w3.heap.size 3 1 (.slice vo5 (0+1) vc5) (0+1) (i64z (([]:List Int).take 0++[z]++([]:List Int).drop 0)) by
        have h1:=zay HW5.out HB0s.out;rw[show 0+1+(0 - 0)=0+1 by omega,List.nil_append] at h1
        exact h1)
       have HFb:=hid (HBr.out.trans (HBv.out.trans (HB5.out.mono HBv.out.size) |>.mono HBr.out.size))
       have em:0+1+(0 - 0)=0+1:=by omega
       rw[em];clear em;go_wp2;go_roundw
       case rel=>exact⟨i+1,0+1,vo5,vc5,([]:List Int).take 0++[z]++([]:List Int).drop 0,rfl,by go_num,by omega,by omega,hid (rfl),HFin,HPut,HFb⟩
       case measure=>simp[intOf];omega
     ·cases h1
      have HKM:=hid hkm2;clear hkm2 h2 h3 h4 h5;go_wp2_with fail;go_quiet (fail);obtain⟨wq,hwq⟩:∃W,W=wr.drewN nq:=⟨_,rfl⟩;have HBq:=hid (show Below wo.heap.size wo wq by rw[hwq];exact⟨HB.out.os,HB.out.tape,HB.out.output,HB.out.size,HB.out.block⟩)
      rw[<- hwq];clear hwq;go_wp2_with fail;go_quiet (fail);obtain⟨wx,hwq⟩:∃W,W=wq.drewN nq:=⟨_,rfl⟩;have HBx:=hid (show Below wo.heap.size wo wx by rw[hwq];exact⟨HBq.out.os,HBq.out.tape,HBq.out.output,HBq.out.size,HBq.out.block⟩)
      rw[<- hwq];clear hwq;go_wp2_with fail;have HBr:=hid (HBr0.out.trans (HBx.out.mono HBr0.out.size));have HCz:=hid (show wx.cell? (ad.add i)=some (.int .i64 z) from(HBr.out.cell (p:=ad.add i) (by rw[add_blk];exact HAd.out)).trans HCz0.out)
      have HRM:=hid (HRM0.out.below HBx.out);have HPut:=hid (fun(x:Int) (hx:x∈L.take (i+1))=>rdi_put (M:=M) (k:=k) HTk.out x hx)
      have HLT:=hid (show k=(M.take k).length from by rw[List.length_take,<- HM.out];omega)
      have HLD:=hid (show m - k=(M.drop k).length from by rw[List.length_drop,<- HM.out])
      have k3:(k:Int)<=(m:Int):=by omega
      have k4:(m:Int)<=(vc:Int):=by omega
      have k5:(k:Int)<=(vc:Int):=by omega
      have k6:¬vc<k:=by omega
      clear HBq k1 HTk HCz0;obtain⟨v0,hv0⟩:∃v0,v0=wx.drew:=⟨_,rfl⟩;have HBv:=hid (show Below wx.heap.size wx v0 by rw[hv0];exact(Below.refl _ _).drew)
      have HB0:=hid (Below.refl v0.heap.size v0);have HT:=hid (fun(W:World) (h:Below v0.heap.size v0 W)=>show W.cell? (ad.add i)=some (.int .i64 z)/\True from⟨(((HBv.out.trans (h.mono HBv.out.size))).cell (p:=ad.add i) (by rw[add_blk];exact Nat.lt_of_lt_of_le HAd.out (HBr.out.size))).trans HCz.out,trivial⟩)
      have HB0s:=hid (show w3.heap.size<=v0.heap.size from Nat.le_trans HBr.out.size HBv.out.size)
      have HR0:=hid (fun(W:World) (h:Below v0.heap.size v0 W)=>show RdI W (some ⟨g,0,none⟩) M from HRM.out.below (HBv.out.trans (h.mono HBv.out.size)))
      have HRT:=hid (fun(W:World) (h:Below v0.heap.size v0 W)=>rdi_take (n:=k) (HR0.out W h))
      have HRD0:=hid (fun(ao:Option Addr) (hao:ao=if vc=k then some ⟨g,0,none⟩ else some ⟨g,k,none⟩) (W:World) (h:Below v0.heap.size v0 W)=>show RdI W ao (M.drop k) from by
       rw[hao]
       split
       ·rw[List.drop_of_length_le (by have:=HM.out;omega)];exact zdv _ _
       ·have hd:=rdi_drop (n:=k) (HR0.out W h)
        rw[Nat.zero_add] at hd;exact hd)
      refine zbj (.one 1 1 (.one 2 1 (.one 3 1 (.one 5 1 (.one 6 1 (.one 7 1 (.one 8 1 (.one 11 1 (.one 12 1 (.one 13 1 (.two 0 9 (.two 4 9 (.one 9 2 (.one 10 2 (.one 14 2 (.one 15 1 .nil)))) (.one 4 2 (.one 10 2 (.one 14 2 (.one 15 1 .nil))))) (.one 0 2 (.one 4 2 (.one 10 2 (.one 14 2 (.one 15 1 .nil)))))))))))))))) (fun _=>True) (fun W=>W.cell? (ad.add i)=some (.int .i64 z)/\True) (fun _=>false) (by kernel_rfl) (by kernel_rfl) (fun j hj=>by cases hj) rfl (by kernel_rfl) trivial (HT.out _ (by rw[hv0];exact Below.refl _ _)) ?_
      rw[<- hv0];clear hv0
      iterate 10 (refine zbp ?_ rfl (by kernel_rfl) (fun w' hS=>?_) ?_;(rotate_left;(obtain⟨s1,_⟩:=hS;go_simp;with_reducible rfl);rotate_left))
      obtain⟨ao,hao⟩:∃ao,ao=(if vc=k then some (⟨g,0,none⟩:Addr) else some ⟨g,k,none⟩):=⟨_,rfl⟩;have HRD:=hid (HRD0.out ao hao)
      try rw[<- hao]
      clear hao HRD0;refine zbB ?x0 ?x9
      case x0=>
       refine zaS rfl (by kernel_rfl) fun KK hKK=>?_
       go_simp;have HB1:=hid (HB0.out.trans ((zaa (w:=v0) (o:=.cells #[] 3)).mono HB0.out.size));refine hKK _ _ (fun _=>trivial) (HT.out _ HB1.out) ?_
       clear hKK KK;obtain⟨v1,hv1⟩:∃W,W=v0.alloc (.cells #[] 3):=⟨_,rfl⟩;rw[<- hv1] at HB1;rw[<- hv1];have HZ1:=hid (show v1.heap.size=v0.heap.size+1 by rw[hv1];simp)
       have HW1:=hid (show v1.ownsRow v0.heap.size 3 1 (.slice (some ⟨v0.heap.size,0,none⟩) 0 0) 0 (i64z []) by rw[hv1];exact zay (zct v0) HB0.out.size)
       have HK1:=hid (show Below v0.heap.size v0 v1 by rw[hv1];exact zaa)
       clear hv1;refine zbB ?x04 ?x09
       case x04=>
        refine zaS rfl (by kernel_rfl) fun KK hKK=>?_
        refine zau _ _ rfl v0.heap.size (.slice (some ⟨v0.heap.size,0,none⟩) 0 0) 0 [] rfl HW1.out (some ⟨g,0,none⟩) k vc (M.take k) rfl (HRT.out _ HB1.out) HLT.out (by omega) HB1.out.size ?_
        intro vo2 vc2 v2 o2 gr2 hb2;rw[Nat.zero_add] at o2 hb2⊢;have HB2:=hid (HB1.out.trans (zae HW1.out gr2 HB1.out.size));have HW2:=hid o2;have HG2:=hid gr2;have HBk2:=hid hb2;refine hKK _ _ (fun _=>trivial) (HT.out _ HB2.out) ?_
        clear hKK KK o2 gr2 hb2;refine zap rfl (by kernel_rfl) fun KK hKK=>?_
        go_simp;have HB3:=hid (HB2.out.trans ((zaa (w:=v2) (o:=.cells #[.int .i64 z] 3)).mono HB2.out.size));refine hKK _ _ (fun _=>trivial) (HT.out _ HB3.out) ?_
        clear hKK KK;obtain⟨v3,hv3⟩:∃W,W=v2.alloc (.cells #[.int .i64 z] 3):=⟨_,rfl⟩;rw[<- hv3] at HB3;rw[<- hv3];have HZ3:=hid (show v3.heap.size=v2.heap.size+1 by rw[hv3];simp)
        have HQ3:=hid (show v3.heap[v2.heap.size]? =some (.cells #[.int .i64 z] 3) by rw[hv3];exact heap_alloc_new _ _)
        have HK3:=hid (show Below v2.heap.size v2 v3 by rw[hv3];exact zaa)
        clear hv3;have HW3:=hid (zak HW2.out HK3.out);refine zap rfl (by kernel_rfl) fun KK hKK=>?_
        refine zau _ _ rfl v0.heap.size (.slice vo2 k vc2) k ([]++M.take k) rfl HW3.out (some ⟨v2.heap.size,0,none⟩) 1 1 [z] rfl (zbb HQ3.out) rfl (by omega) HB3.out.size ?_
        intro vo4 vc4 v4 o4 gr4 hb4;have HB4:=hid (HB3.out.trans (zae HW3.out gr4 HB3.out.size));have HW4:=hid o4;have HG4:=hid gr4;have HBk4:=hid hb4;refine hKK _ _ (fun _=>trivial) (HT.out _ HB4.out) ?_
        clear hKK KK o4 gr4 hb4;refine zap rfl (by kernel_rfl) fun KK hKK=>?_
        refine zau _ _ rfl v0.heap.size (.slice vo4 (k+1) vc4) (k+1) ([]++M.take k++[z]) rfl HW4.out (ao) (m - k) (vc - k) (M.drop k) rfl (HRD.out _ HB4.out) HLD.out (by omega) HB4.out.size ?_
        intro vo5 vc5 v5 o5 gr5 hb5;have HB5:=hid (HB4.out.trans (zae HW4.out gr5 HB4.out.size));have HW5:=hid o5;have HG5:=hid gr5;have HBk5:=hid hb5;refine hKK _ _ (fun _=>trivial) (HT.out _ HB5.out) ?_
        clear hKK KK o5 gr5 hb5;refine zbp ?_ rfl (by kernel_rfl) (fun w' hS=>?_) ?_;(rotate_left;(go_simp;with_reducible rfl);rotate_left)
        refine zaW (NoPanic.normal ?_);have HFin:=hid (show v5.ownsRow w3.heap.size 3 1 (.slice vo5 (m+1) vc5) (m+1) (i64z (M.take k++[z]++M.drop k)) by
         have h1:=zay HW5.out HB0s.out;rw[show k+1+(m - k)=m+1 by omega,List.nil_append] at h1
         exact h1)
        have HFb:=hid (HBr.out.trans (HBv.out.trans (HB5.out.mono HBv.out.size) |>.mono HBr.out.size))
        have em:k+1+(m - k)=m+1:=by omega
        rw[em];clear em;go_wp2;go_roundw
        case rel=>exact⟨i+1,m+1,vo5,vc5,M.take k++[z]++M.drop k,rfl,by go_num,by omega,by omega,hid (by rw[zdw M z (by rw[<- HM.out];exact hk),<- HM.out]),HFin,HPut,HFb⟩
        case measure=>simp[intOf];omega
       case x09=>
        refine zaS rfl (by kernel_rfl) fun KK hKK=>?_
        go_simp;have HB2:=hid (HB1.out.trans ((zaa (w:=v1) (o:=.cells #[.int .i64 z] 3)).mono HB1.out.size));refine hKK _ _ (fun _=>trivial) (HT.out _ HB2.out) ?_
        clear hKK KK;obtain⟨v2,hv2⟩:∃W,W=v1.alloc (.cells #[.int .i64 z] 3):=⟨_,rfl⟩;rw[<- hv2] at HB2;rw[<- hv2];have HZ2:=hid (show v2.heap.size=v1.heap.size+1 by rw[hv2];simp)
        have HQ2:=hid (show v2.heap[v1.heap.size]? =some (.cells #[.int .i64 z] 3) by rw[hv2];exact heap_alloc_new _ _)
        have HK2:=hid (show Below v1.heap.size v1 v2 by rw[hv2];exact zaa)
        clear hv2;have HW2:=hid (zak HW1.out HK2.out);refine zap rfl (by kernel_rfl) fun KK hKK=>?_
        refine zau _ _ rfl v0.heap.size (.slice (some ⟨v0.heap.size,0,none⟩) 0 0) 0 [] rfl HW2.out (some ⟨g,0,none⟩) k vc (M.take k) rfl (HRT.out _ HB2.out) HLT.out (by omega) HB2.out.size ?_
        intro vo3 vc3 v3 o3 gr3 hb3;rw[Nat.zero_add] at o3 hb3⊢;have HB3:=hid (HB2.out.trans (zae HW2.out gr3 HB2.out.size));have HW3:=hid o3;have HG3:=hid gr3;have HBk3:=hid hb3;have HQ3:=hid (kept_q HQ2.out gr3 (by simp[Value.ownBlock];have:=HZ2.out;have:=HZ1.out;omega))
        refine hKK _ _ (fun _=>trivial) (HT.out _ HB3.out) ?_
        clear hKK KK o3 gr3 hb3;refine zap rfl (by kernel_rfl) fun KK hKK=>?_
        refine zau _ _ rfl v0.heap.size (.slice vo3 k vc3) k ([]++M.take k) rfl HW3.out (some ⟨v1.heap.size,0,none⟩) 1 1 [z] rfl (zbb HQ3.out) rfl (by omega) HB3.out.size ?_
        intro vo4 vc4 v4 o4 gr4 hb4;have HB4:=hid (HB3.out.trans (zae HW3.out gr4 HB3.out.size));have HW4:=hid o4;have HG4:=hid gr4;have HBk4:=hid hb4;refine hKK _ _ (fun _=>trivial) (HT.out _ HB4.out) ?_
        clear hKK KK o4 gr4 hb4;refine zap rfl (by kernel_rfl) fun KK hKK=>?_
        refine zau _ _ rfl v0.heap.size (.slice vo4 (k+1) vc4) (k+1) ([]++M.take k++[z]) rfl HW4.out (ao) (m - k) (vc - k) (M.drop k) rfl (HRD.out _ HB4.out) HLD.out (by omega) HB4.out.size ?_
        intro vo5 vc5 v5 o5 gr5 hb5;have HB5:=hid (HB4.out.trans (zae HW4.out gr5 HB4.out.size));have HW5:=hid o5;have HG5:=hid gr5;have HBk5:=hid hb5;refine hKK _ _ (fun _=>trivial) (HT.out _ HB5.out) ?_
        clear hKK KK o5 gr5 hb5;refine zbp ?_ rfl (by kernel_rfl) (fun w' hS=>?_) ?_;(rotate_left;(go_simp;with_reducible rfl);rotate_left)
        refine zaW (NoPanic.normal ?_);have HFin:=hid (show v5.ownsRow w3.heap.size 3 1 (.slice vo5 (m+1) vc5) (m+1) (i64z (M.take k++[z]++M.drop k)) by
         have h1:=zay HW5.out HB0s.out;rw[show k+1+(m - k)=m+1 by omega,List.nil_append] at h1
         exact h1)
        have HFb:=hid (HBr.out.trans (HBv.out.trans (HB5.out.mono HBv.out.size) |>.mono HBr.out.size))
        have em:k+1+(m - k)=m+1:=by omega
        rw[em];clear em;go_wp2;go_roundw
        case rel=>exact⟨i+1,m+1,vo5,vc5,M.take k++[z]++M.drop k,rfl,by go_num,by omega,by omega,hid (by rw[zdw M z (by rw[<- HM.out];exact hk),<- HM.out]),HFin,HPut,HFb⟩
        case measure=>simp[intOf];omega
      case x9=>
       refine zaS rfl (by kernel_rfl) fun KK hKK=>?_
       go_simp;have HB1:=hid (HB0.out.trans ((zaa (w:=v0) (o:=.cells #[.int .i64 z] 3)).mono HB0.out.size));refine hKK _ _ (fun _=>trivial) (HT.out _ HB1.out) ?_
       clear hKK KK;obtain⟨v1,hv1⟩:∃W,W=v0.alloc (.cells #[.int .i64 z] 3):=⟨_,rfl⟩;rw[<- hv1] at HB1;rw[<- hv1];have HZ1:=hid (show v1.heap.size=v0.heap.size+1 by rw[hv1];simp)
       have HQ1:=hid (show v1.heap[v0.heap.size]? =some (.cells #[.int .i64 z] 3) by rw[hv1];exact heap_alloc_new _ _)
       have HK1:=hid (show Below v0.heap.size v0 v1 by rw[hv1];exact zaa)
       clear hv1;refine zap rfl (by kernel_rfl) fun KK hKK=>?_
       go_simp;have HB2:=hid (HB1.out.trans ((zaa (w:=v1) (o:=.cells #[] 3)).mono HB1.out.size));refine hKK _ _ (fun _=>trivial) (HT.out _ HB2.out) ?_
       clear hKK KK;obtain⟨v2,hv2⟩:∃W,W=v1.alloc (.cells #[] 3):=⟨_,rfl⟩;rw[<- hv2] at HB2;rw[<- hv2];have HZ2:=hid (show v2.heap.size=v1.heap.size+1 by rw[hv2];simp)
       have HW2:=hid (show v2.ownsRow v0.heap.size 3 1 (.slice (some ⟨v1.heap.size,0,none⟩) 0 0) 0 (i64z []) by rw[hv2];exact zay (zct v1) HB1.out.size)
       have HK2:=hid (show Below v1.heap.size v1 v2 by rw[hv2];exact zaa)
       clear hv2;have HQ2:=hid ((HK2.out.block _ (zab HQ1.out)).trans HQ1.out);refine zap rfl (by kernel_rfl) fun KK hKK=>?_
       refine zau _ _ rfl v0.heap.size (.slice (some ⟨v1.heap.size,0,none⟩) 0 0) 0 [] rfl HW2.out (some ⟨g,0,none⟩) k vc (M.take k) rfl (HRT.out _ HB2.out) HLT.out (by omega) HB2.out.size ?_
       intro vo3 vc3 v3 o3 gr3 hb3;rw[Nat.zero_add] at o3 hb3⊢;have HB3:=hid (HB2.out.trans (zae HW2.out gr3 HB2.out.size));have HW3:=hid o3;have HG3:=hid gr3;have HBk3:=hid hb3;have HQ3:=hid (kept_q HQ2.out gr3 (by simp[Value.ownBlock];have:=HZ2.out;have:=HZ1.out;omega))
       refine hKK _ _ (fun _=>trivial) (HT.out _ HB3.out) ?_
       clear hKK KK o3 gr3 hb3;refine zap rfl (by kernel_rfl) fun KK hKK=>?_
       refine zau _ _ rfl v0.heap.size (.slice vo3 k vc3) k ([]++M.take k) rfl HW3.out (some ⟨v0.heap.size,0,none⟩) 1 1 [z] rfl (zbb HQ3.out) rfl (by omega) HB3.out.size ?_
       intro vo4 vc4 v4 o4 gr4 hb4;have HB4:=hid (HB3.out.trans (zae HW3.out gr4 HB3.out.size));have HW4:=hid o4;have HG4:=hid gr4;have HBk4:=hid hb4;refine hKK _ _ (fun _=>trivial) (HT.out _ HB4.out) ?_
       clear hKK KK o4 gr4 hb4;refine zap rfl (by kernel_rfl) fun KK hKK=>?_
       refine zau _ _ rfl v0.heap.size (.slice vo4 (k+1) vc4) (k+1) ([]++M.take k++[z]) rfl HW4.out (ao) (m - k) (vc - k) (M.drop k) rfl (HRD.out _ HB4.out) HLD.out (by omega) HB4.out.size ?_
       intro vo5 vc5 v5 o5 gr5 hb5;have HB5:=hid (HB4.out.trans (zae HW4.out gr5 HB4.out.size));have HW5:=hid o5;have HG5:=hid gr5;have HBk5:=hid hb5;refine hKK _ _ (fun _=>trivial) (HT.out _ HB5.out) ?_
       clear hKK KK o5 gr5 hb5;refine zbp ?_ rfl (by kernel_rfl) (fun w' hS=>?_) ?_;(rotate_left;(go_simp;with_reducible rfl);rotate_left)
       refine zaW (NoPanic.normal ?_);have HFin:=hid (show v5.ownsRow w3.heap.size 3 1 (.slice vo5 (m+1) vc5) (m+1) (i64z (M.take k++[z]++M.drop k)) by
        have h1:=zay HW5.out HB0s.out;rw[show k+1+(m - k)=m+1 by omega,List.nil_append] at h1
        exact h1)
       have HFb:=hid (HBr.out.trans (HBv.out.trans (HB5.out.mono HBv.out.size) |>.mono HBr.out.size))
       have em:k+1+(m - k)=m+1:=by omega
       rw[em];clear em;go_wp2;go_roundw
       case rel=>exact⟨i+1,m+1,vo5,vc5,M.take k++[z]++M.drop k,rfl,by go_num,by omega,by omega,hid (by rw[zdw M z (by rw[<- HM.out];exact hk),<- HM.out]),HFin,HPut,HFb⟩
       case measure=>simp[intOf];omega
  ·have i1:¬(i:Int)<(n:Int):=by omega
   have HQ:=hid (show FlQ p w (.returned (.slice vo m vc)) wr from⟨vo,vc,M,by rw[HM.out],rdix_ownz HOw.out HM.out HB3.out.size,HF.out.mono fun x hx=>HIn.out x (by rw[List.take_of_length_le (by have:=HNn.out;omega)];exact hx),by have:=HM.out;omega,HB3.out.trans (HBr0.out.mono HB3.out.size)⟩)
   go_wp2;go_ret;exact HQ.out
end Pt
end
section
open Go.RowKit
namespace Pt
def RvQ (q:Pat) (w:World) (e:Ending) (w':World):Prop:=∃u0 u1 u2,e= .returned (.agg #[u0,u1,u2])/\RdPX w' (fun b=>b<w.heap.size) q u0 u1 u2/\Below w.heap.size w w'
structure Rv1 (B:Nat) (U:World) (op:Int) (cls:List Int) (ln:Nat) (W:World) (p g gc:Nat):Prop where
 at_:W.heap[p]? =some (.cells #[.int .i64 op,.slice (some ⟨g,0,none⟩) ln gc,.slice none 0 0] 105 (0,0))
 below:Below B U W
 lo:B<=p
 glo:B<=g
 gp:g≠p
 rd:RdI W (some ⟨g,0,none⟩) cls
 gl:g<W.heap.size
theorem rv1_of {B B':Nat} {U W:World} {op:Int} {cls:List Int} {ln p g gc:Nat} {x0 x1 x2:Value} (hp:W.heap[p]? =some (.cells #[x0,x1,x2] 105 (0,0))) (hb:Below B U W) (lo:B<=p) (ho:W.ownsRow B' 3 1 (.slice (some ⟨g,0,none⟩) ln gc) ln (i64z cls)) (hg:g≠p) (hB:B<=B'):
  Rv1 B U op cls ln (st3 W p (.int .i64 op) (.slice (some ⟨g,0,none⟩) ln gc) (.slice none 0 0)) p g gc:=by
 obtain⟨h1,⟨cur,h2⟩,_,h3⟩:=zbu ho;have hy:=st3_ony W p (.int .i64 op) (.slice (some ⟨g,0,none⟩) ln gc) (.slice none 0 0);refine⟨st3_at hp,hb.trans (hy.below lo),lo,by omega,hg,fun k z hz=>⟨_,rfl,by rw[hy.size];exact zab h2,?_⟩,by rw[hy.size];exact zab h2⟩
 rw[Addr.add_lit,Nat.zero_add,World.cell?_of_block (w:=W) (a:=⟨g,k,none⟩) (hy.block g hg)];exact h3 k _ (by unfold i64z;rw[List.getElem?_map,hz];rfl)
structure RvI (N P B:Nat) (w:World) (box:Array Value) (op:Int) (cls:List Int) (ln g gc:Nat) (q:Nat->Pat) (i:Nat) (vo:Option Addr) (vc:Nat) (xs:List Value) (wr:World):Prop where
 at_:wr.heap[P]? =some (.cells #[.int .i64 op,.slice (some ⟨g,0,none⟩) ln gc,.slice vo i vc] 105 (0,0))
 own:wr.ownsRow B 105 3 (.slice vo i vc) i xs
 kid:∀j,j<i->∃u0 u1 u2,xs[j * 3]? =some u0/\xs[j * 3+1]? =some u1/\xs[j * 3+2]? =some u2/\RdPX wr (fun b=>b<N+2\/b=P\/(Value.slice vo i vc).ownBlock=some b) (q j) u0 u1 u2
 cls:RdIX wr (fun b=>b<N+2\/b=P\/(Value.slice vo i vc).ownBlock=some b) (some ⟨g,0,none⟩) cls
 pbox:wr.heap[N]? =some (.cells box 105 (0,0))
 res:wr.heap[N+1]? =some (.cells #[.int .i64 0,.slice none 0 0,.slice none 0 0] 105 (0,0))
 below:Below N w wr
 lp:N+2<=P
 lb:P<B
 bs:B<=wr.heap.size
 low:∀b,(Value.slice vo i vc).ownBlock=some b->B<=b
theorem RvI.cells {N P B:Nat} {w:World} {box:Array Value} {op:Int} {cls:List Int} {ln g gc:Nat} {q:Nat->Pat} {i:Nat} {vo:Option Addr} {vc:Nat} {xs:List Value} {wr:World} (h:RvI N P B w box op cls ln g gc q i vo vc xs wr) (W:World) (hP:W.heap[P]? =wr.heap[P]?) (hN:W.heap[N]? =wr.heap[N]?):
  W.cell? ⟨P,2,none⟩=some (.slice vo i vc)/\(∀k,W.cell? ⟨N,k,none⟩=box[k]?):=by
 refine⟨by rw[cell_of_row W P 2 _ _ _ (hP.trans h.at_)];rfl,fun k=>by rw[cell_of_row W N k _ _ _ (hN.trans h.pbox)]⟩
theorem RvI.more {N P B:Nat} {w:World} {box:Array Value} {op:Int} {cls:List Int} {ln g gc:Nat} {q:Nat->Pat} {i:Nat} {vo:Option Addr} {vc:Nat} {xs ys:List Value} {wr w4 w5 w6 w7:World} {u0 u1 u2:Value} {g8 c8:Nat}
  (h:RvI N P B w box op cls ln g gc q i vo vc xs wr) (hq:RdPX w4 (fun b=>b<wr.heap.size) (q i) u0 u1 u2) (b4:Below wr.heap.size wr w4) (hy:ys=[u0,u1,u2]) (b5:Below w4.heap.size w4 w5)
  (o6:w6.ownsRow B 105 3 (.slice (some ⟨g8,0,none⟩) (i+1) c8) (i+1) (xs++ys)) (gr:World.grownBy w5 w6 (Value.slice vo i vc).ownBlock) (hg8:(Value.slice vo i vc).ownBlock=some g8\/g8=w5.heap.size) (h7:w7=w6.setCell ⟨P,2,none⟩ (.slice (some ⟨g8,0,none⟩) (i+1) c8)):
  RvI N P B w box op cls ln g gc q (i+1) (some ⟨g8,0,none⟩) c8 (xs++ys) w7:=by
 have hPl:=zab h.at_;have s4:=b4.size;have s5:=b5.size;have s6:=gr.size;have lp:=h.lp;have lb:=h.lb;have hn5:∀b,b<wr.heap.size->w5.heap[b]? =wr.heap[b]? :=fun b hb=>(b5.block b (by omega)).trans (b4.block b hb)
 have hoB:∀b,(Value.slice vo i vc).ownBlock=some b->B<=b/\b<wr.heap.size:=fun b hb=>by
  refine⟨h.low b hb,?_⟩
  rcases h.own.2 with ⟨k1,_⟩ | ⟨q',cap,cur,k1,_,k3,_⟩
  ·rw[k1] at hb;cases hb
  ·rw[k1] at hb
   cases hb
   exact zab k3
 have hk:∀b,b<w5.heap.size->(Value.slice vo i vc).ownBlock≠some b->b≠P->w7.heap[b]? =w5.heap[b]? :=fun b hb h1 h2=>by
  rw[h7,heap_setCell_other _ ⟨P,2,none⟩ b _ h2];exact gr.block b hb (fun e=>h1 e.symm)
 have hg8B:B<=g8:=(zbu o6).1;have e6:w6.heap[P]? =wr.heap[P]? :=(gr.block P (by omega) (fun e=>by have:=(hoB P e.symm).1;omega)).trans (hn5 P hPl)
 have sz7:w7.heap.size=w6.heap.size:=by rw[h7];simp
 have K1:KpX wr w7 (fun b=>b<N+2\/b=P\/(Value.slice vo i vc).ownBlock=some b) (fun b=>b<N+2\/b=P\/(Value.slice (some ⟨g8,0,none⟩) (i+1) c8).ownBlock=some b):=by
  refine⟨by omega,fun b hb hx=>?_,fun b hb hx=>?_⟩
  ·exact(hk b (by omega) (fun e=>hx (.inr (.inr e))) (fun e=>hx (.inr (.inl e)))).trans (hn5 b hb)
  ·rcases hx with hx | hx | hx
   ·exact .inl hx
   ·exact .inr (.inl hx)
   ·have e:g8=b:=by simpa[Value.ownBlock] using hx
    subst e
    rcases hg8 with h8 | h8
    ·exact .inr (.inr h8)
    ·omega
 have K2:KpX w4 w7 (fun b=>b<wr.heap.size) (fun b=>b<N+2\/b=P\/(Value.slice (some ⟨g8,0,none⟩) (i+1) c8).ownBlock=some b):=by
  refine⟨by omega,fun b hb hx=>?_,fun b hb hx=>?_⟩
  ·exact(hk b (by omega) (fun e=>hx (hoB b e).2) (fun e=>hx (by rw[e];exact hPl))).trans (b5.block b hb)
  ·rcases hx with hx | hx | hx
   ·show b<wr.heap.size
    have:=zab h.res;omega
   ·rw[hx];exact hPl
   ·have e:g8=b:=by simpa[Value.ownBlock] using hx
    subst e
    rcases hg8 with h8 | h8
    ·exact(hoB _ h8).2
    ·omega
 have hown7:w7.ownsRow B 105 3 (.slice (some ⟨g8,0,none⟩) (i+1) c8) (i+1) (xs++ys):=⟨o6.1,o6.2.imp (fun e=>e) fun⟨q',cap,cur,k1,k2,k3,k4⟩=>⟨q',cap,cur,k1,k2,by rw[h7,heap_setCell_other _ ⟨P,2,none⟩ q' _ (by show q'≠P;omega)];exact k3,k4⟩⟩
 have hNl:=zab h.pbox;have hN1:=zab h.res;have hxl:=h.own.1;refine⟨?_,hown7,fun j hj=>?_,h.cls.keep K1,?_,?_,h.below.trans ?_,lp,lb,by have:=h.bs;omega,fun b hb=>?_⟩
 ·rw[h7]
  exact(heap_setCell_same w6 P 2 _ _ _ (e6.trans h.at_)).trans rfl
 ·by_cases e:j<i
  ·obtain⟨v0,v1,v2,a0,a1,a2,a3⟩:=h.kid j e
   refine⟨v0,v1,v2,?_,?_,?_,RdPX.keep K1 _ _ _ _ a3⟩
   ·rw[List.getElem?_append_left (by omega)];exact a0
   ·rw[List.getElem?_append_left (by omega)];exact a1
   ·rw[List.getElem?_append_left (by omega)];exact a2
  ·obtain rfl:j=i:=by omega
   subst hy;refine⟨u0,u1,u2,?_,?_,?_,RdPX.keep K2 _ _ _ _ hq⟩
   ·rw[List.getElem?_append_right (by omega),hxl,Nat.sub_self];rfl
   ·rw[List.getElem?_append_right (by omega),hxl,show j * 3+1 - j * 3=1 by omega];rfl
   ·rw[List.getElem?_append_right (by omega),hxl,show j * 3+2 - j * 3=2 by omega];rfl
 ·exact(hk N (by omega) (fun e=>by have:=(hoB N e).1;omega) (by omega)).trans ((hn5 N hNl).trans h.pbox)
 ·exact(hk (N+1) (by omega) (fun e=>by have:=(hoB _ e).1;omega) (by omega)).trans ((hn5 _ hN1).trans h.res)
 ·have f1:Below N wr w5:=(b4.mono (by omega)).trans (b5.mono (by omega))
  refine f1.trans ⟨by rw[h7];exact gr.os,by rw[h7];exact gr.tape,by rw[h7];exact gr.output,by omega,fun b hb=>hk b (by omega) (fun e=>by have:=(hoB b e).1;omega) (by omega)⟩
 ·have e:g8=b:=by simpa[Value.ownBlock] using hb
  omega
theorem RvI.done {N P B:Nat} {w:World} {box:Array Value} {op:Int} {cls:List Int} {ln g gc:Nat} {q:Nat->Pat} {i:Nat} {vo:Option Addr} {vc:Nat} {xs:List Value} {wr w':World} (h:RvI N P B w box op cls ln g gc q i vo vc xs wr) (hs:w'.heap.size=wr.heap.size) (hb:∀b,b≠N+1->w'.heap[b]? =wr.heap[b]?) (hln:ln=cls.length) (hl9:ln<=1000000) (hi9:i<=1000000):
  RdPX w' (fun b=>b<N) (.mk op cls ((List.range i).map q)) (.int .i64 op) (.slice (some ⟨g,0,none⟩) ln gc) (.slice vo i vc):=by
 have hK:KpX wr w' (fun b=>b<N+2\/b=P\/(Value.slice vo i vc).ownBlock=some b) (fun b=>b<N):=⟨by omega,fun b _ hx=>hb b (fun e=>hx (.inl (by omega))),fun b _ hx=>.inl (by have h:b<N:=hx;omega)⟩
 unfold RdPX;refine⟨rfl,⟨_,gc,by rw[hln],h.cls.keep hK,by omega⟩,vo,vc,by simp,?_,by simpa using hi9,by
  rw[List.length_map,List.length_range]
  rcases h.own.2 with ⟨k1,k2⟩ | ⟨g',cap,cur,k1,_,_,k4,_⟩
  ·omega
  ·cases k1;exact k4⟩
 rcases h.own.2 with ⟨k1,k2⟩ | ⟨g',cap,cur,k1,k2,k3,k4⟩
 ·subst k2
  unfold RdKX
  trivial
 ·cases k1
  obtain⟨c1,_,_,c4⟩:=zbu h.own;have lp:=h.lp;have lb:=h.lb;refine RdKX.of g' (by rw[hs];exact zab k3) (by omega) _ 0 fun j p hj=>?_
  have hjl:=(List.getElem?_eq_some_iff.1 hj).1;rw[List.length_map,List.length_range] at hjl;rw[List.getElem?_map,List.getElem?_range hjl] at hj
  cases hj
  obtain⟨u0,u1,u2,a0,a1,a2,a3⟩:=h.kid j hjl;have hc:∀k v,xs[k]? =some v->w'.cell? ⟨g',k,none⟩=some v:=fun k v hv=>(World.cell?_of_block (a:=⟨g',k,none⟩) (hb g' (by omega))).trans (c4 k v hv)
  rw[Nat.zero_add];exact⟨u0,u1,u2,hc _ _ a0,hc _ _ a1,hc _ _ a2,RdPX.keep hK _ _ _ _ a3⟩
theorem RdPX.shape {w:World} {X:Nat->Prop}:∀{p:Pat} {v0 v1 v2:Value},RdPX w X p v0 v1 v2->∃(o:Int) (co:Option Addr) (cn cc:Nat) (ko:Option Addr) (kn kc:Nat),v0= .int .i64 o/\v1= .slice co cn cc/\v2= .slice ko kn kc
 | .mk op cls kids,v0,v1,v2,h=>by
  unfold RdPX at h;obtain⟨h1,⟨co,cc,h2,h3,h4⟩,ko,kc,h5,h6,h7⟩:=h;exact⟨op,co,_,cc,ko,_,kc,h1,h2,h5⟩
theorem news3 (w:World) (v:Array Value) (T:TypeId):∀j u,v.toList[j]? =some u->(w.alloc (.cells v T)).cell? ((⟨w.heap.size,0,none⟩:Addr).add j)=some u:=World.news_of_block (cs:=v) (heap_alloc_new w _)
theorem rv_grown {B:Nat} {U W V:World} {H hh:Nat} (hb:Below B U W) (gr:W.grownBy V (some H)) (hs:B<=W.heap.size) (hH:hh<=H) (hB:B<=hh):Below B U V:=hb.trans ⟨gr.os,gr.tape,gr.output,gr.size,fun k hk=>gr.block k (by omega) (fun e=>by have e':=Option.some.inj e;omega)⟩
set_option maxRecDepth 100000 in
theorem reverse_k (z:Bool) (f:Nat->Nat) (lo ko:Option Addr) (ln lc kn kc:Nat) (op:Int) (e2:(op==2)=z) (cls:List Int) (q:Nat->Pat) (w:World) (hz:z=true->f=fun i=>kn - 1 - i) (hy:z=false->f=fun i=>i) (hln:ln=cls.length) (hl9:ln<=1000000) (hk9:kn<=1000000) (hI:RdI w lo cls) (HK:Hid (KdQ w ko kn 146 fun j=>RvQ (q j))):
  Calls Tryz.prog 146 #[.agg #[.int .i64 op,.slice lo ln lc,.slice ko kn kc]] w (RvQ (.mk op cls ((List.range kn).map fun i=>q (f i))) w):=by
 have HLN:=hid hln;clear hln;have HZY:=hid (And.intro hz hy);clear hz hy;have HB00:=hid (fun(o:Obj)=>zaa (w:=w) (o:=o))
 go_enter Tryz.func146,Tryz.ntmps146;go_wp2_with fail;obtain⟨u,hu⟩:∃u,u=(w.alloc (.cells #[.int .i64 op,.slice lo ln lc,.slice ko kn kc] 105)).alloc (.cells #[.int .i64 0,.slice none 0 0,.slice none 0 0] 105):=⟨_,rfl⟩;rw[<- hu];have HUb:=hid (show Below w.heap.size w u by rw[hu];exact((Below.refl _ _).alloc (Nat.le_refl _) _).alloc (by simp) _)
 have hus:u.heap.size=w.heap.size+2:=by rw[hu];simp
 have hN:u.heap[w.heap.size]? =some (.cells #[.int .i64 op,.slice lo ln lc,.slice ko kn kc] 105):=by rw[hu];exact(Below.heap_alloc _ _ _ (by simp)).trans (heap_alloc_new w _)
 have hN1:u.heap[w.heap.size+1]? =some (.cells #[.int .i64 0,.slice none 0 0,.slice none 0 0] 105):=by
  have:=heap_alloc_new (w.alloc (.cells #[.int .i64 op,.slice lo ln lc,.slice ko kn kc] 105)) (.cells #[.int .i64 0,.slice none 0 0,.slice none 0 0] 105);rw[World.size_alloc] at this;rw[hu];exact this
 have HN:=hid hN;have HN1:=hid hN1;have HUS:=hid hus;have HT:=hid (show ∀W,Below (w.heap.size+2) u W->RdI W lo cls from fun W h=>(hI.below HUb.out).below (by rw[hus];exact h))
 have HC:=hid (show ∀W,Below (w.heap.size+2) u W->W.cell? ⟨w.heap.size,0,none⟩=some (.int .i64 op)/\W.cell? ⟨w.heap.size,1,none⟩=some (.slice lo ln lc) from fun W h=>⟨by rw[cell_of_row W w.heap.size 0 _ _ _ ((h.block _ (by omega)).trans HN.out)];rfl,by rw[cell_of_row W w.heap.size 1 _ _ _ ((h.block _ (by omega)).trans HN.out)];rfl⟩)
 clear hu hus hN hN1 hI;refine wp_mid (fun a' W=>∃(H p g gc:Nat),Rv1 (w.heap.size+2) u op cls ln W p g gc/\a'={tmps:=#[.agg #[.int .i64 op,.slice lo ln lc,.slice ko kn kc],.pointer (some ⟨w.heap.size,0,none⟩),.pointer (some ⟨w.heap.size+1,0,none⟩),.pointer (some ⟨p,0,none⟩),undef,undef,undef,.pointer (some ⟨w.heap.size,0,none⟩),.int .i64 op,.slice (some ⟨H,0,none⟩) 0 0,.pointer (some ⟨w.heap.size,1,none⟩),.slice lo ln lc,.slice (some ⟨g,0,none⟩) ln gc,.agg #[.int .i64 op,.slice (some ⟨g,0,none⟩) ln gc,.slice none 0 0],undef,undef,undef,undef,undef,undef,undef,undef,undef,undef,undef,undef,undef,undef,undef,undef,undef,undef,undef,undef,undef,undef,undef,undef,undef,undef,undef,undef],defers:=[]}) ?m1 ?m2
 case m1=>
  obtain⟨v,hv⟩:∃v,v=u.drew:=⟨_,rfl⟩;have HB0:=hid (show Below (w.heap.size+2) u v by rw[hv];exact(Below.refl _ _).drew)
  have HS0:=hid (show w.heap.size+2<=v.heap.size by rw[hv];exact Nat.le_of_eq HUS.out.symm)
  refine zbj (.one 0 1 (.one 1 1 (.one 3 1 (.one 4 1 (.two 2 7 (.two 5 7 (.one 6 1 (.one 7 2 (.one 8 2 .nil))) (.one 5 2 (.one 6 1 (.one 8 2 .nil)))) (.one 2 2 (.one 5 2 (.one 6 1 (.one 8 2 .nil))))))))) (fun _=>True) (fun W=>W.cell? ⟨w.heap.size,0,none⟩=some (.int .i64 op)/\W.cell? ⟨w.heap.size,1,none⟩=some (.slice lo ln lc)) (fun _=>false) (by kernel_rfl) (by kernel_rfl) (fun j hj=>by cases hj) rfl (by kernel_rfl) trivial (HC.out _ (Below.refl _ _).drew) ?_
  rw[<- hv];clear hv;obtain⟨v0,hv0⟩:∃v0,v0=v:=⟨_,rfl⟩;rw[<- hv0] at HB0 HS0;rw[<- hv0];clear hv0
  iterate 4 (refine zbp ?_ rfl (by kernel_rfl) (fun w' hS=>?_) ?_;(rotate_left;(obtain⟨s1,s2⟩:=hS;go_simp;with_reducible rfl);rotate_left))
  refine zbB ?x2 ?x7
  case x2=>
   refine zaS rfl (by kernel_rfl) fun KK hKK=>?_
   go_simp;have HB1:=hid (HB0.out.alloc HS0.out (.cells #[] 3));refine hKK _ _ (fun _=>trivial) (HC.out _ HB1.out) ?_
   clear hKK KK;obtain⟨v1,hv1⟩:∃W,W=v0.alloc (.cells #[] 3):=⟨_,rfl⟩;rw[<- hv1] at HB1;rw[<- hv1];have HS1:=hid (show w.heap.size+2<=v1.heap.size by rw[hv1];have:=HS0.out;simp;omega)
   have HZ1:=hid (show v1.heap.size=v0.heap.size+1 by rw[hv1];simp)
   have HA1:=hid (show v1.heap[v0.heap.size]? =some (.cells #[] 3) by rw[hv1];exact heap_alloc_new _ _)
   have HK1:=hid (show ∀b,b<v0.heap.size->v1.heap[b]? =v0.heap[b]? from fun b hb=>by rw[hv1];exact Below.heap_alloc _ _ _ hb)
   have HO1:=hid (show v1.ownsRow v0.heap.size 3 1 (.slice (some ⟨v0.heap.size,0,none⟩) 0 0) 0 [] by rw[hv1];exact World.ownsRow_lit v0 #[] 0 (Nat.le_refl _) (by decide) (by simp))
   clear hv1;refine zbB ?x5 ?x57
   case x5=>
    have HH:=hid (show v0.heap.size<=v1.heap.size by have:=HZ1.out;omega)
    have HHL:=hid (show w.heap.size+2<=v0.heap.size from HS0.out)
    refine zaS rfl (by kernel_rfl) fun KK hKK=>?_
    refine wp_copy _ _ rfl v0.heap.size v0.heap.size rfl HO1.out lo ln lc cls rfl (HT.out _ HB1.out) HLN.out (by omega) HH.out ?_
    intro g gc v2 o2 gr2 hg2 hlt2;have HB2:=hid (rv_grown HB1.out gr2 HS1.out (Nat.le_refl _) HHL.out);have HS2:=hid (show w.heap.size+2<=v2.heap.size from Nat.le_trans HS1.out gr2.size)
    have HR2:=hid o2;have HG2:=hid gr2;have HL2:=hid hlt2;have HGG2:=hid hg2;refine hKK _ _ (fun _=>trivial) (HC.out _ HB2.out) ?_
    clear hKK KK o2 gr2 hg2 hlt2;refine zbp ?_ rfl (by kernel_rfl) (fun w' hS=>?_) ?_;(rotate_left;(go_simp;with_reducible rfl);rotate_left)
    refine zap rfl (by kernel_rfl) fun KK hKK=>?_
    go_simp;have HB3:=hid (HB2.out.alloc HS2.out (.cells #[.int .i64 0,.slice none 0 0,.slice none 0 0] 105));refine hKK _ _ (fun _=>trivial) (HC.out _ HB3.out) ?_
    clear hKK KK;obtain⟨v3,hv3⟩:∃W,W=v2.alloc (.cells #[.int .i64 0,.slice none 0 0,.slice none 0 0] 105):=⟨_,rfl⟩;rw[<- hv3] at HB3;rw[<- hv3];have HS3:=hid (show w.heap.size+2<=v3.heap.size by rw[hv3];have:=HS2.out;simp;omega)
    have HZ3:=hid (show v3.heap.size=v2.heap.size+1 by rw[hv3];simp)
    have HA3:=hid (show v3.heap[v2.heap.size]? =some (.cells #[.int .i64 0,.slice none 0 0,.slice none 0 0] 105) by rw[hv3];exact heap_alloc_new _ _)
    have HK3:=hid (show ∀b,b<v2.heap.size->v3.heap[b]? =v2.heap[b]? from fun b hb=>by rw[hv3];exact Below.heap_alloc _ _ _ hb)
    clear hv3;have HP:=hid HA3.out;have HPP:=hid HS2.out;obtain⟨p,hp⟩:∃p,p=v2.heap.size:=⟨_,rfl⟩;rw[<- hp] at HP;rw[<- hp];have HPL:=hid (show w.heap.size+2<=p by rw[hp];exact HPP.out)
    have HGP:=hid (show g≠p by rw[hp];have:=HL2.out;omega)
    have HOW:=hid (show v3.ownsRow v0.heap.size 3 1 (.slice (some ⟨g,0,none⟩) ln gc) ln (i64z cls) from⟨HR2.out.1,HR2.out.2.imp (fun e=>e) fun⟨q',cap,cur,k1,k2,k3,k4⟩=>⟨q',cap,cur,k1,k2,(HK3.out q' (zab k3)).trans k3,k4⟩⟩)
    clear hp;have x0:v3.cell? ⟨p,0,none⟩=some (.int .i64 0):=by rw[cell_of_row v3 p 0 _ _ _ HP.out];rfl
    have x1:v3.cell? ⟨p,1,none⟩=some (.slice none 0 0):=by rw[cell_of_row v3 p 1 _ _ _ HP.out];rfl
    have x2:v3.cell? ⟨p,2,none⟩=some (.slice none 0 0):=by rw[cell_of_row v3 p 2 _ _ _ HP.out];rfl
    have z0:=frozen_of_row v3 p 0 _ _ HP.out;have z1:=frozen_of_row v3 p 1 _ _ HP.out;have z2:=frozen_of_row v3 p 2 _ _ HP.out;refine zap rfl (by kernel_rfl) fun KK hKK=>?_
    go_simp;have HQ:=hid (rv1_of (op:=op) HP.out HB3.out HPL.out HOW.out HGP.out HHL.out);refine hKK _ _ (fun _=>trivial) (HC.out _ HQ.out.below) ?_
    clear hKK KK;refine zaW (NoPanic.normal ?_);exact⟨rfl,_,_,_,_,HQ.out,rfl⟩
   case x57=>
    refine zaS rfl (by kernel_rfl) fun KK hKK=>?_
    go_simp;have HB2:=hid (HB1.out.alloc HS1.out (.cells #[.int .i64 0,.slice none 0 0,.slice none 0 0] 105));refine hKK _ _ (fun _=>trivial) (HC.out _ HB2.out) ?_
    clear hKK KK;obtain⟨v2,hv2⟩:∃W,W=v1.alloc (.cells #[.int .i64 0,.slice none 0 0,.slice none 0 0] 105):=⟨_,rfl⟩;rw[<- hv2] at HB2;rw[<- hv2];have HS2:=hid (show w.heap.size+2<=v2.heap.size by rw[hv2];have:=HS1.out;simp;omega)
    have HZ2:=hid (show v2.heap.size=v1.heap.size+1 by rw[hv2];simp)
    have HA2:=hid (show v2.heap[v1.heap.size]? =some (.cells #[.int .i64 0,.slice none 0 0,.slice none 0 0] 105) by rw[hv2];exact heap_alloc_new _ _)
    have HK2:=hid (show ∀b,b<v1.heap.size->v2.heap[b]? =v1.heap[b]? from fun b hb=>by rw[hv2];exact Below.heap_alloc _ _ _ hb)
    clear hv2;have HO2:=hid (show v2.ownsRow v0.heap.size 3 1 (.slice (some ⟨v0.heap.size,0,none⟩) 0 0) 0 [] from⟨HO1.out.1,HO1.out.2.imp (fun e=>e) fun⟨q',cap,cur,k1,k2,k3,k4⟩=>⟨q',cap,cur,k1,k2,(HK2.out q' (zab k3)).trans k3,k4⟩⟩)
    have HH:=hid (show v0.heap.size<=v2.heap.size by have:=HZ1.out;have:=HZ2.out;omega)
    have HHL:=hid (show w.heap.size+2<=v0.heap.size from HS0.out)
    refine zap rfl (by kernel_rfl) fun KK hKK=>?_
    refine wp_copy _ _ rfl v0.heap.size v0.heap.size rfl HO2.out lo ln lc cls rfl (HT.out _ HB2.out) HLN.out (by omega) HH.out ?_
    intro g gc v3 o3 gr3 hg3 hlt3;have HB3:=hid (rv_grown HB2.out gr3 HS2.out (Nat.le_refl _) HHL.out);have HS3:=hid (show w.heap.size+2<=v3.heap.size from Nat.le_trans HS2.out gr3.size)
    have HR3:=hid o3;have HG3:=hid gr3;have HL3:=hid hlt3;have HGG3:=hid hg3;refine hKK _ _ (fun _=>trivial) (HC.out _ HB3.out) ?_
    clear hKK KK o3 gr3 hg3 hlt3;refine zbp ?_ rfl (by kernel_rfl) (fun w' hS=>?_) ?_;(rotate_left;(go_simp;with_reducible rfl);rotate_left)
    have HP:=hid (show v3.heap[v1.heap.size]? =_ from(HG3.out.block v1.heap.size (by have:=HZ2.out;omega) (fun e=>by have e':=Option.some.inj e;have:=HZ1.out;omega)).trans HA2.out)
    have HPP:=hid HS1.out;obtain⟨p,hp⟩:∃p,p=v1.heap.size:=⟨_,rfl⟩;rw[<- hp] at HP;rw[<- hp];have HPL:=hid (show w.heap.size+2<=p by rw[hp];exact HPP.out)
    have HGP:=hid (show g≠p by rw[hp];have h1:=HGG3.out;have h2:=HZ1.out;have h3:=HZ2.out;omega)
    have HOW:=hid (show v3.ownsRow v0.heap.size 3 1 (.slice (some ⟨g,0,none⟩) ln gc) ln (i64z cls) from HR3.out)
    clear hp;have x0:v3.cell? ⟨p,0,none⟩=some (.int .i64 0):=by rw[cell_of_row v3 p 0 _ _ _ HP.out];rfl
    have x1:v3.cell? ⟨p,1,none⟩=some (.slice none 0 0):=by rw[cell_of_row v3 p 1 _ _ _ HP.out];rfl
    have x2:v3.cell? ⟨p,2,none⟩=some (.slice none 0 0):=by rw[cell_of_row v3 p 2 _ _ _ HP.out];rfl
    have z0:=frozen_of_row v3 p 0 _ _ HP.out;have z1:=frozen_of_row v3 p 1 _ _ HP.out;have z2:=frozen_of_row v3 p 2 _ _ HP.out;refine zap rfl (by kernel_rfl) fun KK hKK=>?_
    go_simp;have HQ:=hid (rv1_of (op:=op) HP.out HB3.out HPL.out HOW.out HGP.out HHL.out);refine hKK _ _ (fun _=>trivial) (HC.out _ HQ.out.below) ?_
    clear hKK KK;refine zaW (NoPanic.normal ?_);exact⟨rfl,_,_,_,_,HQ.out,rfl⟩
  case x7=>
   refine zaS rfl (by kernel_rfl) fun KK hKK=>?_
   go_simp;have HB1:=hid (HB0.out.alloc HS0.out (.cells #[.int .i64 0,.slice none 0 0,.slice none 0 0] 105));refine hKK _ _ (fun _=>trivial) (HC.out _ HB1.out) ?_
   clear hKK KK;obtain⟨v1,hv1⟩:∃W,W=v0.alloc (.cells #[.int .i64 0,.slice none 0 0,.slice none 0 0] 105):=⟨_,rfl⟩;rw[<- hv1] at HB1;rw[<- hv1];have HS1:=hid (show w.heap.size+2<=v1.heap.size by rw[hv1];have:=HS0.out;simp;omega)
   have HZ1:=hid (show v1.heap.size=v0.heap.size+1 by rw[hv1];simp)
   have HA1:=hid (show v1.heap[v0.heap.size]? =some (.cells #[.int .i64 0,.slice none 0 0,.slice none 0 0] 105) by rw[hv1];exact heap_alloc_new _ _)
   have HK1:=hid (show ∀b,b<v0.heap.size->v1.heap[b]? =v0.heap[b]? from fun b hb=>by rw[hv1];exact Below.heap_alloc _ _ _ hb)
   clear hv1;refine zap rfl (by kernel_rfl) fun KK hKK=>?_
   go_simp;have HB2:=hid (HB1.out.alloc HS1.out (.cells #[] 3));refine hKK _ _ (fun _=>trivial) (HC.out _ HB2.out) ?_
   clear hKK KK;obtain⟨v2,hv2⟩:∃W,W=v1.alloc (.cells #[] 3):=⟨_,rfl⟩;rw[<- hv2] at HB2;rw[<- hv2];have HS2:=hid (show w.heap.size+2<=v2.heap.size by rw[hv2];have:=HS1.out;simp;omega)
   have HZ2:=hid (show v2.heap.size=v1.heap.size+1 by rw[hv2];simp)
   have HA2:=hid (show v2.heap[v1.heap.size]? =some (.cells #[] 3) by rw[hv2];exact heap_alloc_new _ _)
   have HK2:=hid (show ∀b,b<v1.heap.size->v2.heap[b]? =v1.heap[b]? from fun b hb=>by rw[hv2];exact Below.heap_alloc _ _ _ hb)
   have HO2:=hid (show v2.ownsRow v1.heap.size 3 1 (.slice (some ⟨v1.heap.size,0,none⟩) 0 0) 0 [] by rw[hv2];exact World.ownsRow_lit v1 #[] 0 (Nat.le_refl _) (by decide) (by simp))
   clear hv2;have HH:=hid (show v1.heap.size<=v2.heap.size by have:=HZ2.out;omega)
   have HHL:=hid (show w.heap.size+2<=v1.heap.size from HS1.out)
   refine zap rfl (by kernel_rfl) fun KK hKK=>?_
   refine wp_copy _ _ rfl v1.heap.size v1.heap.size rfl HO2.out lo ln lc cls rfl (HT.out _ HB2.out) HLN.out (by omega) HH.out ?_
   intro g gc v3 o3 gr3 hg3 hlt3;have HB3:=hid (rv_grown HB2.out gr3 HS2.out (Nat.le_refl _) HHL.out);have HS3:=hid (show w.heap.size+2<=v3.heap.size from Nat.le_trans HS2.out gr3.size)
   have HR3:=hid o3;have HG3:=hid gr3;have HL3:=hid hlt3;have HGG3:=hid hg3;refine hKK _ _ (fun _=>trivial) (HC.out _ HB3.out) ?_
   clear hKK KK o3 gr3 hg3 hlt3;refine zbp ?_ rfl (by kernel_rfl) (fun w' hS=>?_) ?_;(rotate_left;(go_simp;with_reducible rfl);rotate_left)
   have HP:=hid (show v3.heap[v0.heap.size]? =_ from(HG3.out.block v0.heap.size (by have:=HZ1.out;have:=HZ2.out;omega) (fun e=>by have e':=Option.some.inj e;have:=HZ1.out;omega)).trans ((HK2.out v0.heap.size (by have:=HZ1.out;omega)).trans HA1.out))
   have HPP:=hid HS0.out;obtain⟨p,hp⟩:∃p,p=v0.heap.size:=⟨_,rfl⟩;rw[<- hp] at HP;rw[<- hp];have HPL:=hid (show w.heap.size+2<=p by rw[hp];exact HPP.out)
   have HGP:=hid (show g≠p by rw[hp];have h1:=HGG3.out;have h2:=HZ1.out;have h3:=HZ2.out;omega)
   have HOW:=hid (show v3.ownsRow v1.heap.size 3 1 (.slice (some ⟨g,0,none⟩) ln gc) ln (i64z cls) from HR3.out)
   clear hp;have x0:v3.cell? ⟨p,0,none⟩=some (.int .i64 0):=by rw[cell_of_row v3 p 0 _ _ _ HP.out];rfl
   have x1:v3.cell? ⟨p,1,none⟩=some (.slice none 0 0):=by rw[cell_of_row v3 p 1 _ _ _ HP.out];rfl
   have x2:v3.cell? ⟨p,2,none⟩=some (.slice none 0 0):=by rw[cell_of_row v3 p 2 _ _ _ HP.out];rfl
   have z0:=frozen_of_row v3 p 0 _ _ HP.out;have z1:=frozen_of_row v3 p 1 _ _ HP.out;have z2:=frozen_of_row v3 p 2 _ _ HP.out;refine zap rfl (by kernel_rfl) fun KK hKK=>?_
   go_simp;have HQ:=hid (rv1_of (op:=op) HP.out HB3.out HPL.out HOW.out HGP.out HHL.out);refine hKK _ _ (fun _=>trivial) (HC.out _ HQ.out.below) ?_
   clear hKK KK;refine zaW (NoPanic.normal ?_);exact⟨rfl,_,_,_,_,HQ.out,rfl⟩
 case m2=>
  rintro a' W1 ⟨H,p,g,gc,O1,rfl⟩
  cases z with
  | true=>
   obtain rfl:=HZY.out.1 rfl;obtain⟨B,hB⟩:∃B,B=W1.heap.size:=⟨_,rfl⟩;have HBz:=hid hB;have HI0:=hid (show RvI w.heap.size p B w #[.int .i64 op,.slice lo ln lc,.slice ko kn kc] op cls ln g gc (fun i=>q (kn - 1 - i)) 0 none 0 [] W1 from⟨O1.at_,World.ownsRow_nil _ _ _ _,fun j hj=>by omega,fun k z hz=>by
    obtain⟨a,h1,h2,h3⟩:=O1.rd k z hz
    cases h1
    exact⟨_,rfl,h2,(fun h=>by
     have h4:=O1.glo
     rcases h with h | h | h
     ·have h':g<w.heap.size+2:=h
      omega
     ·exact O1.gp h
     ·cases h),h3⟩,(O1.below.block _ (by omega)).trans HN.out,(O1.below.block _ (by omega)).trans HN1.out,HUb.out.trans (O1.below.mono (by omega)),O1.lo,by rw[hB];exact zab O1.at_,Nat.le_of_eq hB,fun b hb=>by cases hb⟩)
   clear O1 hB HN HN1 HUS HT HC HUb;have x2:W1.cell? ⟨w.heap.size,2,none⟩=some (.slice ko kn kc):=(HI0.out.cells W1 rfl rfl).2 2;go_wp2;clear x2;go_loopw [5] (fun y wr=>∃(i:Nat) (vo:Option Addr) (vc:Nat) (xs:List Value),y= .int .i64 i/\i<=kn/\Hid (RvI w.heap.size p B w #[.int .i64 op,.slice lo ln lc,.slice ko kn kc] op cls ln g gc (fun i=>q (kn - 1 - i)) i vo vc xs wr)) (fun y _=>kn - (intOf y).toNat)
   case atStart=>exact⟨0,none,0,[],rfl,Nat.zero_le _,HI0⟩
   case round=>
    clear HI0;obtain⟨i,vo,vc,xs,rfl,hi,HI⟩:=hrel
    by_cases hlt:i<kn
    ·have i1:(i:Int)<(kn:Int):=by omega
     obtain⟨k,hk⟩:∃k,k=kn - 1 - i:=⟨_,rfl⟩;have hkn:k<kn:=by omega
     have k0:(0:Int)<=(k:Int):=by omega
     have k1:(k:Int)<(kn:Int):=by omega
     have HQk:=hid (show q k=(fun i=>q (kn - 1 - i)) i by rw[hk])
     obtain⟨b,o,u0,u1,u2,rfl,hb,q0,q1,q2,hL⟩:=HK.out k hkn;have hbw:=HI.out.below;have HCs:=hid HI.out.cells;have HBw:=hid hbw;have HLb:=hid hb;have y0:wr.cell? ⟨b,o+k * 3,none⟩=some u0:=(hbw.cell (p:=⟨b,o+k * 3,none⟩) hb).trans q0;have y1:wr.cell? ⟨b,o+k * 3+1,none⟩=some u1:=(hbw.cell (p:=⟨b,o+k * 3+1,none⟩) hb).trans q1;have y2:wr.cell? ⟨b,o+k * 3+2,none⟩=some u2:=(hbw.cell (p:=⟨b,o+k * 3+2,none⟩) hb).trans q2;have HL:=hid (hL wr.drew ⟨hbw.os,hbw.tape,hbw.output,hbw.size,hbw.block⟩);have cN:=(HI.out.cells wr rfl rfl).2 0;have HS:=hid (fun(W:World) (h:Below wr.heap.size wr W)=>show W.cell? ⟨p,2,none⟩=some (.slice vo i vc)/\W.cell? ⟨w.heap.size,2,none⟩=some (.slice (some ⟨b,o,none⟩) kn kc)/\W.cell? ⟨b,o+k * 3,none⟩=some u0/\W.cell? ⟨b,o+k * 3+1,none⟩=some u1/\W.cell? ⟨b,o+k * 3+2,none⟩=some u2 from by
      have hbr:b<wr.heap.size:=Nat.lt_of_lt_of_le HLb.out HBw.out.size;have h1:=HCs.out W (h.block _ (zab HI.out.at_)) (h.block _ (zab HI.out.pbox));exact⟨h1.1,h1.2 2,(h.cell (p:=⟨b,o+k * 3,none⟩) hbr).trans y0,(h.cell (p:=⟨b,o+k * 3+1,none⟩) hbr).trans y1,(h.cell (p:=⟨b,o+k * 3+2,none⟩) hbr).trans y2⟩)
     clear q0 q1 q2 hL hbw hb y0 y1 y2;have e3:(kn:Int) - 1 - (i:Int)=(k:Int):=by omega
     have e4:IntKind.i64.wrap ((kn:Int) - 1)=(kn:Int) - 1:=by unfold IntKind.wrap IntKind.bits IntKind.signed;simp;omega
     have e5:IntKind.i64.wrap ((kn:Int) - 1 - (i:Int))=(k:Int):=by rw[e3];unfold IntKind.wrap IntKind.bits IntKind.signed;simp;omega
     clear hk e3;go_wp2_with fail;clear cN;refine zag [(0,true),(1,true),(2,true),(3,true),(4,true),(5,true),(6,true),(7,false),(8,false),(9,false),(10,false),(11,false)] (fun W=>W.cell? ⟨p,2,none⟩=some (.slice vo i vc)/\W.cell? ⟨w.heap.size,2,none⟩=some (.slice (some ⟨b,o,none⟩) kn kc)/\W.cell? ⟨b,o+k * 3,none⟩=some u0/\W.cell? ⟨b,o+k * 3+1,none⟩=some u1/\W.cell? ⟨b,o+k * 3+2,none⟩=some u2) (fun j=>j==11) (by kernel_rfl) (by kernel_rfl) (fun j hj=>by have:=beq_iff_eq.1 hj;subst this;decide) rfl (by kernel_rfl) (HS.out _ (show Below wr.heap.size wr wr.drew from(Below.refl _ _).drew)) ?_
     iterate 7 (refine zav ?_ rfl (by kernel_rfl) (fun w' hS=>?_) ?_;(rotate_left;(obtain⟨s0,s1,s2,s3,s4⟩:=hS;go_simp;with_reducible rfl);rotate_left))
     refine zal rfl (by kernel_rfl) fun KK hKK=>?_
     go_simp;refine HL.out.mono ?_;rintro e w4 ⟨t0,t1,t2,rfl,hP4,hB4⟩;have HP4:=hid (show RdPX w4 (fun b=>b<wr.heap.size) ((fun i=>q (kn - 1 - i)) i) t0 t1 t2 from by have hh:=hP4;rw[HQk.out] at hh;exact hh)
     have HB4:=hid (show Below wr.heap.size wr w4 from⟨hB4.os,hB4.tape,hB4.output,hB4.size,hB4.block⟩)
     obtain⟨z0,zo,zn,zc,zk,zm,zp,rfl,rfl,rfl⟩:=hP4.shape;clear hP4 hB4 HL HQk;refine hKK _ _ (fun _=>HS.out _ HB4.out) ?_
     clear hKK;refine zal rfl (by kernel_rfl) fun KK hKK=>?_
     go_simp;obtain⟨w5,hw5⟩:∃w5,w5=w4.alloc (.cells #[.int .i64 z0,.slice zo zn zc,.slice zk zm zp] 105):=⟨_,rfl⟩;rw[<- hw5];have HB5:=hid (show Below w4.heap.size w4 w5 by rw[hw5];exact zaa)
     have HN5:=hid (show ∀j u,[Value.int .i64 z0,.slice zo zn zc,.slice zk zm zp][j]? =some u->w5.cell? ((⟨w4.heap.size,0,none⟩:Addr).add j)=some u by rw[hw5];exact news3 w4 _ _)
     clear hw5;have HBB:=hid (show Below wr.heap.size wr w5 from HB4.out.trans (HB5.out.mono HB4.out.size))
     refine hKK _ _ (fun _=>HS.out _ HBB.out) ?_
     clear hKK;obtain⟨iR,hiR,hz0,hz1,hz2⟩:=info_parts Tryz.infoPat;have HO5:=hid (show w5.ownsRow B 105 3 (.slice vo i vc) i xs from⟨HI.out.own.1,HI.out.own.2.imp (fun e=>e) fun⟨q',cap,cur,k1,k2,k3,k4⟩=>⟨q',cap,cur,k1,k2,(HBB.out.block q' (zab k3)).trans k3,k4⟩⟩)
     have HlB:=hid (show B<=w5.heap.size from Nat.le_trans HI.out.bs HBB.out.size)
     refine zal rfl (by kernel_rfl) fun KK hKK=>?_
     refine wp_append_lies _ _ _ 103 rfl B 105 iR (.agg #[.int .i64 0,.slice none 0 0,.slice none 0 0]) 3 56 Tryz.underPats hiR hz0 hz1 hz2 rfl (by decide) (.slice vo i vc) i xs rfl HO5.out ⟨w4.heap.size,0,none⟩ 1 1 [Value.int .i64 z0,.slice zo zn zc,.slice zk zm zp] rfl rfl HN5.out (fun u hu=>by simp at hu;rcases hu with h | h | h<;>rw[h]<;>rfl) (by decide) (by unfold maxLen;omega) (by omega) HlB.out w5.heap.size rfl ?_
     intro g8 c8 w6 o6 gr6 hl6 hlt6;have HM:=hid (fun(w7:World) (h7:w7=w6.setCell ⟨p,2,none⟩ (.slice (some ⟨g8,0,none⟩) (i+1) c8))=>HI.out.more HP4.out HB4.out rfl HB5.out o6 gr6 hl6 h7)
     have e6:w6.heap[p]? =wr.heap[p]? :=(gr6.block p (Nat.lt_of_lt_of_le (zab HI.out.at_) HBB.out.size) (fun e=>by have:=HI.out.low p e.symm;have:=HI.out.lb;omega)).trans (HBB.out.block p (zab HI.out.at_))
     have f6:w6.frozen? ⟨p,2,none⟩=false:=frozen_of_row w6 p 2 _ _ (e6.trans HI.out.at_);have c6:w6.cell? ⟨p,2,none⟩=some (.slice vo i vc):=by rw[cell_of_row w6 p 2 _ _ _ (e6.trans HI.out.at_)];rfl
     have HS6:=hid (show w6.cell? ⟨p,2,none⟩=some (.slice vo i vc)/\w6.cell? ⟨w.heap.size,2,none⟩=some (.slice (some ⟨b,o,none⟩) kn kc)/\w6.cell? ⟨b,o+k * 3,none⟩=some u0/\w6.cell? ⟨b,o+k * 3+1,none⟩=some u1/\w6.cell? ⟨b,o+k * 3+2,none⟩=some u2 from by
      obtain⟨s0,s1,s2,s3,s4⟩:=HS.out w5 HBB.out;have hbl:=HLb.out;have hws:=HBw.out.size;have hs5:=HBB.out.size;have hlow:=HI.out.low;have hlp:=HI.out.lp;have hlb:=HI.out.lb;have hNl:=zab HI.out.pbox;have hcc:∀(d k:Nat) (v:Value),d<w.heap.size+1->w5.cell? ⟨d,k,none⟩=some v->w6.cell? ⟨d,k,none⟩=some v:=fun d k v hd hv=>(World.cell?_of_block (a:=⟨d,k,none⟩) (gr6.block d (by omega) (fun e=>by have:=hlow d e.symm;omega))).trans hv
      exact⟨c6,hcc _ _ _ (by omega) s1,hcc _ _ _ (by omega) s2,hcc _ _ _ (by omega) s3,hcc _ _ _ (by omega) s4⟩)
     refine hKK _ _ (fun _=>HS6.out) ?_
     clear hKK o6 gr6 hl6 hlt6 e6;refine zal rfl (by kernel_rfl) fun KK hKK=>?_
     go_simp;refine hKK _ _ (fun _=>HS6.out) ?_
     clear hKK;refine zal rfl (by kernel_rfl) fun KK hKK=>?_
     go_simp;refine hKK _ _ (fun h=>by cases h) ?_
     clear hKK;refine zaG (NoPanic.normal ?_);have HM2:=hid (HM.out _ rfl);clear HM HS HS6 c6 f6;go_wp2;go_roundw
     case rel=>exact⟨i+1,_,_,_,by go_num,by omega,HM2⟩
     case measure=>simp[intOf];omega
    ·have i1:¬(i:Int)<(kn:Int):=by omega
     obtain rfl:i=kn:=by omega
     have c0:wr.cell? ⟨p,0,none⟩=some (.int .i64 op):=by rw[cell_of_row wr p 0 _ _ _ HI.out.at_];rfl
     have c1:wr.cell? ⟨p,1,none⟩=some (.slice (some ⟨g,0,none⟩) ln gc):=by rw[cell_of_row wr p 1 _ _ _ HI.out.at_];rfl
     have c2:wr.cell? ⟨p,2,none⟩=some (.slice vo i vc):=by rw[cell_of_row wr p 2 _ _ _ HI.out.at_];rfl
     have d0:wr.cell? ⟨w.heap.size+1,0,none⟩=some (.int .i64 0):=by rw[cell_of_row wr _ 0 _ _ _ HI.out.res];rfl
     have d1:wr.cell? ⟨w.heap.size+1,1,none⟩=some (.slice none 0 0):=by rw[cell_of_row wr _ 1 _ _ _ HI.out.res];rfl
     have d2:wr.cell? ⟨w.heap.size+1,2,none⟩=some (.slice none 0 0):=by rw[cell_of_row wr _ 2 _ _ _ HI.out.res];rfl
     have f0:=frozen_of_row wr _ 0 _ _ HI.out.res;have f1:=frozen_of_row wr _ 1 _ _ HI.out.res;have f2:=frozen_of_row wr _ 2 _ _ HI.out.res;have HI2:=hid (show wr.cell? ⟨w.heap.size,2,none⟩=some (.slice ko i kc) from(HI.out.cells wr rfl rfl).2 2)
     have x2:=HI2.out;have lb:=HI.out.lp;go_wp2;obtain⟨w5,hw5⟩:∃w5,w5=((wr.setCell ⟨w.heap.size+1,0,none⟩ (.int .i64 op)).setCell ⟨w.heap.size+1,1,none⟩ (.slice (some ⟨g,0,none⟩) ln gc)).setCell ⟨w.heap.size+1,2,none⟩ (.slice vo i vc):=⟨_,rfl⟩;rw[<- hw5];have k5:Ony (w.heap.size+1) wr w5:=by rw[hw5];exact st3_ony wr (w.heap.size+1) _ _ _
     have z5:w5.heap[w.heap.size+1]? =some (.cells #[.int .i64 op,.slice (some ⟨g,0,none⟩) ln gc,.slice vo i vc] 105 (0,0)):=by rw[hw5];exact st3_at HI.out.res
     have y0:w5.cell? ⟨w.heap.size+1,0,none⟩=some (.int .i64 op):=by rw[cell_of_row w5 _ 0 _ _ _ z5];rfl
     have y1:w5.cell? ⟨w.heap.size+1,1,none⟩=some (.slice (some ⟨g,0,none⟩) ln gc):=by rw[cell_of_row w5 _ 1 _ _ _ z5];rfl
     have y2:w5.cell? ⟨w.heap.size+1,2,none⟩=some (.slice vo i vc):=by rw[cell_of_row w5 _ 2 _ _ _ z5];rfl
     refine bodyPost_ret (v:=.agg #[.int .i64 op,.slice (some ⟨g,0,none⟩) ln gc,.slice vo i vc]) ?_ rfl ?_
     ·simp[results,Tryz.f146,go_sem,y0,y1,y2]
     ·exact⟨_,_,_,rfl,HI.out.done k5.size (fun b hb=>k5.block b hb) HLN.out hl9 hk9,HI.out.below.trans (k5.below (by omega))⟩
  | false=>
   obtain rfl:=HZY.out.2 rfl;obtain⟨B,hB⟩:∃B,B=W1.heap.size:=⟨_,rfl⟩;have HBz:=hid hB;have HI0:=hid (show RvI w.heap.size p B w #[.int .i64 op,.slice lo ln lc,.slice ko kn kc] op cls ln g gc (fun i=>q (i)) 0 none 0 [] W1 from⟨O1.at_,World.ownsRow_nil _ _ _ _,fun j hj=>by omega,fun k z hz=>by
    obtain⟨a,h1,h2,h3⟩:=O1.rd k z hz
    cases h1
    exact⟨_,rfl,h2,(fun h=>by
     have h4:=O1.glo
     rcases h with h | h | h
     ·have h':g<w.heap.size+2:=h
      omega
     ·exact O1.gp h
     ·cases h),h3⟩,(O1.below.block _ (by omega)).trans HN.out,(O1.below.block _ (by omega)).trans HN1.out,HUb.out.trans (O1.below.mono (by omega)),O1.lo,by rw[hB];exact zab O1.at_,Nat.le_of_eq hB,fun b hb=>by cases hb⟩)
   clear O1 hB HN HN1 HUS HT HC HUb;have x2:W1.cell? ⟨w.heap.size,2,none⟩=some (.slice ko kn kc):=(HI0.out.cells W1 rfl rfl).2 2;go_wp2;clear x2;go_loopw [5] (fun y wr=>∃(i:Nat) (vo:Option Addr) (vc:Nat) (xs:List Value),y= .int .i64 i/\i<=kn/\Hid (RvI w.heap.size p B w #[.int .i64 op,.slice lo ln lc,.slice ko kn kc] op cls ln g gc (fun i=>q (i)) i vo vc xs wr)) (fun y _=>kn - (intOf y).toNat)
   case atStart=>exact⟨0,none,0,[],rfl,Nat.zero_le _,HI0⟩
   case round=>
    clear HI0;obtain⟨i,vo,vc,xs,rfl,hi,HI⟩:=hrel
    by_cases hlt:i<kn
    ·have i1:(i:Int)<(kn:Int):=by omega
     obtain⟨k,hk⟩:∃k,k=i:=⟨_,rfl⟩;have hkn:k<kn:=by omega
     have k0:(0:Int)<=(k:Int):=by omega
     have k1:(k:Int)<(kn:Int):=by omega
     have HQk:=hid (show q k=(fun i=>q (i)) i by rw[hk])
     obtain⟨b,o,u0,u1,u2,rfl,hb,q0,q1,q2,hL⟩:=HK.out k hkn;have hbw:=HI.out.below;have HCs:=hid HI.out.cells;have HBw:=hid hbw;have HLb:=hid hb;have y0:wr.cell? ⟨b,o+k * 3,none⟩=some u0:=(hbw.cell (p:=⟨b,o+k * 3,none⟩) hb).trans q0;have y1:wr.cell? ⟨b,o+k * 3+1,none⟩=some u1:=(hbw.cell (p:=⟨b,o+k * 3+1,none⟩) hb).trans q1;have y2:wr.cell? ⟨b,o+k * 3+2,none⟩=some u2:=(hbw.cell (p:=⟨b,o+k * 3+2,none⟩) hb).trans q2;have HL:=hid (hL wr.drew ⟨hbw.os,hbw.tape,hbw.output,hbw.size,hbw.block⟩);have cN:=(HI.out.cells wr rfl rfl).2 0;have HS:=hid (fun(W:World) (h:Below wr.heap.size wr W)=>show W.cell? ⟨p,2,none⟩=some (.slice vo i vc)/\W.cell? ⟨w.heap.size,2,none⟩=some (.slice (some ⟨b,o,none⟩) kn kc)/\W.cell? ⟨b,o+k * 3,none⟩=some u0/\W.cell? ⟨b,o+k * 3+1,none⟩=some u1/\W.cell? ⟨b,o+k * 3+2,none⟩=some u2 from by
      have hbr:b<wr.heap.size:=Nat.lt_of_lt_of_le HLb.out HBw.out.size;have h1:=HCs.out W (h.block _ (zab HI.out.at_)) (h.block _ (zab HI.out.pbox));exact⟨h1.1,h1.2 2,(h.cell (p:=⟨b,o+k * 3,none⟩) hbr).trans y0,(h.cell (p:=⟨b,o+k * 3+1,none⟩) hbr).trans y1,(h.cell (p:=⟨b,o+k * 3+2,none⟩) hbr).trans y2⟩)
     clear q0 q1 q2 hL hbw hb y0 y1 y2;have hk':=hk.symm;subst hk';clear hk;go_wp2_with fail;clear cN;refine zag [(0,true),(1,true),(2,true),(3,true),(4,true),(5,true),(6,true),(7,false),(8,false),(9,false),(10,false),(11,false)] (fun W=>W.cell? ⟨p,2,none⟩=some (.slice vo i vc)/\W.cell? ⟨w.heap.size,2,none⟩=some (.slice (some ⟨b,o,none⟩) kn kc)/\W.cell? ⟨b,o+i * 3,none⟩=some u0/\W.cell? ⟨b,o+i * 3+1,none⟩=some u1/\W.cell? ⟨b,o+i * 3+2,none⟩=some u2) (fun j=>j==11) (by kernel_rfl) (by kernel_rfl) (fun j hj=>by have:=beq_iff_eq.1 hj;subst this;decide) rfl (by kernel_rfl) (HS.out _ (show Below wr.heap.size wr wr.drew from(Below.refl _ _).drew)) ?_
     iterate 7 (refine zav ?_ rfl (by kernel_rfl) (fun w' hS=>?_) ?_;(rotate_left;(obtain⟨s0,s1,s2,s3,s4⟩:=hS;go_simp;with_reducible rfl);rotate_left))
     refine zal rfl (by kernel_rfl) fun KK hKK=>?_
     go_simp;refine HL.out.mono ?_;rintro e w4 ⟨t0,t1,t2,rfl,hP4,hB4⟩;have HP4:=hid (show RdPX w4 (fun b=>b<wr.heap.size) ((fun i=>q (i)) i) t0 t1 t2 from hP4)
     have HB4:=hid (show Below wr.heap.size wr w4 from⟨hB4.os,hB4.tape,hB4.output,hB4.size,hB4.block⟩)
     obtain⟨z0,zo,zn,zc,zk,zm,zp,rfl,rfl,rfl⟩:=hP4.shape;clear hP4 hB4 HL HQk;refine hKK _ _ (fun _=>HS.out _ HB4.out) ?_
     clear hKK;refine zal rfl (by kernel_rfl) fun KK hKK=>?_
     go_simp;obtain⟨w5,hw5⟩:∃w5,w5=w4.alloc (.cells #[.int .i64 z0,.slice zo zn zc,.slice zk zm zp] 105):=⟨_,rfl⟩;rw[<- hw5];have HB5:=hid (show Below w4.heap.size w4 w5 by rw[hw5];exact zaa)
     have HN5:=hid (show ∀j u,[Value.int .i64 z0,.slice zo zn zc,.slice zk zm zp][j]? =some u->w5.cell? ((⟨w4.heap.size,0,none⟩:Addr).add j)=some u by rw[hw5];exact news3 w4 _ _)
     clear hw5;have HBB:=hid (show Below wr.heap.size wr w5 from HB4.out.trans (HB5.out.mono HB4.out.size))
     refine hKK _ _ (fun _=>HS.out _ HBB.out) ?_
     clear hKK;obtain⟨iR,hiR,hz0,hz1,hz2⟩:=info_parts Tryz.infoPat;have HO5:=hid (show w5.ownsRow B 105 3 (.slice vo i vc) i xs from⟨HI.out.own.1,HI.out.own.2.imp (fun e=>e) fun⟨q',cap,cur,k1,k2,k3,k4⟩=>⟨q',cap,cur,k1,k2,(HBB.out.block q' (zab k3)).trans k3,k4⟩⟩)
     have HlB:=hid (show B<=w5.heap.size from Nat.le_trans HI.out.bs HBB.out.size)
     refine zal rfl (by kernel_rfl) fun KK hKK=>?_
     refine wp_append_lies _ _ _ 103 rfl B 105 iR (.agg #[.int .i64 0,.slice none 0 0,.slice none 0 0]) 3 56 Tryz.underPats hiR hz0 hz1 hz2 rfl (by decide) (.slice vo i vc) i xs rfl HO5.out ⟨w4.heap.size,0,none⟩ 1 1 [Value.int .i64 z0,.slice zo zn zc,.slice zk zm zp] rfl rfl HN5.out (fun u hu=>by simp at hu;rcases hu with h | h | h<;>rw[h]<;>rfl) (by decide) (by unfold maxLen;omega) (by omega) HlB.out w5.heap.size rfl ?_
     intro g8 c8 w6 o6 gr6 hl6 hlt6;have HM:=hid (fun(w7:World) (h7:w7=w6.setCell ⟨p,2,none⟩ (.slice (some ⟨g8,0,none⟩) (i+1) c8))=>HI.out.more HP4.out HB4.out rfl HB5.out o6 gr6 hl6 h7)
     have e6:w6.heap[p]? =wr.heap[p]? :=(gr6.block p (Nat.lt_of_lt_of_le (zab HI.out.at_) HBB.out.size) (fun e=>by have:=HI.out.low p e.symm;have:=HI.out.lb;omega)).trans (HBB.out.block p (zab HI.out.at_))
     have f6:w6.frozen? ⟨p,2,none⟩=false:=frozen_of_row w6 p 2 _ _ (e6.trans HI.out.at_);have c6:w6.cell? ⟨p,2,none⟩=some (.slice vo i vc):=by rw[cell_of_row w6 p 2 _ _ _ (e6.trans HI.out.at_)];rfl
     have HS6:=hid (show w6.cell? ⟨p,2,none⟩=some (.slice vo i vc)/\w6.cell? ⟨w.heap.size,2,none⟩=some (.slice (some ⟨b,o,none⟩) kn kc)/\w6.cell? ⟨b,o+i * 3,none⟩=some u0/\w6.cell? ⟨b,o+i * 3+1,none⟩=some u1/\w6.cell? ⟨b,o+i * 3+2,none⟩=some u2 from by
      obtain⟨s0,s1,s2,s3,s4⟩:=HS.out w5 HBB.out;have hbl:=HLb.out;have hws:=HBw.out.size;have hs5:=HBB.out.size;have hlow:=HI.out.low;have hlp:=HI.out.lp;have hlb:=HI.out.lb;have hNl:=zab HI.out.pbox;have hcc:∀(d k:Nat) (v:Value),d<w.heap.size+1->w5.cell? ⟨d,k,none⟩=some v->w6.cell? ⟨d,k,none⟩=some v:=fun d k v hd hv=>(World.cell?_of_block (a:=⟨d,k,none⟩) (gr6.block d (by omega) (fun e=>by have:=hlow d e.symm;omega))).trans hv
      exact⟨c6,hcc _ _ _ (by omega) s1,hcc _ _ _ (by omega) s2,hcc _ _ _ (by omega) s3,hcc _ _ _ (by omega) s4⟩)
     refine hKK _ _ (fun _=>HS6.out) ?_
     clear hKK o6 gr6 hl6 hlt6 e6;refine zal rfl (by kernel_rfl) fun KK hKK=>?_
     go_simp;refine hKK _ _ (fun _=>HS6.out) ?_
     clear hKK;refine zal rfl (by kernel_rfl) fun KK hKK=>?_
     go_simp;refine hKK _ _ (fun h=>by cases h) ?_
     clear hKK;refine zaG (NoPanic.normal ?_);have HM2:=hid (HM.out _ rfl);clear HM HS HS6 c6 f6;go_wp2;go_roundw
     case rel=>exact⟨i+1,_,_,_,by go_num,by omega,HM2⟩
     case measure=>simp[intOf];omega
    ·have i1:¬(i:Int)<(kn:Int):=by omega
     obtain rfl:i=kn:=by omega
     have c0:wr.cell? ⟨p,0,none⟩=some (.int .i64 op):=by rw[cell_of_row wr p 0 _ _ _ HI.out.at_];rfl
     have c1:wr.cell? ⟨p,1,none⟩=some (.slice (some ⟨g,0,none⟩) ln gc):=by rw[cell_of_row wr p 1 _ _ _ HI.out.at_];rfl
     have c2:wr.cell? ⟨p,2,none⟩=some (.slice vo i vc):=by rw[cell_of_row wr p 2 _ _ _ HI.out.at_];rfl
     have d0:wr.cell? ⟨w.heap.size+1,0,none⟩=some (.int .i64 0):=by rw[cell_of_row wr _ 0 _ _ _ HI.out.res];rfl
     have d1:wr.cell? ⟨w.heap.size+1,1,none⟩=some (.slice none 0 0):=by rw[cell_of_row wr _ 1 _ _ _ HI.out.res];rfl
     have d2:wr.cell? ⟨w.heap.size+1,2,none⟩=some (.slice none 0 0):=by rw[cell_of_row wr _ 2 _ _ _ HI.out.res];rfl
     have f0:=frozen_of_row wr _ 0 _ _ HI.out.res;have f1:=frozen_of_row wr _ 1 _ _ HI.out.res;have f2:=frozen_of_row wr _ 2 _ _ HI.out.res;have HI2:=hid (show wr.cell? ⟨w.heap.size,2,none⟩=some (.slice ko i kc) from(HI.out.cells wr rfl rfl).2 2)
     have x2:=HI2.out;have lb:=HI.out.lp;go_wp2;obtain⟨w5,hw5⟩:∃w5,w5=((wr.setCell ⟨w.heap.size+1,0,none⟩ (.int .i64 op)).setCell ⟨w.heap.size+1,1,none⟩ (.slice (some ⟨g,0,none⟩) ln gc)).setCell ⟨w.heap.size+1,2,none⟩ (.slice vo i vc):=⟨_,rfl⟩;rw[<- hw5];have k5:Ony (w.heap.size+1) wr w5:=by rw[hw5];exact st3_ony wr (w.heap.size+1) _ _ _
     have z5:w5.heap[w.heap.size+1]? =some (.cells #[.int .i64 op,.slice (some ⟨g,0,none⟩) ln gc,.slice vo i vc] 105 (0,0)):=by rw[hw5];exact st3_at HI.out.res
     have y0:w5.cell? ⟨w.heap.size+1,0,none⟩=some (.int .i64 op):=by rw[cell_of_row w5 _ 0 _ _ _ z5];rfl
     have y1:w5.cell? ⟨w.heap.size+1,1,none⟩=some (.slice (some ⟨g,0,none⟩) ln gc):=by rw[cell_of_row w5 _ 1 _ _ _ z5];rfl
     have y2:w5.cell? ⟨w.heap.size+1,2,none⟩=some (.slice vo i vc):=by rw[cell_of_row w5 _ 2 _ _ _ z5];rfl
     refine bodyPost_ret (v:=.agg #[.int .i64 op,.slice (some ⟨g,0,none⟩) ln gc,.slice vo i vc]) ?_ rfl ?_
     ·simp[results,Tryz.f146,go_sem,y0,y1,y2]
     ·exact⟨_,_,_,rfl,HI.out.done k5.size (fun b hb=>k5.block b hb) HLN.out hl9 hk9,HI.out.below.trans (k5.below (by omega))⟩
theorem range_kids (kids:List Pat):(List.range kids.length).map (fun i=>rev (kids.getD i (.mk 0 [] [])))=kids.map rev:=by
 apply List.ext_getElem
 ·simp
 ·intro i h1 h2
  have h3:i<kids.length:=by simpa using h1
  simp only[List.getElem_map,List.getElem_range,getD_in h3]
theorem range_turn (kids:List Pat):(List.range kids.length).map (fun i=>rev (kids.getD (kids.length - 1 - i) (.mk 0 [] [])))=(kids.map rev).reverse:=by
 apply List.ext_getElem
 ·simp
 ·intro i h1 h2
  have h3:i<kids.length:=by simpa using h1
  have h4:kids.length - 1 - i<kids.length:=by omega
  simp only[List.getElem_map,List.getElem_range,getD_in h4,List.getElem_reverse,List.length_map]
theorem reverse_any:∀p:Pat,∀(v0 v1 v2:Value) (w:World),RdP w p v0 v1 v2->Calls Tryz.prog 146 #[.agg #[v0,v1,v2]] w (RvQ (rev p) w):=by
 refine Pat.ind fun op cls kids ih v0 v1 v2 w hP=>?_
 unfold RdP at hP;obtain⟨rfl,⟨lo,lc,rfl,hl1,hl2⟩,ko,kc,rfl,hk1,hk2,_⟩:=hP;have HK:=hid (kdq_of (Q:=fun p=>RvQ (rev p)) hk1 (fun p hp u0 u1 u2 W hW=>ih p hp u0 u1 u2 W hW))
 rw[rev_mk]
 by_cases o2:op=2
 ·have h:=reverse_k true _ lo ko cls.length lc kids.length kc op (by rw[o2];rfl) cls (fun j=>rev (kids.getD j (.mk 0 [] []))) w (fun _=>rfl) nofun rfl hl2 hk2 hl1 HK
  rw[if_pos o2,<- range_turn];exact h
 ·have h:=reverse_k false _ lo ko cls.length lc kids.length kc op (beq_eq_false_iff_ne.2 o2) cls (fun j=>rev (kids.getD j (.mk 0 [] []))) w nofun (fun _=>rfl) rfl hl2 hk2 hl1 HK
  rw[if_neg o2,<- range_kids];exact h
theorem okn_same {op:Int} {cls:List Int} {n m:Nat} (h:OkN op cls n) (e:n=m):OkN op cls m:=e ▸ h
theorem okL_all:∀ps:List Pat,(∀p∈ps,OkP p)->OkL ps
 | [],_=>by unfold OkL;trivial
 | p::ps,h=>by
  unfold OkL;exact⟨h p (List.mem_cons_self ..),okL_all ps fun q hq=>h q (List.mem_cons_of_mem _ hq)⟩
theorem ok_rev:∀p:Pat,OkP p->OkP (rev p):=by
 refine Pat.ind fun op cls kids ih hO=>?_
 unfold OkP at hO;rw[rev_mk];unfold OkP;refine⟨okn_same hO.1 (by split<;>simp),okL_all _ fun p hp=>?_⟩
 have hm:p∈kids.map rev:=by
  split at hp
  ·exact List.mem_reverse.1 hp
  ·exact hp
 obtain⟨q,hq,rfl⟩:=List.mem_map.1 hm;exact ih q hq (hO.2.mem hq)
theorem szL_sum:∀ps:List Pat,szL ps=(ps.map szP).sum
 | []=>rfl
 | p::ps=>by rw[szL,szL_sum ps,List.map_cons,List.sum_cons]
theorem sz_rev:∀p:Pat,szP (rev p)=szP p:=by
 refine Pat.ind fun op cls kids ih=>?_
 rw[rev_mk];unfold szP;rw[szL_sum,szL_sum];have e:(kids.map rev).map szP=kids.map szP:=by
  rw[List.map_map];exact List.map_congr_left fun p hp=>ih p hp
 split
 ·rw[List.map_reverse,List.sum_reverse,e]
 ·rw[e]
theorem reverseP_any (p:Pat) (hO:OkP p) (hs:szP p<=2048) (v0 v1 v2:Value) (w:World) (hP:RdP w p v0 v1 v2):Calls Tryz.prog 108 #[.agg #[v0,v1,v2]] w fun e w'=>∃u0 u1 u2,e= .returned (.agg #[u0,u1,u2])/\RdP w' (rev p) u0 u1 u2/\Below w.heap.size w w':=by
 have HG:=hid (fun(W:World) (h:Below w.heap.size w W)=>zcw p hO hs v0 v1 v2 W (RdP.below h _ _ _ _ hP))
 have HR:=hid (fun(W:World) (h:Below w.heap.size w W)=>reverse_any p v0 v1 v2 W (RdP.below h _ _ _ _ hP))
 clear hP;go_enter Tryz.func108,Tryz.ntmps108;go_wp2_with fail;obtain⟨w1,hw1⟩:∃w1,w1=(w.alloc (.cells #[v0,v1,v2] 105)).alloc (.cells #[.int .i64 0,.slice none 0 0,.slice none 0 0] 105):=⟨_,rfl⟩;have hb1:Below w.heap.size w w1:=by rw[hw1];exact((Below.refl _ _).alloc (Nat.le_refl _) _).alloc (by simp) _
 have hN:w1.heap[w.heap.size]? =some (.cells #[v0,v1,v2] 105):=by rw[hw1];exact(Below.heap_alloc _ _ _ (by simp)).trans (heap_alloc_new w _)
 have hN1:w1.heap[w.heap.size+1]? =some (.cells #[.int .i64 0,.slice none 0 0,.slice none 0 0] 105):=by
  have:=heap_alloc_new (w.alloc (.cells #[v0,v1,v2] 105)) (.cells #[.int .i64 0,.slice none 0 0,.slice none 0 0] 105);rw[World.size_alloc] at this;rw[hw1];exact this
 rw[<- hw1];have HB1:=hid hb1;have HN:=hid hN;have HN1:=hid hN1;clear hw1 hb1 hN hN1;refine(HG.out w1 HB1.out).mono ?_;rintro e w2 ⟨rfl,hB2⟩;have hN2:=(hB2.block _ (zab HN.out)).trans HN.out;have HN2:=hid ((hB2.block _ (zab HN1.out)).trans HN1.out);have x0:w2.cell? ⟨w.heap.size,0,none⟩=some v0:=by rw[cell_of_row w2 _ 0 _ _ _ hN2];rfl
 have x1:w2.cell? ⟨w.heap.size,1,none⟩=some v1:=by rw[cell_of_row w2 _ 1 _ _ _ hN2];rfl
 have x2:w2.cell? ⟨w.heap.size,2,none⟩=some v2:=by rw[cell_of_row w2 _ 2 _ _ _ hN2];rfl
 have HB2:=hid (HB1.out.trans (hB2.mono HB1.out.size));clear hB2 hN2;go_wp2_with fail;refine(HR.out w2 HB2.out).mono ?_;rintro e w3 ⟨t0,t1,t2,rfl,hP3,hB3⟩;have HP3:=hid hP3;obtain⟨z0,zo,zn,zc,zk,zm,zp,rfl,rfl,rfl⟩:=hP3.shape;have HN3:=hid ((hB3.block _ (zab HN2.out)).trans HN2.out);have HB3:=hid (HB2.out.trans (hB3.mono HB2.out.size));have HS:=hid (zab HN2.out);have d0:w3.cell? ⟨w.heap.size+1,0,none⟩=some (.int .i64 0):=by rw[cell_of_row w3 _ 0 _ _ _ HN3.out];rfl
 have d1:w3.cell? ⟨w.heap.size+1,1,none⟩=some (.slice none 0 0):=by rw[cell_of_row w3 _ 1 _ _ _ HN3.out];rfl
 have d2:w3.cell? ⟨w.heap.size+1,2,none⟩=some (.slice none 0 0):=by rw[cell_of_row w3 _ 2 _ _ _ HN3.out];rfl
 have f0:=frozen_of_row w3 _ 0 _ _ HN3.out;have f1:=frozen_of_row w3 _ 1 _ _ HN3.out;have f2:=frozen_of_row w3 _ 2 _ _ HN3.out;clear hB3 hP3 x0 x1 x2;go_wp2;obtain⟨w5,hw5⟩:∃w5,w5=((w3.setCell ⟨w.heap.size+1,0,none⟩ (.int .i64 z0)).setCell ⟨w.heap.size+1,1,none⟩ (.slice zo zn zc)).setCell ⟨w.heap.size+1,2,none⟩ (.slice zk zm zp):=⟨_,rfl⟩;rw[<- hw5];have k5:Ony (w.heap.size+1) w3 w5:=by rw[hw5];exact st3_ony w3 (w.heap.size+1) _ _ _
 have z5:w5.heap[w.heap.size+1]? =some (.cells #[.int .i64 z0,.slice zo zn zc,.slice zk zm zp] 105 (0,0)):=by rw[hw5];exact st3_at HN3.out
 have y0:w5.cell? ⟨w.heap.size+1,0,none⟩=some (.int .i64 z0):=by rw[cell_of_row w5 _ 0 _ _ _ z5];rfl
 have y1:w5.cell? ⟨w.heap.size+1,1,none⟩=some (.slice zo zn zc):=by rw[cell_of_row w5 _ 1 _ _ _ z5];rfl
 have y2:w5.cell? ⟨w.heap.size+1,2,none⟩=some (.slice zk zm zp):=by rw[cell_of_row w5 _ 2 _ _ _ z5];rfl
 refine bodyPost_ret (v:=.agg #[.int .i64 z0,.slice zo zn zc,.slice zk zm zp]) ?_ rfl ?_
 ·simp[results,Tryz.f108,go_sem,y0,y1,y2]
 ·refine⟨_,_,_,rfl,RdPX.rd _ _ _ _ (RdPX.keep (X':=fun _=>False) ⟨by rw[k5.size];exact Nat.le_refl _,fun b _ hx=>k5.block b (fun e=>hx (by rw[e];exact HS.out)),fun _ _ h=>h.elim⟩ _ _ _ _ HP3.out),HB3.out.trans (k5.below (by omega))⟩
end Pt
end
section
open Go.RowKit
namespace Pt
structure Sd where
 L:List Int
 R:List Int
 noL:Bool
 noR:Bool
def SdOk (r:Rl) (s:Sd):Prop:=FsOk (rev r.left) s.L/\FsOk r.right s.R/\(s.noL=false->Ful r.left)/\(s.noR=false->Ful r.right)
def Sd.may (s:Sd) (a b:Int):Bool:=(s.noL || inb s.L a)&&(s.noR || inb s.R b)
theorem may_app {r:Rl} {s:Sd} {c:List Int} {k:Nat} (h:SdOk r s) (hk0:0<k) (hk:k<c.length) (hA:App r c k):s.may (c.getD (k - 1) 0) (c.getD k 0)=true:=by
 obtain⟨⟨i,hi,h1⟩,⟨j,hj,hjc,h2⟩,_,_⟩:=hA;obtain⟨o1,o2,o3,o4⟩:=h;unfold Sd.may;rw[Bool.and_eq_true,Bool.or_eq_true,Bool.or_eq_true]
 constructor
 ·rcases Nat.eq_or_lt_of_le hi with e | e
  ·subst e
   cases hn:s.noL with
   | true=>exact .inl rfl
   | false=>exact absurd h1 (o3 hn c i)
  ·right
   have h3:=led_rev c r.left i k (Nat.le_of_lt hk) h1;obtain⟨z,h4,h5⟩:=o1 c.reverse (c.length - k) (c.length - i) h3 (by omega)
   rw[List.getElem?_reverse (by omega),show c.length - 1 - (c.length - k)=k - 1 by omega] at h4
   rw[List.getD_eq_getElem?_getD,h4];exact(zbh _ _).2 h5
 ·rcases Nat.eq_or_lt_of_le hj with e | e
  ·subst e
   cases hn:s.noR with
   | true=>exact .inl rfl
   | false=>exact absurd h2 (o4 hn c k)
  ·right
   obtain⟨z,h4,h5⟩:=o2 c k j h2 e;rw[List.getD_eq_getElem?_getD,h4];exact(zbh _ _).2 h5
theorem among_any (lo:Option Addr) (n lc:Nat) (l:List Int) (c:Int) (w:World) (hl:RdI w lo l) (hn:n=l.length) (hm:n<=2048000000):
  Calls Tryz.prog 110 #[.slice lo n lc,.int .i64 c] w fun e w'=>e= .returned (.bool (inb l c))/\w'=w:=by
 have HL:=hid hl;have HN:=hid hn;clear hl hn;go_enter Tryz.func110,Tryz.ntmps110;go_wp2;go_loopw [5] (fun y wr=>∃i:Nat,y= .int .i64 i/\i<=n/\wr=w/\Hid (∀z∈l.take i,z≠c)) (fun y _=>n - (intOf y).toNat)
 case atStart=>exact⟨0,rfl,Nat.zero_le _,rfl,hid (by simp)⟩
 case round=>
  obtain⟨i,rfl,hi,rfl,HT⟩:=hrel
  by_cases hlt:i<n
  ·have i0:(0:Int)<=(i:Int):=by omega
   have i1:(i:Int)<(n:Int):=by omega
   have hil:i<l.length:=by have:=HN.out;omega
   obtain⟨a,rfl,ha,c1⟩:=HL.out.at hil;obtain⟨z,hz⟩:∃z,z=l[i]:=⟨_,rfl⟩;rw[<- hz] at c1;have HZ:=hid hz;clear hz
   by_cases e:z=c
   ·subst e
    have b1:(z==z)=true:=by simp
    have HE:=hid (show inb l z=true from(zbh l z).2 (by rw[HZ.out];exact List.getElem_mem _))
    go_wp2;go_ret;exact⟨by rw[HE.out];rfl,rfl⟩
   ·have b1:(z==c)=false:=by simpa using e
    have HE:=hid e;clear e;go_wp2;go_roundw
    case rel=>
     refine⟨i+1,by go_num,by omega,trivial,hid fun x hx=>?_⟩
     rw[List.take_succ_eq_append_getElem hil,List.mem_append] at hx
     rcases hx with hx | hx
     ·exact HT.out x hx
     ·rw[List.mem_singleton] at hx
      rw[hx,<- HZ.out];exact HE.out
    case measure=>simp[intOf];omega
  ·have i1:¬(i:Int)<(n:Int):=by omega
   have HE:=hid (show inb l c=false from by
    cases h:inb l c with
    | false=>rfl
    | true=>exact absurd rfl (HT.out c (by rw[List.take_of_length_le (by have:=HN.out;omega)];exact(zbh l c).1 h)))
   go_wp2;go_ret;exact⟨by rw[HE.out];rfl,rfl⟩
theorem may_any (s:Sd) (lo ro:Option Addr) (ln lc rn rc:Nat) (a b:Int) (w:World) (hL:RdI w lo s.L) (hR:RdI w ro s.R) (hln:ln=s.L.length) (hrn:rn=s.R.length) (hl9:ln<=2048000000) (hr9:rn<=2048000000):
  Calls Tryz.prog 75 #[.agg #[.slice lo ln lc,.slice ro rn rc,.bool s.noL,.bool s.noR],.int .i64 a,.int .i64 b] w fun e w'=>e= .returned (.bool (s.may a b))/\Below w.heap.size w w':=by
 have HA1:=hid (fun(W:World) (h:Below w.heap.size w W)=>among_any lo ln lc s.L a W (hL.below h) hln hl9)
 have HA2:=hid (fun(W:World) (h:Below w.heap.size w W)=>among_any ro rn rc s.R b W (hR.below h) hrn hr9)
 have HV:=hid (show s.may a b=((s.noL || inb s.L a)&&(s.noR || inb s.R b)) from rfl)
 obtain⟨p,hp⟩:∃p,p=s.noL:=⟨_,rfl⟩;obtain⟨q,hq⟩:∃q,q=s.noR:=⟨_,rfl⟩;obtain⟨x,hx⟩:∃x,x=inb s.L a:=⟨_,rfl⟩;obtain⟨y,hy⟩:∃y,y=inb s.R b:=⟨_,rfl⟩;rw[<- hp,<- hq,<- hx,<- hy] at HV;rw[<- hx] at HA1;rw[<- hy] at HA2;rw[<- hp,<- hq,HV.out];clear hL hR hln hrn hl9 hr9 HV hp hq hx hy;have HB:=hid (fun(o:Obj)=>zaa (w:=w) (o:=o))
 cases p with
 | true=>
  cases q with
  | true=>
   go_enter Tryz.func75,Tryz.ntmps75;go_wp2;go_ret;exact⟨rfl,HB.out _⟩
  | false=>
   go_enter Tryz.func75,Tryz.ntmps75;go_wp2_with fail;refine(HA2.out _ (HB.out _)).mono ?_;rintro e w2 ⟨rfl,rfl⟩
   cases y<;>(go_wp2;go_ret;exact⟨rfl,HB.out _⟩)
 | false=>
  go_enter Tryz.func75,Tryz.ntmps75;go_wp2_with fail;refine(HA1.out _ (HB.out _)).mono ?_;rintro e w2 ⟨rfl,rfl⟩
  cases x with
  | false=>
   go_wp2;go_ret;exact⟨rfl,HB.out _⟩
  | true=>
   cases q with
   | true=>
    go_wp2;go_ret;exact⟨rfl,HB.out _⟩
   | false=>
    go_wp2_with fail;refine(HA2.out _ (HB.out _)).mono ?_;rintro e w3 ⟨rfl,rfl⟩
    cases y<;>(go_wp2;go_ret;exact⟨rfl,HB.out _⟩)
end Pt
end
section
open Go.RowKit
namespace Pt
theorem Tryz.infoSide:(Tryz.prog.info? 101).map (fun i=>(i.zero,i.size,i.bytes))=some (some (.agg #[.slice none 0 0,.slice none 0 0,.bool false,.bool false]),4,56):=by kernel_rfl
theorem Tryz.underSides:Tryz.prog.underlying 98=some (.slice 101):=by kernel_rfl
def SdX (w:World) (X:Nat->Prop) (sds:List Sd) (xs:List Value):Prop:=∀(j:Nat) (s:Sd),sds[j]? =some s->∃lo lc ro rc,xs[j * 4]? =some (.slice lo s.L.length lc)/\xs[j * 4+1]? =some (.slice ro s.R.length rc)/\xs[j * 4+2]? =some (.bool s.noL)/\xs[j * 4+3]? =some (.bool s.noR)/\RdIX w X lo s.L/\RdIX w X ro s.R/\s.L.length<=2048000000/\s.R.length<=2048000000
theorem SdX.keep {w w':World} {X X':Nat->Prop} {sds:List Sd} {xs:List Value} (h:SdX w X sds xs) (hk:KpX w w' X X'):SdX w' X' sds xs:=fun j s hj=>by
 obtain⟨lo,lc,ro,rc,a0,a1,a2,a3,r1,r2,l1,l2⟩:=h j s hj;exact⟨lo,lc,ro,rc,a0,a1,a2,a3,r1.keep hk,r2.keep hk,l1,l2⟩
def SdRd (w:World) (vo:Option Addr) (sds:List Sd):Prop:=∀(j:Nat) (s:Sd),sds[j]? =some s->∃b lo lc ro rc,vo=some ⟨b,0,none⟩/\b<w.heap.size/\w.cell? ⟨b,j * 4,none⟩=some (.slice lo s.L.length lc)/\w.cell? ⟨b,j * 4+1,none⟩=some (.slice ro s.R.length rc)/\w.cell? ⟨b,j * 4+2,none⟩=some (.bool s.noL)/\w.cell? ⟨b,j * 4+3,none⟩=some (.bool s.noR)/\RdI w lo s.L/\RdI w ro s.R/\s.L.length<=2048000000/\s.R.length<=2048000000
theorem SdRd.below {w w':World} {vo:Option Addr} {sds:List Sd} (h:SdRd w vo sds) (hb:Below w.heap.size w w'):SdRd w' vo sds:=fun j s hj=>by
 obtain⟨b,lo,lc,ro,rc,h0,hl,a0,a1,a2,a3,r1,r2,l1,l2⟩:=h j s hj;have hc:∀k v,w.cell? ⟨b,k,none⟩=some v->w'.cell? ⟨b,k,none⟩=some v:=fun k v hk=>(hb.cell (p:=⟨b,k,none⟩) hl).trans hk
 exact⟨b,lo,lc,ro,rc,h0,Nat.lt_of_lt_of_le hl hb.size,hc _ _ a0,hc _ _ a1,hc _ _ a2,hc _ _ a3,r1.below hb,r2.below hb,l1,l2⟩
def SsQ (rs:List Rl) (w:World) (e:Ending) (w':World):Prop:=∃vo vc sds,e= .returned (.slice vo rs.length vc)/\sds.length=rs.length/\(∀(j:Nat) (r:Rl) (s:Sd),rs[j]? =some r->sds[j]? =some s->SdOk r s)/\SdRd w' vo sds/\Below w.heap.size w w'
structure SdI (B:Nat) (rs:List Rl) (i:Nat) (vo:Option Addr) (vc:Nat) (sds:List Sd) (xs:List Value) (wr:World):Prop where
 own:wr.ownsRow B 101 4 (.slice vo i vc) i xs
 sd:SdX wr (fun b=>(Value.slice vo i vc).ownBlock=some b) sds xs
 ln:sds.length=i
 ok:∀(j:Nat) (r:Rl) (s:Sd),rs[j]? =some r->sds[j]? =some s->SdOk r s
theorem SdI.rd {B:Nat} {rs:List Rl} {i:Nat} {vo:Option Addr} {vc:Nat} {sds:List Sd} {xs:List Value} {wr:World} (h:SdI B rs i vo vc sds xs wr):SdRd wr vo sds:=fun j s hj=>by
 obtain⟨lo,lc,ro,rc,a0,a1,a2,a3,r1,r2,l1,l2⟩:=h.sd j s hj;have hjl:=(List.getElem?_eq_some_iff.1 hj).1;have hln:=h.ln
 rcases h.own.2 with ⟨_,e⟩ | ⟨g,cap,cur,k1,k2,k3,_⟩
 ·omega
 ·cases k1
  have hc:=(zbu h.own).2.2.2;exact⟨g,lo,lc,ro,rc,rfl,zab k3,hc _ _ a0,hc _ _ a1,hc _ _ a2,hc _ _ a3,r1.rd,r2.rd,l1,l2⟩
theorem SdI.below {B:Nat} {rs:List Rl} {i:Nat} {vo:Option Addr} {vc:Nat} {sds:List Sd} {xs:List Value} {wr w':World} (h:SdI B rs i vo vc sds xs wr) (hb:Below wr.heap.size wr w'):SdI B rs i vo vc sds xs w':=
 ⟨⟨h.own.1,h.own.2.imp (fun e=>e) fun⟨g,cap,cur,a1,a2,a3,a4⟩=>⟨g,cap,cur,a1,a2,(hb.block g (zab a3)).trans a3,a4⟩⟩,h.sd.keep ⟨hb.size,fun k hk _=>hb.block k hk,fun _ _ h=>h⟩,h.ln,h.ok⟩
theorem SdI.more {B:Nat} {rs:List Rl} {i:Nat} {vo:Option Addr} {vc:Nat} {sds:List Sd} {xs:List Value} {wr w5 w6:World} {r:Rl} {s:Sd} {lo ro:Option Addr} {lc rc g8 c8:Nat} (h:SdI B rs i vo vc sds xs wr) (hb:Below wr.heap.size wr w5) (hr:rs[i]? =some r) (hs:SdOk r s)
  (rL:RdIX w5 (fun b=>b<wr.heap.size) lo s.L) (rR:RdIX w5 (fun b=>b<wr.heap.size) ro s.R) (hL9:s.L.length<=2048000000) (hR9:s.R.length<=2048000000)
  (o6:w6.ownsRow B 101 4 (.slice (some ⟨g8,0,none⟩) (i+1) c8) (i+1) (xs++[.slice lo s.L.length lc,.slice ro s.R.length rc,.bool s.noL,.bool s.noR])) (gr:World.grownBy w5 w6 (Value.slice vo i vc).ownBlock) (hg8:(Value.slice vo i vc).ownBlock=some g8\/g8=w5.heap.size):
  SdI B rs (i+1) (some ⟨g8,0,none⟩) c8 (sds++[s]) (xs++[.slice lo s.L.length lc,.slice ro s.R.length rc,.bool s.noL,.bool s.noR]) w6:=by
 have hxl:=h.own.1;have hln:=h.ln;have s5:=hb.size;have hoB:∀b,(Value.slice vo i vc).ownBlock=some b->b<wr.heap.size:=fun b hb=>by
  rcases h.own.2 with ⟨k1,_⟩ | ⟨q',cap,cur,k1,_,k3,_⟩
  ·rw[k1] at hb;cases hb
  ·rw[k1] at hb
   cases hb
   exact zab k3
 have own8:∀b,(Value.slice (some ⟨g8,0,none⟩) (i+1) c8).ownBlock=some b->b=g8:=fun b hb=>by
  have e:g8=b:=by simpa[Value.ownBlock] using hb
  exact e.symm
 have K1:KpX wr w6 (fun b=>(Value.slice vo i vc).ownBlock=some b) (fun b=>(Value.slice (some ⟨g8,0,none⟩) (i+1) c8).ownBlock=some b):=⟨by have:=gr.size;omega,fun b hb2 hx=>(gr.block b (by omega) (fun e=>hx e.symm)).trans (hb.block b hb2),fun b hb2 hx=>by
  have e:=own8 b hx;subst e
  rcases hg8 with h8 | h8
  ·exact h8
  ·omega⟩
 have K2:KpX w5 w6 (fun b=>b<wr.heap.size) (fun b=>(Value.slice (some ⟨g8,0,none⟩) (i+1) c8).ownBlock=some b):=⟨gr.size,fun b hb2 hx=>gr.block b hb2 (fun e=>hx (hoB b e.symm)),fun b hb2 hx=>by
  have e:=own8 b hx;subst e
  rcases hg8 with h8 | h8
  ·exact hoB _ h8
  ·omega⟩
 refine⟨o6,fun j t hj=>?_,by rw[List.length_append,hln];rfl,fun j r' s' hj hj2=>?_⟩
 ·by_cases e:j<i
  ·rw[List.getElem?_append_left (by omega)] at hj
   obtain⟨lo',lc',ro',rc',a0,a1,a2,a3,r1,r2,l1,l2⟩:=h.sd j t hj;refine⟨lo',lc',ro',rc',?_,?_,?_,?_,r1.keep K1,r2.keep K1,l1,l2⟩
   all_goals (rw[List.getElem?_append_left (by omega)];assumption)
  ·have hjl:=(List.getElem?_eq_some_iff.1 hj).1
   rw[List.length_append,List.length_singleton] at hjl;obtain rfl:j=i:=by omega
   rw[List.getElem?_append_right (by omega),hln,Nat.sub_self] at hj
   cases hj
   refine⟨lo,lc,ro,rc,?_,?_,?_,?_,rL.keep K2,rR.keep K2,hL9,hR9⟩
   ·rw[List.getElem?_append_right (by omega),hxl,Nat.sub_self];rfl
   ·rw[List.getElem?_append_right (by omega),hxl,show j * 4+1 - j * 4=1 by omega];rfl
   ·rw[List.getElem?_append_right (by omega),hxl,show j * 4+2 - j * 4=2 by omega];rfl
   ·rw[List.getElem?_append_right (by omega),hxl,show j * 4+3 - j * 4=3 by omega];rfl
 ·by_cases e:j<i
  ·rw[List.getElem?_append_left (by omega)] at hj2
   exact h.ok j r' s' hj hj2
  ·have hjl:=(List.getElem?_eq_some_iff.1 hj2).1
   rw[List.length_append,List.length_singleton] at hjl;obtain rfl:j=i:=by omega
   rw[List.getElem?_append_right (by omega),hln,Nat.sub_self] at hj2
   cases hj2
   rw[hr] at hj
   cases hj
   exact hs
theorem RdP.shape {w:World}:∀{p:Pat} {v0 v1 v2:Value},RdP w p v0 v1 v2->∃(o:Int) (co:Option Addr) (cn cc:Nat) (ko:Option Addr) (kn kc:Nat),v0= .int .i64 o/\v1= .slice co cn cc/\v2= .slice ko kn kc
 | .mk op cls kids,v0,v1,v2,h=>by
  unfold RdP at h;obtain⟨h1,⟨co,cc,h2,h3,h4⟩,ko,kc,h5,h6,h7⟩:=h;exact⟨op,co,_,cc,ko,_,kc,h1,h2,h5⟩
theorem RdIX.later {w w':World} {X Y:Nat->Prop} {ao:Option Addr} {l:List Int} (h:RdIX w X ao l) (hb:Below w.heap.size w w') (hX:∀b,Y b->X b):RdIX w' Y ao l:=h.keep ⟨hb.size,fun k hk _=>hb.block k hk,fun k _ hy=>hX k hy⟩
theorem news4 (w:World) (v:Array Value) (T:TypeId):∀j u,v.toList[j]? =some u->(w.alloc (.cells v T)).cell? ((⟨w.heap.size,0,none⟩:Addr).add j)=some u:=World.news_of_block (cs:=v) (heap_alloc_new w _)
set_option maxRecDepth 100000 in
theorem sides_any (rest:Bool) (rs:List Rl) (hrs:∀r∈rs,RlOk r) (ro:Option Addr) (rn rc:Nat) (hrn:rn=rs.length) (hr9:rn<=1000) (w:World) (hR:RdRl w ro rs):
  Calls Tryz.prog 74 #[.agg #[.slice ro rn rc,.bool rest]] w (SsQ rs w):=by
 have HR:=hid hR;have HRN:=hid hrn;clear hR hrn;go_enter Tryz.func74,Tryz.ntmps74;go_wp2;obtain⟨w1,hw1⟩:∃w1,w1=w.alloc (.cells #[.slice ro rn rc,.bool rest] 63):=⟨_,rfl⟩;have hb1:Below w.heap.size w w1:=by rw[hw1];exact zaa
 have x0:w1.cell? ⟨w.heap.size,0,none⟩=some (.slice ro rn rc):=by rw[hw1];simp[go_sem]
 have hs1:w.heap.size<w1.heap.size:=by rw[hw1];simp
 rw[<- hw1];have HB1:=hid hb1;have HX:=hid (fun(W:World) (h:Below w1.heap.size w1 W)=>show W.cell? ⟨w.heap.size,0,none⟩=some (.slice ro rn rc) from(h.cell (p:=⟨w.heap.size,0,none⟩) hs1).trans x0)
 clear hw1 hb1 x0;go_loopw [3,4] (fun x y wr=>∃(i:Nat) (vo:Option Addr) (vc:Nat) (sds:List Sd) (xs:List Value),x= .slice vo i vc/\y= .int .i64 i/\i<=rn/\Hid (SdI w1.heap.size rs i vo vc sds xs wr)/\Hid (Below w1.heap.size w1 wr)) (fun _ y _=>rn - (intOf y).toNat)
 case atStart=>exact⟨0,none,0,[],[],rfl,rfl,Nat.zero_le _,hid ⟨World.ownsRow_nil _ _ _ _,fun j s hj=>by simp at hj,rfl,fun j r s _ hj=>by simp at hj⟩,hid (Below.refl _ _)⟩
 case round=>
  obtain⟨i,vo,vc,sds,xs,rfl,rfl,hi,HI,HB⟩:=hrel;have x0:=HX.out wr HB.out;have HBw:=hid (HB1.out.trans (HB.out.mono HB1.out.size))
  by_cases hlt:i<rn
  ·have i0:(0:Int)<=(i:Int):=by omega
   have i1:(i:Int)<(rn:Int):=by omega
   have hil:i<rs.length:=by have:=HRN.out;omega
   obtain⟨b,o,l0,l1,l2,r0,r1,r2,rfl,hb,a0,a1,a2,a3,a4,a5,a6,a7,a8,p1,p2⟩:=HR.out i rs[i] (List.getElem?_eq_getElem hil);obtain⟨e0,eo,en,ec,ek,em,ep,rfl,rfl,rfl⟩:=p1.shape;obtain⟨f0,fo,fn,fc,fk,fm,fp,rfl,rfl,rfl⟩:=p2.shape;have hcc:∀k v,w.cell? ⟨b,k,none⟩=some v->wr.cell? ⟨b,k,none⟩=some v:=fun k v hk=>(HBw.out.cell (p:=⟨b,k,none⟩) hb).trans hk
   have y0:=hcc _ _ a0;have y1:=hcc _ _ a1;have y2:=hcc _ _ a2;have y3:=hcc _ _ a3;have y4:=hcc _ _ a4;have y5:=hcc _ _ a5;have y6:=hcc _ _ a6;have y7:=hcc _ _ a7;have y8:=hcc _ _ a8;obtain⟨r,hr⟩:∃r,r=rs[i]:=⟨_,rfl⟩;have HRi:=hid (show rs[i]? =some r by rw[hr];exact List.getElem?_eq_getElem hil)
   have HOk:=hid (hrs r (by rw[hr];exact List.getElem_mem _))
   rw[<- hr] at y0 y1 y2 p1 p2;have HP1:=hid p1;have HP2:=hid p2;clear hcc a0 a1 a2 a3 a4 a5 a6 a7 a8 hb p1 p2 hr;go_wp2_with fail;obtain⟨wq,hwq⟩:∃wq,wq=wr.alloc (.cells #[.bool r.brk,.bool r.st,.bool r.en,.int .i64 e0,.slice eo en ec,.slice ek em ep,.int .i64 f0,.slice fo fn fc,.slice fk fm fp] 107):=⟨_,rfl⟩;have HBq:=hid (show Below wr.heap.size wr wq by rw[hwq];exact zaa)
   have HQ:=hid (show wq.heap[wr.heap.size]? =some (.cells #[.bool r.brk,.bool r.st,.bool r.en,.int .i64 e0,.slice eo en ec,.slice ek em ep,.int .i64 f0,.slice fo fn fc,.slice fk fm fp] 107) by rw[hwq];exact heap_alloc_new _ _)
   obtain⟨Q,hQ⟩:∃Q,Q=wr.heap.size:=⟨_,rfl⟩;have HQs:=hid hQ;rw[<- hwq];rw[<- hQ] at HQ⊢;clear hwq hQ;have HS:=hid (fun(W:World) (h:Below wq.heap.size wq W)=>show W.cell? ⟨Q,3,none⟩=some (.int .i64 e0)/\W.cell? ⟨Q,4,none⟩=some (.slice eo en ec)/\W.cell? ⟨Q,5,none⟩=some (.slice ek em ep)/\W.cell? ⟨Q,6,none⟩=some (.int .i64 f0)/\W.cell? ⟨Q,7,none⟩=some (.slice fo fn fc)/\W.cell? ⟨Q,8,none⟩=some (.slice fk fm fp) from by
    have h1:=(h.block _ (zab HQ.out)).trans HQ.out;exact⟨by rw[cell_of_row W Q 3 _ _ _ h1];rfl,by rw[cell_of_row W Q 4 _ _ _ h1];rfl,by rw[cell_of_row W Q 5 _ _ _ h1];rfl,by rw[cell_of_row W Q 6 _ _ _ h1];rfl,by rw[cell_of_row W Q 7 _ _ _ h1];rfl,by rw[cell_of_row W Q 8 _ _ _ h1];rfl⟩)
   have HBqw:=hid (HBw.out.trans (HBq.out.mono HBw.out.size));have HRv:=hid (fun(W:World) (h:Below wq.heap.size wq W)=>reverseP_any r.left HOk.out.1 HOk.out.2.2.1 _ _ _ W (RdP.below (HBqw.out.trans (h.mono HBqw.out.size)) _ _ _ _ HP1.out))
   have HF2:=hid (fun(W:World) (h:Below wq.heap.size wq W)=>zeX r.right HOk.out.2.1 HOk.out.2.2.2 _ _ _ W (RdP.below (HBqw.out.trans (h.mono HBqw.out.size)) _ _ _ _ HP2.out))
   have HE1:=hid (fun(W:World) (h:Below wq.heap.size wq W)=>zdh r.left HOk.out.1 HOk.out.2.2.1 _ _ _ W (RdP.below (HBqw.out.trans (h.mono HBqw.out.size)) _ _ _ _ HP1.out))
   have HE2:=hid (fun(W:World) (h:Below wq.heap.size wq W)=>zdh r.right HOk.out.2.1 HOk.out.2.2.2 _ _ _ W (RdP.below (HBqw.out.trans (h.mono HBqw.out.size)) _ _ _ _ HP2.out))
   clear y0 y1 y2 y3 y4 y5 y6 y7 y8 x0;refine zag [(0,true),(1,true),(2,true),(5,true),(6,true),(8,true),(9,true),(11,true),(12,true),(3,false),(4,false),(7,false),(10,false),(13,false),(14,false),(15,false),(16,false),(17,false)] (fun W=>W.cell? ⟨Q,3,none⟩=some (.int .i64 e0)/\W.cell? ⟨Q,4,none⟩=some (.slice eo en ec)/\W.cell? ⟨Q,5,none⟩=some (.slice ek em ep)/\W.cell? ⟨Q,6,none⟩=some (.int .i64 f0)/\W.cell? ⟨Q,7,none⟩=some (.slice fo fn fc)/\W.cell? ⟨Q,8,none⟩=some (.slice fk fm fp)) (fun _=>false) (by kernel_rfl) (by kernel_rfl) (fun j hj=>by cases hj) rfl (by kernel_rfl) (HS.out _ (show Below wq.heap.size wq wq.drew from(Below.refl _ _).drew)) ?_
   iterate 9 (refine zav ?_ rfl (by kernel_rfl) (fun w' hS=>?_) ?_;(rotate_left;(obtain⟨s3,s4,s5,s6,s7,s8⟩:=hS;go_simp;with_reducible rfl);rotate_left))
   have HBd:=hid (show Below wq.heap.size wq wq.drew from(Below.refl _ _).drew)
   refine zal rfl (by kernel_rfl) fun KK hKK=>?_
   go_simp;refine(HRv.out wq.drew HBd.out).mono ?_;rintro e w2 ⟨t0,t1,t2,rfl,hP2,hB2⟩;have HB2:=hid (HBd.out.trans (hB2.mono HBd.out.size));have HF1:=hid (zeX (rev r.left) (ok_rev _ HOk.out.1) (by rw[sz_rev];exact HOk.out.2.2.1) t0 t1 t2 w2 hP2)
   obtain⟨g0,go,gn,gc,gk,gm,gp,rfl,rfl,rfl⟩:=hP2.shape;clear hP2 hB2 HRv HBd;refine hKK _ _ (fun _=>HS.out _ HB2.out) ?_
   clear hKK;refine zal rfl (by kernel_rfl) fun KK hKK=>?_
   go_simp;refine HF1.out.mono ?_;rintro e w3 ⟨lo,lc,L,rfl,hI3,hF3,hL3,hB3⟩;have HB3:=hid (HB2.out.trans (hB3.mono HB2.out.size));have HI3:=hid (show RdIX w3 (fun b=>b<Q) lo L from hI3.later (Below.refl _ _) fun b h=>by
    have h1:=HQs.out;have h2:=HBq.out.size;have h3:=HB2.out.size;have h4:b<Q:=h
    show b<w2.heap.size
    omega)
   have HF3:=hid hF3;have HL3:=hid hL3;clear hI3 hF3 hL3 hB3 HF1 HB2;obtain⟨n,hn⟩:∃n,n=L.length:=⟨_,rfl⟩;have HNL:=hid hn;rw[<- hn];clear hn;refine hKK _ _ (fun _=>HS.out _ HB3.out) ?_
   clear hKK;refine zal rfl (by kernel_rfl) fun KK hKK=>?_
   go_simp;refine(HF2.out w3 HB3.out).mono ?_;rintro e w4 ⟨so,sc,M,rfl,hI4,hF4,hL4,hB4⟩;have HI34:=hid (HI3.out.later hB4 fun b h=>h)
   have HB4:=hid (HB3.out.trans (hB4.mono HB3.out.size));have HI4:=hid (show RdIX w4 (fun b=>b<Q) so M from hI4.later (Below.refl _ _) fun b h=>by
    have h1:=HQs.out;have h2:=HBq.out.size;have h3:=HB3.out.size;have h4:b<Q:=h
    show b<w3.heap.size
    omega)
   have HF4:=hid hF4;have HL4:=hid hL4;clear hI4 hF4 hL4 hB4 HI3 HB3 HF2;obtain⟨m,hm⟩:∃m,m=M.length:=⟨_,rfl⟩;have HML:=hid hm;rw[<- hm];clear hm;refine hKK _ _ (fun _=>HS.out _ HB4.out) ?_
   clear hKK;refine zal rfl (by kernel_rfl) fun KK hKK=>?_
   go_simp;refine(HE1.out w4 HB4.out).mono ?_;rintro e w5 ⟨b1,rfl,hb1,hB5⟩;have HI35:=hid (HI34.out.later hB5 fun b h=>h)
   have HI45:=hid (HI4.out.later hB5 fun b h=>h)
   have HB5:=hid (HB4.out.trans (hB5.mono HB4.out.size));have HV1:=hid hb1;clear hb1 hB5 HI34 HI4 HB4 HE1;refine hKK _ _ (fun _=>HS.out _ HB5.out) ?_
   clear hKK;refine zal rfl (by kernel_rfl) fun KK hKK=>?_
   go_simp;refine(HE2.out w5 HB5.out).mono ?_;rintro e w6 ⟨b2,rfl,hb2,hB6⟩;have HI36:=hid (HI35.out.later hB6 fun b h=>h)
   have HI46:=hid (HI45.out.later hB6 fun b h=>h)
   have HB6:=hid (HB5.out.trans (hB6.mono HB5.out.size));have HV2:=hid hb2;clear hb2 hB6 HI35 HI45 HB5 HE2;refine hKK _ _ (fun _=>HS.out _ HB6.out) ?_
   clear hKK;refine zal rfl (by kernel_rfl) fun KK hKK=>?_
   go_simp;refine hKK _ _ (fun _=>HS.out _ HB6.out) ?_
   clear hKK;refine zal rfl (by kernel_rfl) fun KK hKK=>?_
   go_simp;obtain⟨w7,hw7⟩:∃w7,w7=w6.alloc (.cells #[.slice lo n lc,.slice so m sc,.bool b1,.bool b2] 101):=⟨_,rfl⟩;rw[<- hw7];have HB67:=hid (show Below w6.heap.size w6 w7 by rw[hw7];exact zaa)
   have HN7:=hid (show ∀j u,[Value.slice lo n lc,.slice so m sc,.bool b1,.bool b2][j]? =some u->w7.cell? ((⟨w6.heap.size,0,none⟩:Addr).add j)=some u by rw[hw7];exact news4 w6 _ _)
   clear hw7;have HB7:=hid (HB6.out.trans (HB67.out.mono HB6.out.size));have HI37:=hid (HI36.out.later HB67.out fun b h=>h)
   have HI47:=hid (HI46.out.later HB67.out fun b h=>h)
   refine hKK _ _ (fun _=>HS.out _ HB7.out) ?_
   clear hKK HI36 HI46 HB6;have HBr7:=hid (show Below wr.heap.size wr w7 from HBq.out.trans (HB7.out.mono HBq.out.size))
   have HO7:=hid (HI.out.below HBr7.out);obtain⟨iR,hiR,hz0,hz1,hz2⟩:=info_parts Tryz.infoSide;have HlB:=hid (show w1.heap.size<=w7.heap.size from Nat.le_trans HB.out.size HBr7.out.size)
   refine zal rfl (by kernel_rfl) fun KK hKK=>?_
   refine wp_append_lies _ _ _ 98 rfl w1.heap.size 101 iR (.agg #[.slice none 0 0,.slice none 0 0,.bool false,.bool false]) 4 56 Tryz.underSides hiR hz0 hz1 hz2 rfl (by decide) (.slice vo i vc) i xs rfl HO7.out.own ⟨w6.heap.size,0,none⟩ 1 1 [Value.slice lo n lc,.slice so m sc,.bool b1,.bool b2] rfl rfl HN7.out (fun u hu=>by simp at hu;rcases hu with h | h | h | h<;>rw[h]<;>rfl) (by decide) (by unfold maxLen;omega) (by omega) HlB.out w7.heap.size rfl ?_
   intro g8 c8 w8 o8 gr8 hl8 hlt8;have HB8:=hid (show Below w1.heap.size w1 w8 from(HB.out.trans (HBr7.out.mono HB.out.size)).trans ⟨gr8.os,gr8.tape,gr8.output,gr8.size,fun k hk=>gr8.block k (by have:=HlB.out;omega) (fun e=>by
    rcases HO7.out.own.2 with ⟨k1,_⟩ | ⟨q',cap,cur,k1,k2,_⟩
    ·rw[k1] at e;cases e
    ·rw[k1] at e
     have e':k=q':=Option.some.inj e;omega)⟩)
   have HM8:=hid (show SdI w1.heap.size rs (i+1) (some ⟨g8,0,none⟩) c8 (sds++[⟨L,M,b1,b2⟩]) (xs++[Value.slice lo n lc,.slice so m sc,.bool b1,.bool b2]) w8 from by
    rw[HNL.out,HML.out] at o8⊢;exact HI.out.more (s:=⟨L,M,b1,b2⟩) HBr7.out HRi.out ⟨HF3.out,HF4.out,HV1.out,HV2.out⟩ (HI37.out.later (Below.refl _ _) fun b h=>by rw[HQs.out];exact h) (HI47.out.later (Below.refl _ _) fun b h=>by rw[HQs.out];exact h) HL3.out HL4.out o8 gr8 hl8)
   have HS8:=hid (show w8.cell? ⟨Q,3,none⟩=some (.int .i64 e0)/\w8.cell? ⟨Q,4,none⟩=some (.slice eo en ec)/\w8.cell? ⟨Q,5,none⟩=some (.slice ek em ep)/\w8.cell? ⟨Q,6,none⟩=some (.int .i64 f0)/\w8.cell? ⟨Q,7,none⟩=some (.slice fo fn fc)/\w8.cell? ⟨Q,8,none⟩=some (.slice fk fm fp) from by
    have h1:w8.heap[Q]? =w7.heap[Q]? :=gr8.block Q (by have:=zab HQ.out;have:=HB7.out.size;omega) (fun e=>by
     rcases HI.out.own.2 with ⟨k1,_⟩ | ⟨q',cap,cur,k1,_,k3,_⟩
     ·rw[k1] at e;cases e
     ·rw[k1] at e
      have e':Q=q':=Option.some.inj e;have:=zab k3;have:=HQs.out;omega)
    obtain⟨a3,a4,a5,a6,a7,a8⟩:=HS.out w7 HB7.out;exact⟨(World.cell?_of_block h1).trans a3,(World.cell?_of_block h1).trans a4,(World.cell?_of_block h1).trans a5,(World.cell?_of_block h1).trans a6,(World.cell?_of_block h1).trans a7,(World.cell?_of_block h1).trans a8⟩)
   refine hKK _ _ (fun _=>HS8.out) ?_
   clear hKK o8 gr8 hl8 hlt8;refine zal rfl (by kernel_rfl) fun KK hKK=>?_
   go_simp;refine hKK _ _ (fun _=>HS8.out) ?_
   clear hKK;refine zaG (NoPanic.normal ?_);go_wp2;go_roundw
   case rel=>exact⟨i+1,_,_,_,_,rfl,by go_num,by omega,HM8,HB8⟩
   case measure=>simp[intOf];omega
  ·have i1:¬(i:Int)<(rn:Int):=by omega
   have HQ:=hid (show SsQ rs w (.returned (.slice vo i vc)) wr from⟨vo,vc,sds,by rw[show i=rs.length by have:=HRN.out;omega],by rw[HI.out.ln];have:=HRN.out;omega,HI.out.ok,HI.out.rd,HBw.out⟩)
   go_wp2;go_ret;exact HQ.out
end Pt
end
end Go.Proofs.YtokpjifnlifafaaGreatDoor
