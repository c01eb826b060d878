/- PtFun1, PtNone, PtBoth, PtBeh, PtMore, PtRd, PtLead, PtLead2: parts of the proof, joined. -/
import Derived.Deep.AppendLies
import Derived.WalkSpells
import Derived.WalkLawsBesides
import Derived.BigQuiet
import Derived.Test.YtbbapnpdfcgjnaaGreatDoorLPtMath
import Derived.Test.YtbbapnpdfcgjnaaGreatDoorLMix
open Nat renaming zero_le->xa, div_le_div_right->xb, le_of_lt->xe, lt_irrefl->xg, lt_succ_of_lt->xh, le_trans->xi, pow_lt_pow_right->xj, zero_testBit->xr, lt_of_lt_of_le->xu, lt_trans->xw, mod_lt->xy
open List renaming getElem?_eq_getElem->xd, ext_getElem?->xm, getElem?_replicate->xn, getElem_mem->xq, getD->xt, take_length->xx
open Int renaming tdiv_eq_ediv_of_nonneg->xf, tmod_eq_emod_of_nonneg->xk
open And renaming intro->xp
set_option maxHeartbeats 64000000
namespace Go.Proofs.YtbbapnpdfcgjnaaGreatDoor
section
open Go.RowKit
namespace Pt
theorem hid {p:Prop} (h:p):Hid p:=h
def us (m:Nat) (r:Nat->Nat):List Value:=(List.range m).map fun j=>.int .u64 (r j)
theorem zdz (m:Nat) (r:Nat->Nat) (j:Nat) (h:j<m):(us m r)[j]? =some (.int .u64 (r j)):=by simp[us,h]
theorem zCg (m:Nat) (r:Nat->Nat) (j z:Nat):(us m r).set j (.int .u64 z)=us m (fun x=>if x=j then z else r x):=by
 apply xm
 intro i;rw[List.getElem?_set]
 by_cases h:j=i
 ·subst h
  by_cases hj:j<m
  ·simp[us,hj]
  ·simp[us,hj]
 ·rw[if_neg h]
  by_cases hi:i<m
  ·rw[zdz m r i hi,zdz m _ i hi,if_neg (fun e=>h e.symm)]
  ·simp[us,hi]
theorem zff {m:Nat} {r s:Nat->Nat} (h:∀j,j<m->r j=s j):us m r=us m s:=by
 apply xm
 intro i
 by_cases hi:i<m
 ·rw[zdz m r i hi,zdz m s i hi,h i hi]
 ·simp[us,hi]
theorem cell_row (w:World) (b j:Nat) (l:List Value) (t:TypeId) (v:Value) (h:w.heap[b]? =some (.cells l.toArray t (0,0))) (hv:l[j]? =some v):w.cell? ⟨b,j,none⟩=some v:=by
 rw[cell_of_row w b j l.toArray t (0,0) h]
 simpa using hv
theorem set_row (w:World) (b j:Nat) (l:List Value) (t:TypeId) (u:Value) (h:w.heap[b]? =some (.cells l.toArray t (0,0))):(w.setCell ⟨b,j,none⟩ u).heap[b]? =some (.cells (l.set j u).toArray t (0,0)):=by
 rw[heap_setCell_same w b j _ t u h]
 simp
theorem frozen_row {w:World} {b:Nat} {l:Array Value} {t:TypeId} (h:w.heap[b]? =some (.cells l t (0,0))) (j:Nat):w.frozen? ⟨b,j,none⟩=false:=by
 unfold World.frozen?
 simp only[h]
 simp
def Rw (w:World) (b m:Nat) (r:Nat->Nat):Prop:=w.heap[b]? =some (.cells (us m r).toArray 159 (0,0))
theorem zGy (x j:Nat) (hx:x<18446744073709551616):(bits BinOp.and IntKind.u64 ((x:Int) / 2 ^ j) 1==1)=x.testBit j:=by
 have e:((x:Int) / 2 ^ j)=((x / 2 ^ j:Nat):Int):=by simp
 have h:=u64_and_nat (x / 2 ^ j) 1 (Nat.lt_of_le_of_lt (Nat.div_le_self _ _) hx) (by decide)
 rw[e];rw[show(1:Int)=((1:Nat):Int) from rfl,h]
 rw[Nat.testBit_eq_decide_div_mod_eq,Nat.and_one_is_mod]
 by_cases hh:x / 2 ^ j % 2=1
 ·rw[hh];rfl
 ·have:x / 2 ^ j % 2=0:=by omega
  rw[this];rfl
theorem ziK (b m k:Nat) (r:Nat->Nat) (w:World) (hc:Rw w b m r) (hk:k / 64<m) (hb:r (k / 64)<18446744073709551616) (hm:k<1000000):
  Calls Tryz.prog 150 #[.slice (some ⟨b,0,none⟩) m m,.int .i64 k] w fun e w'=>e= .returned (.bool (bt r k))/\w'=w:=by
 have c1:=cell_row w b (k / 64) _ _ _ hc (zdz m r _ hk);have e1:(k:Int).tdiv 64=((k / 64:Nat):Int):=by rw[xf (by omega)];omega
 have e2:IntKind.i64.wrap ((k / 64:Nat):Int)=((k / 64:Nat):Int):=by unfold IntKind.wrap IntKind.bits IntKind.signed;simp;omega
 have e3:(k:Int).tmod 64=((k % 64:Nat):Int):=by rw[xk (by omega)];omega
 have e4:IntKind.i64.wrap ((k % 64:Nat):Int)=((k % 64:Nat):Int):=by unfold IntKind.wrap IntKind.bits IntKind.signed;simp;omega
 have i1:(0:Int)<=((k / 64:Nat):Int):=by omega
 have i2:((k / 64:Nat):Int)<(m:Int):=by omega
 have HB:=hid (zGy (r (k / 64)) (k % 64) hb);clear hc hb;go_enter Tryz.func150,Tryz.ntmps150;go_wp2;go_ret;exact⟨by rw[HB.out];rfl,rfl⟩
structure Ony (b:Nat) (w w':World):Prop where
 os:w'.os=w.os
 tape:w'.tape=w.tape
 output:w'.output=w.output
 size:w'.heap.size=w.heap.size
 block:∀k,k≠b->w'.heap[k]? =w.heap[k]?
theorem Ony.refl (b:Nat) (w:World):Ony b w w:=⟨rfl,rfl,rfl,rfl,fun _ _=>rfl⟩
theorem Ony.trans {b:Nat} {w v u:World} (h:Ony b w v) (k:Ony b v u):Ony b w u:=⟨k.os.trans h.os,k.tape.trans h.tape,k.output.trans h.output,k.size.trans h.size,fun i hi=>(k.block i hi).trans (h.block i hi)⟩
theorem Ony.set (b j:Nat) (w:World) (v:Value):Ony b w (w.setCell ⟨b,j,none⟩ v):=⟨rfl,rfl,rfl,by simp,fun k hk=>heap_setCell_other w _ k v hk⟩
theorem Ony.drew (b k:Nat) (w:World):Ony b w (w.drewN k):=⟨rfl,rfl,rfl,rfl,fun _ _=>rfl⟩
theorem Ony.below {b B:Nat} {w w':World} (h:Ony b w w') (hb:B<=b):Below B w w':=⟨h.os,h.tape,h.output,Nat.le_of_eq h.size.symm,fun k hk=>h.block k (by omega)⟩
theorem Rw.set {w:World} {b m:Nat} {r:Nat->Nat} (h:Rw w b m r) (j z:Nat):Rw (w.setCell ⟨b,j,none⟩ (.int .u64 z)) b m (fun x=>if x=j then z else r x):=by
 unfold Rw at h⊢;rw[set_row w b j _ _ _ h,zCg]
theorem or_at (x j:Nat) (hx:x<18446744073709551616) (hj:j<64):bits BinOp.or IntKind.u64 (x:Int) (IntKind.u64.wrap (2 ^ j))=((x ||| 2 ^ j:Nat):Int):=by
 have h1:2 ^ j<18446744073709551616:=xj (by decide) hj
 have e:IntKind.u64.wrap (2 ^ j)=((2 ^ j:Nat):Int):=by
  have:(2:Int) ^ j=((2 ^ j:Nat):Int):=by simp
  rw[this];rw[IntKind.wrap_u64]
  generalize 2 ^ j=y at h1⊢
  omega
 rw[e,u64_or_nat x (2 ^ j) hx h1]
theorem zrp (b m k:Nat) (r:Nat->Nat) (w:World) (hc:Rw w b m r) (hk:k / 64<m) (hb:r (k / 64)<18446744073709551616) (hm:k<1000000):
  Calls Tryz.prog 173 #[.slice (some ⟨b,0,none⟩) m m,.int .i64 k] w fun e w'=>e= .returned (.tuple #[])/\Rw w' b m (stR r k)/\Ony b w w':=by
 have c1:=cell_row w b (k / 64) _ _ _ hc (zdz m r _ hk);have f1:=frozen_row hc (k / 64);have e1:(k:Int).tdiv 64=((k / 64:Nat):Int):=by rw[xf (by omega)];omega
 have e2:IntKind.i64.wrap ((k / 64:Nat):Int)=((k / 64:Nat):Int):=by unfold IntKind.wrap IntKind.bits IntKind.signed;simp;omega
 have e3:(k:Int).tmod 64=((k % 64:Nat):Int):=by rw[xk (by omega)];omega
 have e4:IntKind.i64.wrap ((k % 64:Nat):Int)=((k % 64:Nat):Int):=by unfold IntKind.wrap IntKind.bits IntKind.signed;simp;omega
 have i1:(0:Int)<=((k / 64:Nat):Int):=by omega
 have i2:((k / 64:Nat):Int)<(m:Int):=by omega
 have HO:=hid (or_at (r (k / 64)) (k % 64) hb (xy _ (by decide)))
 have HC:=hid hc;clear hb hc;go_enter Tryz.func173,Tryz.ntmps173;go_wp2;refine bodyPost_end (results_none rfl _ _ _) rfl ?_;refine⟨rfl,?_,Ony.set _ _ _ _⟩;rw[HO.out];have:=HC.out.set (k / 64) (r (k / 64) ||| 2 ^ (k % 64))
 refine Eq.trans this ?_;rw[zff (s:=stR r k)];intro j _;unfold stR
 by_cases h:j=k / 64
 ·rw[if_pos h,if_pos h,h]
 ·rw[if_neg h,if_neg h]
theorem zjg (b d m:Nat) (r o:Nat->Nat) (w:World) (hc:Rw w b m r) (hd:Rw w d m o) (hb:∀j,j<m->r j<18446744073709551616) (ho:∀j,j<m->o j<18446744073709551616) (hm:m<1000000):
  Calls Tryz.prog 187 #[.slice (some ⟨b,0,none⟩) m m,.slice (some ⟨d,0,none⟩) m m] w fun e w'=>e= .returned (.tuple #[])/\Rw w' b m (orR r o)/\Ony b w w':=by
 have HB:=hid hb;have HO:=hid ho;have HC:=hid hc;have HD:=hid hd;clear hb ho hc hd;go_enter Tryz.func187,Tryz.ntmps187;go_wp2;go_loopw [4] (fun y wr=>∃j:Nat,y= .int .i64 j/\j<=m/\Hid (Rw wr b m (fun x=>if x<j then r x ||| o x else r x))/\Hid (Ony b w wr)) (fun y _=>m - (intOf y).toNat)
 case atStart=>exact⟨0,rfl,xa _,by simpa using HC,hid (Ony.refl _ _)⟩
 case round=>
  obtain⟨j,rfl,hj,HR,HW⟩:=hrel
  by_cases hlt:j<m
  ·have c1:wr.cell? ⟨b,j,none⟩=some (.int .u64 (r j)):=by
    have:=cell_row wr b j _ _ _ HR.out (zdz m _ _ hlt)
    simpa using this
   have f1:=frozen_row HR.out j;have c2:wr.cell? ⟨d,j,none⟩=some (.int .u64 (o j)):=by
    by_cases e:d=b
    ·subst e
     have h1:=cell_row w d j _ _ _ HC.out (zdz m _ _ hlt);have h2:=cell_row w d j _ _ _ HD.out (zdz m _ _ hlt);rw[c1,<- h1,h2]
    ·have:=HW.out.block d e
     exact cell_row wr d j _ _ _ (this.trans HD.out) (zdz m _ _ hlt)
   have i0:(0:Int)<=(j:Int):=by omega
   have i1:(j:Int)<(m:Int):=by omega
   have HE:=hid (u64_or_nat (r j) (o j) (HB.out j hlt) (HO.out j hlt));go_wp2_with fail;refine zaf [(0,true),(1,true),(2,true),(3,true),(4,true),(5,true),(6,true),(7,true),(8,true),(9,true),(10,true),(11,true),(12,false)] (fun w'=>w'.cell? ⟨b,j,none⟩=some (.int .u64 (r j))/\w'.cell? ⟨d,j,none⟩=some (.int .u64 (o j))) (fun j=>j==12) (by kernel_rfl) (by kernel_rfl) (fun j hj=>by have:=beq_iff_eq.1 hj;subst this;decide) rfl (by kernel_rfl) ⟨c1,c2⟩ ?_
   iterate 12 (refine zai ?_ rfl (by kernel_rfl) (fun w' hS=>?_) ?_;(rotate_left;(obtain⟨s1,s2⟩:=hS;go_simp;with_reducible rfl);rotate_left))
   refine zah rfl (by kernel_rfl) fun KK hKK=>?_
   go_simp;refine hKK _ _ (fun h=>by cases h) ?_
   refine zay (NoPanic.normal ?_);go_wp2;go_roundw
   case rel=>
    refine⟨j+1,by go_num,by omega,hid ?_,hid ?_⟩
    ·rw[HE.out]
     have:=HR.out.set j (r j ||| o j)
     refine Eq.trans this ?_;rw[zff (s:=fun x=>if x<j+1 then r x ||| o x else r x)]
     intro x _
     by_cases h:x=j
     ·subst h;simp
     ·by_cases h2:x<j
      ·simp[h,h2,xh h2]
      ·have:¬x<j+1:=by omega
       simp[h,h2,this]
    ·exact HW.out.trans ((Ony.set b j wr _).trans (Ony.drew b 1 _))
   case measure=>simp[intOf];omega
  ·have i1:¬(j:Int)<(m:Int):=by omega
   go_wp2;refine bodyPost_end (results_none rfl _ _ _) rfl ?_;refine⟨rfl,?_,HW.out⟩;refine Eq.trans HR.out ?_;rw[zff (s:=orR r o)];intro x hx;rw[if_pos (by omega)]
   rfl
end Pt
end
section
open Go.RowKit
namespace Pt
theorem Tryz.infoRow:(Tryz.prog.info? 144).map (fun i=>(i.zero,i.size,i.bytes))=some (some (.slice none 0 0),1,24):=by kernel_rfl
theorem Tryz.infoU64:(Tryz.prog.info? 159).map (fun i=>(i.zero,i.size,i.bytes))=some (some (.int .u64 0),1,8):=by kernel_rfl
theorem Tryz.underRows:Tryz.prog.underlying 141=some (.slice 144):=by kernel_rfl
theorem Tryz.underRow:Tryz.prog.underlying 144=some (.slice 159):=by kernel_rfl
theorem zAc (m:Nat):(madeCells (Value.int .u64 0).cells m)=(us m fun _=>0).toArray:=by
 apply Array.toList_inj.1
 rw[show(Value.int .u64 0).cells=#[Value.int .u64 0] from rfl,toList_madeCells_one]
 apply xm
 intro i
 by_cases hi:i<m
 ·rw[xn];simp[us,hi]
 ·rw[xn];simp[us,hi]
theorem zwC (n:Nat) (hn:n<=1000000) (W:World):
  (Instr.makeSlice 144 (.int .i64 (n:Int)) (.int .i64 (n:Int))).run Tryz.prog W= .ok (.slice (some ⟨W.heap.size,0,none⟩) n n) (W.alloc (.cells (us n fun _=>0).toArray 159)):=by
 obtain⟨i,hi,hz,h1,h2⟩:=info_parts Tryz.infoU64;have h:=run_make (P:=Tryz.prog) W 144 159 i _ Tryz.underRow hi hz .i64 .i64 (n:Int) (n:Int) (by omega) (Int.le_refl _) (by rw[h2];omega) (by omega)
 rw[h1,Nat.mul_one] at h;rw[<- zAc]
 simpa using h
structure Mt (B:Nat) (w:World) (g n m:Nat) (bs:Nat->Nat) (W:Nat->Nat->Nat):Prop where
 out:∃cur,w.heap[g]? =some (.cells cur 144 (0,0))/\∀i,i<n->cur[i]? =some (.slice (some ⟨bs i,0,none⟩) m m)
 row:∀i,i<n->Rw w (bs i) m (W i)
 inj:∀i j,i<n->j<n->bs i=bs j->i=j
 low:∀i,i<n->B<=bs i
 lg:B<=g
 bd:∀i j,i<n->j<m->W i j<18446744073709551616
theorem Mt.cell {B:Nat} {w:World} {g n m:Nat} {bs:Nat->Nat} {W:Nat->Nat->Nat} (h:Mt B w g n m bs W) (i:Nat) (hi:i<n):w.cell? ⟨g,i,none⟩=some (.slice (some ⟨bs i,0,none⟩) m m):=by
 obtain⟨cur,h1,h2⟩:=h.out;rw[cell_of_row w g i cur _ _ h1];exact h2 i hi
theorem Mt.keep {B:Nat} {w w':World} {g n m:Nat} {bs:Nat->Nat} {W:Nat->Nat->Nat} (h:Mt B w g n m bs W) (e:∀b,(b=g\/∃i,i<n/\b=bs i)->w'.heap[b]? =w.heap[b]?):Mt B w' g n m bs W:=by
 obtain⟨cur,h1,h2⟩:=h.out;exact⟨⟨cur,(e g (.inl rfl)).trans h1,h2⟩,fun i hi=>(e _ (.inr ⟨i,hi,rfl⟩)).trans (h.row i hi),h.inj,h.low,h.lg,h.bd⟩
theorem zab {w:World} {b:Nat} {o:Obj} (h:w.heap[b]? =some o):b<w.heap.size:=(Array.getElem?_eq_some_iff.1 h).1
theorem Mt.below {B:Nat} {w w':World} {g n m:Nat} {bs:Nat->Nat} {W:Nat->Nat->Nat} (h:Mt B w g n m bs W) (hb:Below w.heap.size w w'):Mt B w' g n m bs W:=by
 refine h.keep fun b hx=>hb.block b ?_
 rcases hx with rfl | ⟨i,hi,rfl⟩
 ·obtain⟨cur,h1,h2⟩:=h.out
  exact zab h1
 ·exact zab (h.row i hi)
theorem Mt.gne {B:Nat} {w:World} {g n m:Nat} {bs:Nat->Nat} {W:Nat->Nat->Nat} (h:Mt B w g n m bs W) (i:Nat) (hi:i<n):bs i≠g:=fun e=>by
 obtain⟨cur,h1,h2⟩:=h.out;have h3:=h.row i hi;unfold Rw at h3;rw[e,h1] at h3
 cases h3
theorem Mt.set {B:Nat} {w w':World} {g n m:Nat} {bs:Nat->Nat} {W:Nat->Nat->Nat} (h:Mt B w g n m bs W) (i:Nat) (hi:i<n) {r:Nat->Nat} (hr:Rw w' (bs i) m r) (ho:Ony (bs i) w w') (hb:∀j,j<m->r j<18446744073709551616):Mt B w' g n m bs (fun x=>if x=i then r else W x):=by
 obtain⟨cur,h1,h2⟩:=h.out;refine⟨⟨cur,(ho.block g (fun e=>h.gne i hi e.symm)).trans h1,h2⟩,fun k hk=>?_,h.inj,h.low,h.lg,fun k j hk hj=>?_⟩
 ·by_cases e:k=i
  ·subst e;rw[if_pos rfl];exact hr
  ·rw[if_neg e];exact(ho.block _ (fun e2=>e (h.inj k i hk hi e2))).trans (h.row k hk)
 ·by_cases e:k=i
  ·simp only[if_pos e];exact hb j hj
  ·simp only[if_neg e];exact h.bd k j hk hj
theorem Mt.congr {B:Nat} {w:World} {g n m:Nat} {bs:Nat->Nat} {W V:Nat->Nat->Nat} (h:Mt B w g n m bs W) (e:∀i j,i<n->j<m->W i j=V i j):Mt B w g n m bs V:=⟨h.out,fun i hi=>by
 have:=h.row i hi;unfold Rw at this⊢;rw[this,zff (e i · hi)],h.inj,h.low,h.lg,fun i j hi hj=>by rw[<- e i j hi hj];exact h.bd i j hi hj⟩
theorem Mt.lower {B C:Nat} {w:World} {g n m:Nat} {bs:Nat->Nat} {W:Nat->Nat->Nat} (h:Mt B w g n m bs W) (hc:C<=B):Mt C w g n m bs W:=⟨h.out,h.row,h.inj,fun i hi=>xi hc (h.low i hi),xi hc h.lg,h.bd⟩
structure Nn (w wr:World) (v:Value) (i m:Nat) (bs:Nat->Nat) (xs:List Value):Prop where
 own:wr.ownsRow w.heap.size 144 1 v i xs
 get:∀k,k<i->xs[k]? =some (.slice (some ⟨bs k,0,none⟩) m m)
 row:∀k,k<i->Rw wr (bs k) m fun _=>0
 inj:∀k j,k<i->j<i->bs k=bs j->k=j
 low:∀k,k<i->w.heap.size<=bs k
 bl:Below w.heap.size w wr
theorem news2 (w:World) (o:Obj) (v:Value) (T:TypeId):∀j u,[v][j]? =some u->((w.alloc o).alloc (.cells #[v] T)).cell? ((⟨w.heap.size+1,0,none⟩:Addr).add j)=some u:=by
 have h:=World.news_of_block (cs:=#[v]) (heap_alloc_new (w.alloc o) (.cells #[v] T))
 simpa using h
theorem Nn.step {w wr w8:World} {v:Value} {i m g8 c8:Nat} {bs:Nat->Nat} {xs:List Value} (h:Nn w wr v i m bs xs)
  (o8:w8.ownsRow w.heap.size 144 1 (.slice (some ⟨g8,0,none⟩) (i+1) c8) (i+1) (xs++[.slice (some ⟨wr.heap.size,0,none⟩) m m]))
  (gr:World.grownBy ((wr.alloc (.cells (us m fun _=>0).toArray 159)).alloc (.cells #[.slice (some ⟨wr.heap.size,0,none⟩) m m] 144)) w8 v.ownBlock):
  Nn w w8 (.slice (some ⟨g8,0,none⟩) (i+1) c8) (i+1) m (fun k=>if k=i then wr.heap.size else bs k) (xs++[.slice (some ⟨wr.heap.size,0,none⟩) m m]):=by
 have hs:=h.bl.size;have hx:xs.length=i:=by have:=h.own.1;omega
 have hv:∀b,v.ownBlock=some b->w.heap.size<=b/\b<wr.heap.size/\∃cur,wr.heap[b]? =some (.cells cur 144 (0,0)):=fun b hb=>by
  rcases h.own.2 with ⟨rfl,_⟩ | ⟨g,cap,cur,rfl,h2,h3,_⟩
  ·cases hb
  ·cases hb;exact⟨h2,zab h3,cur,h3⟩
 have old:∀b,b<wr.heap.size->v.ownBlock≠some b->w8.heap[b]? =wr.heap[b]? :=fun b hb hne=>by
  rw[gr.block b (by simp;omega) (fun e=>hne e.symm),Below.heap_alloc _ _ b (by simp;omega),Below.heap_alloc _ _ b hb]
 have new:w8.heap[wr.heap.size]? =some (.cells (us m fun _=>0).toArray 159 (0,0)):=by
  rw[gr.block wr.heap.size (by simp;omega) (fun e=>by have:=(hv _ e.symm).2.1;omega),Below.heap_alloc _ _ wr.heap.size (by simp)]
  exact heap_alloc_new _ _
 have rows:∀k,k<i->v.ownBlock≠some (bs k):=fun k hk e=>by
  obtain⟨_,_,cur,h3⟩:=hv _ e;have h4:=h.row k hk;unfold Rw at h4;rw[h3] at h4
  cases h4
 have blt:∀k,k<i->bs k<wr.heap.size:=fun k hk=>zab (h.row k hk)
 refine⟨o8,fun k hk=>?_,fun k hk=>?_,fun k j hk hj=>?_,fun k hk=>?_,?_⟩
 ·by_cases e:k=i
  ·subst e;rw[if_pos rfl,List.getElem?_append_right (by omega),hx];simp
  ·rw[if_neg e,List.getElem?_append_left (by omega)];exact h.get k (by omega)
 ·by_cases e:k=i
  ·subst e;rw[if_pos rfl];exact new
  ·rw[if_neg e];exact(old _ (blt k (by omega)) (rows k (by omega))).trans (h.row k (by omega))
 ·by_cases e:k=i<;>by_cases e2:j=i
  ·omega
  ·rw[if_pos e,if_neg e2];intro e3;have:=blt j (by omega);omega
  ·rw[if_neg e,if_pos e2];intro e3;have:=blt k (by omega);omega
  ·rw[if_neg e,if_neg e2];exact h.inj k j (by omega) (by omega)
 ·by_cases e:k=i
  ·rw[if_pos e];exact hs
  ·rw[if_neg e];exact h.low k (by omega)
 ·refine h.bl.trans ⟨gr.os,gr.tape,gr.output,?_,fun b hb=>old b (by omega) (fun e=>by have:=(hv b e).1;omega)⟩
  have:=gr.size
  simp at this
  omega
theorem Nn.done {w wr:World} {v:Value} {n m:Nat} {bs:Nat->Nat} {xs:List Value} (h:Nn w wr v n m bs xs) (hn:1<=n):∃g cap,v= .slice (some ⟨g,0,none⟩) n cap/\Mt w.heap.size wr g n m bs (fun _ _=>0):=by
 rcases h.own.2 with ⟨rfl,h1⟩ | ⟨g,cap,cur,rfl,h2,h3,h4,h5,h6,h7⟩
 ·omega
 ·refine⟨g,cap,rfl,⟨cur,h3,fun i hi=>?_⟩,h.row,h.inj,h.low,h2,fun _ _ _ _=>by omega⟩
  have h8:=h.get i hi;rw[<- h7,List.getElem?_take_of_lt (by omega)] at h8
  simpa using h8
def MtQ (w:World) (n m:Nat) (W:Nat->Nat->Nat) (e:Ending) (w':World):Prop:=∃g cap bs,e= .returned (.slice (some ⟨g,0,none⟩) n cap)/\Mt w.heap.size w' g n (m+1) bs W/\Below w.heap.size w w'
theorem zdY (n m:Nat) (w:World) (h1:1<=n) (hn:n<=100000) (hm:m=n / 64):Calls Tryz.prog 172 #[.int .i64 n] w (MtQ w n m fun _ _=>0):=by
 have e1:(n:Int).tdiv 64=((n / 64:Nat):Int):=by rw[xf (by omega)];omega
 have e2:IntKind.i64.wrap ((n / 64:Nat):Int)=((n / 64:Nat):Int):=by unfold IntKind.wrap IntKind.bits IntKind.signed;simp;omega
 rw[<- hm] at e1 e2;have hml:m<=100000:=by omega
 clear hm;have M1:∀W:World,(Instr.makeSlice 144 (.int .i64 ((m:Int)+1)) (.int .i64 ((m:Int)+1))).run Tryz.prog W= .ok (.slice (some ⟨W.heap.size,0,none⟩) (m+1) (m+1)) (W.alloc (.cells (us (m+1) fun _=>0).toArray 159)):=fun W=>zwC (m+1) (by omega) W
 obtain⟨i0,hi0,hz0,hz1,hz2⟩:=info_parts Tryz.infoRow;have HI:=hid (xp hi0 (xp hz0 (xp hz1 hz2)));clear hi0 hz0 hz1 hz2;go_enter Tryz.func172,Tryz.ntmps172;go_wp2;go_loopw [3,4] (fun x y wr=>∃(i:Nat) (bs:Nat->Nat) (xs:List Value) (vo:Option Addr) (vc:Nat),x= .slice vo i vc/\y= .int .i64 i/\i<=n/\Hid (Nn w wr (.slice vo i vc) i (m+1) bs xs)) (fun _ y _=>n - (intOf y).toNat)
 case atStart=>exact⟨0,fun _=>0,[],none,0,rfl,rfl,xa _,hid ⟨World.ownsRow_nil _ _ _ _,fun k hk=>by omega,fun k hk=>by omega,fun k j hk=>by omega,fun k hk=>by omega,Below.refl _ _⟩⟩
 case round=>
  obtain⟨i,bs,xs,vo,vc,rfl,rfl,hi,HN⟩:=hrel
  by_cases hlt:i<n
  ·have i1:(i:Int)<(n:Int):=by omega
   go_wp2_with (at_builtin;refine wpList_append_lies _ rfl _ _ 141 rfl w.heap.size 144 i0 (.slice none 0 0) 1 24 Tryz.underRows HI.out.1 HI.out.2.1 HI.out.2.2.1 HI.out.2.2.2 rfl (by decide) (.slice vo i vc) i xs rfl ((HN.out.own.alloc _).alloc _) ⟨wr.heap.size+1,0,none⟩ 1 1 [.slice (some ⟨wr.heap.size,0,none⟩) (m+1) (m+1)] rfl rfl (news2 wr _ _ _) (fun u hu=>by simp at hu;rw[hu];rfl) (by decide) (by unfold maxLen;omega) (by omega) (by have:=HN.out.bl.size;simp;omega) (wr.heap.size+2) (by simp) ?_;intro g8 c8 w8 o8 gr8 hl8 hlt8;have HO8:=hid (HN.out.step o8 gr8);clear o8 gr8 hl8 hlt8)
   go_roundw
   case rel=>exact⟨i+1,_,_,_,_,rfl,by go_num,by omega,HO8⟩
   case measure=>simp[intOf];omega
  ·have e:i=n:=by omega
   subst e;have i1:¬(i:Int)<(i:Int):=by omega
   obtain⟨g,cap,hv,hM⟩:=HN.out.done h1;have HM:=hid hM
   cases hv
   clear hM;go_wp2;go_ret;exact⟨g,_,bs,rfl,HM.out,HN.out.bl⟩
theorem zis (n m:Nat) (w:World) (h1:1<=n) (hn:n<=100000) (hm:m=n / 64):Calls Tryz.prog 174 #[.int .i64 n] w (MtQ w n m fun i=>stR (fun _=>0) i):=by
 have HN:=hid (zdY n m w h1 hn hm);have HM:=hid hm;clear hm;go_enter Tryz.func174,Tryz.ntmps174;go_wp2_with fail;refine HN.out.mono ?_;rintro e w1 ⟨g,cap,bs,rfl,hM,hB⟩;have HT:=hid hM;have HB:=hid hB;clear hM hB HN;go_wp2;go_loopw [4] (fun y wr=>∃i:Nat,y= .int .i64 i/\i<=n/\Hid (Mt w.heap.size wr g n (m+1) bs fun x=>if x<i then stR (fun _=>0) x else fun _=>0)/\Hid (Below w.heap.size w wr)) (fun y _=>n - (intOf y).toNat)
 case atStart=>exact⟨0,rfl,xa _,by simpa using HT,HB⟩
 case round=>
  obtain⟨i,rfl,hi,HR,HW⟩:=hrel
  by_cases hlt:i<n
  ·have i0:(0:Int)<=(i:Int):=by omega
   have i1:(i:Int)<(n:Int):=by omega
   have c1:=HR.out.cell i hlt;have hr:=HR.out.row i hlt
   simp only[xg,if_false] at hr
   have HS:=hid (zrp (bs i) (m+1) i _ wr hr (by have:=HM.out;have:=xb (c:=64) (xe hlt);omega) (by decide) (by omega))
   clear hr;go_wp2_with fail;refine HS.out.mono ?_;rintro e w2 ⟨rfl,hr2,ho2⟩;have HR2:=hid (HR.out.set i hlt hr2 ho2 (fun j hj=>by unfold stR;split;rw[Nat.zero_or];exact xj (by decide) (xy _ (by decide));exact(by decide:(0:Nat)<18446744073709551616)))
   have HW2:=hid (HW.out.trans (ho2.below (HR.out.low i hlt)));clear hr2 ho2 HS;go_wp2;go_roundw
   case rel=>
    refine⟨i+1,by go_num,by omega,hid (HR2.out.congr fun x j hx hj=>?_),HW2⟩
    by_cases e:x=i
    ·subst e;simp
    ·by_cases e2:x<i
     ·simp[e,e2,xh e2]
     ·have:¬x<i+1:=by omega
      simp[e,e2,this]
   case measure=>simp[intOf];omega
  ·have i1:¬(i:Int)<(n:Int):=by omega
   have HQ:=hid (HR.out.congr (V:=fun i=>stR (fun _=>0) i) fun x j hx hj=>by rw[if_pos (by omega)])
   go_wp2;go_ret;exact⟨g,cap,bs,rfl,HQ.out,HW.out⟩
end Pt
end
section
open Go.RowKit
namespace Pt
theorem zlK {r o:Nat->Nat} {m:Nat} (h1:∀j,j<m->r j<18446744073709551616) (h2:∀j,j<m->o j<18446744073709551616) (j:Nat) (hj:j<m):orR r o j<18446744073709551616:=Nat.or_lt_two_pow (n:=64) (h1 j hj) (h2 j hj)
theorem zjc (n m:Nat) (C D:Nat) (g h:Nat) (gc hc:Nat) (bs ds:Nat->Nat) (U V:Nat->Nat->Nat) (w:World) (h1:1<=n) (hn:n<=100000) (hm:m=n / 64) (hg:Mt C w g n (m+1) bs U) (hh:Mt D w h n (m+1) ds V):
  Calls Tryz.prog 176 #[.slice (some ⟨g,0,none⟩) n gc,.slice (some ⟨h,0,none⟩) n hc] w (MtQ w n m fun i=>orR (orR (fun _=>0) (U i)) (V i)):=by
 have HN:=hid (zdY n m w h1 hn hm);have HG:=hid hg;have HH:=hid hh;have HM:=hid hm;clear hm hg hh;go_enter Tryz.func176,Tryz.ntmps176;go_wp2_with fail;refine HN.out.mono ?_;rintro e w1 ⟨k,cap,cs,rfl,hM,hB⟩;have HT:=hid hM;have HB:=hid hB;clear hM hB HN;go_wp2;go_loopw [6] (fun y wr=>∃i:Nat,y= .int .i64 i/\i<=n/\Hid (Mt w.heap.size wr k n (m+1) cs fun x=>if x<i then orR (orR (fun _=>0) (U x)) (V x) else fun _=>0)/\Hid (Below w.heap.size w wr)) (fun y _=>n - (intOf y).toNat)
 case atStart=>exact⟨0,rfl,xa _,by simpa using HT,HB⟩
 case round=>
  obtain⟨i,rfl,hi,HR,HW⟩:=hrel
  by_cases hlt:i<n
  ·have i0:(0:Int)<=(i:Int):=by omega
   have i1:(i:Int)<(n:Int):=by omega
   have c1:=HR.out.cell i hlt;have HGr:=hid (HG.out.below HW.out);have HHr:=hid (HH.out.below HW.out);have c2:=HGr.out.cell i hlt;have hr:=HR.out.row i hlt
   simp only[xg,if_false] at hr
   have HA:=hid (fun(W:World) (e1:Rw W (cs i) (m+1) fun _=>0) (e2:Rw W (bs i) (m+1) (U i))=>zjg (cs i) (bs i) (m+1) _ _ W e1 e2 (fun _ _=>by decide) (HGr.out.bd i · hlt) (by have:=HM.out;omega))
   have HRr:=hid hr;clear hr;have n1:g≠cs i:=fun e=>by
    obtain⟨cur,h3,_⟩:=HG.out.out;have:=zab h3;have:=HR.out.low i hlt;omega
   have n2:h≠cs i:=fun e=>by
    obtain⟨cur,h3,_⟩:=HH.out.out;have:=zab h3;have:=HR.out.low i hlt;omega
   have n3:k≠cs i:=fun e=>HR.out.gne i hlt e.symm
   have n4:ds i≠cs i:=fun e=>by
    have:=zab (HH.out.row i hlt);have:=HR.out.low i hlt;omega
   have HX:=hid (xp n1 (xp n2 (xp n3 n4)));clear n1 n2 n3 n4;go_wp2_with fail;refine zaf [(0,true),(1,true),(2,true),(3,true),(4,true),(5,true),(6,true),(7,true),(8,false)] (fun w'=>w'.cell? ⟨k,i,none⟩=some (.slice (some ⟨cs i,0,none⟩) (m+1) (m+1))/\w'.cell? ⟨g,i,none⟩=some (.slice (some ⟨bs i,0,none⟩) (m+1) (m+1))) (fun _=>false) (by kernel_rfl) (by kernel_rfl) (fun j hj=>by cases hj) rfl (by kernel_rfl) ⟨c1,c2⟩ ?_
   iterate 8 (refine zai ?_ rfl (by kernel_rfl) (fun w' hS=>?_) ?_;(rotate_left;(obtain⟨s1,s2⟩:=hS;go_simp;with_reducible rfl);rotate_left))
   refine zah rfl (by kernel_rfl) fun KK hKK=>?_
   go_simp;refine(HA.out wr.drew HRr.out (HGr.out.row i hlt)).mono ?_;rintro e w2 ⟨rfl,hr2,ho2⟩;have HR2:=hid (show Mt w.heap.size w2 k n (m+1) cs _ from HR.out.set i hlt hr2 ((Ony.drew _ 1 wr).trans ho2) (zlK (fun _ _=>by decide) (HGr.out.bd i · hlt)))
   have HO2:=hid (show Ony (cs i) wr w2 from(Ony.drew _ 1 wr).trans ho2)
   have HW2:=hid (HW.out.trans (HO2.out.below (HR.out.low i hlt)));have HH2:=hid (show Rw w2 (ds i) (m+1) (V i) from(HO2.out.block _ HX.out.2.2.2).trans (HHr.out.row i hlt))
   have HR2r:=hid (show Rw w2 (cs i) (m+1) _ from hr2)
   refine hKK _ _ (fun _=>⟨HR2.out.cell i hlt,(World.cell?_of_block (HO2.out.block g HX.out.1)).trans c2⟩) ?_
   refine zay (NoPanic.normal ?_);have d1:=HR2.out.cell i hlt;have d2:w2.cell? ⟨h,i,none⟩=some (.slice (some ⟨ds i,0,none⟩) (m+1) (m+1)):=(World.cell?_of_block (HO2.out.block h HX.out.2.1)).trans (HHr.out.cell i hlt);clear hr2 ho2 hKK c1 c2 HA;have HA:=hid (fun(W:World) (e1:Rw W (cs i) (m+1) (orR (fun _=>0) (U i))) (e2:Rw W (ds i) (m+1) (V i))=>zjg (cs i) (ds i) (m+1) _ _ W e1 e2 (zlK (fun _ _=>by decide) (HGr.out.bd i · hlt)) (HHr.out.bd i · hlt) (by have:=HM.out;omega))
   go_wp2_with fail;refine zaf [(0,true),(1,true),(2,true),(3,true),(4,true),(5,true),(6,true),(7,true),(8,false)] (fun w'=>w'.cell? ⟨k,i,none⟩=some (.slice (some ⟨cs i,0,none⟩) (m+1) (m+1))/\w'.cell? ⟨h,i,none⟩=some (.slice (some ⟨ds i,0,none⟩) (m+1) (m+1))) (fun _=>false) (by kernel_rfl) (by kernel_rfl) (fun j hj=>by cases hj) rfl (by kernel_rfl) ⟨d1,d2⟩ ?_
   iterate 8 (refine zai ?_ rfl (by kernel_rfl) (fun w' hS=>?_) ?_;(rotate_left;(obtain⟨s1,s2⟩:=hS;go_simp;with_reducible rfl);rotate_left))
   refine zah rfl (by kernel_rfl) fun KK hKK=>?_
   go_simp;refine(HA.out w2.drew HR2r.out HH2.out).mono ?_;rintro e w3 ⟨rfl,hr3,ho3⟩;have HR3:=hid (show Mt w.heap.size w3 k n (m+1) cs _ from HR2.out.set i hlt hr3 ((Ony.drew _ 1 w2).trans ho3) (zlK (zlK (fun _ _=>by decide) (HGr.out.bd i · hlt)) (HHr.out.bd i · hlt)))
   have HO3:=hid (show Ony (cs i) w2 w3 from(Ony.drew _ 1 w2).trans ho3)
   have HW3:=hid (HW2.out.trans (HO3.out.below (HR.out.low i hlt)));refine hKK _ _ (fun _=>⟨HR3.out.cell i hlt,(World.cell?_of_block (HO3.out.block h HX.out.2.1)).trans d2⟩) ?_
   refine zay (NoPanic.normal ?_);clear hr3 ho3 hKK d1 d2;go_wp2;go_roundw
   case rel=>
    refine⟨i+1,by go_num,by omega,hid (HR3.out.congr fun x j hx hj=>?_),HW3⟩
    by_cases e:x=i
    ·subst e;simp
    ·by_cases e2:x<i
     ·simp[e,e2,xh e2]
     ·have:¬x<i+1:=by omega
      simp[e,e2,this]
   case measure=>simp[intOf];omega
  ·have i1:¬(i:Int)<(n:Int):=by omega
   have HQ:=hid (HR.out.congr (V:=fun i=>orR (orR (fun _=>0) (U i)) (V i)) fun x j hx hj=>by rw[if_pos (by omega)])
   go_wp2;go_ret;exact⟨k,cap,cs,rfl,HQ.out,HW.out⟩
end Pt
end
section
open Go.RowKit
namespace Pt
theorem zBG {n m:Nat} {a:Nat->Nat} {B:Nat->Nat->Nat} (h:∀i j,i<n->j<m->B i j<18446744073709551616):∀k,k<=n->∀j,j<m->bhR n a B k j<18446744073709551616
 | 0,_,j,_=>(by decide:(0:Nat)<18446744073709551616)
 | k+1,hk,j,hj=>by
  unfold bhR
  split
  ·exact zlK (fun j hj=>zBG h k (by omega) j hj) (fun j hj=>h k j (by omega) hj) j hj
  ·exact zBG h k (by omega) j hj
def inW (n:Nat) (U V:Nat->Nat->Nat) (i k:Nat):Nat->Nat->Nat:=fun x=>if x<i then bhR n (U x) V n else if x=i then bhR n (U x) V k else fun _=>0
theorem zhR (n m:Nat) (C D:Nat) (g h:Nat) (gc hc:Nat) (bs ds:Nat->Nat) (U V:Nat->Nat->Nat) (w:World) (h1:1<=n) (hn:n<=100000) (hm:m=n / 64) (hg:Mt C w g n (m+1) bs U) (hh:Mt D w h n (m+1) ds V):
  Calls Tryz.prog 175 #[.slice (some ⟨g,0,none⟩) n gc,.slice (some ⟨h,0,none⟩) n hc] w (MtQ w n m fun i=>bhR n (U i) V n):=by
 have HN:=hid (zdY n m w h1 hn hm);have HG:=hid hg;have HH:=hid hh;have HM:=hid hm;clear hm hg hh;go_enter Tryz.func175,Tryz.ntmps175;go_wp2_with fail;refine HN.out.mono ?_;rintro e w1 ⟨z,cap,cs,rfl,hM,hB⟩;have HT:=hid hM;have HB:=hid hB;clear hM hB HN;go_wp2;go_loopw [7] (fun y wr=>∃i:Nat,y= .int .i64 i/\i<=n/\Hid (Mt w.heap.size wr z n (m+1) cs (inW n U V i 0))/\Hid (Below w.heap.size w wr)) (fun y _=>n - (intOf y).toNat)
 case atStart=>exact⟨0,rfl,xa _,hid (HT.out.congr fun x j _ _=>by unfold inW;split;omega;split<;>simp[bhR]),HB⟩
 case round=>
  obtain⟨i,rfl,hi,HR,HW⟩:=hrel
  by_cases hlt:i<n
  ·have i0:(0:Int)<=(i:Int):=by omega
   have i1:(i:Int)<(n:Int):=by omega
   have HI:=hid hlt;go_wp2;go_loopw [8] (fun y wr=>∃k:Nat,y= .int .i64 k/\k<=n/\Hid (Mt w.heap.size wr z n (m+1) cs (inW n U V i k))/\Hid (Below w.heap.size w wr)) (fun y _=>n - (intOf y).toNat)
   case atStart=>exact⟨0,rfl,xa _,HR,HW⟩
   case round=>
    clear HR HW;obtain⟨k,rfl,hk,HR,HW⟩:=hrel
    by_cases hkn:k<n
    ·have k0:(0:Int)<=(k:Int):=by omega
     have k1:(k:Int)<(n:Int):=by omega
     have HGr:=hid (HG.out.below HW.out);have HHr:=hid (HH.out.below HW.out);have c0:=HGr.out.cell i hlt;have HS:=hid (ziK (bs i) (m+1) k (U i) wr (HGr.out.row i hlt) (by have:=HM.out;have:=xb (c:=64) (xe hkn);omega) (HGr.out.bd i _ hlt (by have:=HM.out;have:=xb (c:=64) (xe hkn);omega)) (by omega))
     go_wp2_with fail;refine HS.out.mono ?_;rintro e w2 ⟨rfl,e2⟩;obtain rfl:=e2.symm;clear HS c0
     by_cases hb:bt (U i) k=true
     ·rw[hb]
      have HBT:=hid hb;clear hb;have c1:=HR.out.cell i hlt;have c2:=HHr.out.cell k hkn;have n2:h≠cs i:=fun e=>by
       obtain⟨cur,h3,_⟩:=HH.out.out;have:=zab h3;have:=HR.out.low i hlt;omega
      have hr:=HR.out.row i hlt;rw[show inW n U V i k i=bhR n (U i) V k from by unfold inW;rw[if_neg (xg i),if_pos rfl]] at hr
      have HX:=hid n2;have HRr:=hid hr;have HBD:=hid (fun(j:Nat) (hj:j<m+1)=>zBG (a:=U i) HHr.out.bd k (by omega) j hj)
      clear n2 hr;have HA:=hid (fun(W:World) (e1:Rw W (cs i) (m+1) (bhR n (U i) V k)) (e2:Rw W (ds k) (m+1) (V k))=>zjg (cs i) (ds k) (m+1) _ _ W e1 e2 HBD.out (HHr.out.bd k · hkn) (by have:=HM.out;omega))
      go_wp2_with fail;refine zaf [(0,true),(1,true),(2,true),(3,true),(4,true),(5,true),(6,true),(7,true),(8,false)] (fun w'=>w'.cell? ⟨z,i,none⟩=some (.slice (some ⟨cs i,0,none⟩) (m+1) (m+1))/\w'.cell? ⟨h,k,none⟩=some (.slice (some ⟨ds k,0,none⟩) (m+1) (m+1))) (fun _=>false) (by kernel_rfl) (by kernel_rfl) (fun j hj=>by cases hj) rfl (by kernel_rfl) ⟨c1,c2⟩ ?_
      iterate 8 (refine zai ?_ rfl (by kernel_rfl) (fun w' hS=>?_) ?_;(rotate_left;(obtain⟨s1,s2⟩:=hS;go_simp;with_reducible rfl);rotate_left))
      refine zah rfl (by kernel_rfl) fun KK hKK=>?_
      go_simp;refine(HA.out wr.drew HRr.out (HHr.out.row k hkn)).mono ?_;rintro e w2 ⟨rfl,hr2,ho2⟩;have HR2:=hid (show Mt w.heap.size w2 z n (m+1) cs _ from HR.out.set i hlt hr2 ((Ony.drew _ 1 wr).trans ho2) (zlK HBD.out (HHr.out.bd k · hkn)))
      have HO2:=hid (show Ony (cs i) wr w2 from(Ony.drew _ 1 wr).trans ho2)
      have HW2:=hid (HW.out.trans (HO2.out.below (HR.out.low i hlt)));refine hKK _ _ (fun _=>⟨HR2.out.cell i hlt,(World.cell?_of_block (HO2.out.block h HX.out)).trans c2⟩) ?_
      refine zay (NoPanic.normal ?_);clear hr2 ho2 hKK c1 c2;go_wp2;go_roundw
      case rel=>
       refine⟨k+1,by go_num,by omega,hid (HR2.out.congr fun x j hx hj=>?_),HW2⟩
       by_cases e:x=i
       ·subst e
        rw[if_pos rfl];unfold inW;rw[if_neg (xg x),if_pos rfl]
        conv=>rhs;unfold bhR
        rw[if_pos HBT.out]
       ·rw[if_neg e]
        unfold inW;rw[if_neg e,if_neg e]
      case measure=>simp[intOf];omega
     ·have hb':bt (U i) k=false:=by simpa using hb
      rw[hb'];have HBT:=hid hb;clear hb hb';go_wp2;go_roundw
      case rel=>
       refine⟨k+1,by go_num,by omega,hid (HR.out.congr fun x j hx hj=>?_),HW⟩
       unfold inW
       by_cases e:x=i
       ·subst e
        rw[if_neg (xg x),if_neg (xg x),if_pos rfl,if_pos rfl]
        conv=>rhs;unfold bhR
        rw[if_neg HBT.out]
       ·rw[if_neg e,if_neg e]
      case measure=>simp[intOf];omega
    ·have k1:¬(k:Int)<(n:Int):=by omega
     have e:k=n:=by omega
     have HR2:=hid (HR.out.congr (V:=inW n U V (i+1) 0) fun x j hx hj=>by
      unfold inW
      by_cases e1:x<i
      ·rw[if_pos e1,if_pos (by omega)]
      ·rw[if_neg e1]
       by_cases e2:x=i
       ·rw[if_pos e2,if_pos (by omega),e]
       ·rw[if_neg e2,if_neg (by omega)]
        split<;>rfl)
     clear e;go_wp2;go_roundw
     case rel=>exact⟨i+1,by go_num,by omega,HR2,HW⟩
     case measure=>simp[intOf];omega
  ·have i1:¬(i:Int)<(n:Int):=by omega
   have HQ:=hid (HR.out.congr (V:=fun i=>bhR n (U i) V n) fun x j hx hj=>by unfold inW;rw[if_pos (by omega)])
   go_wp2;go_ret;exact⟨z,cap,cs,rfl,HQ.out,HW.out⟩
end Pt
end
section
open Go.RowKit
namespace Pt
theorem zol (W:Nat->Nat->Nat) (k i:Nat):mrI W k (i+1)=fun x=>if x=i/\bt (mrI W k i i) k=true then orR (mrI W k i i) (mrI W k i k) else mrI W k i x:=rfl
theorem zom (n m:Nat) (C:Nat) (g:Nat) (gc:Nat) (bs:Nat->Nat) (U:Nat->Nat->Nat) (w:World) (h1:1<=n) (hn:n<=100000) (hm:m=n / 64) (hg:Mt C w g n (m+1) bs U):
  Calls Tryz.prog 177 #[.slice (some ⟨g,0,none⟩) n gc] w (MtQ w n m (mrK n (fun i=>orR (orR (fun _=>0) (U i)) (stR (fun _=>0) i)) n)):=by
 have HN:=hid (zis n m w h1 hn hm);have HBO:=hid (fun(W:World) (h:Nat) (hc:Nat) (ds:Nat->Nat) (D:Nat) (e1:Mt C W g n (m+1) bs U) (e2:Mt D W h n (m+1) ds fun i=>stR (fun _=>0) i)=>zjc n m C D g h gc hc bs ds _ _ W h1 hn hm e1 e2)
 have HG:=hid hg;have HM:=hid hm;clear hm hg;obtain⟨Z,hZ⟩:∃Z:Nat->Nat->Nat,Z=fun i=>orR (orR (fun _=>0) (U i)) (stR (fun _=>0) i):=⟨_,rfl⟩
 rw[<- hZ];have HZ:=hid hZ;clear hZ;go_enter Tryz.func177,Tryz.ntmps177;go_wp2_with fail;refine HN.out.mono ?_;rintro e w1 ⟨y,yc,ys,rfl,hM,hB⟩;have HT1:=hid hM;have HB1:=hid hB;clear hM hB HN;go_wp2_with fail;refine(HBO.out w1 y yc ys w.heap.size (HG.out.below HB1.out) HT1.out).mono ?_;rintro e w2 ⟨z,cap,cs,rfl,hM,hB⟩;rw[<- HZ.out] at hM;have HT:=hid (hM.lower HB1.out.size);have HB:=hid (HB1.out.trans (hB.mono HB1.out.size));clear hM hB HBO;go_wp2;go_loopw [5] (fun y wr=>∃k:Nat,y= .int .i64 k/\k<=n/\Hid (Mt w.heap.size wr z n (m+1) cs (mrK n Z k))/\Hid (Below w.heap.size w wr)) (fun y _=>n - (intOf y).toNat)
 case atStart=>exact⟨0,rfl,xa _,HT,HB⟩
 case round=>
  obtain⟨k,rfl,hk,HR,HW⟩:=hrel
  by_cases hkn:k<n
  ·have k0:(0:Int)<=(k:Int):=by omega
   have k1:(k:Int)<(n:Int):=by omega
   go_wp2;go_loopw [6] (fun y wr=>∃i:Nat,y= .int .i64 i/\i<=n/\Hid (Mt w.heap.size wr z n (m+1) cs (mrI (mrK n Z k) k i))/\Hid (Below w.heap.size w wr)) (fun y _=>n - (intOf y).toNat)
   case atStart=>exact⟨0,rfl,xa _,HR,HW⟩
   case round=>
    clear HR HW;obtain⟨i,rfl,hi,HR,HW⟩:=hrel
    by_cases hlt:i<n
    ·have i0:(0:Int)<=(i:Int):=by omega
     have i1:(i:Int)<(n:Int):=by omega
     have c0:=HR.out.cell i hlt;have HS:=hid (ziK (cs i) (m+1) k _ wr (HR.out.row i hlt) (by have:=HM.out;have:=xb (c:=64) (xe hkn);omega) (HR.out.bd i _ hlt (by have:=HM.out;have:=xb (c:=64) (xe hkn);omega)) (by omega))
     go_wp2_with fail;refine HS.out.mono ?_;rintro e w2 ⟨rfl,e2⟩;obtain rfl:=e2.symm;clear HS c0
     by_cases hb:bt (mrI (mrK n Z k) k i i) k=true
     ·rw[hb]
      have HBT:=hid hb;clear hb;have c1:=HR.out.cell i hlt;have c2:=HR.out.cell k hkn;have HA:=hid (fun(W:World) (e1:Rw W (cs i) (m+1) (mrI (mrK n Z k) k i i)) (e2:Rw W (cs k) (m+1) (mrI (mrK n Z k) k i k))=>zjg (cs i) (cs k) (m+1) _ _ W e1 e2 (HR.out.bd i · hlt) (HR.out.bd k · hkn) (by have:=HM.out;omega))
      go_wp2_with fail;refine zaf [(0,true),(1,true),(2,true),(3,true),(4,true),(5,true),(6,true),(7,true),(8,false)] (fun w'=>w'.cell? ⟨z,i,none⟩=some (.slice (some ⟨cs i,0,none⟩) (m+1) (m+1))/\w'.cell? ⟨z,k,none⟩=some (.slice (some ⟨cs k,0,none⟩) (m+1) (m+1))) (fun _=>false) (by kernel_rfl) (by kernel_rfl) (fun j hj=>by cases hj) rfl (by kernel_rfl) ⟨c1,c2⟩ ?_
      iterate 8 (refine zai ?_ rfl (by kernel_rfl) (fun w' hS=>?_) ?_;(rotate_left;(obtain⟨s1,s2⟩:=hS;go_simp;with_reducible rfl);rotate_left))
      refine zah rfl (by kernel_rfl) fun KK hKK=>?_
      go_simp;refine(HA.out wr.drew (HR.out.row i hlt) (HR.out.row k hkn)).mono ?_;rintro e w2 ⟨rfl,hr2,ho2⟩;have HR2:=hid (show Mt w.heap.size w2 z n (m+1) cs _ from HR.out.set i hlt hr2 ((Ony.drew _ 1 wr).trans ho2) (zlK (HR.out.bd i · hlt) (HR.out.bd k · hkn)))
      have HO2:=hid (show Ony (cs i) wr w2 from(Ony.drew _ 1 wr).trans ho2)
      have HW2:=hid (HW.out.trans (HO2.out.below (HR.out.low i hlt)));refine hKK _ _ (fun _=>⟨HR2.out.cell i hlt,HR2.out.cell k hkn⟩) ?_
      refine zay (NoPanic.normal ?_);clear hr2 ho2 hKK c1 c2;go_wp2;go_roundw
      case rel=>
       refine⟨i+1,by go_num,by omega,hid (HR2.out.congr fun x j hx hj=>?_),HW2⟩
       rw[zol]
       by_cases e:x=i
       ·simp only[e,if_pos,HBT.out,and_self]
       ·simp only[e,false_and,if_false]
      case measure=>simp[intOf];omega
     ·have hb':bt (mrI (mrK n Z k) k i i) k=false:=by simpa using hb
      rw[hb'];have HBT:=hid hb;clear hb hb';go_wp2;go_roundw
      case rel=>
       refine⟨i+1,by go_num,by omega,hid (HR.out.congr fun x j hx hj=>?_),HW⟩
       rw[zol]
       show _=(if x=i/\_ then _ else _:Nat->Nat) j
       rw[if_neg (fun h=>HBT.out h.2)]
      case measure=>simp[intOf];omega
    ·have i1:¬(i:Int)<(n:Int):=by omega
     have e:i=n:=by omega
     have HR2:=hid (HR.out.congr (V:=mrK n Z (k+1)) fun x j hx hj=>by rw[e];rfl)
     clear e;go_wp2;go_roundw
     case rel=>exact⟨k+1,by go_num,by omega,HR2,HW⟩
     case measure=>simp[intOf];omega
  ·have k1:¬(k:Int)<(n:Int):=by omega
   have HQ:=hid (HR.out.congr (V:=mrK n Z n) fun x j hx hj=>by rw[show k=n by omega])
   go_wp2;go_ret;exact⟨z,cap,cs,rfl,HQ.out,HW.out⟩
end Pt
end
section
open Go.RowKit
namespace Pt
theorem add_blk (a:Addr) (k:Nat):(a.add k).block=a.block:=by unfold Addr.add;split<;>rfl
def RdI (w:World) (ao:Option Addr) (l:List Int):Prop:=
 ∀(k:Nat) (z:Int),l[k]? =some z->∃a:Addr,ao=some a/\a.block<w.heap.size/\w.cell? (a.add k)=some (.int .i64 z)
theorem RdI.below {w w':World} {ao:Option Addr} {l:List Int} (h:RdI w ao l) (hb:Below w.heap.size w w'):RdI w' ao l:=fun k z hk=>by
 obtain⟨a,h1,h2,h3⟩:=h k z hk;exact⟨a,h1,xu h2 hb.size,(hb.cell (p:=a.add k) (by rw[add_blk];exact h2)).trans h3⟩
theorem RdI.at {w:World} {ao:Option Addr} {l:List Int} {k:Nat} (h:RdI w ao l) (hk:k<l.length):∃a:Addr,ao=some a/\a.block<w.heap.size/\w.cell? (a.add k)=some (.int .i64 l[k]):=h k l[k] (xd hk)
mutual
def RdP (w:World):Pat->Value->Value->Value->Prop
 | .mk op cls kids,v0,v1,v2=>v0= .int .i64 op/\(∃co cc,v1= .slice co cls.length cc/\RdI w co cls/\cls.length<=1000000)/\(∃ko kc,v2= .slice ko kids.length kc/\RdK w kids ko 0/\kids.length<=1000000/\kids.length<=kc)
def RdK (w:World):List Pat->Option Addr->Nat->Prop
 | [],_,_=>True
 | p::ps,ko,i=>(∃b o,ko=some ⟨b,o,none⟩/\b<w.heap.size/\∃v0 v1 v2,w.cell? ⟨b,o+i * 3,none⟩=some v0/\w.cell? ⟨b,o+i * 3+1,none⟩=some v1/\w.cell? ⟨b,o+i * 3+2,none⟩=some v2/\RdP w p v0 v1 v2)/\RdK w ps ko (i+1)
end
mutual
theorem RdP.below {w w':World} (hb:Below w.heap.size w w'):∀(p:Pat) (v0 v1 v2:Value),RdP w p v0 v1 v2->RdP w' p v0 v1 v2
 | .mk op cls kids,v0,v1,v2,h=>by
  unfold RdP at h⊢;obtain⟨h1,⟨co,cc,h2,h3,h4⟩,ko,kc,h5,h6,h7⟩:=h;exact⟨h1,⟨co,cc,h2,h3.below hb,h4⟩,ko,kc,h5,RdK.below hb kids ko 0 h6,h7⟩
theorem RdK.below {w w':World} (hb:Below w.heap.size w w'):∀(ps:List Pat) (ko:Option Addr) (i:Nat),RdK w ps ko i->RdK w' ps ko i
 | [],_,_,_=>by unfold RdK;trivial
 | p::ps,ko,i,h=>by
  unfold RdK at h⊢;obtain⟨⟨b,o,h1,h2,v0,v1,v2,h3,h4,h5,h6⟩,h7⟩:=h;have hc:∀k v,w.cell? ⟨b,k,none⟩=some v->w'.cell? ⟨b,k,none⟩=some v:=fun k v hk=>(hb.cell (p:=⟨b,k,none⟩) h2).trans hk
  exact⟨⟨b,o,h1,xu h2 hb.size,v0,v1,v2,hc _ _ h3,hc _ _ h4,hc _ _ h5,RdP.below hb p _ _ _ h6⟩,RdK.below hb ps ko (i+1) h7⟩
end
theorem RdK.at {w:World}:∀(ps:List Pat) (ko:Option Addr) (i j:Nat) (p:Pat),RdK w ps ko i->ps[j]? =some p->∃b o,ko=some ⟨b,o,none⟩/\b<w.heap.size/\∃v0 v1 v2,w.cell? ⟨b,o+(i+j) * 3,none⟩=some v0/\w.cell? ⟨b,o+(i+j) * 3+1,none⟩=some v1/\w.cell? ⟨b,o+(i+j) * 3+2,none⟩=some v2/\RdP w p v0 v1 v2
 | [],_,_,j,p,_,h=>by simp at h
 | q::ps,ko,i,0,p,h,hj=>by
  unfold RdK at h
  simp at hj
  subst hj;exact h.1
 | q::ps,ko,i,j+1,p,h,hj=>by
  unfold RdK at h;have:=RdK.at ps ko (i+1) j p h.2 (by simpa using hj)
  rw[show i+1+j=i+(j+1) by omega] at this
  exact this
def inb (l:List Int) (c:Int):Bool:=l.any fun z=>z==c
theorem zbv (l:List Int) (c:Int):inb l c=true ↔ c∈l:=by
 unfold inb;rw[List.any_eq_true]
 constructor
 ·rintro ⟨z,h1,h2⟩;rw[beq_iff_eq] at h2;exact h2 ▸ h1
 ·intro h;exact⟨c,h,by simp⟩
theorem zzC (lo:Option Addr) (n lc:Nat) (l:List Int) (c:Int) (w:World) (hl:RdI w lo l) (hn:n=l.length) (hm:n<=1000000):
  Calls Tryz.prog 170 #[.slice lo n lc,.int .i64 c] w fun e w'=>e= .returned (.bool (inb l c))/\w'=w:=by
 have HL:=hid hl;have HN:=hid hn;clear hl hn;go_enter Tryz.func170,Tryz.ntmps170;go_wp2;go_loopw [5] (fun y wr=>∃i:Nat,y= .int .i64 i/\i<=n/\wr=w/\Hid (∀z∈l.take i,z≠c)) (fun y _=>n - (intOf y).toNat)
 case atStart=>exact⟨0,rfl,xa _,rfl,hid (by simp)⟩
 case round=>
  obtain⟨i,rfl,hi,rfl,HT⟩:=hrel
  by_cases hlt:i<n
  ·have i0:(0:Int)<=(i:Int):=by omega
   have i1:(i:Int)<(n:Int):=by omega
   have hil:i<l.length:=by have:=HN.out;omega
   obtain⟨a,rfl,ha,c1⟩:=HL.out.at hil;obtain⟨z,hz⟩:∃z,z=l[i]:=⟨_,rfl⟩;rw[<- hz] at c1;have HZ:=hid hz;clear hz
   by_cases e:z=c
   ·subst e
    have b1:(z==z)=true:=by simp
    have HE:=hid (show inb l z=true from(zbv l z).2 (by rw[HZ.out];exact xq _))
    go_wp2;go_ret;exact⟨by rw[HE.out];rfl,rfl⟩
   ·have b1:(z==c)=false:=by simpa using e
    have HE:=hid e;clear e;go_wp2;go_roundw
    case rel=>
     refine⟨i+1,by go_num,by omega,trivial,hid fun x hx=>?_⟩
     rw[List.take_succ_eq_append_getElem hil,List.mem_append] at hx
     rcases hx with hx | hx
     ·exact HT.out x hx
     ·rw[List.mem_singleton] at hx
      rw[hx,<- HZ.out];exact HE.out
    case measure=>simp[intOf];omega
  ·have i1:¬(i:Int)<(n:Int):=by omega
   have HE:=hid (show inb l c=false from by
    cases h:inb l c with
    | false=>rfl
    | true=>exact absurd rfl (HT.out c (by rw[List.take_of_length_le (by have:=HN.out;omega)];exact(zbv l c).1 h)))
   go_wp2;go_ret;exact⟨by rw[HE.out];rfl,rfl⟩
end Pt
end
section
open Go.RowKit
namespace Pt
mutual
theorem Pat.ind {M:Pat->Prop} (h:∀op cls kids,(∀p∈kids,M p)->M (.mk op cls kids)):∀p,M p
 | .mk op cls kids=>h op cls kids (Pat.indL h kids)
theorem Pat.indL {M:Pat->Prop} (h:∀op cls kids,(∀p∈kids,M p)->M (.mk op cls kids)):∀ps:List Pat,∀p∈ps,M p
 | [],p,hp=>by cases hp
 | q::ps,p,hp=>by
  cases hp with
  | head=>exact Pat.ind h _
  | tail _ hp=>exact Pat.indL h ps p hp
end
mutual
def Wf:Pat->Prop
 | .mk op _ kids=>((op=4\/op=5\/op=6)->kids≠ [])/\WfL kids
def WfL:List Pat->Prop
 | []=>True
 | p::ps=>Wf p/\WfL ps
end
theorem WfL.mem:∀{ps:List Pat} {p:Pat},WfL ps->p∈ps->Wf p
 | [],p,_,hp=>by cases hp
 | q::ps,p,h,hp=>by
  unfold WfL at h
  cases hp with
  | head=>exact h.1
  | tail _ hp=>exact WfL.mem h.2 hp
def LdR (n m:Nat) (R:Nat->Nat->Prop) (w:World) (e:Ending) (w':World):Prop:=∃W,MtQ w n m W e w'/\Rep n W R
theorem below_box {w:World} {o:Obj}:Below w.heap.size w (w.alloc o):=(Below.refl _ _).alloc (Nat.le_refl _) _
theorem MtQ.low {w w1:World} {n m:Nat} {W:Nat->Nat->Nat} {e:Ending} {w':World} (h:MtQ w1 n m W e w') (hb:Below w.heap.size w w1):MtQ w n m W e w':=by
 obtain⟨g,cap,bs,h1,h2,h3⟩:=h;exact⟨g,cap,bs,h1,h2.lower hb.size,hb.trans (h3.mono hb.size)⟩
section
variable (lo co:Option Addr) (ln lc b o kn kc cn cc m:Nat) (u0 u1 u2:Value) (R:Nat->Nat->Prop) (w:World)
theorem lead4 (hb:b<w.heap.size) (hkn:1<=kn) (hc:cn<=90000) (hm:m=(cn+1) / 64) (q0:w.cell? ⟨b,o,none⟩=some u0) (q1:w.cell? ⟨b,o+1,none⟩=some u1) (q2:w.cell? ⟨b,o+2,none⟩=some u2)
  (HL:Hid (∀W,Below w.heap.size w W->Calls Tryz.prog 149 #[.agg #[u0,u1,u2],.slice co cn cc] W (LdR (cn+1) m R W))) (HK:Hid (Kn (cn+1) R)):
  Calls Tryz.prog 149 #[.agg #[.int .i64 4,.slice lo ln lc,.slice (some ⟨b,o,none⟩) kn kc],.slice co cn cc] w (LdR (cn+1) m (zcR R) w):=by
 have HMo:=hid (fun(C g gc:Nat) (bs:Nat->Nat) (U:Nat->Nat->Nat) (W:World) (hg:Mt C W g (cn+1) (m+1) bs U)=>zom (cn+1) m C g gc bs U W (by omega) (by omega) hm hg)
 have k1:(0:Int)<(kn:Int):=by omega
 clear hm;go_enter Tryz.func149,Tryz.ntmps149;go_wp2_with fail;refine(HL.out _ below_box).mono ?_;rintro e w2 ⟨W,⟨g,cap,bs,rfl,hM,hB⟩,hR⟩;have HM:=hid hM;have HB:=hid (below_box.trans (hB.mono (by simp)))
 have HR:=hid hR;clear hM hB hR;go_wp2_with fail;refine(HMo.out _ g cap bs W w2 HM.out).mono ?_;rintro e w3 ⟨z,cap2,cs,rfl,hM3,hB3⟩;have HQ:=hid (show LdR (cn+1) m (zcR R) w (.returned (.slice (some ⟨z,0,none⟩) (cn+1) cap2)) w3 from⟨_,⟨z,cap2,cs,rfl,hM3.lower HB.out.size,HB.out.trans (hB3.mono HB.out.size)⟩,zoa HR.out (zfK (cn+1)) HK.out⟩)
 clear hM3 hB3;go_wp2;go_ret;exact HQ.out
theorem lead5 (hb:b<w.heap.size) (hkn:1<=kn) (hc:cn<=90000) (hm:m=(cn+1) / 64) (q0:w.cell? ⟨b,o,none⟩=some u0) (q1:w.cell? ⟨b,o+1,none⟩=some u1) (q2:w.cell? ⟨b,o+2,none⟩=some u2)
  (HL:Hid (∀W,Below w.heap.size w W->Calls Tryz.prog 149 #[.agg #[u0,u1,u2],.slice co cn cc] W (LdR (cn+1) m R W))) (HK:Hid (Kn (cn+1) R)):
  Calls Tryz.prog 149 #[.agg #[.int .i64 5,.slice lo ln lc,.slice (some ⟨b,o,none⟩) kn kc],.slice co cn cc] w (LdR (cn+1) m (Cmp R (zcR R)) w):=by
 have HMo:=hid (fun(C g gc:Nat) (bs:Nat->Nat) (U:Nat->Nat->Nat) (W:World) (hg:Mt C W g (cn+1) (m+1) bs U)=>zom (cn+1) m C g gc bs U W (by omega) (by omega) hm hg)
 have HBe:=hid (fun(C D g gc h hc:Nat) (bs ds:Nat->Nat) (U V:Nat->Nat->Nat) (W:World) (hg:Mt C W g (cn+1) (m+1) bs U) (hh:Mt D W h (cn+1) (m+1) ds V)=>zhR (cn+1) m C D g h gc hc bs ds U V W (by omega) (by omega) hm hg hh)
 have k1:(0:Int)<(kn:Int):=by omega
 clear hm;go_enter Tryz.func149,Tryz.ntmps149;go_wp2_with fail;refine(HL.out _ below_box).mono ?_;rintro e w2 ⟨W,⟨g,cap,bs,rfl,hM,hB⟩,hR⟩;have HM:=hid hM;have HB:=hid (below_box.trans (hB.mono (by simp)))
 have HR:=hid hR;clear hM hB hR;go_wp2_with fail;refine(HMo.out _ g cap bs W w2 HM.out).mono ?_;rintro e w3 ⟨z,cap2,cs,rfl,hM3,hB3⟩;have HM3:=hid hM3;have HB3:=hid hB3;clear hM3 hB3;go_wp2_with fail;refine(HBe.out _ _ g cap z cap2 bs cs _ _ w3 (HM.out.below HB3.out) HM3.out).mono ?_;rintro e w4 ⟨y,cap3,ds,rfl,hM4,hB4⟩;have HB5:=hid (HB.out.trans (HB3.out.mono HB.out.size));have HQ:=hid (show LdR (cn+1) m (Cmp R (zcR R)) w (.returned (.slice (some ⟨y,0,none⟩) (cn+1) cap3)) w4 from⟨_,⟨y,cap3,ds,rfl,hM4.lower HB5.out.size,HB5.out.trans (hB4.mono HB5.out.size)⟩,zhp HR.out (zoa HR.out (zfK (cn+1)) HK.out) HK.out⟩)
 clear hM4 hB4;go_wp2;go_ret;exact HQ.out
theorem lead6 (hb:b<w.heap.size) (hkn:1<=kn) (hc:cn<=90000) (hm:m=(cn+1) / 64) (q0:w.cell? ⟨b,o,none⟩=some u0) (q1:w.cell? ⟨b,o+1,none⟩=some u1) (q2:w.cell? ⟨b,o+2,none⟩=some u2)
  (HL:Hid (∀W,Below w.heap.size w W->Calls Tryz.prog 149 #[.agg #[u0,u1,u2],.slice co cn cc] W (LdR (cn+1) m R W))):
  Calls Tryz.prog 149 #[.agg #[.int .i64 6,.slice lo ln lc,.slice (some ⟨b,o,none⟩) kn kc],.slice co cn cc] w (LdR (cn+1) m (fun i k=>i=k\/R i k) w):=by
 have HOw:=hid (fun(W:World)=>show Calls Tryz.prog 174 #[.int .i64 ((cn:Int)+1)] W _ from zis (cn+1) m W (by omega) (by omega) hm)
 have HBo:=hid (fun(C D g gc h hc:Nat) (bs ds:Nat->Nat) (U V:Nat->Nat->Nat) (W:World) (hg:Mt C W g (cn+1) (m+1) bs U) (hh:Mt D W h (cn+1) (m+1) ds V)=>zjc (cn+1) m C D g h gc hc bs ds U V W (by omega) (by omega) hm hg hh)
 have k1:(0:Int)<(kn:Int):=by omega
 have k2:0<kn:=hkn;clear hm;go_enter Tryz.func149,Tryz.ntmps149;go_wp2_with fail;obtain⟨w1,hw1⟩:∃w1,w1=w.alloc (.cells #[.int .i64 6,.slice lo ln lc,.slice (some ⟨b,o,none⟩) kn kc] 105):=⟨_,rfl⟩;have hb1:Below w.heap.size w w1:=by rw[hw1];exact below_box
 have x2:w1.cell? ⟨w.heap.size,2,none⟩=some (.slice (some ⟨b,o,none⟩) kn kc):=by rw[hw1];simp[go_sem]
 have hs1:w.heap.size<w1.heap.size:=by rw[hw1];simp
 rw[<- hw1];clear hw1;have y0:w1.cell? ⟨b,o,none⟩=some u0:=(hb1.cell (p:=⟨b,o,none⟩) hb).trans q0;have y1:w1.cell? ⟨b,o+1,none⟩=some u1:=(hb1.cell (p:=⟨b,o+1,none⟩) hb).trans q1;have y2:w1.cell? ⟨b,o+2,none⟩=some u2:=(hb1.cell (p:=⟨b,o+2,none⟩) hb).trans q2;have HS:=hid (fun(W:World) (h:Below w1.heap.size w1 W)=>show W.cell? ⟨w.heap.size,2,none⟩=some (.slice (some ⟨b,o,none⟩) kn kc)/\W.cell? ⟨b,o,none⟩=some u0/\W.cell? ⟨b,o+1,none⟩=some u1/\W.cell? ⟨b,o+2,none⟩=some u2 from
  ⟨(h.cell (p:=⟨w.heap.size,2,none⟩) hs1).trans x2,(h.cell (p:=⟨b,o,none⟩) (xw hb hs1)).trans y0,(h.cell (p:=⟨b,o+1,none⟩) (xw hb hs1)).trans y1,(h.cell (p:=⟨b,o+2,none⟩) (xw hb hs1)).trans y2⟩)
 have HB1:=hid hb1;clear x2 y0 y1 y2 hb1 q0 q1 q2;refine zaf [(0,true),(2,true),(3,true),(4,true),(5,true),(6,true),(1,false),(7,false),(8,false),(9,false)] (fun W=>W.cell? ⟨w.heap.size,2,none⟩=some (.slice (some ⟨b,o,none⟩) kn kc)/\W.cell? ⟨b,o,none⟩=some u0/\W.cell? ⟨b,o+1,none⟩=some u1/\W.cell? ⟨b,o+2,none⟩=some u2) (fun _=>false) (by kernel_rfl) (by kernel_rfl) (fun j hj=>by cases hj) rfl (by kernel_rfl) (HS.out _ ⟨rfl,rfl,rfl,Nat.le_refl _,fun _ _=>rfl⟩) ?_
 iterate 6 (refine zai ?_ rfl (by kernel_rfl) (fun w' hS=>?_) ?_;(rotate_left;(obtain⟨s1,s2,s3,s4⟩:=hS;go_simp;with_reducible rfl);rotate_left))
 refine zah rfl (by kernel_rfl) fun KK hKK=>?_
 go_simp;refine(HOw.out w1.drew).mono ?_;rintro e w2 ⟨g,cap,bs,rfl,hM2,hB2⟩;have HM2:=hid hM2;have HB2:=hid (show Below w1.heap.size w1 w2 from⟨hB2.os,hB2.tape,hB2.output,hB2.size,hB2.block⟩)
 clear hM2 hB2;refine hKK _ _ (fun _=>HS.out _ HB2.out) ?_
 clear hKK;refine zah rfl (by kernel_rfl) fun KK hKK=>?_
 go_simp;refine(HL.out w2 (HB1.out.trans (HB2.out.mono HB1.out.size))).mono ?_;rintro e w3 ⟨W,⟨h,cap2,ds,rfl,hM3,hB3⟩,hR3⟩;have HM3:=hid hM3;have HB3:=hid hB3;have HR3:=hid hR3;clear hM3 hB3 hR3;refine hKK _ _ (fun _=>HS.out _ (HB2.out.trans (HB3.out.mono HB2.out.size))) ?_
 clear hKK;refine zah rfl (by kernel_rfl) fun KK hKK=>?_
 go_simp;refine(HBo.out _ _ g cap h cap2 bs ds _ _ w3 (HM2.out.below HB3.out) HM3.out).mono ?_;rintro e w4 ⟨y,cap3,es,rfl,hM4,hB4⟩;have HB5:=hid (HB1.out.trans ((HB2.out.trans (HB3.out.mono HB2.out.size)).mono HB1.out.size));have HQ:=hid (show LdR (cn+1) m (fun i k=>i=k\/R i k) w (.returned (.slice (some ⟨y,0,none⟩) (cn+1) cap3)) w4 from⟨_,⟨y,cap3,es,rfl,hM4.lower HB5.out.size,HB5.out.trans (hB4.mono HB5.out.size)⟩,zif (zfK (cn+1)) HR3.out⟩)
 have HB4:=hid hB4;clear hM4 hB4;refine hKK _ _ (fun _=>HS.out _ ((HB2.out.trans (HB3.out.mono HB2.out.size)).trans (HB4.out.mono (xi HB2.out.size HB3.out.size)))) ?_
 clear hKK;refine zah rfl (by kernel_rfl) fun KK hKK=>?_
 go_simp;refine hKK _ _ (fun _=>HS.out _ ((HB2.out.trans (HB3.out.mono HB2.out.size)).trans (HB4.out.mono (xi HB2.out.size HB3.out.size)))) ?_
 refine zay (NoPanic.normal ?_);go_wp2;go_ret;exact HQ.out
theorem lead0 (v1 v2:Value) (op:Int) (h1:op≠1) (h2:op≠2) (h3:op≠3) (h4:op≠4) (h5:op≠5) (h6:op≠6) (hc:cn<=90000) (hm:m=(cn+1) / 64):
  Calls Tryz.prog 149 #[.agg #[.int .i64 op,v1,v2],.slice co cn cc] w (LdR (cn+1) m (fun i k=>i=k) w):=by
 have HOw:=hid (fun(W:World)=>show Calls Tryz.prog 174 #[.int .i64 ((cn:Int)+1)] W _ from zis (cn+1) m W (by omega) (by omega) hm)
 have e1:(op==1)=false:=by simpa using h1
 have e2:(op==2)=false:=by simpa using h2
 have e3:(op==3)=false:=by simpa using h3
 have e4:(op==4)=false:=by simpa using h4
 have e5:(op==5)=false:=by simpa using h5
 have e6:(op==6)=false:=by simpa using h6
 clear hm h1 h2 h3 h4 h5 h6;go_enter Tryz.func149,Tryz.ntmps149;go_wp2_with fail;refine(HOw.out _).mono ?_;rintro e w2 ⟨g,cap,bs,rfl,hM2,hB2⟩;have HQ:=hid (show LdR (cn+1) m (fun i k=>i=k) w (.returned (.slice (some ⟨g,0,none⟩) (cn+1) cap)) w2 from⟨_,MtQ.low ⟨g,cap,bs,rfl,hM2,hB2⟩ below_box,zfK (cn+1)⟩)
 clear hM2 hB2;go_wp2;go_ret;exact HQ.out
end
end Pt
end
section
open Go.RowKit
namespace Pt
section
variable (lo co:Option Addr) (ln lc b o kn kc cn cc m:Nat) (w:World)
def KdA (w:World) (ko:Option Addr) (kn:Nat) (co:Option Addr) (cn cc m:Nat) (R:Nat->Nat->Nat->Prop):Prop:=∀j,j<kn->∃b o u0 u1 u2,ko=some ⟨b,o,none⟩/\b<w.heap.size/\w.cell? ⟨b,o+j * 3,none⟩=some u0/\w.cell? ⟨b,o+j * 3+1,none⟩=some u1/\w.cell? ⟨b,o+j * 3+2,none⟩=some u2∧
 (∀W,Below w.heap.size w W->Calls Tryz.prog 149 #[.agg #[u0,u1,u2],.slice co cn cc] W (LdR (cn+1) m (R j) W))/\Kn (cn+1) (R j)
theorem lead2 (ko:Option Addr) (R:Nat->Nat->Nat->Prop) (T:Nat->Nat->Nat->Prop) (hc:cn<=90000) (hk:kn<=1000000) (hm:m=(cn+1) / 64) (HA:Hid (KdA w ko kn co cn cc m R)) (HT0:Hid (T 0=fun i k=>i=k)) (HT:Hid (∀j,j<kn->T (j+1)=Cmp (T j) (R j))):
  Calls Tryz.prog 149 #[.agg #[.int .i64 2,.slice lo ln lc,.slice ko kn kc],.slice co cn cc] w (LdR (cn+1) m (T kn) w):=by
 have HOw:=hid (fun(W:World)=>show Calls Tryz.prog 174 #[.int .i64 ((cn:Int)+1)] W _ from zis (cn+1) m W (by omega) (by omega) hm)
 have HBe:=hid (fun(C D g gc h hc:Nat) (bs ds:Nat->Nat) (U V:Nat->Nat->Nat) (W:World) (hg:Mt C W g (cn+1) (m+1) bs U) (hh:Mt D W h (cn+1) (m+1) ds V)=>zhR (cn+1) m C D g h gc hc bs ds U V W (by omega) (by omega) hm hg hh)
 clear hm;go_enter Tryz.func149,Tryz.ntmps149;go_wp2_with fail;obtain⟨w1,hw1⟩:∃w1,w1=w.alloc (.cells #[.int .i64 2,.slice lo ln lc,.slice ko kn kc] 105):=⟨_,rfl⟩;have hb1:Below w.heap.size w w1:=by rw[hw1];exact below_box
 have x2:w1.cell? ⟨w.heap.size,2,none⟩=some (.slice ko kn kc):=by rw[hw1];simp[go_sem]
 have hs1:w.heap.size<w1.heap.size:=by rw[hw1];simp
 rw[<- hw1];have HB1:=hid hb1;have HX2:=hid x2;clear hw1 hb1 x2;refine(HOw.out w1).mono ?_;rintro e w2 ⟨g,cap,bs,rfl,hM2,hB2⟩;have HM2:=hid (hM2.lower (xe hs1));have HB2:=hid hB2;clear hM2 hB2;go_wp2;go_loopw [8,9] (fun x y wr=>∃(j g cap:Nat) (bs:Nat->Nat) (W:Nat->Nat->Nat),x= .slice (some ⟨g,0,none⟩) (cn+1) cap/\y= .int .i64 j/\j<=kn/\Hid (Mt w.heap.size wr g (cn+1) (m+1) bs W)/\Hid (Rep (cn+1) W (T j))/\Hid (Kn (cn+1) (T j))/\Hid (Below w1.heap.size w1 wr)) (fun _ y _=>kn - (intOf y).toNat)
 case atStart=>exact⟨0,g,cap,bs,_,rfl,rfl,xa _,HM2,hid (by rw[HT0.out];exact zfK (cn+1)),hid (by rw[HT0.out];exact fun i j hi e=>e ▸ hi),HB2⟩
 case round=>
  clear HM2 HB2;obtain⟨j,g,cap,bs,W,rfl,rfl,hj,HM,HR,HK,HB⟩:=hrel;have x2:wr.cell? ⟨w.heap.size,2,none⟩=some (.slice ko kn kc):=(HB.out.cell (p:=⟨w.heap.size,2,none⟩) hs1).trans HX2.out;have HBw:=hid (HB1.out.trans (HB.out.mono HB1.out.size))
  by_cases hlt:j<kn
  ·have j0:(0:Int)<=(j:Int):=by omega
   have j1:(j:Int)<(kn:Int):=by omega
   obtain⟨b,o,u0,u1,u2,rfl,hb,q0,q1,q2,hL,hKn⟩:=HA.out j hlt;have y0:wr.cell? ⟨b,o+j * 3,none⟩=some u0:=(HBw.out.cell (p:=⟨b,o+j * 3,none⟩) hb).trans q0;have y1:wr.cell? ⟨b,o+j * 3+1,none⟩=some u1:=(HBw.out.cell (p:=⟨b,o+j * 3+1,none⟩) hb).trans q1;have y2:wr.cell? ⟨b,o+j * 3+2,none⟩=some u2:=(HBw.out.cell (p:=⟨b,o+j * 3+2,none⟩) hb).trans q2;have HL:=hid hL;have HKn:=hid hKn;clear q0 q1 q2 hL hKn;go_wp2_with fail;refine(HL.out wr HBw.out).mono ?_;rintro e w3 ⟨V,⟨h,cap2,ds,rfl,hM3,hB3⟩,hR3⟩;have HM3:=hid hM3;have HB3:=hid hB3;have HR3:=hid hR3;clear hM3 hB3 hR3 y0 y1 y2 x2;go_wp2_with fail;refine(HBe.out _ _ g cap h cap2 bs ds _ _ w3 (HM.out.below HB3.out) HM3.out).mono ?_;rintro e w4 ⟨y,cap3,es,rfl,hM4,hB4⟩;have HB5:=hid (show Below wr.heap.size wr w4 from HB3.out.trans (hB4.mono HB3.out.size))
   have HM4:=hid (hM4.lower (xi HBw.out.size HB3.out.size));have HR4:=hid (show Rep (cn+1) _ (T (j+1)) from by rw[HT.out j hlt];exact zhp HR.out HR3.out HK.out)
   have HK4:=hid (show Kn (cn+1) (T (j+1)) from by rw[HT.out j hlt];exact zuP HK.out HKn.out)
   clear hM4 hB4;go_wp2;go_roundw
   case rel=>exact⟨j+1,y,cap3,es,_,rfl,by go_num,by omega,HM4,HR4,HK4,hid (HB.out.trans (HB5.out.mono HB.out.size))⟩
   case measure=>simp[intOf];omega
  ·have j1:¬(j:Int)<(kn:Int):=by omega
   have HQ:=hid (show LdR (cn+1) m (T kn) w (.returned (.slice (some ⟨g,0,none⟩) (cn+1) cap)) wr from⟨W,⟨g,cap,bs,rfl,HM.out,HBw.out⟩,(show j=kn by omega) ▸ HR.out⟩)
   go_wp2;go_ret;exact HQ.out
theorem lead3 (ko:Option Addr) (R:Nat->Nat->Nat->Prop) (T:Nat->Nat->Nat->Prop) (hc:cn<=90000) (hk:kn<=1000000) (hm:m=(cn+1) / 64) (HA:Hid (KdA w ko kn co cn cc m R)) (HT0:Hid (T 0=fun _ _=>False)) (HT:Hid (∀j,j<kn->T (j+1)=fun i k=>T j i k\/R j i k)):
  Calls Tryz.prog 149 #[.agg #[.int .i64 3,.slice lo ln lc,.slice ko kn kc],.slice co cn cc] w (LdR (cn+1) m (T kn) w):=by
 have HOw:=hid (fun(W:World)=>show Calls Tryz.prog 172 #[.int .i64 ((cn:Int)+1)] W _ from zdY (cn+1) m W (by omega) (by omega) hm)
 have HBe:=hid (fun(C D g gc h hc:Nat) (bs ds:Nat->Nat) (U V:Nat->Nat->Nat) (W:World) (hg:Mt C W g (cn+1) (m+1) bs U) (hh:Mt D W h (cn+1) (m+1) ds V)=>zjc (cn+1) m C D g h gc hc bs ds U V W (by omega) (by omega) hm hg hh)
 clear hm;go_enter Tryz.func149,Tryz.ntmps149;go_wp2_with fail;obtain⟨w1,hw1⟩:∃w1,w1=w.alloc (.cells #[.int .i64 3,.slice lo ln lc,.slice ko kn kc] 105):=⟨_,rfl⟩;have hb1:Below w.heap.size w w1:=by rw[hw1];exact below_box
 have x2:w1.cell? ⟨w.heap.size,2,none⟩=some (.slice ko kn kc):=by rw[hw1];simp[go_sem]
 have hs1:w.heap.size<w1.heap.size:=by rw[hw1];simp
 rw[<- hw1];have HB1:=hid hb1;have HX2:=hid x2;clear hw1 hb1 x2;refine(HOw.out w1).mono ?_;rintro e w2 ⟨g,cap,bs,rfl,hM2,hB2⟩;have HM2:=hid (hM2.lower (xe hs1));have HB2:=hid hB2;clear hM2 hB2;go_wp2;go_loopw [10,11] (fun x y wr=>∃(j g cap:Nat) (bs:Nat->Nat) (W:Nat->Nat->Nat),x= .slice (some ⟨g,0,none⟩) (cn+1) cap/\y= .int .i64 j/\j<=kn/\Hid (Mt w.heap.size wr g (cn+1) (m+1) bs W)/\Hid (Rep (cn+1) W (T j))/\Hid (Below w1.heap.size w1 wr)) (fun _ y _=>kn - (intOf y).toNat)
 case atStart=>exact⟨0,g,cap,bs,_,rfl,rfl,xa _,HM2,hid (by rw[HT0.out];exact zwl (cn+1)),HB2⟩
 case round=>
  clear HM2 HB2;obtain⟨j,g,cap,bs,W,rfl,rfl,hj,HM,HR,HB⟩:=hrel;have x2:wr.cell? ⟨w.heap.size,2,none⟩=some (.slice ko kn kc):=(HB.out.cell (p:=⟨w.heap.size,2,none⟩) hs1).trans HX2.out;have HBw:=hid (HB1.out.trans (HB.out.mono HB1.out.size))
  by_cases hlt:j<kn
  ·have j0:(0:Int)<=(j:Int):=by omega
   have j1:(j:Int)<(kn:Int):=by omega
   obtain⟨b,o,u0,u1,u2,rfl,hb,q0,q1,q2,hL,hKn⟩:=HA.out j hlt;have y0:wr.cell? ⟨b,o+j * 3,none⟩=some u0:=(HBw.out.cell (p:=⟨b,o+j * 3,none⟩) hb).trans q0;have y1:wr.cell? ⟨b,o+j * 3+1,none⟩=some u1:=(HBw.out.cell (p:=⟨b,o+j * 3+1,none⟩) hb).trans q1;have y2:wr.cell? ⟨b,o+j * 3+2,none⟩=some u2:=(HBw.out.cell (p:=⟨b,o+j * 3+2,none⟩) hb).trans q2;have HL:=hid hL;clear q0 q1 q2 hL hKn;go_wp2_with fail;refine(HL.out wr HBw.out).mono ?_;rintro e w3 ⟨V,⟨h,cap2,ds,rfl,hM3,hB3⟩,hR3⟩;have HM3:=hid hM3;have HB3:=hid hB3;have HR3:=hid hR3;clear hM3 hB3 hR3 y0 y1 y2 x2;go_wp2_with fail;refine(HBe.out _ _ g cap h cap2 bs ds _ _ w3 (HM.out.below HB3.out) HM3.out).mono ?_;rintro e w4 ⟨y,cap3,es,rfl,hM4,hB4⟩;have HB5:=hid (show Below wr.heap.size wr w4 from HB3.out.trans (hB4.mono HB3.out.size))
   have HM4:=hid (hM4.lower (xi HBw.out.size HB3.out.size));have HR4:=hid (show Rep (cn+1) _ (T (j+1)) from by rw[HT.out j hlt];exact zif HR.out HR3.out)
   clear hM4 hB4;go_wp2;go_roundw
   case rel=>exact⟨j+1,y,cap3,es,_,rfl,by go_num,by omega,HM4,HR4,hid (HB.out.trans (HB5.out.mono HB.out.size))⟩
   case measure=>simp[intOf];omega
  ·have j1:¬(j:Int)<(kn:Int):=by omega
   have HQ:=hid (show LdR (cn+1) m (T kn) w (.returned (.slice (some ⟨g,0,none⟩) (cn+1) cap)) wr from⟨W,⟨g,cap,bs,rfl,HM.out,HBw.out⟩,(show j=kn by omega) ▸ HR.out⟩)
   go_wp2;go_ret;exact HQ.out
def stW (c cls:List Int) (i:Nat):Nat->Nat->Nat:=fun x=>if x<i/\inb cls (c.getD x 0)=true then stR (fun _=>0) (x+1) else fun _=>0
theorem zAt (c cls:List Int) (kids:List Pat):Rep (c.length+1) (stW c cls c.length) (led c (.mk 1 cls kids)):=fun i k hi hk=>by
 unfold led stW;rw[if_pos rfl]
 by_cases h:i<c.length
 ·have hg:c.getD i 0=c[i]:=by simp[xt,h]
  rw[hg]
  by_cases hb:inb cls c[i]=true
  ·rw[if_pos ⟨h,hb⟩,zGw]
   simp only[bt,xr,Bool.false_or,decide_eq_true_eq]
   exact⟨fun e=>⟨e,c[i],xd h,(zbv _ _).1 hb⟩,fun e=>e.1⟩
  ·rw[if_neg (fun e=>hb e.2)]
   simp only[bt,xr,Bool.false_eq_true,false_iff]
   rintro ⟨_,z,hz,hm⟩;rw[xd h] at hz
   cases hz
   exact hb ((zbv _ _).2 hm)
 ·rw[if_neg (fun e=>h e.1)]
  simp only[bt,xr,Bool.false_eq_true,false_iff]
  rintro ⟨_,z,hz,_⟩;exact h (List.getElem?_eq_some_iff.1 hz).1
theorem znD (c cls:List Int) (i x:Nat):stW c cls (i+1) x=if x=i then (if inb cls (c.getD i 0)=true then stR (fun _=>0) (i+1) else fun _=>0) else stW c cls i x:=by
 unfold stW
 by_cases e:x=i
 ·subst e;simp
 ·rw[if_neg e]
  by_cases h:x<i
  ·simp only[h,xh h,true_and]
  ·have h2:¬x<i+1:=by omega
   simp only[h,h2,false_and]
theorem znE (c cls:List Int) (i:Nat):stW c cls i i=fun _=>0:=by unfold stW;simp
theorem lead1 (v2:Value) (c cls:List Int) (hc:cn<=90000) (hcn:cn=c.length) (hln:ln=cls.length) (hl9:ln<=1000000) (hm:m=(cn+1) / 64) (hI:RdI w co c) (hC:RdI w lo cls):
  Calls Tryz.prog 149 #[.agg #[.int .i64 1,.slice lo ln lc,v2],.slice co cn cc] w (LdR (cn+1) m (led c (.mk 1 cls [])) w):=by
 have HOw:=hid (fun(W:World)=>show Calls Tryz.prog 172 #[.int .i64 ((cn:Int)+1)] W _ from zdY (cn+1) m W (by omega) (by omega) hm)
 have HIn:=hid (fun(W:World) (z:Int) (h:Below w.heap.size w W)=>zzC lo ln lc cls z W (hC.below h) hln hl9)
 have HI:=hid hI;have HCN:=hid hcn;have HMm:=hid hm;clear hm hI hC hcn hln;go_enter Tryz.func149,Tryz.ntmps149;go_wp2_with fail;obtain⟨w1,hw1⟩:∃w1,w1=w.alloc (.cells #[.int .i64 1,.slice lo ln lc,v2] 105):=⟨_,rfl⟩;have hb1:Below w.heap.size w w1:=by rw[hw1];exact below_box
 have x2:w1.cell? ⟨w.heap.size,1,none⟩=some (.slice lo ln lc):=by rw[hw1];simp[go_sem]
 have hs1:w.heap.size<w1.heap.size:=by rw[hw1];simp
 rw[<- hw1];have HB1:=hid hb1;have HX2:=hid x2;clear hw1 hb1 x2;refine(HOw.out w1).mono ?_;rintro e w2 ⟨g,cap,bs,rfl,hM2,hB2⟩;have HM2:=hid (hM2.congr (V:=stW c cls 0) fun x j _ _=>by unfold stW;simp)
 have HB2:=hid hB2;clear hM2 hB2;go_wp2;go_loopw [7] (fun y wr=>∃(i:Nat),y= .int .i64 i/\i<=cn/\Hid (Mt w1.heap.size wr g (cn+1) (m+1) bs (stW c cls i))/\Hid (Below w1.heap.size w1 wr)) (fun y _=>cn - (intOf y).toNat)
 case atStart=>exact⟨0,rfl,xa _,HM2,HB2⟩
 case round=>
  clear HM2 HB2;obtain⟨i,rfl,hi,HM,HB⟩:=hrel;have x2:wr.cell? ⟨w.heap.size,1,none⟩=some (.slice lo ln lc):=(HB.out.cell (p:=⟨w.heap.size,1,none⟩) hs1).trans HX2.out;have HBw:=hid (HB1.out.trans (HB.out.mono HB1.out.size))
  by_cases hlt:i<cn
  ·have i0:(0:Int)<=(i:Int):=by omega
   have i1:(i:Int)<(cn:Int):=by omega
   have hil:i<c.length:=by have:=HCN.out;omega
   obtain⟨a,rfl,ha,c1⟩:=HI.out.at hil;have c2:wr.cell? (a.add i)=some (.int .i64 c[i]):=(HBw.out.cell (p:=a.add i) (by rw[add_blk];exact ha)).trans c1
   have HG:=hid (show c.getD i 0=c[i] by simp[xt,hil])
   obtain⟨z,hz⟩:∃z,z=c[i]:=⟨_,rfl⟩;rw[<- hz] at c2 HG;clear c1 hz;go_wp2_with fail;refine zaf [(0,true),(1,true),(2,true),(3,true),(4,true),(5,true),(6,false)] (fun W=>W.cell? ⟨w.heap.size,1,none⟩=some (.slice lo ln lc)/\W.cell? (a.add i)=some (.int .i64 z)) (fun _=>false) (by kernel_rfl) (by kernel_rfl) (fun j hj=>by cases hj) rfl (by kernel_rfl) ⟨x2,c2⟩ ?_
   iterate 6 (refine zai ?_ rfl (by kernel_rfl) (fun w' hS=>?_) ?_;(rotate_left;(obtain⟨s1,s2⟩:=hS;go_simp;with_reducible rfl);rotate_left))
   refine zah rfl (by kernel_rfl) fun KK hKK=>?_
   go_simp;refine(HIn.out wr.drew z ⟨HBw.out.os,HBw.out.tape,HBw.out.output,HBw.out.size,HBw.out.block⟩).mono ?_;rintro e w3 ⟨rfl,e3⟩;obtain rfl:=e3.symm;refine hKK _ _ (fun _=>⟨x2,c2⟩) ?_
   refine zay (NoPanic.normal ?_);clear hKK x2 c2;have HMd:=hid (show Mt w1.heap.size wr.drew g (cn+1) (m+1) bs (stW c cls i) from HM.out.keep fun _ _=>rfl)
   have HBd:=hid (show Below w1.heap.size w1 wr.drew from⟨HB.out.os,HB.out.tape,HB.out.output,HB.out.size,HB.out.block⟩)
   by_cases hb:inb cls z=true
   ·rw[hb]
    have HBT:=hid hb;clear hb;have c3:=HMd.out.cell i (by omega)
    have hr:=HMd.out.row i (by omega)
    rw[znE] at hr;have HSt:=hid (show Calls Tryz.prog 173 #[.slice (some ⟨bs i,0,none⟩) (m+1) (m+1),.int .i64 ((i:Int)+1)] wr.drew _ from zrp (bs i) (m+1) (i+1) _ wr.drew hr (by have:=HMm.out;have:=xb (c:=64) (show i+1<=cn+1 by omega);omega) (by decide) (by omega))
    clear hr;have i2:(i:Int)<(cn:Int)+1:=by omega
    have i3:i<cn+1:=by omega
    go_wp2_with fail;refine HSt.out.mono ?_;rintro e w4 ⟨rfl,hr4,ho4⟩;have HM4:=hid ((HMd.out.set i (by omega) hr4 ho4 (fun j hj=>by unfold stR;split;rw[Nat.zero_or];exact xj (by decide) (xy _ (by decide));exact(by decide:(0:Nat)<18446744073709551616))).congr (V:=stW c cls (i+1)) fun x j _ _=>by
     rw[znD,HG.out,if_pos HBT.out])
    have HB4:=hid (HBd.out.trans (ho4.below (HM.out.low i (by omega))))
    clear hr4 ho4 c3;go_wp2;go_roundw
    case rel=>exact⟨i+1,by go_num,by omega,HM4,HB4⟩
    case measure=>simp[intOf];omega
   ·have hb':inb cls z=false:=by simpa using hb
    rw[hb'];have HBT:=hid hb;clear hb hb';have HM4:=hid (HMd.out.congr (V:=stW c cls (i+1)) fun x j _ _=>by
     rw[znD,HG.out,if_neg HBT.out]
     by_cases e:x=i
     ·subst e;rw[if_pos rfl,znE]
     ·rw[if_neg e])
    go_wp2;go_roundw
    case rel=>exact⟨i+1,by go_num,by omega,HM4,HBd⟩
    case measure=>simp[intOf];omega
  ·have i1:¬(i:Int)<(cn:Int):=by omega
   have HQ:=hid (show LdR (cn+1) m (led c (.mk 1 cls [])) w (.returned (.slice (some ⟨g,0,none⟩) (cn+1) cap)) wr from⟨stW c cls i,⟨g,cap,bs,rfl,HM.out.lower (xe hs1),HBw.out⟩,by
    have e:i=c.length:=by have:=HCN.out;omega
    have h:=zAt c cls [];rw[e,HCN.out];exact h⟩)
   go_wp2;go_ret;exact HQ.out
end
theorem led_1 (c cls:List Int) (kids:List Pat):led c (.mk 1 cls kids)=led c (.mk 1 cls []):=by
 funext i k
 unfold led;rw[if_pos rfl,if_pos rfl]
theorem zoA (c:List Int) (p0:Pat) (ps:List Pat):zdm c (p0::ps)=led c p0:=by rw[zdm]
theorem led_4 (c cls:List Int) (p0:Pat) (ps:List Pat):led c (.mk 4 cls (p0::ps))=zcR (led c p0):=by
 rw[led]
 simp[zoA]
theorem zFG (c cls:List Int) (p0:Pat) (ps:List Pat):led c (.mk 5 cls (p0::ps))=Cmp (led c p0) (zcR (led c p0)):=by
 rw[led]
 simp[zoA]
theorem led_6 (c cls:List Int) (p0:Pat) (ps:List Pat):led c (.mk 6 cls (p0::ps))=fun i k=>i=k\/led c p0 i k:=by
 rw[led]
 simp[zoA]
theorem zwT (c cls:List Int) (ks:List Pat):led c (.mk 2 cls ks)=zcX c ks:=by
 rw[led]
 simp
theorem zFH (c cls:List Int) (ks:List Pat):led c (.mk 3 cls ks)=zcn c ks:=by
 rw[led]
 simp
theorem zFF (c cls:List Int) (ks:List Pat) (op:Int) (h1:op≠1) (h2:op≠2) (h3:op≠3) (h4:op≠4) (h5:op≠5) (h6:op≠6):led c (.mk op cls ks)=fun i k=>i=k:=by
 rw[led]
 simp[h1,h2,h3,h4,h5,h6]
theorem zkq (c:List Int) (cn m:Nat) (hcn:cn=c.length) (hc:cn<=90000) (hm:m=(cn+1) / 64) (co:Option Addr) (cc:Nat):∀p:Pat,Wf p->∀(v0 v1 v2:Value) (w:World),RdP w p v0 v1 v2->RdI w co c->Calls Tryz.prog 149 #[.agg #[v0,v1,v2],.slice co cn cc] w (LdR (cn+1) m (led c p) w):=by
 refine Pat.ind fun op cls kids ih hW v0 v1 v2 w hP hI=>?_
 unfold RdP at hP;unfold Wf at hW;obtain⟨rfl,⟨lo,lc,rfl,hl1,hl2⟩,ko,kc,rfl,hk1,hk2,_⟩:=hP;have HA:KdA w ko kids.length co cn cc m (fun j=>led c (kids.getD j (.mk 0 [] []))):=fun j hj=>by
  have hg:kids[j]? =some kids[j]:=xd hj;have hd:kids.getD j (.mk 0 [] [])=kids[j]:=by simp[xt,hj]
  obtain⟨b,o,h1,h2,u0,u1,u2,q0,q1,q2,hq⟩:=RdK.at kids ko 0 j _ hk1 hg;rw[Nat.zero_add] at q0 q1 q2;refine⟨b,o,u0,u1,u2,h1,h2,q0,q1,q2,fun W hW2=>?_,?_⟩
  ·simp only[hd]
   exact ih _ (xq hj) (hW.2.mem (xq hj)) u0 u1 u2 W (RdP.below hW2 _ _ _ _ hq) (hI.below hW2)
  ·simp only[hd,hcn]
   exact zov c _
 by_cases h1:op=1
 ·subst h1
  rw[led_1];exact lead1 lo co cls.length lc cn cc m w _ c cls hc hcn rfl hl2 hm hI hl1
 by_cases h2:op=2
 ·subst h2
  have:=lead2 lo co cls.length lc kids.length kc cn cc m w ko _ (fun j=>zcX c (kids.take j)) hc hk2 hm (hid HA) (hid (by simp only[List.take_zero];exact zbh c)) (hid fun j hj=>by
   have hd:kids.getD j (.mk 0 [] [])=kids[j]:=by simp[xt,hj]
   simp only[hd]
   exact ztN c kids j hj)
  simp only[xx] at this
  rw[zwT];exact this
 by_cases h3:op=3
 ·subst h3
  have:=lead3 lo co cls.length lc kids.length kc cn cc m w ko _ (fun j=>zcn c (kids.take j)) hc hk2 hm (hid HA) (hid (by funext i k;simp[zcn])) (hid fun j hj=>by
   have hd:kids.getD j (.mk 0 [] [])=kids[j]:=by simp[xt,hj]
   simp only[hd]
   funext i k
   exact propext (ztR c kids j hj i k))
  simp only[xx] at this
  rw[zFH];exact this
 by_cases h456:op=4\/op=5\/op=6
 ·obtain⟨p0,ps,rfl⟩:∃p0 ps,kids=p0::ps:=by
   cases kids with
   | nil=>exact absurd rfl (hW.1 h456)
   | cons a b=>exact⟨a,b,rfl⟩
  obtain⟨b,o,u0,u1,u2,rfl,hb,q0,q1,q2,hL,hKn⟩:=HA 0 (by simp)
  simp only[Nat.zero_mul,Nat.add_zero,List.getD_cons_zero] at q0 q1 q2 hL hKn
  rcases h456 with rfl | rfl | rfl
  ·rw[led_4]
   exact lead4 lo co cls.length lc b o _ kc cn cc m u0 u1 u2 _ w hb (by simp) hc hm q0 q1 q2 (hid hL) (hid hKn)
  ·rw[zFG]
   exact lead5 lo co cls.length lc b o _ kc cn cc m u0 u1 u2 _ w hb (by simp) hc hm q0 q1 q2 (hid hL) (hid hKn)
  ·rw[led_6]
   exact lead6 lo co cls.length lc b o _ kc cn cc m u0 u1 u2 _ w hb (by simp) hc hm q0 q1 q2 (hid hL)
 ·have h4:op≠4:=fun e=>h456 (.inl e)
  have h5:op≠5:=fun e=>h456 (.inr (.inl e))
  have h6:op≠6:=fun e=>h456 (.inr (.inr e))
  rw[zFF c cls kids op h1 h2 h3 h4 h5 h6];exact lead0 co cn cc m w _ _ op h1 h2 h3 h4 h5 h6 hc hm
end Pt
end
end Go.Proofs.YtbbapnpdfcgjnaaGreatDoor
