/- PtFun1, PtNone, PtBoth, PtBeh, PtMore, PtRd, PtLead, PtLead2, SdMath, PtGood, PtChk, PtSE, PtEn, PtAp: parts of the proof, joined. -/
import Derived.Deep.AppendLies
import Derived.WalkSpells
import Derived.WalkLawsBesides
import Derived.BigQuiet
import Derived.Test.YtbbapnpdfcgjnaaGreatDoorNPtMath
import Derived.Test.YtbbapnpdfcgjnaaGreatDoorNMix
open Go renaming World->sH, Calls->sN, Value->sQ, wpList_append_lies->tp, info_parts->tL, cell_of_row->tU, Ending->tZ, TypeId->t8
open Go.RowKit renaming Below->sI, intOf->sM
open List renaming getElem?_eq_getElem->sJ, getElem?_eq_some_iff->sO, getElem_mem->sU, getElem?_take_of_lt->ta, take_succ_eq_append_getElem->ti, exists_mem_of_length_pos->tk, mem_map->tm, mem_cons_self->tq, ext_getElem?->tr, getElem?_replicate->tw, take_length->tB, length_eq_zero_iff->tC, take_of_length_le->tD, length_map->tE, mem_cons_of_mem->tG, getD->tH, take_succ_cons->tJ, mem_singleton->tN, length_append->tP, length_take->tS, length_drop->tT, mem_append->tW, map_append->tX
open Nat renaming zero_le->sK, div_le_div_right->sL, le_trans->sR, le_of_lt->sV, lt_irrefl->tc, eq_or_lt_of_le->te, lt_succ_of_lt->tg, pow_lt_pow_right->tj, le_refl->tu, zero_testBit->tA, add_sub_cancel'->tK, lt_of_lt_of_le->tM, lt_trans->tQ, zero_add->tR, mod_lt->tY
open Go.NoPanic renaming normal->sP
open Go.IntKind renaming signed->sS, wrap->sY, bits->sZ, i64->tf, u64->tF
open And renaming intro->sT
open Int renaming tdiv_eq_ediv_of_nonneg->sW, tmod_eq_emod_of_nonneg->tn
open Go.World renaming cell?_of_block->sX, ownsRow_nil->tt, news_of_block->tI, grownBy->t6
open Go.RowKit.Below renaming refl->td, heap_alloc->tz
set_option maxHeartbeats 64000000
namespace Go.Proofs.YtbbapnpdfcgjnaaGreatDoor
section
open Go.RowKit
namespace Pt
theorem hid {p:Prop} (h:p):Hid p:=h
def us (m:Nat) (r:Nat->Nat):List sQ:=(List.range m).map fun j=>.int .u64 (r j)
theorem fi (m:Nat) (r:Nat->Nat) (j:Nat) (h:j<m):(us m r)[j]? =some (.int .u64 (r j)):=by simp[us,h]
theorem zrV (m:Nat) (r:Nat->Nat) (j z:Nat):(us m r).set j (.int .u64 z)=us m (fun x=>if x=j then z else r x):=by
 apply tr
 intro i;rw[List.getElem?_set]
 by_cases h:j=i
 ·subst h
  by_cases hj:j<m
  ·simp[us,hj]
  ·simp[us,hj]
 ·rw[if_neg h]
  by_cases hi:i<m
  ·rw[fi m r i hi,fi m _ i hi,if_neg (fun e=>h e.symm)]
  ·simp[us,hi]
theorem kh {m:Nat} {r s:Nat->Nat} (h:∀j,j<m->r j=s j):us m r=us m s:=by
 apply tr
 intro i
 by_cases hi:i<m
 ·rw[fi m r i hi,fi m s i hi,h i hi]
 ·simp[us,hi]
theorem cell_row (w:sH) (b j:Nat) (l:List sQ) (t:t8) (v:sQ) (h:w.heap[b]? =some (.cells l.toArray t (0,0))) (hv:l[j]? =some v):w.cell? ⟨b,j,none⟩=some v:=by
 rw[tU w b j l.toArray t (0,0) h]
 simpa using hv
theorem set_row (w:sH) (b j:Nat) (l:List sQ) (t:t8) (u:sQ) (h:w.heap[b]? =some (.cells l.toArray t (0,0))):(w.setCell ⟨b,j,none⟩ u).heap[b]? =some (.cells (l.set j u).toArray t (0,0)):=by
 rw[heap_setCell_same w b j _ t u h]
 simp
theorem frozen_row {w:sH} {b:Nat} {l:Array sQ} {t:t8} (h:w.heap[b]? =some (.cells l t (0,0))) (j:Nat):w.frozen? ⟨b,j,none⟩=false:=by
 unfold sH.frozen?
 simp only[h]
 simp
def Rw (w:sH) (b m:Nat) (r:Nat->Nat):Prop:=w.heap[b]? =some (.cells (us m r).toArray 159 (0,0))
theorem zvq (x j:Nat) (hx:x<18446744073709551616):(bits BinOp.and tF ((x:Int) / 2 ^ j) 1==1)=x.testBit j:=by
 have e:((x:Int) / 2 ^ j)=((x / 2 ^ j:Nat):Int):=by simp
 have h:=u64_and_nat (x / 2 ^ j) 1 (Nat.lt_of_le_of_lt (Nat.div_le_self _ _) hx) (by decide)
 rw[e];rw[show(1:Int)=((1:Nat):Int) from rfl,h]
 rw[Nat.testBit_eq_decide_div_mod_eq,Nat.and_one_is_mod]
 by_cases hh:x / 2 ^ j % 2=1
 ·rw[hh];rfl
 ·have:x / 2 ^ j % 2=0:=by omega
  rw[this];rfl
theorem nI (b m k:Nat) (r:Nat->Nat) (w:sH) (hc:Rw w b m r) (hk:k / 64<m) (hb:r (k / 64)<18446744073709551616) (hm:k<1000000):
  sN Tryz.prog 150 #[.slice (some ⟨b,0,none⟩) m m,.int .i64 k] w fun e w'=>e= .returned (.bool (bt r k))/\w'=w:=by
 have c1:=cell_row w b (k / 64) _ _ _ hc (fi m r _ hk);have e1:(k:Int).tdiv 64=((k / 64:Nat):Int):=by rw[sW (by omega)];omega
 have e2:tf.wrap ((k / 64:Nat):Int)=((k / 64:Nat):Int):=by unfold sY sZ sS;simp;omega
 have e3:(k:Int).tmod 64=((k % 64:Nat):Int):=by rw[tn (by omega)];omega
 have e4:tf.wrap ((k % 64:Nat):Int)=((k % 64:Nat):Int):=by unfold sY sZ sS;simp;omega
 have i1:(0:Int)<=((k / 64:Nat):Int):=by omega
 have i2:((k / 64:Nat):Int)<(m:Int):=by omega
 have HB:=hid (zvq (r (k / 64)) (k % 64) hb);clear hc hb;go_enter Tryz.func150,Tryz.ntmps150;go_wp2;go_ret;exact⟨by rw[HB.out];rfl,rfl⟩
structure dd (b:Nat) (w w':sH):Prop where
 os:w'.os=w.os
 tape:w'.tape=w.tape
 output:w'.output=w.output
 size:w'.heap.size=w.heap.size
 block:∀k,k≠b->w'.heap[k]? =w.heap[k]?
theorem dd.refl (b:Nat) (w:sH):dd b w w:=⟨rfl,rfl,rfl,rfl,fun _ _=>rfl⟩
theorem dd.trans {b:Nat} {w v u:sH} (h:dd b w v) (k:dd b v u):dd b w u:=⟨k.os.trans h.os,k.tape.trans h.tape,k.output.trans h.output,k.size.trans h.size,fun i hi=>(k.block i hi).trans (h.block i hi)⟩
theorem dd.set (b j:Nat) (w:sH) (v:sQ):dd b w (w.setCell ⟨b,j,none⟩ v):=⟨rfl,rfl,rfl,by simp,fun k hk=>heap_setCell_other w _ k v hk⟩
theorem dd.drew (b k:Nat) (w:sH):dd b w (w.drewN k):=⟨rfl,rfl,rfl,rfl,fun _ _=>rfl⟩
theorem dd.below {b B:Nat} {w w':sH} (h:dd b w w') (hb:B<=b):sI B w w':=⟨h.os,h.tape,h.output,Nat.le_of_eq h.size.symm,fun k hk=>h.block k (by omega)⟩
theorem Rw.set {w:sH} {b m:Nat} {r:Nat->Nat} (h:Rw w b m r) (j z:Nat):Rw (w.setCell ⟨b,j,none⟩ (.int .u64 z)) b m (fun x=>if x=j then z else r x):=by
 unfold Rw at h⊢;rw[set_row w b j _ _ _ h,zrV]
theorem zvI (x j:Nat) (hx:x<18446744073709551616) (hj:j<64):bits BinOp.or tF (x:Int) (tF.wrap (2 ^ j))=((x ||| 2 ^ j:Nat):Int):=by
 have h1:2 ^ j<18446744073709551616:=tj (by decide) hj
 have e:tF.wrap (2 ^ j)=((2 ^ j:Nat):Int):=by
  have:(2:Int) ^ j=((2 ^ j:Nat):Int):=by simp
  rw[this];rw[IntKind.wrap_u64]
  generalize 2 ^ j=y at h1⊢
  omega
 rw[e,u64_or_nat x (2 ^ j) hx h1]
theorem zgS (b m k:Nat) (r:Nat->Nat) (w:sH) (hc:Rw w b m r) (hk:k / 64<m) (hb:r (k / 64)<18446744073709551616) (hm:k<1000000):
  sN Tryz.prog 173 #[.slice (some ⟨b,0,none⟩) m m,.int .i64 k] w fun e w'=>e= .returned (.tuple #[])/\Rw w' b m (stR r k)/\dd b w w':=by
 have c1:=cell_row w b (k / 64) _ _ _ hc (fi m r _ hk);have f1:=frozen_row hc (k / 64);have e1:(k:Int).tdiv 64=((k / 64:Nat):Int):=by rw[sW (by omega)];omega
 have e2:tf.wrap ((k / 64:Nat):Int)=((k / 64:Nat):Int):=by unfold sY sZ sS;simp;omega
 have e3:(k:Int).tmod 64=((k % 64:Nat):Int):=by rw[tn (by omega)];omega
 have e4:tf.wrap ((k % 64:Nat):Int)=((k % 64:Nat):Int):=by unfold sY sZ sS;simp;omega
 have i1:(0:Int)<=((k / 64:Nat):Int):=by omega
 have i2:((k / 64:Nat):Int)<(m:Int):=by omega
 have HO:=hid (zvI (r (k / 64)) (k % 64) hb (tY _ (by decide)))
 have HC:=hid hc;clear hb hc;go_enter Tryz.func173,Tryz.ntmps173;go_wp2;refine bodyPost_end (results_none rfl _ _ _) rfl ?_;refine⟨rfl,?_,dd.set _ _ _ _⟩;rw[HO.out];have:=HC.out.set (k / 64) (r (k / 64) ||| 2 ^ (k % 64))
 refine Eq.trans this ?_;rw[kh (s:=stR r k)];intro j _;unfold stR
 by_cases h:j=k / 64
 ·rw[if_pos h,if_pos h,h]
 ·rw[if_neg h,if_neg h]
theorem nQ (b d m:Nat) (r o:Nat->Nat) (w:sH) (hc:Rw w b m r) (hd:Rw w d m o) (hb:∀j,j<m->r j<18446744073709551616) (ho:∀j,j<m->o j<18446744073709551616) (hm:m<1000000):
  sN Tryz.prog 187 #[.slice (some ⟨b,0,none⟩) m m,.slice (some ⟨d,0,none⟩) m m] w fun e w'=>e= .returned (.tuple #[])/\Rw w' b m (mS r o)/\dd b w w':=by
 have HB:=hid hb;have HO:=hid ho;have HC:=hid hc;have HD:=hid hd;clear hb ho hc hd;go_enter Tryz.func187,Tryz.ntmps187;go_wp2;go_loopw [4] (fun y wr=>∃j:Nat,y= .int .i64 j/\j<=m/\Hid (Rw wr b m (fun x=>if x<j then r x ||| o x else r x))/\Hid (dd b w wr)) (fun y _=>m - (sM y).toNat)
 case atStart=>exact⟨0,rfl,sK _,by simpa using HC,hid (dd.refl _ _)⟩
 case round=>
  obtain⟨j,rfl,hj,HR,HW⟩:=hrel
  by_cases hlt:j<m
  ·have c1:wr.cell? ⟨b,j,none⟩=some (.int .u64 (r j)):=by
    have:=cell_row wr b j _ _ _ HR.out (fi m _ _ hlt)
    simpa using this
   have f1:=frozen_row HR.out j;have c2:wr.cell? ⟨d,j,none⟩=some (.int .u64 (o j)):=by
    by_cases e:d=b
    ·subst e
     have h1:=cell_row w d j _ _ _ HC.out (fi m _ _ hlt);have h2:=cell_row w d j _ _ _ HD.out (fi m _ _ hlt);rw[c1,<- h1,h2]
    ·have:=HW.out.block d e
     exact cell_row wr d j _ _ _ (this.trans HD.out) (fi m _ _ hlt)
   have i0:(0:Int)<=(j:Int):=by omega
   have i1:(j:Int)<(m:Int):=by omega
   have HE:=hid (u64_or_nat (r j) (o j) (HB.out j hlt) (HO.out j hlt));go_wp2_with fail;refine ak [(0,true),(1,true),(2,true),(3,true),(4,true),(5,true),(6,true),(7,true),(8,true),(9,true),(10,true),(11,true),(12,false)] (fun w'=>w'.cell? ⟨b,j,none⟩=some (.int .u64 (r j))/\w'.cell? ⟨d,j,none⟩=some (.int .u64 (o j))) (fun j=>j==12) (by kernel_rfl) (by kernel_rfl) (fun j hj=>by have:=beq_iff_eq.1 hj;subst this;decide) rfl (by kernel_rfl) ⟨c1,c2⟩ ?_
   iterate 12 (refine au ?_ rfl (by kernel_rfl) (fun w' hS=>?_) ?_;(rotate_left;(obtain⟨s1,s2⟩:=hS;go_simp;with_reducible rfl);rotate_left))
   refine am rfl (by kernel_rfl) fun KK hKK=>?_
   go_simp;refine hKK _ _ (fun h=>by cases h) ?_
   refine aP (sP ?_);go_wp2;go_roundw
   case rel=>
    refine⟨j+1,by go_num,by omega,hid ?_,hid ?_⟩
    ·rw[HE.out]
     have:=HR.out.set j (r j ||| o j)
     refine Eq.trans this ?_;rw[kh (s:=fun x=>if x<j+1 then r x ||| o x else r x)]
     intro x _
     by_cases h:x=j
     ·subst h;simp
     ·by_cases h2:x<j
      ·simp[h,h2,tg h2]
      ·have:¬x<j+1:=by omega
       simp[h,h2,this]
    ·exact HW.out.trans ((dd.set b j wr _).trans (dd.drew b 1 _))
   case measure=>simp[sM];omega
  ·have i1:¬(j:Int)<(m:Int):=by omega
   go_wp2;refine bodyPost_end (results_none rfl _ _ _) rfl ?_;refine⟨rfl,?_,HW.out⟩;refine Eq.trans HR.out ?_;rw[kh (s:=mS r o)];intro x hx;rw[if_pos (by omega)]
   rfl
end Pt
end
section
open Go.RowKit
namespace Pt
theorem Tryz.infoRow:(Tryz.prog.info? 144).map (fun i=>(i.zero,i.size,i.bytes))=some (some (.slice none 0 0),1,24):=by kernel_rfl
theorem Tryz.infoU64:(Tryz.prog.info? 159).map (fun i=>(i.zero,i.size,i.bytes))=some (some (.int .u64 0),1,8):=by kernel_rfl
theorem Tryz.underRows:Tryz.prog.underlying 141=some (.slice 144):=by kernel_rfl
theorem Tryz.underRow:Tryz.prog.underlying 144=some (.slice 159):=by kernel_rfl
theorem zoM (m:Nat):(madeCells (sQ.int .u64 0).cells m)=(us m fun _=>0).toArray:=by
 apply Array.toList_inj.1
 rw[show(sQ.int .u64 0).cells=#[sQ.int .u64 0] from rfl,toList_madeCells_one]
 apply tr
 intro i
 by_cases hi:i<m
 ·rw[tw];simp[us,hi]
 ·rw[tw];simp[us,hi]
theorem zlM (n:Nat) (hn:n<=1000000) (W:sH):
  (Instr.makeSlice 144 (.int .i64 (n:Int)) (.int .i64 (n:Int))).run Tryz.prog W= .ok (.slice (some ⟨W.heap.size,0,none⟩) n n) (W.alloc (.cells (us n fun _=>0).toArray 159)):=by
 obtain⟨i,hi,hz,h1,h2⟩:=tL Tryz.infoU64;have h:=run_make (P:=Tryz.prog) W 144 159 i _ Tryz.underRow hi hz .i64 .i64 (n:Int) (n:Int) (by omega) (Int.le_refl _) (by rw[h2];omega) (by omega)
 rw[h1,Nat.mul_one] at h;rw[<- zoM]
 simpa using h
structure Mt (B:Nat) (w:sH) (g n m:Nat) (bs:Nat->Nat) (W:Nat->Nat->Nat):Prop where
 out:∃cur,w.heap[g]? =some (.cells cur 144 (0,0))/\∀i,i<n->cur[i]? =some (.slice (some ⟨bs i,0,none⟩) m m)
 row:∀i,i<n->Rw w (bs i) m (W i)
 inj:∀i j,i<n->j<n->bs i=bs j->i=j
 low:∀i,i<n->B<=bs i
 lg:B<=g
 bd:∀i j,i<n->j<m->W i j<18446744073709551616
theorem Mt.cell {B:Nat} {w:sH} {g n m:Nat} {bs:Nat->Nat} {W:Nat->Nat->Nat} (h:Mt B w g n m bs W) (i:Nat) (hi:i<n):w.cell? ⟨g,i,none⟩=some (.slice (some ⟨bs i,0,none⟩) m m):=by
 obtain⟨cur,h1,h2⟩:=h.out;rw[tU w g i cur _ _ h1];exact h2 i hi
theorem Mt.keep {B:Nat} {w w':sH} {g n m:Nat} {bs:Nat->Nat} {W:Nat->Nat->Nat} (h:Mt B w g n m bs W) (e:∀b,(b=g\/∃i,i<n/\b=bs i)->w'.heap[b]? =w.heap[b]?):Mt B w' g n m bs W:=by
 obtain⟨cur,h1,h2⟩:=h.out;exact⟨⟨cur,(e g (.inl rfl)).trans h1,h2⟩,fun i hi=>(e _ (.inr ⟨i,hi,rfl⟩)).trans (h.row i hi),h.inj,h.low,h.lg,h.bd⟩
theorem ae {w:sH} {b:Nat} {o:Obj} (h:w.heap[b]? =some o):b<w.heap.size:=(Array.getElem?_eq_some_iff.1 h).1
theorem Mt.below {B:Nat} {w w':sH} {g n m:Nat} {bs:Nat->Nat} {W:Nat->Nat->Nat} (h:Mt B w g n m bs W) (hb:sI w.heap.size w w'):Mt B w' g n m bs W:=by
 refine h.keep fun b hx=>hb.block b ?_
 rcases hx with rfl | ⟨i,hi,rfl⟩
 ·obtain⟨cur,h1,h2⟩:=h.out
  exact ae h1
 ·exact ae (h.row i hi)
theorem Mt.gne {B:Nat} {w:sH} {g n m:Nat} {bs:Nat->Nat} {W:Nat->Nat->Nat} (h:Mt B w g n m bs W) (i:Nat) (hi:i<n):bs i≠g:=fun e=>by
 obtain⟨cur,h1,h2⟩:=h.out;have h3:=h.row i hi;unfold Rw at h3;rw[e,h1] at h3
 cases h3
theorem Mt.set {B:Nat} {w w':sH} {g n m:Nat} {bs:Nat->Nat} {W:Nat->Nat->Nat} (h:Mt B w g n m bs W) (i:Nat) (hi:i<n) {r:Nat->Nat} (hr:Rw w' (bs i) m r) (ho:dd (bs i) w w') (hb:∀j,j<m->r j<18446744073709551616):Mt B w' g n m bs (fun x=>if x=i then r else W x):=by
 obtain⟨cur,h1,h2⟩:=h.out;refine⟨⟨cur,(ho.block g (fun e=>h.gne i hi e.symm)).trans h1,h2⟩,fun k hk=>?_,h.inj,h.low,h.lg,fun k j hk hj=>?_⟩
 ·by_cases e:k=i
  ·subst e;rw[if_pos rfl];exact hr
  ·rw[if_neg e];exact(ho.block _ (fun e2=>e (h.inj k i hk hi e2))).trans (h.row k hk)
 ·by_cases e:k=i
  ·simp only[if_pos e];exact hb j hj
  ·simp only[if_neg e];exact h.bd k j hk hj
theorem Mt.congr {B:Nat} {w:sH} {g n m:Nat} {bs:Nat->Nat} {W V:Nat->Nat->Nat} (h:Mt B w g n m bs W) (e:∀i j,i<n->j<m->W i j=V i j):Mt B w g n m bs V:=⟨h.out,fun i hi=>by
 have:=h.row i hi;unfold Rw at this⊢;rw[this,kh (e i · hi)],h.inj,h.low,h.lg,fun i j hi hj=>by rw[<- e i j hi hj];exact h.bd i j hi hj⟩
theorem Mt.lower {B C:Nat} {w:sH} {g n m:Nat} {bs:Nat->Nat} {W:Nat->Nat->Nat} (h:Mt B w g n m bs W) (hc:C<=B):Mt C w g n m bs W:=⟨h.out,h.row,h.inj,fun i hi=>sR hc (h.low i hi),sR hc h.lg,h.bd⟩
structure Nn (w wr:sH) (v:sQ) (i m:Nat) (bs:Nat->Nat) (xs:List sQ):Prop where
 own:wr.ownsRow w.heap.size 144 1 v i xs
 get:∀k,k<i->xs[k]? =some (.slice (some ⟨bs k,0,none⟩) m m)
 row:∀k,k<i->Rw wr (bs k) m fun _=>0
 inj:∀k j,k<i->j<i->bs k=bs j->k=j
 low:∀k,k<i->w.heap.size<=bs k
 bl:sI w.heap.size w wr
theorem zvN (w:sH) (o:Obj) (v:sQ) (T:t8):∀j u,[v][j]? =some u->((w.alloc o).alloc (.cells #[v] T)).cell? ((⟨w.heap.size+1,0,none⟩:Addr).add j)=some u:=by
 have h:=tI (cs:=#[v]) (heap_alloc_new (w.alloc o) (.cells #[v] T))
 simpa using h
theorem Nn.step {w wr w8:sH} {v:sQ} {i m g8 c8:Nat} {bs:Nat->Nat} {xs:List sQ} (h:Nn w wr v i m bs xs)
  (o8:w8.ownsRow w.heap.size 144 1 (.slice (some ⟨g8,0,none⟩) (i+1) c8) (i+1) (xs++[.slice (some ⟨wr.heap.size,0,none⟩) m m]))
  (gr:t6 ((wr.alloc (.cells (us m fun _=>0).toArray 159)).alloc (.cells #[.slice (some ⟨wr.heap.size,0,none⟩) m m] 144)) w8 v.ownBlock):
  Nn w w8 (.slice (some ⟨g8,0,none⟩) (i+1) c8) (i+1) m (fun k=>if k=i then wr.heap.size else bs k) (xs++[.slice (some ⟨wr.heap.size,0,none⟩) m m]):=by
 have hs:=h.bl.size;have hx:xs.length=i:=by have:=h.own.1;omega
 have hv:∀b,v.ownBlock=some b->w.heap.size<=b/\b<wr.heap.size/\∃cur,wr.heap[b]? =some (.cells cur 144 (0,0)):=fun b hb=>by
  rcases h.own.2 with ⟨rfl,_⟩ | ⟨g,cap,cur,rfl,h2,h3,_⟩
  ·cases hb
  ·cases hb;exact⟨h2,ae h3,cur,h3⟩
 have old:∀b,b<wr.heap.size->v.ownBlock≠some b->w8.heap[b]? =wr.heap[b]? :=fun b hb hne=>by
  rw[gr.block b (by simp;omega) (fun e=>hne e.symm),tz _ _ b (by simp;omega),tz _ _ b hb]
 have new:w8.heap[wr.heap.size]? =some (.cells (us m fun _=>0).toArray 159 (0,0)):=by
  rw[gr.block wr.heap.size (by simp;omega) (fun e=>by have:=(hv _ e.symm).2.1;omega),tz _ _ wr.heap.size (by simp)]
  exact heap_alloc_new _ _
 have rows:∀k,k<i->v.ownBlock≠some (bs k):=fun k hk e=>by
  obtain⟨_,_,cur,h3⟩:=hv _ e;have h4:=h.row k hk;unfold Rw at h4;rw[h3] at h4
  cases h4
 have blt:∀k,k<i->bs k<wr.heap.size:=fun k hk=>ae (h.row k hk)
 refine⟨o8,fun k hk=>?_,fun k hk=>?_,fun k j hk hj=>?_,fun k hk=>?_,?_⟩
 ·by_cases e:k=i
  ·subst e;rw[if_pos rfl,List.getElem?_append_right (by omega),hx];simp
  ·rw[if_neg e,List.getElem?_append_left (by omega)];exact h.get k (by omega)
 ·by_cases e:k=i
  ·subst e;rw[if_pos rfl];exact new
  ·rw[if_neg e];exact(old _ (blt k (by omega)) (rows k (by omega))).trans (h.row k (by omega))
 ·by_cases e:k=i<;>by_cases e2:j=i
  ·omega
  ·rw[if_pos e,if_neg e2];intro e3;have:=blt j (by omega);omega
  ·rw[if_neg e,if_pos e2];intro e3;have:=blt k (by omega);omega
  ·rw[if_neg e,if_neg e2];exact h.inj k j (by omega) (by omega)
 ·by_cases e:k=i
  ·rw[if_pos e];exact hs
  ·rw[if_neg e];exact h.low k (by omega)
 ·refine h.bl.trans ⟨gr.os,gr.tape,gr.output,?_,fun b hb=>old b (by omega) (fun e=>by have:=(hv b e).1;omega)⟩
  have:=gr.size
  simp at this
  omega
theorem Nn.done {w wr:sH} {v:sQ} {n m:Nat} {bs:Nat->Nat} {xs:List sQ} (h:Nn w wr v n m bs xs) (hn:1<=n):∃g cap,v= .slice (some ⟨g,0,none⟩) n cap/\Mt w.heap.size wr g n m bs (fun _ _=>0):=by
 rcases h.own.2 with ⟨rfl,h1⟩ | ⟨g,cap,cur,rfl,h2,h3,h4,h5,h6,h7⟩
 ·omega
 ·refine⟨g,cap,rfl,⟨cur,h3,fun i hi=>?_⟩,h.row,h.inj,h.low,h2,fun _ _ _ _=>by omega⟩
  have h8:=h.get i hi;rw[<- h7,ta (by omega)] at h8
  simpa using h8
def MtQ (w:sH) (n m:Nat) (W:Nat->Nat->Nat) (e:tZ) (w':sH):Prop:=∃g cap bs,e= .returned (.slice (some ⟨g,0,none⟩) n cap)/\Mt w.heap.size w' g n (m+1) bs W/\sI w.heap.size w w'
theorem ib (n m:Nat) (w:sH) (h1:1<=n) (hn:n<=100000) (hm:m=n / 64):sN Tryz.prog 172 #[.int .i64 n] w (MtQ w n m fun _ _=>0):=by
 have e1:(n:Int).tdiv 64=((n / 64:Nat):Int):=by rw[sW (by omega)];omega
 have e2:tf.wrap ((n / 64:Nat):Int)=((n / 64:Nat):Int):=by unfold sY sZ sS;simp;omega
 rw[<- hm] at e1 e2;have hml:m<=100000:=by omega
 clear hm;have M1:∀W:sH,(Instr.makeSlice 144 (.int .i64 ((m:Int)+1)) (.int .i64 ((m:Int)+1))).run Tryz.prog W= .ok (.slice (some ⟨W.heap.size,0,none⟩) (m+1) (m+1)) (W.alloc (.cells (us (m+1) fun _=>0).toArray 159)):=fun W=>zlM (m+1) (by omega) W
 obtain⟨i0,hi0,hz0,hz1,hz2⟩:=tL Tryz.infoRow;have HI:=hid (sT hi0 (sT hz0 (sT hz1 hz2)));clear hi0 hz0 hz1 hz2;go_enter Tryz.func172,Tryz.ntmps172;go_wp2;go_loopw [3,4] (fun x y wr=>∃(i:Nat) (bs:Nat->Nat) (xs:List sQ) (vo:Option Addr) (vc:Nat),x= .slice vo i vc/\y= .int .i64 i/\i<=n/\Hid (Nn w wr (.slice vo i vc) i (m+1) bs xs)) (fun _ y _=>n - (sM y).toNat)
 case atStart=>exact⟨0,fun _=>0,[],none,0,rfl,rfl,sK _,hid ⟨tt _ _ _ _,fun k hk=>by omega,fun k hk=>by omega,fun k j hk=>by omega,fun k hk=>by omega,td _ _⟩⟩
 case round=>
  obtain⟨i,bs,xs,vo,vc,rfl,rfl,hi,HN⟩:=hrel
  by_cases hlt:i<n
  ·have i1:(i:Int)<(n:Int):=by omega
   go_wp2_with (at_builtin;refine tp _ rfl _ _ 141 rfl w.heap.size 144 i0 (.slice none 0 0) 1 24 Tryz.underRows HI.out.1 HI.out.2.1 HI.out.2.2.1 HI.out.2.2.2 rfl (by decide) (.slice vo i vc) i xs rfl ((HN.out.own.alloc _).alloc _) ⟨wr.heap.size+1,0,none⟩ 1 1 [.slice (some ⟨wr.heap.size,0,none⟩) (m+1) (m+1)] rfl rfl (zvN wr _ _ _) (fun u hu=>by simp at hu;rw[hu];rfl) (by decide) (by unfold maxLen;omega) (by omega) (by have:=HN.out.bl.size;simp;omega) (wr.heap.size+2) (by simp) ?_;intro g8 c8 w8 o8 gr8 hl8 hlt8;have HO8:=hid (HN.out.step o8 gr8);clear o8 gr8 hl8 hlt8)
   go_roundw
   case rel=>exact⟨i+1,_,_,_,_,rfl,by go_num,by omega,HO8⟩
   case measure=>simp[sM];omega
  ·have e:i=n:=by omega
   subst e;have i1:¬(i:Int)<(i:Int):=by omega
   obtain⟨g,cap,hv,hM⟩:=HN.out.done h1;have HM:=hid hM
   cases hv
   clear hM;go_wp2;go_ret;exact⟨g,_,bs,rfl,HM.out,HN.out.bl⟩
theorem np (n m:Nat) (w:sH) (h1:1<=n) (hn:n<=100000) (hm:m=n / 64):sN Tryz.prog 174 #[.int .i64 n] w (MtQ w n m fun i=>stR (fun _=>0) i):=by
 have HN:=hid (ib n m w h1 hn hm);have HM:=hid hm;clear hm;go_enter Tryz.func174,Tryz.ntmps174;go_wp2_with fail;refine HN.out.mono ?_;rintro e w1 ⟨g,cap,bs,rfl,hM,hB⟩;have HT:=hid hM;have HB:=hid hB;clear hM hB HN;go_wp2;go_loopw [4] (fun y wr=>∃i:Nat,y= .int .i64 i/\i<=n/\Hid (Mt w.heap.size wr g n (m+1) bs fun x=>if x<i then stR (fun _=>0) x else fun _=>0)/\Hid (sI w.heap.size w wr)) (fun y _=>n - (sM y).toNat)
 case atStart=>exact⟨0,rfl,sK _,by simpa using HT,HB⟩
 case round=>
  obtain⟨i,rfl,hi,HR,HW⟩:=hrel
  by_cases hlt:i<n
  ·have i0:(0:Int)<=(i:Int):=by omega
   have i1:(i:Int)<(n:Int):=by omega
   have c1:=HR.out.cell i hlt;have hr:=HR.out.row i hlt
   simp only[tc,if_false] at hr
   have HS:=hid (zgS (bs i) (m+1) i _ wr hr (by have:=HM.out;have:=sL (c:=64) (sV hlt);omega) (by decide) (by omega))
   clear hr;go_wp2_with fail;refine HS.out.mono ?_;rintro e w2 ⟨rfl,hr2,ho2⟩;have HR2:=hid (HR.out.set i hlt hr2 ho2 (fun j hj=>by unfold stR;split;rw[Nat.zero_or];exact tj (by decide) (tY _ (by decide));exact(by decide:(0:Nat)<18446744073709551616)))
   have HW2:=hid (HW.out.trans (ho2.below (HR.out.low i hlt)));clear hr2 ho2 HS;go_wp2;go_roundw
   case rel=>
    refine⟨i+1,by go_num,by omega,hid (HR2.out.congr fun x j hx hj=>?_),HW2⟩
    by_cases e:x=i
    ·subst e;simp
    ·by_cases e2:x<i
     ·simp[e,e2,tg e2]
     ·have:¬x<i+1:=by omega
      simp[e,e2,this]
   case measure=>simp[sM];omega
  ·have i1:¬(i:Int)<(n:Int):=by omega
   have HQ:=hid (HR.out.congr (V:=fun i=>stR (fun _=>0) i) fun x j hx hj=>by rw[if_pos (by omega)])
   go_wp2;go_ret;exact⟨g,cap,bs,rfl,HQ.out,HW.out⟩
end Pt
end
section
open Go.RowKit
namespace Pt
theorem oJ {r o:Nat->Nat} {m:Nat} (h1:∀j,j<m->r j<18446744073709551616) (h2:∀j,j<m->o j<18446744073709551616) (j:Nat) (hj:j<m):mS r o j<18446744073709551616:=Nat.or_lt_two_pow (n:=64) (h1 j hj) (h2 j hj)
theorem pL (n m:Nat) (C D:Nat) (g h:Nat) (gc hc:Nat) (bs ds:Nat->Nat) (U V:Nat->Nat->Nat) (w:sH) (h1:1<=n) (hn:n<=100000) (hm:m=n / 64) (hg:Mt C w g n (m+1) bs U) (hh:Mt D w h n (m+1) ds V):
  sN Tryz.prog 176 #[.slice (some ⟨g,0,none⟩) n gc,.slice (some ⟨h,0,none⟩) n hc] w (MtQ w n m fun i=>mS (mS (fun _=>0) (U i)) (V i)):=by
 have HN:=hid (ib n m w h1 hn hm);have HG:=hid hg;have HH:=hid hh;have HM:=hid hm;clear hm hg hh;go_enter Tryz.func176,Tryz.ntmps176;go_wp2_with fail;refine HN.out.mono ?_;rintro e w1 ⟨k,cap,cs,rfl,hM,hB⟩;have HT:=hid hM;have HB:=hid hB;clear hM hB HN;go_wp2;go_loopw [6] (fun y wr=>∃i:Nat,y= .int .i64 i/\i<=n/\Hid (Mt w.heap.size wr k n (m+1) cs fun x=>if x<i then mS (mS (fun _=>0) (U x)) (V x) else fun _=>0)/\Hid (sI w.heap.size w wr)) (fun y _=>n - (sM y).toNat)
 case atStart=>exact⟨0,rfl,sK _,by simpa using HT,HB⟩
 case round=>
  obtain⟨i,rfl,hi,HR,HW⟩:=hrel
  by_cases hlt:i<n
  ·have i0:(0:Int)<=(i:Int):=by omega
   have i1:(i:Int)<(n:Int):=by omega
   have c1:=HR.out.cell i hlt;have HGr:=hid (HG.out.below HW.out);have HHr:=hid (HH.out.below HW.out);have c2:=HGr.out.cell i hlt;have hr:=HR.out.row i hlt
   simp only[tc,if_false] at hr
   have HA:=hid (fun(W:sH) (e1:Rw W (cs i) (m+1) fun _=>0) (e2:Rw W (bs i) (m+1) (U i))=>nQ (cs i) (bs i) (m+1) _ _ W e1 e2 (fun _ _=>by decide) (HGr.out.bd i · hlt) (by have:=HM.out;omega))
   have HRr:=hid hr;clear hr;have n1:g≠cs i:=fun e=>by
    obtain⟨cur,h3,_⟩:=HG.out.out;have:=ae h3;have:=HR.out.low i hlt;omega
   have n2:h≠cs i:=fun e=>by
    obtain⟨cur,h3,_⟩:=HH.out.out;have:=ae h3;have:=HR.out.low i hlt;omega
   have n3:k≠cs i:=fun e=>HR.out.gne i hlt e.symm
   have n4:ds i≠cs i:=fun e=>by
    have:=ae (HH.out.row i hlt);have:=HR.out.low i hlt;omega
   have HX:=hid (sT n1 (sT n2 (sT n3 n4)));clear n1 n2 n3 n4;go_wp2_with fail;refine ak [(0,true),(1,true),(2,true),(3,true),(4,true),(5,true),(6,true),(7,true),(8,false)] (fun w'=>w'.cell? ⟨k,i,none⟩=some (.slice (some ⟨cs i,0,none⟩) (m+1) (m+1))/\w'.cell? ⟨g,i,none⟩=some (.slice (some ⟨bs i,0,none⟩) (m+1) (m+1))) (fun _=>false) (by kernel_rfl) (by kernel_rfl) (fun j hj=>by cases hj) rfl (by kernel_rfl) ⟨c1,c2⟩ ?_
   iterate 8 (refine au ?_ rfl (by kernel_rfl) (fun w' hS=>?_) ?_;(rotate_left;(obtain⟨s1,s2⟩:=hS;go_simp;with_reducible rfl);rotate_left))
   refine am rfl (by kernel_rfl) fun KK hKK=>?_
   go_simp;refine(HA.out wr.drew HRr.out (HGr.out.row i hlt)).mono ?_;rintro e w2 ⟨rfl,hr2,ho2⟩;have HR2:=hid (show Mt w.heap.size w2 k n (m+1) cs _ from HR.out.set i hlt hr2 ((dd.drew _ 1 wr).trans ho2) (oJ (fun _ _=>by decide) (HGr.out.bd i · hlt)))
   have HO2:=hid (show dd (cs i) wr w2 from(dd.drew _ 1 wr).trans ho2)
   have HW2:=hid (HW.out.trans (HO2.out.below (HR.out.low i hlt)));have HH2:=hid (show Rw w2 (ds i) (m+1) (V i) from(HO2.out.block _ HX.out.2.2.2).trans (HHr.out.row i hlt))
   have HR2r:=hid (show Rw w2 (cs i) (m+1) _ from hr2)
   refine hKK _ _ (fun _=>⟨HR2.out.cell i hlt,(sX (HO2.out.block g HX.out.1)).trans c2⟩) ?_
   refine aP (sP ?_);have d1:=HR2.out.cell i hlt;have d2:w2.cell? ⟨h,i,none⟩=some (.slice (some ⟨ds i,0,none⟩) (m+1) (m+1)):=(sX (HO2.out.block h HX.out.2.1)).trans (HHr.out.cell i hlt);clear hr2 ho2 hKK c1 c2 HA;have HA:=hid (fun(W:sH) (e1:Rw W (cs i) (m+1) (mS (fun _=>0) (U i))) (e2:Rw W (ds i) (m+1) (V i))=>nQ (cs i) (ds i) (m+1) _ _ W e1 e2 (oJ (fun _ _=>by decide) (HGr.out.bd i · hlt)) (HHr.out.bd i · hlt) (by have:=HM.out;omega))
   go_wp2_with fail;refine ak [(0,true),(1,true),(2,true),(3,true),(4,true),(5,true),(6,true),(7,true),(8,false)] (fun w'=>w'.cell? ⟨k,i,none⟩=some (.slice (some ⟨cs i,0,none⟩) (m+1) (m+1))/\w'.cell? ⟨h,i,none⟩=some (.slice (some ⟨ds i,0,none⟩) (m+1) (m+1))) (fun _=>false) (by kernel_rfl) (by kernel_rfl) (fun j hj=>by cases hj) rfl (by kernel_rfl) ⟨d1,d2⟩ ?_
   iterate 8 (refine au ?_ rfl (by kernel_rfl) (fun w' hS=>?_) ?_;(rotate_left;(obtain⟨s1,s2⟩:=hS;go_simp;with_reducible rfl);rotate_left))
   refine am rfl (by kernel_rfl) fun KK hKK=>?_
   go_simp;refine(HA.out w2.drew HR2r.out HH2.out).mono ?_;rintro e w3 ⟨rfl,hr3,ho3⟩;have HR3:=hid (show Mt w.heap.size w3 k n (m+1) cs _ from HR2.out.set i hlt hr3 ((dd.drew _ 1 w2).trans ho3) (oJ (oJ (fun _ _=>by decide) (HGr.out.bd i · hlt)) (HHr.out.bd i · hlt)))
   have HO3:=hid (show dd (cs i) w2 w3 from(dd.drew _ 1 w2).trans ho3)
   have HW3:=hid (HW2.out.trans (HO3.out.below (HR.out.low i hlt)));refine hKK _ _ (fun _=>⟨HR3.out.cell i hlt,(sX (HO3.out.block h HX.out.2.1)).trans d2⟩) ?_
   refine aP (sP ?_);clear hr3 ho3 hKK d1 d2;go_wp2;go_roundw
   case rel=>
    refine⟨i+1,by go_num,by omega,hid (HR3.out.congr fun x j hx hj=>?_),HW3⟩
    by_cases e:x=i
    ·subst e;simp
    ·by_cases e2:x<i
     ·simp[e,e2,tg e2]
     ·have:¬x<i+1:=by omega
      simp[e,e2,this]
   case measure=>simp[sM];omega
  ·have i1:¬(i:Int)<(n:Int):=by omega
   have HQ:=hid (HR.out.congr (V:=fun i=>mS (mS (fun _=>0) (U i)) (V i)) fun x j hx hj=>by rw[if_pos (by omega)])
   go_wp2;go_ret;exact⟨k,cap,cs,rfl,HQ.out,HW.out⟩
end Pt
end
section
open Go.RowKit
namespace Pt
theorem zos {n m:Nat} {a:Nat->Nat} {B:Nat->Nat->Nat} (h:∀i j,i<n->j<m->B i j<18446744073709551616):∀k,k<=n->∀j,j<m->bhR n a B k j<18446744073709551616
 | 0,_,j,_=>(by decide:(0:Nat)<18446744073709551616)
 | k+1,hk,j,hj=>by
  unfold bhR
  split
  ·exact oJ (fun j hj=>zos h k (by omega) j hj) (fun j hj=>h k j (by omega) hj) j hj
  ·exact zos h k (by omega) j hj
def inW (n:Nat) (U V:Nat->Nat->Nat) (i k:Nat):Nat->Nat->Nat:=fun x=>if x<i then bhR n (U x) V n else if x=i then bhR n (U x) V k else fun _=>0
theorem pN (n m:Nat) (C D:Nat) (g h:Nat) (gc hc:Nat) (bs ds:Nat->Nat) (U V:Nat->Nat->Nat) (w:sH) (h1:1<=n) (hn:n<=100000) (hm:m=n / 64) (hg:Mt C w g n (m+1) bs U) (hh:Mt D w h n (m+1) ds V):
  sN Tryz.prog 175 #[.slice (some ⟨g,0,none⟩) n gc,.slice (some ⟨h,0,none⟩) n hc] w (MtQ w n m fun i=>bhR n (U i) V n):=by
 have HN:=hid (ib n m w h1 hn hm);have HG:=hid hg;have HH:=hid hh;have HM:=hid hm;clear hm hg hh;go_enter Tryz.func175,Tryz.ntmps175;go_wp2_with fail;refine HN.out.mono ?_;rintro e w1 ⟨z,cap,cs,rfl,hM,hB⟩;have HT:=hid hM;have HB:=hid hB;clear hM hB HN;go_wp2;go_loopw [7] (fun y wr=>∃i:Nat,y= .int .i64 i/\i<=n/\Hid (Mt w.heap.size wr z n (m+1) cs (inW n U V i 0))/\Hid (sI w.heap.size w wr)) (fun y _=>n - (sM y).toNat)
 case atStart=>exact⟨0,rfl,sK _,hid (HT.out.congr fun x j _ _=>by unfold inW;split;omega;split<;>simp[bhR]),HB⟩
 case round=>
  obtain⟨i,rfl,hi,HR,HW⟩:=hrel
  by_cases hlt:i<n
  ·have i0:(0:Int)<=(i:Int):=by omega
   have i1:(i:Int)<(n:Int):=by omega
   have HI:=hid hlt;go_wp2;go_loopw [8] (fun y wr=>∃k:Nat,y= .int .i64 k/\k<=n/\Hid (Mt w.heap.size wr z n (m+1) cs (inW n U V i k))/\Hid (sI w.heap.size w wr)) (fun y _=>n - (sM y).toNat)
   case atStart=>exact⟨0,rfl,sK _,HR,HW⟩
   case round=>
    clear HR HW;obtain⟨k,rfl,hk,HR,HW⟩:=hrel
    by_cases hkn:k<n
    ·have k0:(0:Int)<=(k:Int):=by omega
     have k1:(k:Int)<(n:Int):=by omega
     have HGr:=hid (HG.out.below HW.out);have HHr:=hid (HH.out.below HW.out);have c0:=HGr.out.cell i hlt;have HS:=hid (nI (bs i) (m+1) k (U i) wr (HGr.out.row i hlt) (by have:=HM.out;have:=sL (c:=64) (sV hkn);omega) (HGr.out.bd i _ hlt (by have:=HM.out;have:=sL (c:=64) (sV hkn);omega)) (by omega))
     go_wp2_with fail;refine HS.out.mono ?_;rintro e w2 ⟨rfl,e2⟩;obtain rfl:=e2.symm;clear HS c0
     by_cases hb:bt (U i) k=true
     ·rw[hb]
      have HBT:=hid hb;clear hb;have c1:=HR.out.cell i hlt;have c2:=HHr.out.cell k hkn;have n2:h≠cs i:=fun e=>by
       obtain⟨cur,h3,_⟩:=HH.out.out;have:=ae h3;have:=HR.out.low i hlt;omega
      have hr:=HR.out.row i hlt;rw[show inW n U V i k i=bhR n (U i) V k from by unfold inW;rw[if_neg (tc i),if_pos rfl]] at hr
      have HX:=hid n2;have HRr:=hid hr;have HBD:=hid (fun(j:Nat) (hj:j<m+1)=>zos (a:=U i) HHr.out.bd k (by omega) j hj)
      clear n2 hr;have HA:=hid (fun(W:sH) (e1:Rw W (cs i) (m+1) (bhR n (U i) V k)) (e2:Rw W (ds k) (m+1) (V k))=>nQ (cs i) (ds k) (m+1) _ _ W e1 e2 HBD.out (HHr.out.bd k · hkn) (by have:=HM.out;omega))
      go_wp2_with fail;refine ak [(0,true),(1,true),(2,true),(3,true),(4,true),(5,true),(6,true),(7,true),(8,false)] (fun w'=>w'.cell? ⟨z,i,none⟩=some (.slice (some ⟨cs i,0,none⟩) (m+1) (m+1))/\w'.cell? ⟨h,k,none⟩=some (.slice (some ⟨ds k,0,none⟩) (m+1) (m+1))) (fun _=>false) (by kernel_rfl) (by kernel_rfl) (fun j hj=>by cases hj) rfl (by kernel_rfl) ⟨c1,c2⟩ ?_
      iterate 8 (refine au ?_ rfl (by kernel_rfl) (fun w' hS=>?_) ?_;(rotate_left;(obtain⟨s1,s2⟩:=hS;go_simp;with_reducible rfl);rotate_left))
      refine am rfl (by kernel_rfl) fun KK hKK=>?_
      go_simp;refine(HA.out wr.drew HRr.out (HHr.out.row k hkn)).mono ?_;rintro e w2 ⟨rfl,hr2,ho2⟩;have HR2:=hid (show Mt w.heap.size w2 z n (m+1) cs _ from HR.out.set i hlt hr2 ((dd.drew _ 1 wr).trans ho2) (oJ HBD.out (HHr.out.bd k · hkn)))
      have HO2:=hid (show dd (cs i) wr w2 from(dd.drew _ 1 wr).trans ho2)
      have HW2:=hid (HW.out.trans (HO2.out.below (HR.out.low i hlt)));refine hKK _ _ (fun _=>⟨HR2.out.cell i hlt,(sX (HO2.out.block h HX.out)).trans c2⟩) ?_
      refine aP (sP ?_);clear hr2 ho2 hKK c1 c2;go_wp2;go_roundw
      case rel=>
       refine⟨k+1,by go_num,by omega,hid (HR2.out.congr fun x j hx hj=>?_),HW2⟩
       by_cases e:x=i
       ·subst e
        rw[if_pos rfl];unfold inW;rw[if_neg (tc x),if_pos rfl]
        conv=>rhs;unfold bhR
        rw[if_pos HBT.out]
       ·rw[if_neg e]
        unfold inW;rw[if_neg e,if_neg e]
      case measure=>simp[sM];omega
     ·have hb':bt (U i) k=false:=by simpa using hb
      rw[hb'];have HBT:=hid hb;clear hb hb';go_wp2;go_roundw
      case rel=>
       refine⟨k+1,by go_num,by omega,hid (HR.out.congr fun x j hx hj=>?_),HW⟩
       unfold inW
       by_cases e:x=i
       ·subst e
        rw[if_neg (tc x),if_neg (tc x),if_pos rfl,if_pos rfl]
        conv=>rhs;unfold bhR
        rw[if_neg HBT.out]
       ·rw[if_neg e,if_neg e]
      case measure=>simp[sM];omega
    ·have k1:¬(k:Int)<(n:Int):=by omega
     have e:k=n:=by omega
     have HR2:=hid (HR.out.congr (V:=inW n U V (i+1) 0) fun x j hx hj=>by
      unfold inW
      by_cases e1:x<i
      ·rw[if_pos e1,if_pos (by omega)]
      ·rw[if_neg e1]
       by_cases e2:x=i
       ·rw[if_pos e2,if_pos (by omega),e]
       ·rw[if_neg e2,if_neg (by omega)]
        split<;>rfl)
     clear e;go_wp2;go_roundw
     case rel=>exact⟨i+1,by go_num,by omega,HR2,HW⟩
     case measure=>simp[sM];omega
  ·have i1:¬(i:Int)<(n:Int):=by omega
   have HQ:=hid (HR.out.congr (V:=fun i=>bhR n (U i) V n) fun x j hx hj=>by unfold inW;rw[if_pos (by omega)])
   go_wp2;go_ret;exact⟨z,cap,cs,rfl,HQ.out,HW.out⟩
end Pt
end
section
open Go.RowKit
namespace Pt
theorem zcq (W:Nat->Nat->Nat) (k i:Nat):pX W k (i+1)=fun x=>if x=i/\bt (pX W k i i) k=true then mS (pX W k i i) (pX W k i k) else pX W k i x:=rfl
theorem zcr (n m:Nat) (C:Nat) (g:Nat) (gc:Nat) (bs:Nat->Nat) (U:Nat->Nat->Nat) (w:sH) (h1:1<=n) (hn:n<=100000) (hm:m=n / 64) (hg:Mt C w g n (m+1) bs U):
  sN Tryz.prog 177 #[.slice (some ⟨g,0,none⟩) n gc] w (MtQ w n m (mrK n (fun i=>mS (mS (fun _=>0) (U i)) (stR (fun _=>0) i)) n)):=by
 have HN:=hid (np n m w h1 hn hm);have HBO:=hid (fun(W:sH) (h:Nat) (hc:Nat) (ds:Nat->Nat) (D:Nat) (e1:Mt C W g n (m+1) bs U) (e2:Mt D W h n (m+1) ds fun i=>stR (fun _=>0) i)=>pL n m C D g h gc hc bs ds _ _ W h1 hn hm e1 e2)
 have HG:=hid hg;have HM:=hid hm;clear hm hg;obtain⟨Z,hZ⟩:∃Z:Nat->Nat->Nat,Z=fun i=>mS (mS (fun _=>0) (U i)) (stR (fun _=>0) i):=⟨_,rfl⟩
 rw[<- hZ];have HZ:=hid hZ;clear hZ;go_enter Tryz.func177,Tryz.ntmps177;go_wp2_with fail;refine HN.out.mono ?_;rintro e w1 ⟨y,yc,ys,rfl,hM,hB⟩;have HT1:=hid hM;have HB1:=hid hB;clear hM hB HN;go_wp2_with fail;refine(HBO.out w1 y yc ys w.heap.size (HG.out.below HB1.out) HT1.out).mono ?_;rintro e w2 ⟨z,cap,cs,rfl,hM,hB⟩;rw[<- HZ.out] at hM;have HT:=hid (hM.lower HB1.out.size);have HB:=hid (HB1.out.trans (hB.mono HB1.out.size));clear hM hB HBO;go_wp2;go_loopw [5] (fun y wr=>∃k:Nat,y= .int .i64 k/\k<=n/\Hid (Mt w.heap.size wr z n (m+1) cs (mrK n Z k))/\Hid (sI w.heap.size w wr)) (fun y _=>n - (sM y).toNat)
 case atStart=>exact⟨0,rfl,sK _,HT,HB⟩
 case round=>
  obtain⟨k,rfl,hk,HR,HW⟩:=hrel
  by_cases hkn:k<n
  ·have k0:(0:Int)<=(k:Int):=by omega
   have k1:(k:Int)<(n:Int):=by omega
   go_wp2;go_loopw [6] (fun y wr=>∃i:Nat,y= .int .i64 i/\i<=n/\Hid (Mt w.heap.size wr z n (m+1) cs (pX (mrK n Z k) k i))/\Hid (sI w.heap.size w wr)) (fun y _=>n - (sM y).toNat)
   case atStart=>exact⟨0,rfl,sK _,HR,HW⟩
   case round=>
    clear HR HW;obtain⟨i,rfl,hi,HR,HW⟩:=hrel
    by_cases hlt:i<n
    ·have i0:(0:Int)<=(i:Int):=by omega
     have i1:(i:Int)<(n:Int):=by omega
     have c0:=HR.out.cell i hlt;have HS:=hid (nI (cs i) (m+1) k _ wr (HR.out.row i hlt) (by have:=HM.out;have:=sL (c:=64) (sV hkn);omega) (HR.out.bd i _ hlt (by have:=HM.out;have:=sL (c:=64) (sV hkn);omega)) (by omega))
     go_wp2_with fail;refine HS.out.mono ?_;rintro e w2 ⟨rfl,e2⟩;obtain rfl:=e2.symm;clear HS c0
     by_cases hb:bt (pX (mrK n Z k) k i i) k=true
     ·rw[hb]
      have HBT:=hid hb;clear hb;have c1:=HR.out.cell i hlt;have c2:=HR.out.cell k hkn;have HA:=hid (fun(W:sH) (e1:Rw W (cs i) (m+1) (pX (mrK n Z k) k i i)) (e2:Rw W (cs k) (m+1) (pX (mrK n Z k) k i k))=>nQ (cs i) (cs k) (m+1) _ _ W e1 e2 (HR.out.bd i · hlt) (HR.out.bd k · hkn) (by have:=HM.out;omega))
      go_wp2_with fail;refine ak [(0,true),(1,true),(2,true),(3,true),(4,true),(5,true),(6,true),(7,true),(8,false)] (fun w'=>w'.cell? ⟨z,i,none⟩=some (.slice (some ⟨cs i,0,none⟩) (m+1) (m+1))/\w'.cell? ⟨z,k,none⟩=some (.slice (some ⟨cs k,0,none⟩) (m+1) (m+1))) (fun _=>false) (by kernel_rfl) (by kernel_rfl) (fun j hj=>by cases hj) rfl (by kernel_rfl) ⟨c1,c2⟩ ?_
      iterate 8 (refine au ?_ rfl (by kernel_rfl) (fun w' hS=>?_) ?_;(rotate_left;(obtain⟨s1,s2⟩:=hS;go_simp;with_reducible rfl);rotate_left))
      refine am rfl (by kernel_rfl) fun KK hKK=>?_
      go_simp;refine(HA.out wr.drew (HR.out.row i hlt) (HR.out.row k hkn)).mono ?_;rintro e w2 ⟨rfl,hr2,ho2⟩;have HR2:=hid (show Mt w.heap.size w2 z n (m+1) cs _ from HR.out.set i hlt hr2 ((dd.drew _ 1 wr).trans ho2) (oJ (HR.out.bd i · hlt) (HR.out.bd k · hkn)))
      have HO2:=hid (show dd (cs i) wr w2 from(dd.drew _ 1 wr).trans ho2)
      have HW2:=hid (HW.out.trans (HO2.out.below (HR.out.low i hlt)));refine hKK _ _ (fun _=>⟨HR2.out.cell i hlt,HR2.out.cell k hkn⟩) ?_
      refine aP (sP ?_);clear hr2 ho2 hKK c1 c2;go_wp2;go_roundw
      case rel=>
       refine⟨i+1,by go_num,by omega,hid (HR2.out.congr fun x j hx hj=>?_),HW2⟩
       rw[zcq]
       by_cases e:x=i
       ·simp only[e,if_pos,HBT.out,and_self]
       ·simp only[e,false_and,if_false]
      case measure=>simp[sM];omega
     ·have hb':bt (pX (mrK n Z k) k i i) k=false:=by simpa using hb
      rw[hb'];have HBT:=hid hb;clear hb hb';go_wp2;go_roundw
      case rel=>
       refine⟨i+1,by go_num,by omega,hid (HR.out.congr fun x j hx hj=>?_),HW⟩
       rw[zcq]
       show _=(if x=i/\_ then _ else _:Nat->Nat) j
       rw[if_neg (fun h=>HBT.out h.2)]
      case measure=>simp[sM];omega
    ·have i1:¬(i:Int)<(n:Int):=by omega
     have e:i=n:=by omega
     have HR2:=hid (HR.out.congr (V:=mrK n Z (k+1)) fun x j hx hj=>by rw[e];rfl)
     clear e;go_wp2;go_roundw
     case rel=>exact⟨k+1,by go_num,by omega,HR2,HW⟩
     case measure=>simp[sM];omega
  ·have k1:¬(k:Int)<(n:Int):=by omega
   have HQ:=hid (HR.out.congr (V:=mrK n Z n) fun x j hx hj=>by rw[show k=n by omega])
   go_wp2;go_ret;exact⟨z,cap,cs,rfl,HQ.out,HW.out⟩
end Pt
end
section
open Go.RowKit
namespace Pt
theorem add_blk (a:Addr) (k:Nat):(a.add k).block=a.block:=by unfold Addr.add;split<;>rfl
def RdI (w:sH) (ao:Option Addr) (l:List Int):Prop:=
 ∀(k:Nat) (z:Int),l[k]? =some z->∃a:Addr,ao=some a/\a.block<w.heap.size/\w.cell? (a.add k)=some (.int .i64 z)
theorem RdI.below {w w':sH} {ao:Option Addr} {l:List Int} (h:RdI w ao l) (hb:sI w.heap.size w w'):RdI w' ao l:=fun k z hk=>by
 obtain⟨a,h1,h2,h3⟩:=h k z hk;exact⟨a,h1,tM h2 hb.size,(hb.cell (p:=a.add k) (by rw[add_blk];exact h2)).trans h3⟩
theorem RdI.at {w:sH} {ao:Option Addr} {l:List Int} {k:Nat} (h:RdI w ao l) (hk:k<l.length):∃a:Addr,ao=some a/\a.block<w.heap.size/\w.cell? (a.add k)=some (.int .i64 l[k]):=h k l[k] (sJ hk)
mutual
def ct (w:sH):aw->sQ->sQ->sQ->Prop
 | .mk op cls kids,v0,v1,v2=>v0= .int .i64 op/\(∃co cc,v1= .slice co cls.length cc/\RdI w co cls/\cls.length<=1000000)/\(∃ko kc,v2= .slice ko kids.length kc/\gh w kids ko 0/\kids.length<=1000000/\kids.length<=kc)
def gh (w:sH):List aw->Option Addr->Nat->Prop
 | [],_,_=>True
 | p::ps,ko,i=>(∃b o,ko=some ⟨b,o,none⟩/\b<w.heap.size/\∃v0 v1 v2,w.cell? ⟨b,o+i * 3,none⟩=some v0/\w.cell? ⟨b,o+i * 3+1,none⟩=some v1/\w.cell? ⟨b,o+i * 3+2,none⟩=some v2/\ct w p v0 v1 v2)/\gh w ps ko (i+1)
end
mutual
theorem ct.below {w w':sH} (hb:sI w.heap.size w w'):∀(p:aw) (v0 v1 v2:sQ),ct w p v0 v1 v2->ct w' p v0 v1 v2
 | .mk op cls kids,v0,v1,v2,h=>by
  unfold ct at h⊢;obtain⟨h1,⟨co,cc,h2,h3,h4⟩,ko,kc,h5,h6,h7⟩:=h;exact⟨h1,⟨co,cc,h2,h3.below hb,h4⟩,ko,kc,h5,gh.below hb kids ko 0 h6,h7⟩
theorem gh.below {w w':sH} (hb:sI w.heap.size w w'):∀(ps:List aw) (ko:Option Addr) (i:Nat),gh w ps ko i->gh w' ps ko i
 | [],_,_,_=>by unfold gh;trivial
 | p::ps,ko,i,h=>by
  unfold gh at h⊢;obtain⟨⟨b,o,h1,h2,v0,v1,v2,h3,h4,h5,h6⟩,h7⟩:=h;have hc:∀k v,w.cell? ⟨b,k,none⟩=some v->w'.cell? ⟨b,k,none⟩=some v:=fun k v hk=>(hb.cell (p:=⟨b,k,none⟩) h2).trans hk
  exact⟨⟨b,o,h1,tM h2 hb.size,v0,v1,v2,hc _ _ h3,hc _ _ h4,hc _ _ h5,ct.below hb p _ _ _ h6⟩,gh.below hb ps ko (i+1) h7⟩
end
theorem gh.at {w:sH}:∀(ps:List aw) (ko:Option Addr) (i j:Nat) (p:aw),gh w ps ko i->ps[j]? =some p->∃b o,ko=some ⟨b,o,none⟩/\b<w.heap.size/\∃v0 v1 v2,w.cell? ⟨b,o+(i+j) * 3,none⟩=some v0/\w.cell? ⟨b,o+(i+j) * 3+1,none⟩=some v1/\w.cell? ⟨b,o+(i+j) * 3+2,none⟩=some v2/\ct w p v0 v1 v2
 | [],_,_,j,p,_,h=>by simp at h
 | q::ps,ko,i,0,p,h,hj=>by
  unfold gh at h
  simp at hj
  subst hj;exact h.1
 | q::ps,ko,i,j+1,p,h,hj=>by
  unfold gh at h;have:=gh.at ps ko (i+1) j p h.2 (by simpa using hj)
  rw[show i+1+j=i+(j+1) by omega] at this
  exact this
def jW (l:List Int) (c:Int):Bool:=l.any fun z=>z==c
theorem cF (l:List Int) (c:Int):jW l c=true ↔ c∈l:=by
 unfold jW;rw[List.any_eq_true]
 constructor
 ·rintro ⟨z,h1,h2⟩;rw[beq_iff_eq] at h2;exact h2 ▸ h1
 ·intro h;exact⟨c,h,by simp⟩
theorem zng (lo:Option Addr) (n lc:Nat) (l:List Int) (c:Int) (w:sH) (hl:RdI w lo l) (hn:n=l.length) (hm:n<=1000000):
  sN Tryz.prog 170 #[.slice lo n lc,.int .i64 c] w fun e w'=>e= .returned (.bool (jW l c))/\w'=w:=by
 have HL:=hid hl;have HN:=hid hn;clear hl hn;go_enter Tryz.func170,Tryz.ntmps170;go_wp2;go_loopw [5] (fun y wr=>∃i:Nat,y= .int .i64 i/\i<=n/\wr=w/\Hid (∀z∈l.take i,z≠c)) (fun y _=>n - (sM y).toNat)
 case atStart=>exact⟨0,rfl,sK _,rfl,hid (by simp)⟩
 case round=>
  obtain⟨i,rfl,hi,rfl,HT⟩:=hrel
  by_cases hlt:i<n
  ·have i0:(0:Int)<=(i:Int):=by omega
   have i1:(i:Int)<(n:Int):=by omega
   have hil:i<l.length:=by have:=HN.out;omega
   obtain⟨a,rfl,ha,c1⟩:=HL.out.at hil;obtain⟨z,hz⟩:∃z,z=l[i]:=⟨_,rfl⟩;rw[<- hz] at c1;have HZ:=hid hz;clear hz
   by_cases e:z=c
   ·subst e
    have b1:(z==z)=true:=by simp
    have HE:=hid (show jW l z=true from(cF l z).2 (by rw[HZ.out];exact sU _))
    go_wp2;go_ret;exact⟨by rw[HE.out];rfl,rfl⟩
   ·have b1:(z==c)=false:=by simpa using e
    have HE:=hid e;clear e;go_wp2;go_roundw
    case rel=>
     refine⟨i+1,by go_num,by omega,trivial,hid fun x hx=>?_⟩
     rw[ti hil,tW] at hx
     rcases hx with hx | hx
     ·exact HT.out x hx
     ·rw[tN] at hx
      rw[hx,<- HZ.out];exact HE.out
    case measure=>simp[sM];omega
  ·have i1:¬(i:Int)<(n:Int):=by omega
   have HE:=hid (show jW l c=false from by
    cases h:jW l c with
    | false=>rfl
    | true=>exact absurd rfl (HT.out c (by rw[tD (by have:=HN.out;omega)];exact(cF l c).1 h)))
   go_wp2;go_ret;exact⟨by rw[HE.out];rfl,rfl⟩
end Pt
end
section
open Go.RowKit
namespace Pt
mutual
theorem aw.ind {M:aw->Prop} (h:∀op cls kids,(∀p∈kids,M p)->M (.mk op cls kids)):∀p,M p
 | .mk op cls kids=>h op cls kids (aw.indL h kids)
theorem aw.indL {M:aw->Prop} (h:∀op cls kids,(∀p∈kids,M p)->M (.mk op cls kids)):∀ps:List aw,∀p∈ps,M p
 | [],p,hp=>by cases hp
 | q::ps,p,hp=>by
  cases hp with
  | head=>exact aw.ind h _
  | tail _ hp=>exact aw.indL h ps p hp
end
mutual
def Wf:aw->Prop
 | .mk op _ kids=>((op=4\/op=5\/op=6)->kids≠ [])/\WfL kids
def WfL:List aw->Prop
 | []=>True
 | p::ps=>Wf p/\WfL ps
end
theorem WfL.mem:∀{ps:List aw} {p:aw},WfL ps->p∈ps->Wf p
 | [],p,_,hp=>by cases hp
 | q::ps,p,h,hp=>by
  unfold WfL at h
  cases hp with
  | head=>exact h.1
  | tail _ hp=>exact WfL.mem h.2 hp
def LdR (n m:Nat) (R:Nat->Nat->Prop) (w:sH) (e:tZ) (w':sH):Prop:=∃W,MtQ w n m W e w'/\pU n W R
theorem below_box {w:sH} {o:Obj}:sI w.heap.size w (w.alloc o):=(td _ _).alloc (tu _) _
theorem MtQ.low {w w1:sH} {n m:Nat} {W:Nat->Nat->Nat} {e:tZ} {w':sH} (h:MtQ w1 n m W e w') (hb:sI w.heap.size w w1):MtQ w n m W e w':=by
 obtain⟨g,cap,bs,h1,h2,h3⟩:=h;exact⟨g,cap,bs,h1,h2.lower hb.size,hb.trans (h3.mono hb.size)⟩
section
variable (lo co:Option Addr) (ln lc b o kn kc cn cc m:Nat) (u0 u1 u2:sQ) (R:Nat->Nat->Prop) (w:sH)
theorem zwO (hb:b<w.heap.size) (hkn:1<=kn) (hc:cn<=90000) (hm:m=(cn+1) / 64) (q0:w.cell? ⟨b,o,none⟩=some u0) (q1:w.cell? ⟨b,o+1,none⟩=some u1) (q2:w.cell? ⟨b,o+2,none⟩=some u2)
  (HL:Hid (∀W,sI w.heap.size w W->sN Tryz.prog 149 #[.agg #[u0,u1,u2],.slice co cn cc] W (LdR (cn+1) m R W))) (HK:Hid (Kn (cn+1) R)):
  sN Tryz.prog 149 #[.agg #[.int .i64 4,.slice lo ln lc,.slice (some ⟨b,o,none⟩) kn kc],.slice co cn cc] w (LdR (cn+1) m (cg R) w):=by
 have HMo:=hid (fun(C g gc:Nat) (bs:Nat->Nat) (U:Nat->Nat->Nat) (W:sH) (hg:Mt C W g (cn+1) (m+1) bs U)=>zcr (cn+1) m C g gc bs U W (by omega) (by omega) hm hg)
 have k1:(0:Int)<(kn:Int):=by omega
 clear hm;go_enter Tryz.func149,Tryz.ntmps149;go_wp2_with fail;refine(HL.out _ below_box).mono ?_;rintro e w2 ⟨W,⟨g,cap,bs,rfl,hM,hB⟩,hR⟩;have HM:=hid hM;have HB:=hid (below_box.trans (hB.mono (by simp)))
 have HR:=hid hR;clear hM hB hR;go_wp2_with fail;refine(HMo.out _ g cap bs W w2 HM.out).mono ?_;rintro e w3 ⟨z,cap2,cs,rfl,hM3,hB3⟩;have HQ:=hid (show LdR (cn+1) m (cg R) w (.returned (.slice (some ⟨z,0,none⟩) (cn+1) cap2)) w3 from⟨_,⟨z,cap2,cs,rfl,hM3.lower HB.out.size,HB.out.trans (hB3.mono HB.out.size)⟩,zce HR.out (ku (cn+1)) HK.out⟩)
 clear hM3 hB3;go_wp2;go_ret;exact HQ.out
theorem zwN (hb:b<w.heap.size) (hkn:1<=kn) (hc:cn<=90000) (hm:m=(cn+1) / 64) (q0:w.cell? ⟨b,o,none⟩=some u0) (q1:w.cell? ⟨b,o+1,none⟩=some u1) (q2:w.cell? ⟨b,o+2,none⟩=some u2)
  (HL:Hid (∀W,sI w.heap.size w W->sN Tryz.prog 149 #[.agg #[u0,u1,u2],.slice co cn cc] W (LdR (cn+1) m R W))) (HK:Hid (Kn (cn+1) R)):
  sN Tryz.prog 149 #[.agg #[.int .i64 5,.slice lo ln lc,.slice (some ⟨b,o,none⟩) kn kc],.slice co cn cc] w (LdR (cn+1) m (Cmp R (cg R)) w):=by
 have HMo:=hid (fun(C g gc:Nat) (bs:Nat->Nat) (U:Nat->Nat->Nat) (W:sH) (hg:Mt C W g (cn+1) (m+1) bs U)=>zcr (cn+1) m C g gc bs U W (by omega) (by omega) hm hg)
 have HBe:=hid (fun(C D g gc h hc:Nat) (bs ds:Nat->Nat) (U V:Nat->Nat->Nat) (W:sH) (hg:Mt C W g (cn+1) (m+1) bs U) (hh:Mt D W h (cn+1) (m+1) ds V)=>pN (cn+1) m C D g h gc hc bs ds U V W (by omega) (by omega) hm hg hh)
 have k1:(0:Int)<(kn:Int):=by omega
 clear hm;go_enter Tryz.func149,Tryz.ntmps149;go_wp2_with fail;refine(HL.out _ below_box).mono ?_;rintro e w2 ⟨W,⟨g,cap,bs,rfl,hM,hB⟩,hR⟩;have HM:=hid hM;have HB:=hid (below_box.trans (hB.mono (by simp)))
 have HR:=hid hR;clear hM hB hR;go_wp2_with fail;refine(HMo.out _ g cap bs W w2 HM.out).mono ?_;rintro e w3 ⟨z,cap2,cs,rfl,hM3,hB3⟩;have HM3:=hid hM3;have HB3:=hid hB3;clear hM3 hB3;go_wp2_with fail;refine(HBe.out _ _ g cap z cap2 bs cs _ _ w3 (HM.out.below HB3.out) HM3.out).mono ?_;rintro e w4 ⟨y,cap3,ds,rfl,hM4,hB4⟩;have HB5:=hid (HB.out.trans (HB3.out.mono HB.out.size));have HQ:=hid (show LdR (cn+1) m (Cmp R (cg R)) w (.returned (.slice (some ⟨y,0,none⟩) (cn+1) cap3)) w4 from⟨_,⟨y,cap3,ds,rfl,hM4.lower HB5.out.size,HB5.out.trans (hB4.mono HB5.out.size)⟩,oz HR.out (zce HR.out (ku (cn+1)) HK.out) HK.out⟩)
 clear hM4 hB4;go_wp2;go_ret;exact HQ.out
theorem zwM (hb:b<w.heap.size) (hkn:1<=kn) (hc:cn<=90000) (hm:m=(cn+1) / 64) (q0:w.cell? ⟨b,o,none⟩=some u0) (q1:w.cell? ⟨b,o+1,none⟩=some u1) (q2:w.cell? ⟨b,o+2,none⟩=some u2)
  (HL:Hid (∀W,sI w.heap.size w W->sN Tryz.prog 149 #[.agg #[u0,u1,u2],.slice co cn cc] W (LdR (cn+1) m R W))):
  sN Tryz.prog 149 #[.agg #[.int .i64 6,.slice lo ln lc,.slice (some ⟨b,o,none⟩) kn kc],.slice co cn cc] w (LdR (cn+1) m (fun i k=>i=k\/R i k) w):=by
 have HOw:=hid (fun(W:sH)=>show sN Tryz.prog 174 #[.int .i64 ((cn:Int)+1)] W _ from np (cn+1) m W (by omega) (by omega) hm)
 have HBo:=hid (fun(C D g gc h hc:Nat) (bs ds:Nat->Nat) (U V:Nat->Nat->Nat) (W:sH) (hg:Mt C W g (cn+1) (m+1) bs U) (hh:Mt D W h (cn+1) (m+1) ds V)=>pL (cn+1) m C D g h gc hc bs ds U V W (by omega) (by omega) hm hg hh)
 have k1:(0:Int)<(kn:Int):=by omega
 have k2:0<kn:=hkn;clear hm;go_enter Tryz.func149,Tryz.ntmps149;go_wp2_with fail;obtain⟨w1,hw1⟩:∃w1,w1=w.alloc (.cells #[.int .i64 6,.slice lo ln lc,.slice (some ⟨b,o,none⟩) kn kc] 105):=⟨_,rfl⟩;have hb1:sI w.heap.size w w1:=by rw[hw1];exact below_box
 have x2:w1.cell? ⟨w.heap.size,2,none⟩=some (.slice (some ⟨b,o,none⟩) kn kc):=by rw[hw1];simp[go_sem]
 have hs1:w.heap.size<w1.heap.size:=by rw[hw1];simp
 rw[<- hw1];clear hw1;have y0:w1.cell? ⟨b,o,none⟩=some u0:=(hb1.cell (p:=⟨b,o,none⟩) hb).trans q0;have y1:w1.cell? ⟨b,o+1,none⟩=some u1:=(hb1.cell (p:=⟨b,o+1,none⟩) hb).trans q1;have y2:w1.cell? ⟨b,o+2,none⟩=some u2:=(hb1.cell (p:=⟨b,o+2,none⟩) hb).trans q2;have HS:=hid (fun(W:sH) (h:sI w1.heap.size w1 W)=>show W.cell? ⟨w.heap.size,2,none⟩=some (.slice (some ⟨b,o,none⟩) kn kc)/\W.cell? ⟨b,o,none⟩=some u0/\W.cell? ⟨b,o+1,none⟩=some u1/\W.cell? ⟨b,o+2,none⟩=some u2 from
  ⟨(h.cell (p:=⟨w.heap.size,2,none⟩) hs1).trans x2,(h.cell (p:=⟨b,o,none⟩) (tQ hb hs1)).trans y0,(h.cell (p:=⟨b,o+1,none⟩) (tQ hb hs1)).trans y1,(h.cell (p:=⟨b,o+2,none⟩) (tQ hb hs1)).trans y2⟩)
 have HB1:=hid hb1;clear x2 y0 y1 y2 hb1 q0 q1 q2;refine ak [(0,true),(2,true),(3,true),(4,true),(5,true),(6,true),(1,false),(7,false),(8,false),(9,false)] (fun W=>W.cell? ⟨w.heap.size,2,none⟩=some (.slice (some ⟨b,o,none⟩) kn kc)/\W.cell? ⟨b,o,none⟩=some u0/\W.cell? ⟨b,o+1,none⟩=some u1/\W.cell? ⟨b,o+2,none⟩=some u2) (fun _=>false) (by kernel_rfl) (by kernel_rfl) (fun j hj=>by cases hj) rfl (by kernel_rfl) (HS.out _ ⟨rfl,rfl,rfl,tu _,fun _ _=>rfl⟩) ?_
 iterate 6 (refine au ?_ rfl (by kernel_rfl) (fun w' hS=>?_) ?_;(rotate_left;(obtain⟨s1,s2,s3,s4⟩:=hS;go_simp;with_reducible rfl);rotate_left))
 refine am rfl (by kernel_rfl) fun KK hKK=>?_
 go_simp;refine(HOw.out w1.drew).mono ?_;rintro e w2 ⟨g,cap,bs,rfl,hM2,hB2⟩;have HM2:=hid hM2;have HB2:=hid (show sI w1.heap.size w1 w2 from⟨hB2.os,hB2.tape,hB2.output,hB2.size,hB2.block⟩)
 clear hM2 hB2;refine hKK _ _ (fun _=>HS.out _ HB2.out) ?_
 clear hKK;refine am rfl (by kernel_rfl) fun KK hKK=>?_
 go_simp;refine(HL.out w2 (HB1.out.trans (HB2.out.mono HB1.out.size))).mono ?_;rintro e w3 ⟨W,⟨h,cap2,ds,rfl,hM3,hB3⟩,hR3⟩;have HM3:=hid hM3;have HB3:=hid hB3;have HR3:=hid hR3;clear hM3 hB3 hR3;refine hKK _ _ (fun _=>HS.out _ (HB2.out.trans (HB3.out.mono HB2.out.size))) ?_
 clear hKK;refine am rfl (by kernel_rfl) fun KK hKK=>?_
 go_simp;refine(HBo.out _ _ g cap h cap2 bs ds _ _ w3 (HM2.out.below HB3.out) HM3.out).mono ?_;rintro e w4 ⟨y,cap3,es,rfl,hM4,hB4⟩;have HB5:=hid (HB1.out.trans ((HB2.out.trans (HB3.out.mono HB2.out.size)).mono HB1.out.size));have HQ:=hid (show LdR (cn+1) m (fun i k=>i=k\/R i k) w (.returned (.slice (some ⟨y,0,none⟩) (cn+1) cap3)) w4 from⟨_,⟨y,cap3,es,rfl,hM4.lower HB5.out.size,HB5.out.trans (hB4.mono HB5.out.size)⟩,oy (ku (cn+1)) HR3.out⟩)
 have HB4:=hid hB4;clear hM4 hB4;refine hKK _ _ (fun _=>HS.out _ ((HB2.out.trans (HB3.out.mono HB2.out.size)).trans (HB4.out.mono (sR HB2.out.size HB3.out.size)))) ?_
 clear hKK;refine am rfl (by kernel_rfl) fun KK hKK=>?_
 go_simp;refine hKK _ _ (fun _=>HS.out _ ((HB2.out.trans (HB3.out.mono HB2.out.size)).trans (HB4.out.mono (sR HB2.out.size HB3.out.size)))) ?_
 refine aP (sP ?_);go_wp2;go_ret;exact HQ.out
theorem zwS (v1 v2:sQ) (op:Int) (h1:op≠1) (h2:op≠2) (h3:op≠3) (h4:op≠4) (h5:op≠5) (h6:op≠6) (hc:cn<=90000) (hm:m=(cn+1) / 64):
  sN Tryz.prog 149 #[.agg #[.int .i64 op,v1,v2],.slice co cn cc] w (LdR (cn+1) m (fun i k=>i=k) w):=by
 have HOw:=hid (fun(W:sH)=>show sN Tryz.prog 174 #[.int .i64 ((cn:Int)+1)] W _ from np (cn+1) m W (by omega) (by omega) hm)
 have e1:(op==1)=false:=by simpa using h1
 have e2:(op==2)=false:=by simpa using h2
 have e3:(op==3)=false:=by simpa using h3
 have e4:(op==4)=false:=by simpa using h4
 have e5:(op==5)=false:=by simpa using h5
 have e6:(op==6)=false:=by simpa using h6
 clear hm h1 h2 h3 h4 h5 h6;go_enter Tryz.func149,Tryz.ntmps149;go_wp2_with fail;refine(HOw.out _).mono ?_;rintro e w2 ⟨g,cap,bs,rfl,hM2,hB2⟩;have HQ:=hid (show LdR (cn+1) m (fun i k=>i=k) w (.returned (.slice (some ⟨g,0,none⟩) (cn+1) cap)) w2 from⟨_,MtQ.low ⟨g,cap,bs,rfl,hM2,hB2⟩ below_box,ku (cn+1)⟩)
 clear hM2 hB2;go_wp2;go_ret;exact HQ.out
end
end Pt
end
section
open Go.RowKit
namespace Pt
section
variable (lo co:Option Addr) (ln lc b o kn kc cn cc m:Nat) (w:sH)
def KdA (w:sH) (ko:Option Addr) (kn:Nat) (co:Option Addr) (cn cc m:Nat) (R:Nat->Nat->Nat->Prop):Prop:=∀j,j<kn->∃b o u0 u1 u2,ko=some ⟨b,o,none⟩/\b<w.heap.size/\w.cell? ⟨b,o+j * 3,none⟩=some u0/\w.cell? ⟨b,o+j * 3+1,none⟩=some u1/\w.cell? ⟨b,o+j * 3+2,none⟩=some u2∧
 (∀W,sI w.heap.size w W->sN Tryz.prog 149 #[.agg #[u0,u1,u2],.slice co cn cc] W (LdR (cn+1) m (R j) W))/\Kn (cn+1) (R j)
theorem zwQ (ko:Option Addr) (R:Nat->Nat->Nat->Prop) (T:Nat->Nat->Nat->Prop) (hc:cn<=90000) (hk:kn<=1000000) (hm:m=(cn+1) / 64) (HA:Hid (KdA w ko kn co cn cc m R)) (HT0:Hid (T 0=fun i k=>i=k)) (HT:Hid (∀j,j<kn->T (j+1)=Cmp (T j) (R j))):
  sN Tryz.prog 149 #[.agg #[.int .i64 2,.slice lo ln lc,.slice ko kn kc],.slice co cn cc] w (LdR (cn+1) m (T kn) w):=by
 have HOw:=hid (fun(W:sH)=>show sN Tryz.prog 174 #[.int .i64 ((cn:Int)+1)] W _ from np (cn+1) m W (by omega) (by omega) hm)
 have HBe:=hid (fun(C D g gc h hc:Nat) (bs ds:Nat->Nat) (U V:Nat->Nat->Nat) (W:sH) (hg:Mt C W g (cn+1) (m+1) bs U) (hh:Mt D W h (cn+1) (m+1) ds V)=>pN (cn+1) m C D g h gc hc bs ds U V W (by omega) (by omega) hm hg hh)
 clear hm;go_enter Tryz.func149,Tryz.ntmps149;go_wp2_with fail;obtain⟨w1,hw1⟩:∃w1,w1=w.alloc (.cells #[.int .i64 2,.slice lo ln lc,.slice ko kn kc] 105):=⟨_,rfl⟩;have hb1:sI w.heap.size w w1:=by rw[hw1];exact below_box
 have x2:w1.cell? ⟨w.heap.size,2,none⟩=some (.slice ko kn kc):=by rw[hw1];simp[go_sem]
 have hs1:w.heap.size<w1.heap.size:=by rw[hw1];simp
 rw[<- hw1];have HB1:=hid hb1;have HX2:=hid x2;clear hw1 hb1 x2;refine(HOw.out w1).mono ?_;rintro e w2 ⟨g,cap,bs,rfl,hM2,hB2⟩;have HM2:=hid (hM2.lower (sV hs1));have HB2:=hid hB2;clear hM2 hB2;go_wp2;go_loopw [8,9] (fun x y wr=>∃(j g cap:Nat) (bs:Nat->Nat) (W:Nat->Nat->Nat),x= .slice (some ⟨g,0,none⟩) (cn+1) cap/\y= .int .i64 j/\j<=kn/\Hid (Mt w.heap.size wr g (cn+1) (m+1) bs W)/\Hid (pU (cn+1) W (T j))/\Hid (Kn (cn+1) (T j))/\Hid (sI w1.heap.size w1 wr)) (fun _ y _=>kn - (sM y).toNat)
 case atStart=>exact⟨0,g,cap,bs,_,rfl,rfl,sK _,HM2,hid (by rw[HT0.out];exact ku (cn+1)),hid (by rw[HT0.out];exact fun i j hi e=>e ▸ hi),HB2⟩
 case round=>
  clear HM2 HB2;obtain⟨j,g,cap,bs,W,rfl,rfl,hj,HM,HR,HK,HB⟩:=hrel;have x2:wr.cell? ⟨w.heap.size,2,none⟩=some (.slice ko kn kc):=(HB.out.cell (p:=⟨w.heap.size,2,none⟩) hs1).trans HX2.out;have HBw:=hid (HB1.out.trans (HB.out.mono HB1.out.size))
  by_cases hlt:j<kn
  ·have j0:(0:Int)<=(j:Int):=by omega
   have j1:(j:Int)<(kn:Int):=by omega
   obtain⟨b,o,u0,u1,u2,rfl,hb,q0,q1,q2,hL,hKn⟩:=HA.out j hlt;have y0:wr.cell? ⟨b,o+j * 3,none⟩=some u0:=(HBw.out.cell (p:=⟨b,o+j * 3,none⟩) hb).trans q0;have y1:wr.cell? ⟨b,o+j * 3+1,none⟩=some u1:=(HBw.out.cell (p:=⟨b,o+j * 3+1,none⟩) hb).trans q1;have y2:wr.cell? ⟨b,o+j * 3+2,none⟩=some u2:=(HBw.out.cell (p:=⟨b,o+j * 3+2,none⟩) hb).trans q2;have HL:=hid hL;have HKn:=hid hKn;clear q0 q1 q2 hL hKn;go_wp2_with fail;refine(HL.out wr HBw.out).mono ?_;rintro e w3 ⟨V,⟨h,cap2,ds,rfl,hM3,hB3⟩,hR3⟩;have HM3:=hid hM3;have HB3:=hid hB3;have HR3:=hid hR3;clear hM3 hB3 hR3 y0 y1 y2 x2;go_wp2_with fail;refine(HBe.out _ _ g cap h cap2 bs ds _ _ w3 (HM.out.below HB3.out) HM3.out).mono ?_;rintro e w4 ⟨y,cap3,es,rfl,hM4,hB4⟩;have HB5:=hid (show sI wr.heap.size wr w4 from HB3.out.trans (hB4.mono HB3.out.size))
   have HM4:=hid (hM4.lower (sR HBw.out.size HB3.out.size));have HR4:=hid (show pU (cn+1) _ (T (j+1)) from by rw[HT.out j hlt];exact oz HR.out HR3.out HK.out)
   have HK4:=hid (show Kn (cn+1) (T (j+1)) from by rw[HT.out j hlt];exact zgi HK.out HKn.out)
   clear hM4 hB4;go_wp2;go_roundw
   case rel=>exact⟨j+1,y,cap3,es,_,rfl,by go_num,by omega,HM4,HR4,HK4,hid (HB.out.trans (HB5.out.mono HB.out.size))⟩
   case measure=>simp[sM];omega
  ·have j1:¬(j:Int)<(kn:Int):=by omega
   have HQ:=hid (show LdR (cn+1) m (T kn) w (.returned (.slice (some ⟨g,0,none⟩) (cn+1) cap)) wr from⟨W,⟨g,cap,bs,rfl,HM.out,HBw.out⟩,(show j=kn by omega) ▸ HR.out⟩)
   go_wp2;go_ret;exact HQ.out
theorem zwP (ko:Option Addr) (R:Nat->Nat->Nat->Prop) (T:Nat->Nat->Nat->Prop) (hc:cn<=90000) (hk:kn<=1000000) (hm:m=(cn+1) / 64) (HA:Hid (KdA w ko kn co cn cc m R)) (HT0:Hid (T 0=fun _ _=>False)) (HT:Hid (∀j,j<kn->T (j+1)=fun i k=>T j i k\/R j i k)):
  sN Tryz.prog 149 #[.agg #[.int .i64 3,.slice lo ln lc,.slice ko kn kc],.slice co cn cc] w (LdR (cn+1) m (T kn) w):=by
 have HOw:=hid (fun(W:sH)=>show sN Tryz.prog 172 #[.int .i64 ((cn:Int)+1)] W _ from ib (cn+1) m W (by omega) (by omega) hm)
 have HBe:=hid (fun(C D g gc h hc:Nat) (bs ds:Nat->Nat) (U V:Nat->Nat->Nat) (W:sH) (hg:Mt C W g (cn+1) (m+1) bs U) (hh:Mt D W h (cn+1) (m+1) ds V)=>pL (cn+1) m C D g h gc hc bs ds U V W (by omega) (by omega) hm hg hh)
 clear hm;go_enter Tryz.func149,Tryz.ntmps149;go_wp2_with fail;obtain⟨w1,hw1⟩:∃w1,w1=w.alloc (.cells #[.int .i64 3,.slice lo ln lc,.slice ko kn kc] 105):=⟨_,rfl⟩;have hb1:sI w.heap.size w w1:=by rw[hw1];exact below_box
 have x2:w1.cell? ⟨w.heap.size,2,none⟩=some (.slice ko kn kc):=by rw[hw1];simp[go_sem]
 have hs1:w.heap.size<w1.heap.size:=by rw[hw1];simp
 rw[<- hw1];have HB1:=hid hb1;have HX2:=hid x2;clear hw1 hb1 x2;refine(HOw.out w1).mono ?_;rintro e w2 ⟨g,cap,bs,rfl,hM2,hB2⟩;have HM2:=hid (hM2.lower (sV hs1));have HB2:=hid hB2;clear hM2 hB2;go_wp2;go_loopw [10,11] (fun x y wr=>∃(j g cap:Nat) (bs:Nat->Nat) (W:Nat->Nat->Nat),x= .slice (some ⟨g,0,none⟩) (cn+1) cap/\y= .int .i64 j/\j<=kn/\Hid (Mt w.heap.size wr g (cn+1) (m+1) bs W)/\Hid (pU (cn+1) W (T j))/\Hid (sI w1.heap.size w1 wr)) (fun _ y _=>kn - (sM y).toNat)
 case atStart=>exact⟨0,g,cap,bs,_,rfl,rfl,sK _,HM2,hid (by rw[HT0.out];exact zlm (cn+1)),HB2⟩
 case round=>
  clear HM2 HB2;obtain⟨j,g,cap,bs,W,rfl,rfl,hj,HM,HR,HB⟩:=hrel;have x2:wr.cell? ⟨w.heap.size,2,none⟩=some (.slice ko kn kc):=(HB.out.cell (p:=⟨w.heap.size,2,none⟩) hs1).trans HX2.out;have HBw:=hid (HB1.out.trans (HB.out.mono HB1.out.size))
  by_cases hlt:j<kn
  ·have j0:(0:Int)<=(j:Int):=by omega
   have j1:(j:Int)<(kn:Int):=by omega
   obtain⟨b,o,u0,u1,u2,rfl,hb,q0,q1,q2,hL,hKn⟩:=HA.out j hlt;have y0:wr.cell? ⟨b,o+j * 3,none⟩=some u0:=(HBw.out.cell (p:=⟨b,o+j * 3,none⟩) hb).trans q0;have y1:wr.cell? ⟨b,o+j * 3+1,none⟩=some u1:=(HBw.out.cell (p:=⟨b,o+j * 3+1,none⟩) hb).trans q1;have y2:wr.cell? ⟨b,o+j * 3+2,none⟩=some u2:=(HBw.out.cell (p:=⟨b,o+j * 3+2,none⟩) hb).trans q2;have HL:=hid hL;clear q0 q1 q2 hL hKn;go_wp2_with fail;refine(HL.out wr HBw.out).mono ?_;rintro e w3 ⟨V,⟨h,cap2,ds,rfl,hM3,hB3⟩,hR3⟩;have HM3:=hid hM3;have HB3:=hid hB3;have HR3:=hid hR3;clear hM3 hB3 hR3 y0 y1 y2 x2;go_wp2_with fail;refine(HBe.out _ _ g cap h cap2 bs ds _ _ w3 (HM.out.below HB3.out) HM3.out).mono ?_;rintro e w4 ⟨y,cap3,es,rfl,hM4,hB4⟩;have HB5:=hid (show sI wr.heap.size wr w4 from HB3.out.trans (hB4.mono HB3.out.size))
   have HM4:=hid (hM4.lower (sR HBw.out.size HB3.out.size));have HR4:=hid (show pU (cn+1) _ (T (j+1)) from by rw[HT.out j hlt];exact oy HR.out HR3.out)
   clear hM4 hB4;go_wp2;go_roundw
   case rel=>exact⟨j+1,y,cap3,es,_,rfl,by go_num,by omega,HM4,HR4,hid (HB.out.trans (HB5.out.mono HB.out.size))⟩
   case measure=>simp[sM];omega
  ·have j1:¬(j:Int)<(kn:Int):=by omega
   have HQ:=hid (show LdR (cn+1) m (T kn) w (.returned (.slice (some ⟨g,0,none⟩) (cn+1) cap)) wr from⟨W,⟨g,cap,bs,rfl,HM.out,HBw.out⟩,(show j=kn by omega) ▸ HR.out⟩)
   go_wp2;go_ret;exact HQ.out
def stW (c cls:List Int) (i:Nat):Nat->Nat->Nat:=fun x=>if x<i/\jW cls (c.getD x 0)=true then stR (fun _=>0) (x+1) else fun _=>0
theorem zpE (c cls:List Int) (kids:List aw):pU (c.length+1) (stW c cls c.length) (aN c (.mk 1 cls kids)):=fun i k hi hk=>by
 unfold aN stW;rw[if_pos rfl]
 by_cases h:i<c.length
 ·have hg:c.getD i 0=c[i]:=by simp[tH,h]
  rw[hg]
  by_cases hb:jW cls c[i]=true
  ·rw[if_pos ⟨h,hb⟩,zrR]
   simp only[bt,tA,Bool.false_or,decide_eq_true_eq]
   exact⟨fun e=>⟨e,c[i],sJ h,(cF _ _).1 hb⟩,fun e=>e.1⟩
  ·rw[if_neg (fun e=>hb e.2)]
   simp only[bt,tA,Bool.false_eq_true,false_iff]
   rintro ⟨_,z,hz,hm⟩;rw[sJ h] at hz
   cases hz
   exact hb ((cF _ _).2 hm)
 ·rw[if_neg (fun e=>h e.1)]
  simp only[bt,tA,Bool.false_eq_true,false_iff]
  rintro ⟨_,z,hz,_⟩;exact h (sO.1 hz).1
theorem zbE (c cls:List Int) (i x:Nat):stW c cls (i+1) x=if x=i then (if jW cls (c.getD i 0)=true then stR (fun _=>0) (i+1) else fun _=>0) else stW c cls i x:=by
 unfold stW
 by_cases e:x=i
 ·subst e;simp
 ·rw[if_neg e]
  by_cases h:x<i
  ·simp only[h,tg h,true_and]
  ·have h2:¬x<i+1:=by omega
   simp only[h,h2,false_and]
theorem zbF (c cls:List Int) (i:Nat):stW c cls i i=fun _=>0:=by unfold stW;simp
theorem zwR (v2:sQ) (c cls:List Int) (hc:cn<=90000) (hcn:cn=c.length) (hln:ln=cls.length) (hl9:ln<=1000000) (hm:m=(cn+1) / 64) (hI:RdI w co c) (hC:RdI w lo cls):
  sN Tryz.prog 149 #[.agg #[.int .i64 1,.slice lo ln lc,v2],.slice co cn cc] w (LdR (cn+1) m (aN c (.mk 1 cls [])) w):=by
 have HOw:=hid (fun(W:sH)=>show sN Tryz.prog 172 #[.int .i64 ((cn:Int)+1)] W _ from ib (cn+1) m W (by omega) (by omega) hm)
 have HIn:=hid (fun(W:sH) (z:Int) (h:sI w.heap.size w W)=>zng lo ln lc cls z W (hC.below h) hln hl9)
 have HI:=hid hI;have HCN:=hid hcn;have HMm:=hid hm;clear hm hI hC hcn hln;go_enter Tryz.func149,Tryz.ntmps149;go_wp2_with fail;obtain⟨w1,hw1⟩:∃w1,w1=w.alloc (.cells #[.int .i64 1,.slice lo ln lc,v2] 105):=⟨_,rfl⟩;have hb1:sI w.heap.size w w1:=by rw[hw1];exact below_box
 have x2:w1.cell? ⟨w.heap.size,1,none⟩=some (.slice lo ln lc):=by rw[hw1];simp[go_sem]
 have hs1:w.heap.size<w1.heap.size:=by rw[hw1];simp
 rw[<- hw1];have HB1:=hid hb1;have HX2:=hid x2;clear hw1 hb1 x2;refine(HOw.out w1).mono ?_;rintro e w2 ⟨g,cap,bs,rfl,hM2,hB2⟩;have HM2:=hid (hM2.congr (V:=stW c cls 0) fun x j _ _=>by unfold stW;simp)
 have HB2:=hid hB2;clear hM2 hB2;go_wp2;go_loopw [7] (fun y wr=>∃(i:Nat),y= .int .i64 i/\i<=cn/\Hid (Mt w1.heap.size wr g (cn+1) (m+1) bs (stW c cls i))/\Hid (sI w1.heap.size w1 wr)) (fun y _=>cn - (sM y).toNat)
 case atStart=>exact⟨0,rfl,sK _,HM2,HB2⟩
 case round=>
  clear HM2 HB2;obtain⟨i,rfl,hi,HM,HB⟩:=hrel;have x2:wr.cell? ⟨w.heap.size,1,none⟩=some (.slice lo ln lc):=(HB.out.cell (p:=⟨w.heap.size,1,none⟩) hs1).trans HX2.out;have HBw:=hid (HB1.out.trans (HB.out.mono HB1.out.size))
  by_cases hlt:i<cn
  ·have i0:(0:Int)<=(i:Int):=by omega
   have i1:(i:Int)<(cn:Int):=by omega
   have hil:i<c.length:=by have:=HCN.out;omega
   obtain⟨a,rfl,ha,c1⟩:=HI.out.at hil;have c2:wr.cell? (a.add i)=some (.int .i64 c[i]):=(HBw.out.cell (p:=a.add i) (by rw[add_blk];exact ha)).trans c1
   have HG:=hid (show c.getD i 0=c[i] by simp[tH,hil])
   obtain⟨z,hz⟩:∃z,z=c[i]:=⟨_,rfl⟩;rw[<- hz] at c2 HG;clear c1 hz;go_wp2_with fail;refine ak [(0,true),(1,true),(2,true),(3,true),(4,true),(5,true),(6,false)] (fun W=>W.cell? ⟨w.heap.size,1,none⟩=some (.slice lo ln lc)/\W.cell? (a.add i)=some (.int .i64 z)) (fun _=>false) (by kernel_rfl) (by kernel_rfl) (fun j hj=>by cases hj) rfl (by kernel_rfl) ⟨x2,c2⟩ ?_
   iterate 6 (refine au ?_ rfl (by kernel_rfl) (fun w' hS=>?_) ?_;(rotate_left;(obtain⟨s1,s2⟩:=hS;go_simp;with_reducible rfl);rotate_left))
   refine am rfl (by kernel_rfl) fun KK hKK=>?_
   go_simp;refine(HIn.out wr.drew z ⟨HBw.out.os,HBw.out.tape,HBw.out.output,HBw.out.size,HBw.out.block⟩).mono ?_;rintro e w3 ⟨rfl,e3⟩;obtain rfl:=e3.symm;refine hKK _ _ (fun _=>⟨x2,c2⟩) ?_
   refine aP (sP ?_);clear hKK x2 c2;have HMd:=hid (show Mt w1.heap.size wr.drew g (cn+1) (m+1) bs (stW c cls i) from HM.out.keep fun _ _=>rfl)
   have HBd:=hid (show sI w1.heap.size w1 wr.drew from⟨HB.out.os,HB.out.tape,HB.out.output,HB.out.size,HB.out.block⟩)
   by_cases hb:jW cls z=true
   ·rw[hb]
    have HBT:=hid hb;clear hb;have c3:=HMd.out.cell i (by omega)
    have hr:=HMd.out.row i (by omega)
    rw[zbF] at hr;have HSt:=hid (show sN Tryz.prog 173 #[.slice (some ⟨bs i,0,none⟩) (m+1) (m+1),.int .i64 ((i:Int)+1)] wr.drew _ from zgS (bs i) (m+1) (i+1) _ wr.drew hr (by have:=HMm.out;have:=sL (c:=64) (show i+1<=cn+1 by omega);omega) (by decide) (by omega))
    clear hr;have i2:(i:Int)<(cn:Int)+1:=by omega
    have i3:i<cn+1:=by omega
    go_wp2_with fail;refine HSt.out.mono ?_;rintro e w4 ⟨rfl,hr4,ho4⟩;have HM4:=hid ((HMd.out.set i (by omega) hr4 ho4 (fun j hj=>by unfold stR;split;rw[Nat.zero_or];exact tj (by decide) (tY _ (by decide));exact(by decide:(0:Nat)<18446744073709551616))).congr (V:=stW c cls (i+1)) fun x j _ _=>by
     rw[zbE,HG.out,if_pos HBT.out])
    have HB4:=hid (HBd.out.trans (ho4.below (HM.out.low i (by omega))))
    clear hr4 ho4 c3;go_wp2;go_roundw
    case rel=>exact⟨i+1,by go_num,by omega,HM4,HB4⟩
    case measure=>simp[sM];omega
   ·have hb':jW cls z=false:=by simpa using hb
    rw[hb'];have HBT:=hid hb;clear hb hb';have HM4:=hid (HMd.out.congr (V:=stW c cls (i+1)) fun x j _ _=>by
     rw[zbE,HG.out,if_neg HBT.out]
     by_cases e:x=i
     ·subst e;rw[if_pos rfl,zbF]
     ·rw[if_neg e])
    go_wp2;go_roundw
    case rel=>exact⟨i+1,by go_num,by omega,HM4,HBd⟩
    case measure=>simp[sM];omega
  ·have i1:¬(i:Int)<(cn:Int):=by omega
   have HQ:=hid (show LdR (cn+1) m (aN c (.mk 1 cls [])) w (.returned (.slice (some ⟨g,0,none⟩) (cn+1) cap)) wr from⟨stW c cls i,⟨g,cap,bs,rfl,HM.out.lower (sV hs1),HBw.out⟩,by
    have e:i=c.length:=by have:=HCN.out;omega
    have h:=zpE c cls [];rw[e,HCN.out];exact h⟩)
   go_wp2;go_ret;exact HQ.out
end
theorem zwJ (c cls:List Int) (kids:List aw):aN c (.mk 1 cls kids)=aN c (.mk 1 cls []):=by
 funext i k
 unfold aN;rw[if_pos rfl,if_pos rfl]
theorem zat (c:List Int) (p0:aw) (ps:List aw):cE c (p0::ps)=aN c p0:=by rw[cE]
theorem zwI (c cls:List Int) (p0:aw) (ps:List aw):aN c (.mk 4 cls (p0::ps))=cg (aN c p0):=by
 rw[aN]
 simp[zat]
theorem zrC (c cls:List Int) (p0:aw) (ps:List aw):aN c (.mk 5 cls (p0::ps))=Cmp (aN c p0) (cg (aN c p0)):=by
 rw[aN]
 simp[zat]
theorem zwH (c cls:List Int) (p0:aw) (ps:List aw):aN c (.mk 6 cls (p0::ps))=fun i k=>i=k\/aN c p0 i k:=by
 rw[aN]
 simp[zat]
theorem zhy (c cls:List Int) (ks:List aw):aN c (.mk 2 cls ks)=cv c ks:=by
 rw[aN]
 simp
theorem zrD (c cls:List Int) (ks:List aw):aN c (.mk 3 cls ks)=bP c ks:=by
 rw[aN]
 simp
theorem zrB (c cls:List Int) (ks:List aw) (op:Int) (h1:op≠1) (h2:op≠2) (h3:op≠3) (h4:op≠4) (h5:op≠5) (h6:op≠6):aN c (.mk op cls ks)=fun i k=>i=k:=by
 rw[aN]
 simp[h1,h2,h3,h4,h5,h6]
theorem qV (c:List Int) (cn m:Nat) (hcn:cn=c.length) (hc:cn<=90000) (hm:m=(cn+1) / 64) (co:Option Addr) (cc:Nat):∀p:aw,Wf p->∀(v0 v1 v2:sQ) (w:sH),ct w p v0 v1 v2->RdI w co c->sN Tryz.prog 149 #[.agg #[v0,v1,v2],.slice co cn cc] w (LdR (cn+1) m (aN c p) w):=by
 refine aw.ind fun op cls kids ih hW v0 v1 v2 w hP hI=>?_
 unfold ct at hP;unfold Wf at hW;obtain⟨rfl,⟨lo,lc,rfl,hl1,hl2⟩,ko,kc,rfl,hk1,hk2,_⟩:=hP;have HA:KdA w ko kids.length co cn cc m (fun j=>aN c (kids.getD j (.mk 0 [] []))):=fun j hj=>by
  have hg:kids[j]? =some kids[j]:=sJ hj;have hd:kids.getD j (.mk 0 [] [])=kids[j]:=by simp[tH,hj]
  obtain⟨b,o,h1,h2,u0,u1,u2,q0,q1,q2,hq⟩:=gh.at kids ko 0 j _ hk1 hg;rw[tR] at q0 q1 q2;refine⟨b,o,u0,u1,u2,h1,h2,q0,q1,q2,fun W hW2=>?_,?_⟩
  ·simp only[hd]
   exact ih _ (sU hj) (hW.2.mem (sU hj)) u0 u1 u2 W (ct.below hW2 _ _ _ _ hq) (hI.below hW2)
  ·simp only[hd,hcn]
   exact zas c _
 by_cases h1:op=1
 ·subst h1
  rw[zwJ];exact zwR lo co cls.length lc cn cc m w _ c cls hc hcn rfl hl2 hm hI hl1
 by_cases h2:op=2
 ·subst h2
  have:=zwQ lo co cls.length lc kids.length kc cn cc m w ko _ (fun j=>cv c (kids.take j)) hc hk2 hm (hid HA) (hid (by simp only[List.take_zero];exact ca c)) (hid fun j hj=>by
   have hd:kids.getD j (.mk 0 [] [])=kids[j]:=by simp[tH,hj]
   simp only[hd]
   exact zjH c kids j hj)
  simp only[tB] at this
  rw[zhy];exact this
 by_cases h3:op=3
 ·subst h3
  have:=zwP lo co cls.length lc kids.length kc cn cc m w ko _ (fun j=>bP c (kids.take j)) hc hk2 hm (hid HA) (hid (by funext i k;simp[bP])) (hid fun j hj=>by
   have hd:kids.getD j (.mk 0 [] [])=kids[j]:=by simp[tH,hj]
   simp only[hd]
   funext i k
   exact propext (zjI c kids j hj i k))
  simp only[tB] at this
  rw[zrD];exact this
 by_cases h456:op=4\/op=5\/op=6
 ·obtain⟨p0,ps,rfl⟩:∃p0 ps,kids=p0::ps:=by
   cases kids with
   | nil=>exact absurd rfl (hW.1 h456)
   | cons a b=>exact⟨a,b,rfl⟩
  obtain⟨b,o,u0,u1,u2,rfl,hb,q0,q1,q2,hL,hKn⟩:=HA 0 (by simp)
  simp only[Nat.zero_mul,Nat.add_zero,List.getD_cons_zero] at q0 q1 q2 hL hKn
  rcases h456 with rfl | rfl | rfl
  ·rw[zwI]
   exact zwO lo co cls.length lc b o _ kc cn cc m u0 u1 u2 _ w hb (by simp) hc hm q0 q1 q2 (hid hL) (hid hKn)
  ·rw[zrC]
   exact zwN lo co cls.length lc b o _ kc cn cc m u0 u1 u2 _ w hb (by simp) hc hm q0 q1 q2 (hid hL) (hid hKn)
  ·rw[zwH]
   exact zwM lo co cls.length lc b o _ kc cn cc m u0 u1 u2 _ w hb (by simp) hc hm q0 q1 q2 (hid hL)
 ·have h4:op≠4:=fun e=>h456 (.inl e)
  have h5:op≠5:=fun e=>h456 (.inr (.inl e))
  have h6:op≠6:=fun e=>h456 (.inr (.inr e))
  rw[zrB c cls kids op h1 h2 h3 h4 h5 h6];exact zwS co cn cc m w _ _ op h1 h2 h3 h4 h5 h6 hc hm
end Pt
end
section
namespace Pt
mutual
def ox:aw->aw
 | .mk op cls kids=>.mk op cls (if op=2 then (lH kids).reverse else lH kids)
def lH:List aw->List aw
 | []=>[]
 | p::ps=>ox p::lH ps
end
theorem zcc:∀ps:List aw,lH ps=ps.map ox
 | []=>by unfold lH;rfl
 | p::ps=>by unfold lH;rw[zcc ps];rfl
theorem zfc (op:Int) (cls:List Int) (kids:List aw):ox (.mk op cls kids)= .mk op cls (if op=2 then (kids.map ox).reverse else kids.map ox):=by
 unfold ox;rw[zcc]
theorem ziB {R:Nat->Nat->Prop} {i j k:Nat} (h:cg R i j) (h2:R j k):Cmp R (cg R) i k:=by
 induction h with
 | refl=>exact⟨k,h2,.refl _⟩
 | step a b ih=>
  obtain⟨m,h3,h4⟩:=ih h2;exact⟨_,a,.step h3 h4⟩
theorem qv {R S:Nat->Nat->Prop} {n:Nat} (hR:∀i k,R i k->i<=k) (h:∀i k,k<=n->R i k->S (n - k) (n - i)) {i k:Nat} (hs:cg R i k):k<=n->cg S (n - k) (n - i):=by
 induction hs with
 | refl=>exact fun _=>.refl _
 | step a b ih=>
  intro hk;have h1:=dy hR b;exact(ih hk).trans (.step (h _ _ (by omega) a) (.refl _))
mutual
theorem nF (c:List Int):∀(p:aw) (i k:Nat),k<=c.length->aN c p i k->aN c.reverse (ox p) (c.length - k) (c.length - i)
 | .mk op cls kids,i,k,hk,h=>by
  have H:=znc c kids;have HL:=gA c kids;unfold aN at h;rw[ox];unfold aN
  split at h
  ·rename_i e
   rw[if_pos e];obtain⟨h1,z,h2,h3⟩:=h;have hi:=(sO.1 h2).1;refine⟨by omega,z,?_,h3⟩
   rw[List.getElem?_reverse (by omega),show c.length - 1 - (c.length - k)=i by omega]
   exact h2
  ·rename_i e
   rw[if_neg e]
   split at h
   ·rename_i e
    rw[if_pos e,if_pos e];exact zdN c kids i k hk h
   ·rename_i e
    rw[if_neg e,if_neg e]
    split at h
    ·rename_i e
     rw[if_pos e];exact zdP c kids i k hk h
    ·rename_i e
     rw[if_neg e]
     split at h
     ·rename_i e
      rw[if_pos e];exact qv HL H h hk
     ·rename_i e
      rw[if_neg e]
      split at h
      ·rename_i e
       rw[if_pos e];obtain⟨j,h1,h2⟩:=h;have h3:=dy HL h2;exact ziB (qv HL H h2 hk) (H _ _ (by omega) h1)
      ·rename_i e
       rw[if_neg e]
       split at h
       ·rename_i e
        rw[if_pos e]
        rcases h with h | h
        ·exact .inl (by omega)
        ·exact .inr (H _ _ hk h)
       ·rename_i e
        rw[if_neg e];omega
theorem zdN (c:List Int):∀(ps:List aw) (i k:Nat),k<=c.length->cv c ps i k->cv c.reverse (lH ps).reverse (c.length - k) (c.length - i)
 | [],i,k,hk,h=>by
  rw[ca] at h;rw[lH,List.reverse_nil,ca];omega
 | p::ps,i,k,hk,h=>by
  rw[bV] at h;obtain⟨j,h1,h2⟩:=h;have h3:=kJ c ps _ _ h2;rw[lH,List.reverse_cons,kK,bV,ca,zif];exact⟨c.length - j,zdN c ps j k hk h2,nF c p i j (by omega) h1⟩
theorem zdP (c:List Int):∀(ps:List aw) (i k:Nat),k<=c.length->bP c ps i k->bP c.reverse (lH ps) (c.length - k) (c.length - i)
 | [],i,k,hk,h=>by unfold bP at h;exact h.elim
 | p::ps,i,k,hk,h=>by
  rw[lH];unfold bP at h⊢
  rcases h with h | h
  ·exact .inl (nF c p i k hk h)
  ·exact .inr (zdP c ps i k hk h)
theorem znc (c:List Int):∀(ps:List aw) (i k:Nat),k<=c.length->cE c ps i k->cE c.reverse (lH ps) (c.length - k) (c.length - i)
 | [],i,k,hk,h=>by unfold cE at h;exact h.elim
 | p::ps,i,k,hk,h=>by
  rw[lH];unfold cE at h⊢;exact nF c p i k hk h
end
def dB (p:aw) (L:List Int):Prop:=∀(c:List Int) (i k:Nat),aN c p i k->i<k->∃z,c[i]? =some z/\z∈L
def Nil (p:aw):Prop:=∀(c:List Int) (i k:Nat),¬aN c p i k
def zbo (ps:List aw):Prop:=∀(c:List Int) (i k:Nat),¬cv c ps i k
def Ful (p:aw):Prop:=∀(c:List Int) (i:Nat),¬aN c p i i
theorem dB.mono {p:aw} {L M:List Int} (h:dB p L) (hm:∀z∈L,z∈M):dB p M:=fun c i k h1 h2=>by
 obtain⟨z,h3,h4⟩:=h c i k h1 h2;exact⟨z,h3,hm z h4⟩
theorem zuY (cls:List Int) (kids:List aw):dB (.mk 1 cls kids) cls:=fun c i k h _=>by
 unfold aN at h;rw[if_pos rfl] at h;exact h.2
theorem zqo (op:Int) (cls:List Int) (kids:List aw) (h1:op≠1) (h2:op≠2) (h3:op≠3) (h4:op≠4) (h5:op≠5) (h6:op≠6):dB (.mk op cls kids) []:=fun c i k h hlt=>by
 rw[zrB c cls kids op h1 h2 h3 h4 h5 h6] at h;have h:i=k:=h;omega
theorem zgQ {R:Nat->Nat->Prop} {c L:List Int} (hR:∀i k,R i k->i<=k) (h:∀i k,R i k->i<k->∃z,c[i]? =some z/\z∈L) {i k:Nat} (hs:cg R i k):i<k->∃z,c[i]? =some z/\z∈L:=by
 induction hs with
 | refl=>intro h;omega
 | step a b ih=>
  rename_i i j k
  intro hlt
  rcases te (hR _ _ a) with e | e
  ·subst e;exact ih hlt
  ·exact h _ _ a e
theorem zqp (op:Int) (cls:List Int) (kids:List aw) (L:List Int) (h1:op≠1) (h2:op≠2) (h:∀p∈kids,dB p L):dB (.mk op cls kids) L:=fun c i k hl hlt=>by
 have hO:∀ps:List aw,(∀p∈ps,dB p L)->∀i k,bP c ps i k->i<k->∃z,c[i]? =some z/\z∈L:=by
  intro ps
  induction ps with
  | nil=>intro _ i k h;unfold bP at h;exact h.elim
  | cons p ps ih=>
   intro hp i k h hlt;unfold bP at h
   rcases h with h | h
   ·exact hp p (tq ..) c i k h hlt
   ·exact ih (fun q hq=>hp q (tG _ hq)) i k h hlt
 have hH:∀i k,cE c kids i k->i<k->∃z,c[i]? =some z/\z∈L:=by
  intro i k h2 hlt
  cases kids with
  | nil=>unfold cE at h2;exact h2.elim
  | cons p ps=>
   rw[zat] at h2;exact h p (tq ..) c i k h2 hlt
 unfold aN at hl;rw[if_neg h1,if_neg h2] at hl
 split at hl
 ·exact hO kids h i k hl hlt
 ·split at hl
  ·exact zgQ (gA c kids) hH hl hlt
  ·split at hl
   ·obtain⟨j,h3,h4⟩:=hl
    rcases te (gA c kids _ _ h3) with e | e
    ·subst e;exact zgQ (gA c kids) hH h4 hlt
    ·exact hH _ _ h3 e
   ·split at hl
    ·rcases hl with hl | hl
     ·omega
     ·exact hH _ _ hl hlt
    ·omega
def FsT (kids:List aw) (j:Nat) (L:List Int):Prop:=∀(c:List Int) (i k:Nat),cv c kids i k->i<k->(∃z,c[i]? =some z/\z∈L)\/cv c (kids.drop j) i k
theorem zwV (kids:List aw):FsT kids 0 []:=fun _ _ _ h _=>.inr h
theorem zfW {kids:List aw} {j:Nat} {c:List Int} {i k:Nat} (hj:j<kids.length) (h:cv c (kids.drop j) i k):∃m,aN c kids[j] i m/\cv c (kids.drop (j+1)) m k:=by
 rw[List.drop_eq_getElem_cons hj,bV] at h;exact h
theorem pn {kids:List aw} {j:Nat} {L M:List Int} (hj:j<kids.length) (h:FsT kids j L) (hL:∀z∈L,z∈M) (h1:dB kids[j] M\/Nil kids[j]\/zbo (kids.drop (j+1))):FsT kids (j+1) M:=fun c i k hl hlt=>by
 rcases h c i k hl hlt with ⟨z,h2,h3⟩ | h2
 ·exact .inl ⟨z,h2,hL z h3⟩
 ·obtain⟨m,h3,h4⟩:=zfW hj h2
  rcases te (jV c _ _ _ h3) with e | e
  ·subst e;exact .inr h4
  ·rcases h1 with h1 | h1 | h1
   ·exact .inl (h1 c i m h3 e)
   ·exact absurd h3 (h1 _ _ _)
   ·exact absurd h4 (h1 _ _ _)
theorem pm {kids:List aw} {j:Nat} {L M:List Int} (hj:j<kids.length) (h:FsT kids j L) (hL:∀z∈L,z∈M) (h1:dB kids[j] M\/Nil kids[j]\/zbo (kids.drop (j+1))) (h0:Ful kids[j]) (op:Int) (cls:List Int) (ho:op=2):dB (.mk op cls kids) M:=fun c i k hl hlt=>by
 subst ho;rw[zhy] at hl
 rcases h c i k hl hlt with ⟨z,h2,h3⟩ | h2
 ·exact⟨z,h2,hL z h3⟩
 ·obtain⟨m,h3,h4⟩:=zfW hj h2
  rcases te (jV c _ _ _ h3) with e | e
  ·subst e;exact absurd h3 (h0 _ _)
  ·rcases h1 with h1 | h1 | h1
   ·exact h1 c i m h3 e
   ·exact absurd h3 (h1 _ _ _)
   ·exact absurd h4 (h1 _ _ _)
theorem zqn {kids:List aw} {L:List Int} (h:FsT kids kids.length L) (op:Int) (cls:List Int) (ho:op=2):dB (.mk op cls kids) L:=fun c i k hl hlt=>by
 subst ho;rw[zhy] at hl
 rcases h c i k hl hlt with h2 | h2
 ·exact h2
 ·rw[List.drop_length,ca] at h2
  omega
theorem zho {ps:List aw} {j:Nat} (hj:j<ps.length) (h:Nil ps[j]):zbo ps:=fun c i k hl=>by
 rw[<- List.take_append_drop j ps,kK] at hl;obtain⟨m,_,h2⟩:=hl;obtain⟨q,h3,_⟩:=zfW hj h2;exact h _ _ _ h3
theorem zpK (kids:List aw):Nil (.mk 1 [] kids):=fun c i k h=>by
 unfold aN at h;rw[if_pos rfl] at h;obtain⟨_,z,_,h2⟩:=h
 cases h2
theorem zlD {cls:List Int} {kids:List aw} (h:zbo kids):Nil (.mk 2 cls kids):=fun c i k hl=>by
 rw[zhy] at hl;exact h _ _ _ hl
theorem zsB {cls:List Int} {kids:List aw} (h:∀p∈kids,Nil p):Nil (.mk 3 cls kids):=fun c i k hl=>by
 rw[zrD] at hl
 revert i k
 induction kids with
 | nil=>intro i k h;unfold bP at h;exact h
 | cons p ps ih=>
  intro i k h2;unfold bP at h2
  rcases h2 with h2 | h2
  ·exact h p (tq ..) _ _ _ h2
  ·exact ih (fun q hq=>h q (tG _ hq)) i k h2
theorem zlE {cls:List Int} {p:aw} {ps:List aw} (h:Nil p):Nil (.mk 5 cls (p::ps)):=fun c i k hl=>by
 rw[zrC] at hl;obtain⟨_,h1,_⟩:=hl;exact h _ _ _ h1
mutual
theorem nG (c:List Int):∀(p:aw) (i:Nat),aN c p i i->aN [] p 0 0
 | .mk op cls kids,i,h=>by
  have H:=znd c kids;have HL:=gA c kids;unfold aN at h⊢
  split at h
  ·omega
  ·rename_i e
   rw[if_neg e]
   split at h
   ·rename_i e
    rw[if_pos e];exact zdO c kids i h
   ·rename_i e
    rw[if_neg e]
    split at h
    ·rename_i e
     rw[if_pos e];exact zdQ c kids i h
    ·rename_i e
     rw[if_neg e]
     split at h
     ·rename_i e
      rw[if_pos e];exact .refl _
     ·rename_i e
      rw[if_neg e]
      split at h
      ·rename_i e
       rw[if_pos e];obtain⟨j,h1,h2⟩:=h;have h3:=HL _ _ h1;have h4:=dy HL h2;obtain rfl:j=i:=by omega
       exact⟨0,H _ h1,.refl _⟩
      ·rename_i e
       rw[if_neg e]
       split at h
       ·rename_i e
        rw[if_pos e];exact .inl rfl
       ·rename_i e
        rw[if_neg e]
theorem zdO (c:List Int):∀(ps:List aw) (i:Nat),cv c ps i i->cv [] ps 0 0
 | [],i,h=>by rw[ca]
 | p::ps,i,h=>by
  rw[bV] at h⊢;obtain⟨j,h1,h2⟩:=h;have h3:=jV c p _ _ h1;have h4:=kJ c ps _ _ h2;obtain rfl:j=i:=by omega
  exact⟨0,nG c p _ h1,zdO c ps _ h2⟩
theorem zdQ (c:List Int):∀(ps:List aw) (i:Nat),bP c ps i i->bP [] ps 0 0
 | [],i,h=>by unfold bP at h;exact h.elim
 | p::ps,i,h=>by
  unfold bP at h⊢
  rcases h with h | h
  ·exact .inl (nG c p i h)
  ·exact .inr (zdQ c ps i h)
theorem znd (c:List Int):∀(ps:List aw) (i:Nat),cE c ps i i->cE [] ps 0 0
 | [],i,h=>by unfold cE at h;exact h.elim
 | p::ps,i,h=>by unfold cE at h⊢;exact nG c p i h
end
theorem zuX {p:aw} (h:¬aN [] p 0 0):Ful p:=fun c i hl=>h (nG c p i hl)
end Pt
end
section
open Go.RowKit
namespace Pt
def Rs (cls:List Int):Prop:=∀(i:Nat) (z:Int),cls[i]? =some z->0<=z/\z<2147483647/\∀(y:Int),0<i->cls[i - 1]? =some y->y<z
def OkN (op:Int) (cls:List Int) (kn:Nat):Prop:=(op=1/\kn=0/\Rs cls)\/cls=[]/\((op=0/\kn=0)\/(op=2/\2<=kn)\/(op=3/\2<=kn)\/(op=4/\kn=1)\/(op=5/\kn=1)\/(op=6/\kn=1))
section
variable (lo:Option Addr) (ln lc kn kc:Nat) (ko:Option Addr) (w:sH)
theorem zsA (op:Int) (hk9:kn<=1000000) (h:(op=0/\kn=0)\/(op=2/\2<=kn)\/(op=3/\2<=kn)\/(op=4/\kn=1)\/(op=5/\kn=1)\/(op=6/\kn=1)):
  sN Tryz.prog 186 #[.agg #[.int .i64 op,.slice lo 0 lc,.slice ko kn kc],.int .i64 2147483647] w fun e w'=>e= .returned (.int .i64 0)/\sI w.heap.size w w':=by
 have HB:=hid (fun(o:Obj)=>below_box (w:=w) (o:=o))
 rcases h with ⟨rfl,rfl⟩ | ⟨rfl,h2⟩ | ⟨rfl,h2⟩ | ⟨rfl,rfl⟩ | ⟨rfl,rfl⟩ | ⟨rfl,rfl⟩
 ·go_enter Tryz.func186,Tryz.ntmps186
  go_wp2;go_loopw [7] (fun y wr=>y= .int .i64 0/\wr=w.alloc (.cells #[.int .i64 0,.slice lo 0 lc,.slice ko 0 kc] 105)) (fun y _=>0)
  case atStart=>exact⟨rfl,rfl⟩
  case round=>
   obtain⟨rfl,rfl⟩:=hrel;go_wp2;go_ret;exact⟨rfl,HB.out _⟩
 ·have k1:(2:Int)<=(kn:Int):=by omega
  have k3:((kn:Int)==1)=false:=by simp;omega
  go_enter Tryz.func186,Tryz.ntmps186;go_wp2;go_loopw [7] (fun y wr=>y= .int .i64 0/\wr=w.alloc (.cells #[.int .i64 2,.slice lo 0 lc,.slice ko kn kc] 105)) (fun y _=>0)
  case atStart=>exact⟨rfl,rfl⟩
  case round=>
   obtain⟨rfl,rfl⟩:=hrel;go_wp2;go_ret;exact⟨rfl,HB.out _⟩
 ·have k1:(2:Int)<=(kn:Int):=by omega
  have k3:((kn:Int)==1)=false:=by simp;omega
  go_enter Tryz.func186,Tryz.ntmps186;go_wp2;go_loopw [7] (fun y wr=>y= .int .i64 0/\wr=w.alloc (.cells #[.int .i64 3,.slice lo 0 lc,.slice ko kn kc] 105)) (fun y _=>0)
  case atStart=>exact⟨rfl,rfl⟩
  case round=>
   obtain⟨rfl,rfl⟩:=hrel;go_wp2;go_ret;exact⟨rfl,HB.out _⟩
 ·go_enter Tryz.func186,Tryz.ntmps186
  go_wp2;go_loopw [7] (fun y wr=>y= .int .i64 0/\wr=w.alloc (.cells #[.int .i64 4,.slice lo 0 lc,.slice ko 1 kc] 105)) (fun y _=>0)
  case atStart=>exact⟨rfl,rfl⟩
  case round=>
   obtain⟨rfl,rfl⟩:=hrel;go_wp2;go_ret;exact⟨rfl,HB.out _⟩
 ·go_enter Tryz.func186,Tryz.ntmps186
  go_wp2;go_loopw [7] (fun y wr=>y= .int .i64 0/\wr=w.alloc (.cells #[.int .i64 5,.slice lo 0 lc,.slice ko 1 kc] 105)) (fun y _=>0)
  case atStart=>exact⟨rfl,rfl⟩
  case round=>
   obtain⟨rfl,rfl⟩:=hrel;go_wp2;go_ret;exact⟨rfl,HB.out _⟩
 ·go_enter Tryz.func186,Tryz.ntmps186
  go_wp2;go_loopw [7] (fun y wr=>y= .int .i64 0/\wr=w.alloc (.cells #[.int .i64 6,.slice lo 0 lc,.slice ko 1 kc] 105)) (fun y _=>0)
  case atStart=>exact⟨rfl,rfl⟩
  case round=>
   obtain⟨rfl,rfl⟩:=hrel;go_wp2;go_ret;exact⟨rfl,HB.out _⟩
theorem zsz (cls:List Int) (hln:ln=cls.length) (hl9:ln<=1000000) (hR:Rs cls) (hC:RdI w lo cls):
  sN Tryz.prog 186 #[.agg #[.int .i64 1,.slice lo ln lc,.slice ko 0 kc],.int .i64 2147483647] w fun e w'=>e= .returned (.int .i64 0)/\sI w.heap.size w w':=by
 have HR:=hid hR;have HC:=hid hC;have HLN:=hid hln;clear hR hC hln;go_enter Tryz.func186,Tryz.ntmps186;go_wp2;obtain⟨w1,hw1⟩:∃w1,w1=w.alloc (.cells #[.int .i64 1,.slice lo ln lc,.slice ko 0 kc] 105):=⟨_,rfl⟩;have hb1:sI w.heap.size w w1:=by rw[hw1];exact below_box
 have x2:w1.cell? ⟨w.heap.size,1,none⟩=some (.slice lo ln lc):=by rw[hw1];simp[go_sem]
 have hs1:w.heap.size<w1.heap.size:=by rw[hw1];simp
 rw[<- hw1];have HB1:=hid hb1;have HX2:=hid x2;clear hw1 hb1 x2;go_loopw [7] (fun y wr=>∃i:Nat,y= .int .i64 i/\i<=ln/\Hid (sI w1.heap.size w1 wr)) (fun y _=>ln - (sM y).toNat)
 case atStart=>exact⟨0,rfl,sK _,hid (td _ _)⟩
 case round=>
  obtain⟨i,rfl,hi,HB⟩:=hrel;have x2:wr.cell? ⟨w.heap.size,1,none⟩=some (.slice lo ln lc):=(HB.out.cell (p:=⟨w.heap.size,1,none⟩) hs1).trans HX2.out;have HBw:=hid (HB1.out.trans (HB.out.mono HB1.out.size))
  by_cases hlt:i<ln
  ·have i0:(0:Int)<=(i:Int):=by omega
   have i1:(i:Int)<(ln:Int):=by omega
   have hil:i<cls.length:=by have:=HLN.out;omega
   obtain⟨a,ha1,ha,c1⟩:=HC.out.at hil;have c2:wr.cell? (a.add i)=some (.int .i64 cls[i]):=(HBw.out.cell (p:=a.add i) (by rw[add_blk];exact ha)).trans c1
   obtain⟨z,hz⟩:∃z,z=cls[i]:=⟨_,rfl⟩;have hgz:cls[i]? =some z:=by rw[hz];exact sJ hil
   rw[<- hz] at c2;obtain⟨r1,r2,r3⟩:=HR.out i z hgz;clear c1 hz;have d1:decide (z<0)=false:=decide_eq_false (by omega)
   have d2:decide ((2147483647:Int)<=z)=false:=decide_eq_false (by omega)
   have n1:¬z<0:=by omega
   have n2:¬(2147483647:Int)<=z:=by omega
   by_cases hi0:i=0
   ·subst hi0
    subst ha1;have c5:wr.cell? a=some (.int .i64 z):=by
     have e:a.add 0=a:=by unfold Addr.add;split<;>simp_all
     rw[e] at c2;exact c2
    have i5:(0:Int)<(ln:Int):=by omega
    clear hgz r3 c2 i1 i0;go_wp2_with fail;go_quiet (fail);have HBd:=hid (show sI w1.heap.size w1 (wr.drewN nq) from⟨HB.out.os,HB.out.tape,HB.out.output,HB.out.size,HB.out.block⟩)
    go_wp2;go_roundw
    case rel=>exact⟨1,by go_num,by omega,HBd⟩
    case measure=>simp[sM];omega
   ·have hj:i - 1<cls.length:=by omega
    obtain⟨a2,ha2,hb2,c3⟩:=HC.out.at hj;rw[ha1] at ha2
    cases ha2
    have c4:wr.cell? (a.add (i - 1))=some (.int .i64 cls[i - 1]):=(HBw.out.cell (p:=a.add (i - 1)) (by rw[add_blk];exact ha)).trans c3
    obtain⟨y,hy⟩:∃y,y=cls[i - 1]:=⟨_,rfl⟩;have hgy:cls[i - 1]? =some y:=by rw[hy];exact sJ hj
    rw[<- hy] at c4;have r4:=r3 y (by omega) hgy
    subst ha1;clear c3 hy hgz hgy r3;have d3:decide ((0:Int)<(i:Int))=true:=decide_eq_true (by omega)
    have n3:(0:Int)<(i:Int):=by omega
    have n3':0<i:=by omega
    have d4:decide (z<=y)=false:=decide_eq_false (by omega)
    have n4:¬z<=y:=by omega
    have e1:((i:Int) - 1).toNat=i - 1:=by omega
    have e2:(0:Int)<=(i:Int) - 1:=by omega
    have e3:(i:Int) - 1<(ln:Int):=by omega
    have e4:tf.wrap ((i:Int) - 1)=(i:Int) - 1:=by unfold sY sZ sS;simp;omega
    clear hi0;go_wp2_with fail;go_quiet (fail);have HBd:=hid (show sI w1.heap.size w1 (wr.drewN nq) from⟨HB.out.os,HB.out.tape,HB.out.output,HB.out.size,HB.out.block⟩)
    go_wp2;go_roundw
    case rel=>exact⟨i+1,by go_num,by omega,HBd⟩
    case measure=>simp[sM];omega
  ·have i1:¬(i:Int)<(ln:Int):=by omega
   go_wp2;go_ret;exact⟨rfl,HBw.out⟩
end
end Pt
end
section
open Go.RowKit
namespace Pt
mutual
def fZ:aw->Nat
 | .mk _ _ kids=>kk kids+1
def kk:List aw->Nat
 | []=>0
 | p::ps=>fZ p+kk ps
end
mutual
def jJ:aw->Prop
 | .mk op cls kids=>OkN op cls kids.length/\mQ kids
def mQ:List aw->Prop
 | []=>True
 | p::ps=>jJ p/\mQ ps
end
theorem mQ.mem:∀{ps:List aw} {p:aw},mQ ps->p∈ps->jJ p
 | [],p,_,hp=>by cases hp
 | q::ps,p,h,hp=>by
  unfold mQ at h
  cases hp with
  | head=>exact h.1
  | tail _ hp=>exact mQ.mem h.2 hp
mutual
theorem jJ.wf:∀{p:aw},jJ p->Wf p
 | .mk op cls kids,h=>by
  unfold jJ at h;unfold Wf;refine⟨fun h456 e=>?_,mQ.wf h.2⟩
  obtain⟨h1,_⟩:=h;subst e;unfold OkN at h1
  simp only[List.length_nil] at h1
  rcases h1 with ⟨h1,_⟩ | ⟨_,h1⟩<;>omega
theorem mQ.wf:∀{ps:List aw},mQ ps->WfL ps
 | [],_=>by unfold WfL;trivial
 | q::ps,h=>by
  unfold mQ at h;unfold WfL;exact⟨jJ.wf h.1,mQ.wf h.2⟩
end
theorem eu:∀(ps:List aw) (j:Nat) (p:aw),ps[j]? =some p->kk (ps.take (j+1))=kk (ps.take j)+fZ p
 | [],j,p,h=>by simp at h
 | q::ps,0,p,h=>by simp at h;subst h;simp[kk]
 | q::ps,j+1,p,h=>by
  have:=eu ps j p (by simpa using h)
  simp only[tJ,kk,this]
  omega
theorem fj:∀(ps:List aw) (j:Nat),kk (ps.take j)<=kk ps
 | [],j=>by simp[kk]
 | q::ps,0=>by simp[kk]
 | q::ps,j+1=>by
  have:=fj ps j
  simp only[tJ,kk]
  omega
def CkQ (w:sH) (n:Nat) (e:tZ) (w':sH):Prop:=e= .returned (.tuple #[.int .i64 0,.int .i64 (n:Int)])/\sI w.heap.size w w'
set_option maxRecDepth 100000 in
theorem check_in (lo ko:Option Addr) (ln lc kn kc:Nat) (op:Int) (w:sH) (ahead:Nat) (S:Nat->Nat) (hk9:kn<=1000000) (h1:ahead<2048) (hS:∀j,j<=kn->S j<=3000) (HS0:Hid (S 0=ahead+1))
  (HN:Hid (∀W,sI w.heap.size w W->sN Tryz.prog 186 #[.agg #[.int .i64 op,.slice lo ln lc,.slice ko kn kc],.int .i64 2147483647] W fun e w'=>e= .returned (.int .i64 0)/\sI W.heap.size W w'))
  (HK:Hid (∀j,j<kn->∃b o u0 u1 u2,ko=some ⟨b,o,none⟩/\b<w.heap.size/\w.cell? ⟨b,o+j * 3,none⟩=some u0/\w.cell? ⟨b,o+j * 3+1,none⟩=some u1/\w.cell? ⟨b,o+j * 3+2,none⟩=some u2/\∀W,sI w.heap.size w W->sN Tryz.prog 171 #[.agg #[u0,u1,u2],.int .i64 2147483647,.int .i64 (S j)] W (CkQ W (S (j+1))))):
  sN Tryz.prog 171 #[.agg #[.int .i64 op,.slice lo ln lc,.slice ko kn kc],.int .i64 2147483647,.int .i64 ahead] w (CkQ w (S kn)):=by
 have a1:(ahead:Int)<2048:=by omega
 have HS:=hid hS;clear hS;go_enter Tryz.func171,Tryz.ntmps171;go_wp2_with fail;obtain⟨w1,hw1⟩:∃w1,w1=w.alloc (.cells #[.int .i64 op,.slice lo ln lc,.slice ko kn kc] 105):=⟨_,rfl⟩;have hb1:sI w.heap.size w w1:=by rw[hw1];exact below_box
 have x2:w1.cell? ⟨w.heap.size,2,none⟩=some (.slice ko kn kc):=by rw[hw1];simp[go_sem]
 have hs1:w.heap.size<w1.heap.size:=by rw[hw1];simp
 rw[<- hw1];have HB1:=hid hb1;have HX2:=hid x2;clear hw1 hb1 x2;refine(HN.out w1 HB1.out).mono ?_;rintro e w2 ⟨rfl,hB2⟩;have HB2:=hid hB2;clear hB2;go_wp2;go_loopw [8,9,10] (fun x y z wr=>∃(j s:Nat),x= .int .i64 0/\y= .int .i64 s/\z= .int .i64 j/\j<=kn/\s<=3000/\Hid (s=S j)/\Hid (sI w1.heap.size w1 wr)) (fun _ _ z _=>kn - (sM z).toNat)
 case atStart=>exact⟨0,ahead+1,rfl,by go_num,rfl,sK _,by omega,hid HS0.out.symm,HB2⟩
 case round=>
  clear HB2;obtain⟨j,s,rfl,rfl,rfl,hj,hs9,HSj,HB⟩:=hrel;have x2:wr.cell? ⟨w.heap.size,2,none⟩=some (.slice ko kn kc):=(HB.out.cell (p:=⟨w.heap.size,2,none⟩) hs1).trans HX2.out;have HBw:=hid (HB1.out.trans (HB.out.mono HB1.out.size))
  by_cases hlt:j<kn
  ·have j0:(0:Int)<=(j:Int):=by omega
   have j1:(j:Int)<(kn:Int):=by omega
   obtain⟨b,o,u0,u1,u2,rfl,hb,q0,q1,q2,hL⟩:=HK.out j hlt;have y0:wr.cell? ⟨b,o+j * 3,none⟩=some u0:=(HBw.out.cell (p:=⟨b,o+j * 3,none⟩) hb).trans q0;have y1:wr.cell? ⟨b,o+j * 3+1,none⟩=some u1:=(HBw.out.cell (p:=⟨b,o+j * 3+1,none⟩) hb).trans q1;have y2:wr.cell? ⟨b,o+j * 3+2,none⟩=some u2:=(HBw.out.cell (p:=⟨b,o+j * 3+2,none⟩) hb).trans q2;rw[<- HSj.out] at hL;have HL:=hid hL;clear q0 q1 q2 hL;go_wp2_with fail;refine(HL.out wr HBw.out).mono ?_;rintro e w3 ⟨rfl,hB3⟩;have HB3:=hid (HB.out.trans (hB3.mono HB.out.size));clear hB3 y0 y1 y2 x2;go_wp2;go_roundw
   case rel=>exact⟨j+1,S (j+1),rfl,rfl,by go_num,by omega,HS.out _ (by omega),hid rfl,HB3⟩
   case measure=>simp[sM];omega
  ·have j1:¬(j:Int)<(kn:Int):=by omega
   have HQ:=hid (show CkQ w (S kn) (.returned (.tuple #[.int .i64 0,.int .i64 s])) wr from⟨by rw[HSj.out,show j=kn by omega],HBw.out⟩)
   go_wp2;go_ret2;exact HQ.out
end Pt
end
section
open Go.RowKit
namespace Pt
theorem zkd:∀p:aw,jJ p->∀(v0 v1 v2:sQ) (ahead:Nat) (w:sH),ct w p v0 v1 v2->ahead+fZ p<=2048->sN Tryz.prog 171 #[.agg #[v0,v1,v2],.int .i64 2147483647,.int .i64 ahead] w (CkQ w (ahead+fZ p)):=by
 refine aw.ind fun op cls kids ih hO v0 v1 v2 ahead w hP hs=>?_
 unfold ct at hP;unfold jJ at hO;unfold fZ at hs⊢;obtain⟨rfl,⟨lo,lc,rfl,hl1,hl2⟩,ko,kc,rfl,hk1,hk2,_⟩:=hP;have h:=check_in lo ko cls.length lc kids.length kc op w ahead (fun j=>ahead+1+kk (kids.take j)) hk2 (by omega) (fun j _=>by have:=fj kids j;omega) (hid (by simp[kk])) (hid fun W hW=>?_) (hid fun j hj=>?_)
 ·have e:ahead+1+kk (kids.take kids.length)=ahead+(kk kids+1):=by rw[tB];omega
  rw[e] at h;exact h
 ·obtain⟨h1,_⟩:=hO
  rcases h1 with ⟨rfl,h2,h3⟩ | ⟨rfl,h2⟩
  ·rw[h2]
   exact zsz lo cls.length lc kc ko W cls rfl hl2 h3 (hl1.below hW)
  ·exact zsA lo lc kids.length kc ko W op hk2 h2
 ·obtain⟨b,o,h1,h2,u0,u1,u2,q0,q1,q2,hq⟩:=gh.at kids ko 0 j _ hk1 (sJ hj)
  rw[tR] at q0 q1 q2;refine⟨b,o,u0,u1,u2,h1,h2,q0,q1,q2,fun W hW=>?_⟩
  have e:=eu kids j _ (sJ hj);have e2:=fj kids (j+1);have:=ih _ (sU hj) (hO.2.mem (sU hj)) u0 u1 u2 (ahead+1+kk (kids.take j)) W (ct.below hW _ _ _ _ hq) (by omega)
  rw[show ahead+1+kk (kids.take j)+fZ kids[j]=ahead+1+kk (kids.take (j+1)) by omega] at this
  exact this
theorem zgl (p:aw) (hO:jJ p) (hs:fZ p<=2048) (v0 v1 v2:sQ) (w:sH) (hP:ct w p v0 v1 v2):sN Tryz.prog 148 #[.agg #[v0,v1,v2],.int .i64 2147483647] w fun e w'=>e= .returned (.int .i64 0)/\sI w.heap.size w w':=by
 have HC:=hid (fun(W:sH) (h:sI w.heap.size w W)=>zkd p hO v0 v1 v2 0 W (ct.below h _ _ _ _ hP) (by omega))
 clear hP;go_enter Tryz.func148,Tryz.ntmps148;go_wp2_with fail;refine(HC.out _ below_box).mono ?_;rintro e w2 ⟨rfl,hB2⟩;have HB:=hid (below_box.trans (hB2.mono (by simp)))
 clear hB2;go_wp2;go_ret;exact⟨rfl,HB.out⟩
theorem fG (p:aw) (hO:jJ p) (hs:fZ p<=2048) (v0 v1 v2:sQ) (w:sH) (hP:ct w p v0 v1 v2):sN Tryz.prog 111 #[.agg #[v0,v1,v2]] w fun e w'=>e= .returned (.bool true)/\sI w.heap.size w w':=by
 have HC:=hid (fun(W:sH) (h:sI w.heap.size w W)=>zgl p hO hs v0 v1 v2 W (ct.below h _ _ _ _ hP))
 clear hP;go_enter Tryz.func111,Tryz.ntmps111;go_wp2_with fail;refine(HC.out _ below_box).mono ?_;rintro e w2 ⟨rfl,hB2⟩;have HB:=hid (below_box.trans (hB2.mono (by simp)))
 clear hB2;go_wp2;go_ret;exact⟨rfl,HB.out⟩
def jY (L:List Nat):List sQ:=L.map fun(x:Nat)=>.int .i64 (x:Int)
open Classical in
noncomputable def gK (A:Nat->Prop) (n:Nat):List Nat:=(List.range n).filter fun i=>decide (A i)
theorem zrF (A:Nat->Prop):gK A 0=[]:=rfl
open Classical in
theorem kP (A:Nat->Prop) (n:Nat):gK A (n+1)=if A n then gK A n++[n] else gK A n:=by
 unfold gK;rw[List.range_succ,List.filter_append]
 by_cases h:A n
 ·simp[h]
 ·simp[h]
theorem zaD (A:Nat->Prop) (n:Nat):(gK A n).length<=n:=by
 unfold gK;exact sR (List.length_filter_le _ _) (by simp)
theorem zaC (A:Nat->Prop) (n x:Nat):x∈gK A n ↔ x<n/\A x:=by simp[gK]
theorem rf {A B:Nat->Prop} {n:Nat} (h:∀i,i<n->(A i ↔ B i)):gK A n=gK B n:=by
 unfold gK
 apply List.filter_congr
 intro i hi;rw[List.mem_range] at hi
 simp[h i hi]
def LsQ (w:sH) (L:List Nat) (e:tZ) (w':sH):Prop:=∃(vo:Option Addr) (vc:Nat),e= .returned (.slice vo L.length vc)/\w'.ownsRow w.heap.size 3 1 (.slice vo L.length vc) L.length (jY L)/\sI w.heap.size w w'
theorem zee (L:List Nat):∀v∈jY L,v.oneCell'=true:=fun v hv=>by
 unfold jY at hv;obtain⟨x,_,rfl⟩:=tm.1 hv
 rfl
theorem zlH (w:sH) (v:sQ) (T:t8):∀j u,[v][j]? =some u->(w.alloc (.cells #[v] T)).cell? ((⟨w.heap.size,0,none⟩:Addr).add j)=some u:=tI (cs:=#[v]) (heap_alloc_new w _)
theorem Tryz.info3:(Tryz.prog.info? 3).map (fun i=>(i.zero,i.size,i.bytes))=some (some (.int .i64 0),1,8):=by kernel_rfl
theorem Tryz.underInts:Tryz.prog.underlying 23=some (.slice 3):=by kernel_rfl
theorem qM {w wr w8:sH} {v:sQ} {o:Obj} {B n:Nat} {xs:List sQ} (hB:sI w.heap.size w wr) (hB0:B=w.heap.size) (own:wr.ownsRow B 3 1 v n xs) (gr:t6 (wr.alloc o) w8 v.ownBlock):sI w.heap.size w w8:=by
 subst hB0;have hs:=hB.size;have h1:sI w.heap.size w (wr.alloc o):=hB.alloc hs _;refine h1.grown gr (by simp;omega) fun k hk=>?_
 rcases own.2 with ⟨rfl,_⟩ | ⟨g,cap,cur,rfl,h2,_⟩
 ·cases hk
 ·cases hk;exact h2
theorem zeV (p:aw) (hO:jJ p) (hs:fZ p<=2048) (v0 v1 v2:sQ) (c:List Int) (co:Option Addr) (cn cc:Nat) (hcn:cn=c.length) (hc:cn<=90000) (w:sH) (hP:ct w p v0 v1 v2) (hI:RdI w co c):
  sN Tryz.prog 112 #[.agg #[v0,v1,v2],.slice co cn cc] w (LsQ w (gK (fun i=>aN c p i cn) (cn+1))):=by
 have HG:=hid (fun(W:sH) (h:sI w.heap.size w W)=>fG p hO hs v0 v1 v2 W (ct.below h _ _ _ _ hP))
 have HL:=hid (fun(W:sH) (h:sI w.heap.size w W)=>qV c cn ((cn+1) / 64) hcn hc rfl co cc p hO.wf v0 v1 v2 W (ct.below h _ _ _ _ hP) (hI.below h))
 clear hP hI hcn;obtain⟨i0,hi3,hz0,hz1,hz2⟩:=tL Tryz.info3;have HI3:=hid (sT hi3 (sT hz0 (sT hz1 hz2)));clear hi3 hz0 hz1 hz2;obtain⟨m,hm⟩:∃m,m=(cn+1) / 64:=⟨_,rfl⟩;rw[<- hm] at HL;have HMm:=hid hm;clear hm;go_enter Tryz.func112,Tryz.ntmps112;go_wp2_with fail;obtain⟨w1,hw1⟩:∃w1,w1=w.alloc (.cells #[v0,v1,v2] 105):=⟨_,rfl⟩;have hb1:sI w.heap.size w w1:=by rw[hw1];exact below_box
 have x0:w1.cell? ⟨w.heap.size,0,none⟩=some v0:=by rw[hw1];simp[go_sem]
 have x1:w1.cell? ⟨w.heap.size,1,none⟩=some v1:=by rw[hw1];simp[go_sem]
 have x2:w1.cell? ⟨w.heap.size,2,none⟩=some v2:=by rw[hw1];simp[go_sem]
 have hs1:w.heap.size<w1.heap.size:=by rw[hw1];simp
 rw[<- hw1];have HB1:=hid hb1;clear hw1 hb1;refine(HG.out w1 HB1.out).mono ?_;rintro e w2 ⟨rfl,hB2⟩;have y0:=(hB2.cell (p:=⟨w.heap.size,0,none⟩) hs1).trans x0;have y1:=(hB2.cell (p:=⟨w.heap.size,1,none⟩) hs1).trans x1;have y2:=(hB2.cell (p:=⟨w.heap.size,2,none⟩) hs1).trans x2;have HB2:=hid (HB1.out.trans (hB2.mono HB1.out.size));clear hB2 x0 x1 x2;go_wp2_with fail;refine(HL.out w2 HB2.out).mono ?_;rintro e w3 ⟨W,⟨g,cap,bs,rfl,hM3,hB3⟩,hR3⟩;have HM3:=hid hM3;have HB3:=hid (HB2.out.trans (hB3.mono HB2.out.size));have HR3:=hid hR3;clear hM3 hB3 hR3 y0 y1 y2;go_wp2;go_loopw [6,7] (fun x y wr=>∃(i n:Nat) (vo:Option Addr) (vc:Nat),x= .slice vo n vc/\y= .int .i64 i/\i<=cn+1/\n<=i/\Hid (n=(gK (fun i=>aN c p i cn) i).length)/\Hid (wr.ownsRow w3.heap.size 3 1 (.slice vo n vc) n (jY (gK (fun i=>aN c p i cn) i)))/\Hid (sI w3.heap.size w3 wr)) (fun _ y _=>cn+1 - (sM y).toNat)
 case atStart=>exact⟨0,0,none,0,rfl,rfl,sK _,tu _,hid rfl,hid (by rw[zrF];exact tt _ _ _ _),hid (td _ _)⟩
 case round=>
  obtain⟨i,n,vo,vc,rfl,rfl,hi,hni,HN,HO,HB⟩:=hrel
  by_cases hlt:i<cn+1
  ·have i0':(0:Int)<=(i:Int):=by omega
   have i1:(i:Int)<=(cn:Int):=by omega
   have i2:(i:Int)<(cn:Int)+1:=by omega
   have HM:=hid (HM3.out.below HB.out);have c1:=HM.out.cell i hlt;have hq:cn / 64<m+1:=by have:=HMm.out;have:=sL (c:=64) (show cn<=cn+1 by omega);omega
   have HH:=hid (nI (bs i) (m+1) cn _ wr (HM.out.row i hlt) hq (HM.out.bd i _ hlt hq) (by omega))
   have HRi:=hid (HR3.out i cn hlt (by omega))
   clear hq;go_wp2_with fail;refine HH.out.mono ?_;rintro e w4 ⟨rfl,e4⟩;obtain rfl:=e4.symm
   by_cases hb:bt (W i) cn=true
   ·rw[hb]
    have HF:=hid (show gK (fun i=>aN c p i cn) (i+1)=gK (fun i=>aN c p i cn) i++[i] from by rw[kP,if_pos (HRi.out.1 hb)])
    clear hb c1 HH;go_wp2_with (at_builtin;refine tp _ rfl _ _ 23 rfl w3.heap.size 3 i0 (.int .i64 0) 1 8 Tryz.underInts HI3.out.1 HI3.out.2.1 HI3.out.2.2.1 HI3.out.2.2.2 rfl (by decide) (.slice vo n vc) n (jY (gK (fun i=>aN c p i cn) i)) rfl (HO.out.alloc _) ⟨wr.heap.size,0,none⟩ 1 1 [.int .i64 (i:Int)] rfl rfl (zlH wr _ _) (zee [i]) (by decide) (by unfold maxLen;omega) (by omega) (by have:=HB.out.size;simp;omega) (wr.heap.size+1) (by simp) ?_;intro g8 c8 w8 o8 gr8 hl8 hlt8;have HO8:=hid o8;have HB8:=hid (qM HB.out rfl HO.out gr8);clear o8 gr8 hl8 hlt8)
    go_roundw
    case rel=>exact⟨i+1,n+1,_,_,rfl,by go_num,by omega,by omega,hid (by rw[HF.out,tP,HN.out];rfl),hid (by rw[HF.out];unfold jY;rw[tX];exact HO8.out),HB8⟩
    case measure=>simp[sM];omega
   ·have hb':bt (W i) cn=false:=by simpa using hb
    rw[hb'];have HF:=hid (show gK (fun i=>aN c p i cn) (i+1)=gK (fun i=>aN c p i cn) i from by rw[kP,if_neg (fun h=>hb (HRi.out.2 h))])
    clear hb hb' c1 HH;go_wp2;go_roundw
    case rel=>exact⟨i+1,n,vo,vc,rfl,by go_num,by omega,by omega,hid (by rw[HF.out];exact HN.out),hid (by rw[HF.out];exact HO.out),HB⟩
    case measure=>simp[sM];omega
  ·have i1:¬(i:Int)<=(cn:Int):=by omega
   have HQ:=hid (show LsQ w (gK (fun i=>aN c p i cn) (cn+1)) (.returned (.slice vo n vc)) wr from by
    have e:i=cn+1:=by omega
    have h1:=HN.out;have h2:=HO.out;rw[e] at h1 h2;refine⟨vo,vc,by rw[h1],?_,HB3.out.trans (HB.out.mono HB3.out.size)⟩
    rw[h1] at h2;exact⟨h2.1,h2.2.imp (fun h=>h) fun⟨g,cap,cur,a1,a2,a3⟩=>⟨g,cap,cur,a1,sR HB3.out.size a2,a3⟩⟩)
   go_wp2;go_ret;exact HQ.out
end Pt
end
section
open Go.RowKit
namespace Pt
theorem zet (p:aw) (hO:jJ p) (hs:fZ p<=2048) (v0 v1 v2:sQ) (c:List Int) (co:Option Addr) (cn cc:Nat) (hcn:cn=c.length) (hc:cn<=90000) (w:sH) (hP:ct w p v0 v1 v2) (hI:RdI w co c):
  sN Tryz.prog 113 #[.agg #[v0,v1,v2],.slice co cn cc] w (LsQ w (gK (fun i=>aN c p 0 i) (cn+1))):=by
 have HG:=hid (fun(W:sH) (h:sI w.heap.size w W)=>fG p hO hs v0 v1 v2 W (ct.below h _ _ _ _ hP))
 have HL:=hid (fun(W:sH) (h:sI w.heap.size w W)=>qV c cn ((cn+1) / 64) hcn hc rfl co cc p hO.wf v0 v1 v2 W (ct.below h _ _ _ _ hP) (hI.below h))
 clear hP hI hcn;obtain⟨i0,hi3,hz0,hz1,hz2⟩:=tL Tryz.info3;have HI3:=hid (sT hi3 (sT hz0 (sT hz1 hz2)));clear hi3 hz0 hz1 hz2;obtain⟨m,hm⟩:∃m,m=(cn+1) / 64:=⟨_,rfl⟩;rw[<- hm] at HL;have HMm:=hid hm;clear hm;go_enter Tryz.func113,Tryz.ntmps113;go_wp2_with fail;obtain⟨w1,hw1⟩:∃w1,w1=w.alloc (.cells #[v0,v1,v2] 105):=⟨_,rfl⟩;have hb1:sI w.heap.size w w1:=by rw[hw1];exact below_box
 have x0:w1.cell? ⟨w.heap.size,0,none⟩=some v0:=by rw[hw1];simp[go_sem]
 have x1:w1.cell? ⟨w.heap.size,1,none⟩=some v1:=by rw[hw1];simp[go_sem]
 have x2:w1.cell? ⟨w.heap.size,2,none⟩=some v2:=by rw[hw1];simp[go_sem]
 have hs1:w.heap.size<w1.heap.size:=by rw[hw1];simp
 rw[<- hw1];have HB1:=hid hb1;clear hw1 hb1;refine(HG.out w1 HB1.out).mono ?_;rintro e w2 ⟨rfl,hB2⟩;have y0:=(hB2.cell (p:=⟨w.heap.size,0,none⟩) hs1).trans x0;have y1:=(hB2.cell (p:=⟨w.heap.size,1,none⟩) hs1).trans x1;have y2:=(hB2.cell (p:=⟨w.heap.size,2,none⟩) hs1).trans x2;have HB2:=hid (HB1.out.trans (hB2.mono HB1.out.size));clear hB2 x0 x1 x2;go_wp2_with fail;refine(HL.out w2 HB2.out).mono ?_;rintro e w3 ⟨W,⟨g,cap,bs,rfl,hM3,hB3⟩,hR3⟩;have HM3:=hid hM3;have z1:=hM3.cell 0 (by omega)
 have HB3:=hid (HB2.out.trans (hB3.mono HB2.out.size));have HR3:=hid hR3;clear hM3 hB3 hR3 y0 y1 y2;have z2:(0:Int)<(cn:Int)+1:=by omega
 have z3:0<cn+1:=by omega
 go_wp2;clear z1 z2 z3;go_loopw [6,7] (fun x y wr=>∃(i n:Nat) (vo:Option Addr) (vc:Nat),x= .slice vo n vc/\y= .int .i64 i/\i<=cn+1/\n<=i/\Hid (n=(gK (fun i=>aN c p 0 i) i).length)/\Hid (wr.ownsRow w3.heap.size 3 1 (.slice vo n vc) n (jY (gK (fun i=>aN c p 0 i) i)))/\Hid (sI w3.heap.size w3 wr)) (fun _ y _=>cn+1 - (sM y).toNat)
 case atStart=>exact⟨0,0,none,0,rfl,rfl,sK _,tu _,hid rfl,hid (by rw[zrF];exact tt _ _ _ _),hid (td _ _)⟩
 case round=>
  obtain⟨i,n,vo,vc,rfl,rfl,hi,hni,HN,HO,HB⟩:=hrel
  by_cases hlt:i<cn+1
  ·have i0':(0:Int)<=(i:Int):=by omega
   have i1:(i:Int)<=(cn:Int):=by omega
   have i2:(i:Int)<(cn:Int)+1:=by omega
   have HM:=hid (HM3.out.below HB.out);have hq:i / 64<m+1:=by have:=HMm.out;have:=sL (c:=64) (show i<=cn+1 by omega);omega
   have HH:=hid (nI (bs 0) (m+1) i _ wr (HM.out.row 0 (by omega)) hq (HM.out.bd 0 _ (by omega) hq) (by omega))
   have HRi:=hid (HR3.out 0 i (by omega) hlt)
   clear hq;go_wp2_with fail;refine HH.out.mono ?_;rintro e w4 ⟨rfl,e4⟩;obtain rfl:=e4.symm
   by_cases hb:bt (W 0) i=true
   ·rw[hb]
    have HF:=hid (show gK (fun i=>aN c p 0 i) (i+1)=gK (fun i=>aN c p 0 i) i++[i] from by rw[kP,if_pos (HRi.out.1 hb)])
    clear hb HH;go_wp2_with (at_builtin;refine tp _ rfl _ _ 23 rfl w3.heap.size 3 i0 (.int .i64 0) 1 8 Tryz.underInts HI3.out.1 HI3.out.2.1 HI3.out.2.2.1 HI3.out.2.2.2 rfl (by decide) (.slice vo n vc) n (jY (gK (fun i=>aN c p 0 i) i)) rfl (HO.out.alloc _) ⟨wr.heap.size,0,none⟩ 1 1 [.int .i64 (i:Int)] rfl rfl (zlH wr _ _) (zee [i]) (by decide) (by unfold maxLen;omega) (by omega) (by have:=HB.out.size;simp;omega) (wr.heap.size+1) (by simp) ?_;intro g8 c8 w8 o8 gr8 hl8 hlt8;have HO8:=hid o8;have HB8:=hid (qM HB.out rfl HO.out gr8);clear o8 gr8 hl8 hlt8)
    go_roundw
    case rel=>exact⟨i+1,n+1,_,_,rfl,by go_num,by omega,by omega,hid (by rw[HF.out,tP,HN.out];rfl),hid (by rw[HF.out];unfold jY;rw[tX];exact HO8.out),HB8⟩
    case measure=>simp[sM];omega
   ·have hb':bt (W 0) i=false:=by simpa using hb
    rw[hb'];have HF:=hid (show gK (fun i=>aN c p 0 i) (i+1)=gK (fun i=>aN c p 0 i) i from by rw[kP,if_neg (fun h=>hb (HRi.out.2 h))])
    clear hb hb' HH;go_wp2;go_roundw
    case rel=>exact⟨i+1,n,vo,vc,rfl,by go_num,by omega,by omega,hid (by rw[HF.out];exact HN.out),hid (by rw[HF.out];exact HO.out),HB⟩
    case measure=>simp[sM];omega
  ·have i1:¬(i:Int)<=(cn:Int):=by omega
   have HQ:=hid (show LsQ w (gK (fun i=>aN c p 0 i) (cn+1)) (.returned (.slice vo n vc)) wr from by
    have e:i=cn+1:=by omega
    have h1:=HN.out;have h2:=HO.out;rw[e] at h1 h2;refine⟨vo,vc,by rw[h1],?_,HB3.out.trans (HB.out.mono HB3.out.size)⟩
    rw[h1] at h2;exact⟨h2.1,h2.2.imp (fun h=>h) fun⟨g,cap,cur,a1,a2,a3⟩=>⟨g,cap,cur,a1,sR HB3.out.size a2,a3⟩⟩)
   go_wp2;go_ret;exact HQ.out
theorem zhJ (lo:Option Addr) (n lc:Nat) (l:List Int) (c:Int) (w:sH) (hl:RdI w lo l) (hn:n=l.length) (hm:n<=1000000):
  sN Tryz.prog 114 #[.slice lo n lc,.int .i64 c] w fun e w'=>e= .returned (.bool (jW l c))/\w'=w:=by
 have HL:=hid hl;have HN:=hid hn;clear hl hn;go_enter Tryz.func114,Tryz.ntmps114;go_wp2;go_loopw [5] (fun y wr=>∃i:Nat,y= .int .i64 i/\i<=n/\wr=w/\Hid (∀z∈l.take i,z≠c)) (fun y _=>n - (sM y).toNat)
 case atStart=>exact⟨0,rfl,sK _,rfl,hid (by simp)⟩
 case round=>
  obtain⟨i,rfl,hi,rfl,HT⟩:=hrel
  by_cases hlt:i<n
  ·have i0:(0:Int)<=(i:Int):=by omega
   have i1:(i:Int)<(n:Int):=by omega
   have hil:i<l.length:=by have:=HN.out;omega
   obtain⟨a,rfl,ha,c1⟩:=HL.out.at hil;obtain⟨z,hz⟩:∃z,z=l[i]:=⟨_,rfl⟩;rw[<- hz] at c1;have HZ:=hid hz;clear hz
   by_cases e:z=c
   ·subst e
    have b1:(z==z)=true:=by simp
    have HE:=hid (show jW l z=true from(cF l z).2 (by rw[HZ.out];exact sU _))
    go_wp2;go_ret;exact⟨by rw[HE.out];rfl,rfl⟩
   ·have b1:(z==c)=false:=by simpa using e
    have HE:=hid e;clear e;go_wp2;go_roundw
    case rel=>
     refine⟨i+1,by go_num,by omega,trivial,hid fun x hx=>?_⟩
     rw[ti hil,tW] at hx
     rcases hx with hx | hx
     ·exact HT.out x hx
     ·rw[tN] at hx
      rw[hx,<- HZ.out];exact HE.out
    case measure=>simp[sM];omega
  ·have i1:¬(i:Int)<(n:Int):=by omega
   have HE:=hid (show jW l c=false from by
    cases h:jW l c with
    | false=>rfl
    | true=>exact absurd rfl (HT.out c (by rw[tD (by have:=HN.out;omega)];exact(cF l c).1 h)))
   go_wp2;go_ret;exact⟨by rw[HE.out];rfl,rfl⟩
theorem nh {w:sH} {B:Nat} {vo:Option Addr} {vc n:Nat} {L:List Nat} (h:w.ownsRow B 3 1 (.slice vo n vc) n (jY L)) (hn:n=L.length):RdI w vo (L.map fun(x:Nat)=>(x:Int)):=fun k z hk=>by
 have hk1:=(sO.1 hk).1;rw[tE] at hk1
 rcases h.2 with ⟨h1,h2⟩ | ⟨g,cap,cur,h1,h2,h3,h4,h5,h6,h7⟩
 ·omega
 ·cases h1
  refine⟨⟨g,0,none⟩,rfl,ae h3,?_⟩;rw[Addr.add_lit,tR,tU w g k cur _ _ h3];have e:(jY L)[k]? =some (.int .i64 z):=by
   unfold jY;rw[List.getElem?_map] at hk⊢
   cases hl:L[k]? with
   | none=>rw[hl] at hk;cases hk
   | some y=>rw[hl] at hk;simp at hk;simp[hk]
  rw[<- h7,ta (by omega)] at e
  simpa using e
end Pt
end
section
open Go.RowKit
namespace Pt
structure Rl where
 brk:Bool
 st:Bool
 en:Bool
 left:aw
 right:aw
def App (r:Rl) (c:List Int) (k:Nat):Prop:=(∃i,i<=k/\aN c r.left i k)/\(∃j,k<=j/\j<=c.length/\aN c r.right k j)/\(r.st=true->aN c r.left 0 k)/\(r.en=true->aN c r.right k c.length)
def zgz (r:Rl):Prop:=jJ r.left/\jJ r.right/\fZ r.left<=2048/\fZ r.right<=2048
def TlQ (w:sH) (A:Prop) (e:tZ) (w':sH):Prop:=∃b:Bool,e= .returned (.bool b)/\(b=true ↔ A)/\sI w.heap.size w w'
theorem oA {w:sH} {g o n:Nat} {c:List Int} (h:RdI w (some ⟨g,o,none⟩) c):RdI w (some ⟨g,o,none⟩) (c.take n):=fun k z hk=>by
 have h1:=(sO.1 hk).1;rw[tS] at h1;rw[ta (by omega)] at hk
 exact h k z hk
theorem oB {w:sH} {g o n:Nat} {c:List Int} (h:RdI w (some ⟨g,o,none⟩) c):RdI w (some ⟨g,o+n,none⟩) (c.drop n):=fun k z hk=>by
 rw[List.getElem?_drop] at hk;obtain⟨a,h1,h2,h3⟩:=h (n+k) z hk
 cases h1
 refine⟨_,rfl,h2,?_⟩;rw[Addr.add_lit] at h3⊢;rw[<- h3]
 congr 2
 omega
set_option maxRecDepth 100000 in
theorem zeI (r:Rl) (hr:zgz r) (l0 l1 l2 r0 r1 r2:sQ) (c:List Int) (g o cn cc k:Nat) (hcn:cn=c.length) (hc:cn<=90000) (hcc:cn<=cc) (hk:k<=cn) (w:sH) (hL:ct w r.left l0 l1 l2) (hR:ct w r.right r0 r1 r2) (hI:RdI w (some ⟨g,o,none⟩) c):
  sN Tryz.prog 76 #[.agg #[.bool r.brk,.bool r.st,.bool r.en,l0,l1,l2,r0,r1,r2],.slice (some ⟨g,o,none⟩) cn cc,.int .i64 k] w (TlQ w (App r c k)):=by
 obtain⟨o1,o2,s1,s2⟩:=hr;have HG1:=hid (fun(W:sH) (h:sI w.heap.size w W)=>fG r.left o1 s1 l0 l1 l2 W (ct.below h _ _ _ _ hL))
 have HG2:=hid (fun(W:sH) (h:sI w.heap.size w W)=>fG r.right o2 s2 r0 r1 r2 W (ct.below h _ _ _ _ hR))
 have HS:=hid (fun(W:sH) (h:sI w.heap.size w W)=>zeV r.left o1 s1 l0 l1 l2 (c.take k) (some ⟨g,o,none⟩) k cc (by rw[tS];omega) (by omega) W (ct.below h _ _ _ _ hL) (oA (hI.below h)))
 have HE:=hid (fun(W:sH) (h:sI w.heap.size w W)=>zet r.right o2 s2 r0 r1 r2 (c.drop k) (if cc=k then some ⟨g,o,none⟩ else some ⟨g,o+k,none⟩) (cn - k) (cc - k) (by rw[tT];omega) (by omega) W (ct.below h _ _ _ _ hR) (by
  split
  ·intro j z hj
   have h1:=(sO.1 hj).1;rw[tT] at h1;omega
  ·exact oB (hI.below h)))
 have HSA:=hid (show gK (fun i=>aN (c.take k) r.left i k) (k+1)=gK (fun i=>aN c r.left i k) (k+1) from rf fun i _=>zna c r.left k i k (by omega) (tu _))
 have HEA:=hid (show gK (fun i=>aN (c.drop k) r.right 0 i) (cn - k+1)=gK (fun i=>aN c r.right k (k+i)) (cn - k+1) from rf fun i hi=>by have:=znb c r.right k 0 i (by omega) (by omega);simpa using this)
 have HCN:=hid hcn;clear hL hR hI hcn o1 o2 s1 s2;have k0:(0:Int)<=(k:Int):=by omega
 have k1:(k:Int)<=(cn:Int):=by omega
 have k2:(k:Int)<=(cc:Int):=by omega
 have k3:(cn:Int)<=(cc:Int):=by omega
 have d1:decide ((k:Int)<0)=false:=decide_eq_false (by omega)
 have d2:decide ((cn:Int)<(k:Int))=false:=decide_eq_false (by omega)
 have d3:decide (cn<k)=false:=decide_eq_false (by omega)
 obtain⟨rb,rs,re,rl,rr⟩:=r;go_enter Tryz.func76,Tryz.ntmps76;go_wp2_with fail;obtain⟨w1,hw1⟩:∃w1,w1=w.alloc (.cells #[.bool rb,.bool rs,.bool re,l0,l1,l2,r0,r1,r2] 107):=⟨_,rfl⟩;have hb1:sI w.heap.size w w1:=by rw[hw1];exact below_box
 have hs1:w.heap.size<w1.heap.size:=by rw[hw1];simp
 have HX1:=hid (fun(W:sH) (h:sI w1.heap.size w1 W)=>show W.cell? ⟨w.heap.size,3,none⟩=some l0/\W.cell? ⟨w.heap.size,4,none⟩=some l1/\W.cell? ⟨w.heap.size,5,none⟩=some l2 from
  ⟨(h.cell (p:=⟨w.heap.size,3,none⟩) hs1).trans (by rw[hw1];simp[go_sem]),(h.cell (p:=⟨w.heap.size,4,none⟩) hs1).trans (by rw[hw1];simp[go_sem]),(h.cell (p:=⟨w.heap.size,5,none⟩) hs1).trans (by rw[hw1];simp[go_sem])⟩)
 have HX2:=hid (fun(W:sH) (h:sI w1.heap.size w1 W)=>show W.cell? ⟨w.heap.size,6,none⟩=some r0/\W.cell? ⟨w.heap.size,7,none⟩=some r1/\W.cell? ⟨w.heap.size,8,none⟩=some r2 from
  ⟨(h.cell (p:=⟨w.heap.size,6,none⟩) hs1).trans (by rw[hw1];simp[go_sem]),(h.cell (p:=⟨w.heap.size,7,none⟩) hs1).trans (by rw[hw1];simp[go_sem]),(h.cell (p:=⟨w.heap.size,8,none⟩) hs1).trans (by rw[hw1];simp[go_sem])⟩)
 have HX3:=hid (fun(W:sH) (h:sI w1.heap.size w1 W)=>show W.cell? ⟨w.heap.size,1,none⟩=some (.bool rs)/\W.cell? ⟨w.heap.size,2,none⟩=some (.bool re) from
  ⟨(h.cell (p:=⟨w.heap.size,1,none⟩) hs1).trans (by rw[hw1];simp[go_sem]),(h.cell (p:=⟨w.heap.size,2,none⟩) hs1).trans (by rw[hw1];simp[go_sem])⟩)
 rw[<- hw1];have HB1:=hid hb1;clear hw1 hb1;refine(HG1.out w1 HB1.out).mono ?_;rintro e w2 ⟨rfl,hB2⟩;have HB2:=hid hB2;obtain⟨x6,x7,x8⟩:=HX2.out w2 hB2;clear hB2;go_wp2_with fail;refine(HG2.out w2 (HB1.out.trans (HB2.out.mono HB1.out.size))).mono ?_;rintro e w3 ⟨rfl,hB3⟩;have HB3:=hid (HB2.out.trans (hB3.mono HB2.out.size));clear hB3 x6 x7 x8;go_wp2_with fail;refine ak [(0,true),(1,true),(2,true),(3,true),(4,true),(5,false),(6,false)] (fun W=>W.cell? ⟨w.heap.size,3,none⟩=some l0/\W.cell? ⟨w.heap.size,4,none⟩=some l1/\W.cell? ⟨w.heap.size,5,none⟩=some l2) (fun _=>false) (by kernel_rfl) (by kernel_rfl) (fun j hj=>by cases hj) rfl (by kernel_rfl) (HX1.out _ (show sI w1.heap.size w1 w3.drew from⟨HB3.out.os,HB3.out.tape,HB3.out.output,HB3.out.size,HB3.out.block⟩)) ?_
 iterate 5 (refine au ?_ rfl (by kernel_rfl) (fun w' hS=>?_) ?_;(rotate_left;(obtain⟨s1,s2,s3⟩:=hS;go_simp;with_reducible rfl);rotate_left))
 refine am rfl (by kernel_rfl) fun KK hKK=>?_
 go_simp;have HB3d:=hid (show sI w1.heap.size w1 w3.drew from⟨HB3.out.os,HB3.out.tape,HB3.out.output,HB3.out.size,HB3.out.block⟩)
 refine(HS.out w3.drew (HB1.out.trans (HB3d.out.mono HB1.out.size))).mono ?_;rintro e w4 ⟨vo,vc,rfl,hO4,hB4⟩;have HB4:=hid (show sI w1.heap.size w1 w4 from HB3d.out.trans (hB4.mono HB3d.out.size))
 rw[HSA.out] at hO4⊢;obtain⟨L1,hL1⟩:∃L,L=gK (fun i=>aN c rl i k) (k+1):=⟨_,rfl⟩
 rw[<- hL1] at hO4⊢;have HL1:=hid hL1;obtain⟨n1,hn1⟩:∃n,n=L1.length:=⟨_,rfl⟩;rw[<- hn1] at hO4⊢;have HN1:=hid hn1;have HR1:=hid (nh hO4 hn1);have q1:n1<=k+1:=by rw[hn1,hL1];exact zaD _ _
 clear hO4 hB4 hL1 hn1;refine hKK _ _ (fun _=>HX1.out _ HB4.out) ?_
 clear hKK;refine am rfl (by kernel_rfl) fun KK hKK=>?_
 go_simp;refine hKK _ _ (fun _=>HX1.out _ HB4.out) ?_
 clear hKK;refine aP (sP ?_);go_wp2_with fail;refine ak [(0,true),(1,true),(2,true),(3,true),(4,true),(5,false),(6,false)] (fun W=>W.cell? ⟨w.heap.size,6,none⟩=some r0/\W.cell? ⟨w.heap.size,7,none⟩=some r1/\W.cell? ⟨w.heap.size,8,none⟩=some r2) (fun _=>false) (by kernel_rfl) (by kernel_rfl) (fun j hj=>by cases hj) rfl (by kernel_rfl) (HX2.out _ (show sI w1.heap.size w1 w4.drew from⟨HB4.out.os,HB4.out.tape,HB4.out.output,HB4.out.size,HB4.out.block⟩)) ?_
 iterate 5 (refine au ?_ rfl (by kernel_rfl) (fun w' hS=>?_) ?_;(rotate_left;(obtain⟨s1,s2,s3⟩:=hS;go_simp;with_reducible rfl);rotate_left))
 refine am rfl (by kernel_rfl) fun KK hKK=>?_
 go_simp;have HB4d:=hid (show sI w1.heap.size w1 w4.drew from⟨HB4.out.os,HB4.out.tape,HB4.out.output,HB4.out.size,HB4.out.block⟩)
 obtain⟨ao,hao⟩:∃ao,ao=(if cc=k then some (⟨g,o,none⟩:Addr) else some ⟨g,o+k,none⟩):=⟨_,rfl⟩;rw[<- hao] at HE⊢;clear hao;refine(HE.out w4.drew (HB1.out.trans (HB4d.out.mono HB1.out.size))).mono ?_;rintro e w5 ⟨uo,uc,rfl,hO5,hB5⟩;have HB5':=hid (show sI w4.heap.size w4 w5 from⟨hB5.os,hB5.tape,hB5.output,hB5.size,hB5.block⟩)
 have HB5:=hid (show sI w1.heap.size w1 w5 from HB4d.out.trans (hB5.mono HB4d.out.size))
 rw[HEA.out] at hO5⊢;obtain⟨L2,hL2⟩:∃L,L=gK (fun i=>aN c rr k (k+i)) (cn - k+1):=⟨_,rfl⟩
 rw[<- hL2] at hO5⊢;have HL2:=hid hL2;obtain⟨n2,hn2⟩:∃n,n=L2.length:=⟨_,rfl⟩;rw[<- hn2] at hO5⊢;have HN2:=hid hn2;have HR2:=hid (nh hO5 hn2);have q2:n2<=cn - k+1:=by rw[hn2,hL2];exact zaD _ _
 clear hO5 hB5 hL2 hn2;refine hKK _ _ (fun _=>HX2.out _ HB5.out) ?_
 clear hKK;refine am rfl (by kernel_rfl) fun KK hKK=>?_
 go_simp;refine hKK _ _ (fun _=>HX2.out _ HB5.out) ?_
 clear hKK;refine aP (sP ?_);clear d1 d2 d3 HG1 HG2 HS HE HSA HEA HB2 HB3 HB3d HB4d;have HBw:=hid (HB1.out.trans (HB5.out.mono HB1.out.size));have HM1:=hid (fun(x:Nat)=>show x∈L1 ↔ x<k+1/\aN c rl x k by rw[HL1.out];exact zaC _ _ _)
 have HM2:=hid (fun(x:Nat)=>show x∈L2 ↔ x<cn - k+1/\aN c rr k (k+x) by rw[HL2.out];exact zaC _ _ _)
 clear HL1 HL2;obtain⟨y1,y2⟩:=HX3.out _ HB5.out
 by_cases z1:n1=0
 ·have HA:=hid (show ¬App ⟨rb,rs,re,rl,rr⟩ c k from fun⟨⟨i,h1,h2⟩,_⟩=>by
   have h3:=(HM1.out i).2 ⟨by omega,h2⟩
   rw[tC.1 (HN1.out.symm.trans z1)] at h3
   cases h3)
  subst z1;go_wp2;go_ret;exact⟨false,rfl,by simp[HA.out],HBw.out⟩
 have z1':((n1:Int)==0)=false:=by simpa using z1
 have HZ1:=hid z1;clear z1
 by_cases z2:n2=0
 ·have HA:=hid (show ¬App ⟨rb,rs,re,rl,rr⟩ c k from fun⟨_,⟨j,h1,h2,h3⟩,_⟩=>by
   have h4:=(HM2.out (j - k)).2 ⟨by have:=HCN.out;omega,by rw[tK h1];exact h3⟩
   rw[tC.1 (HN2.out.symm.trans z2)] at h4
   cases h4)
  subst z2;go_wp2;go_ret;exact⟨false,rfl,by simp[HA.out],HBw.out⟩
 have z2':((n2:Int)==0)=false:=by simpa using z2
 have HZ2:=hid z2;clear z2;have HC1:=hid (show ∃i,i<=k/\aN c rl i k from by
  obtain⟨x,hx⟩:=tk (l:=L1) (by have:=HN1.out;have:=HZ1.out;omega)
  have:=(HM1.out x).1 hx;exact⟨x,by omega,this.2⟩)
 have HC2:=hid (show ∃j,k<=j/\j<=c.length/\aN c rr k j from by
  obtain⟨x,hx⟩:=tk (l:=L2) (by have:=HN2.out;have:=HZ2.out;omega)
  have:=(HM2.out x).1 hx;exact⟨k+x,by omega,by have:=HCN.out;omega,this.2⟩)
 have HIn1:=hid (fun(W:sH) (h:sI w5.heap.size w5 W)=>zhJ vo n1 vc _ 0 W ((HR1.out.below HB5'.out).below h) (by rw[tE];exact HN1.out) (by omega))
 have HIn2:=hid (fun(W:sH) (h:sI w5.heap.size w5 W)=>zhJ uo n2 uc _ ((cn:Int) - (k:Int)) W (HR2.out.below h) (by rw[tE];exact HN2.out) (by omega))
 have HI1:=hid (show jW (L1.map fun(x:Nat)=>(x:Int)) 0=true ↔ aN c rl 0 k from by
  rw[cF]
  constructor
  ·intro h
   obtain⟨x,h1,h2⟩:=tm.1 h;have e:x=0:=by omega
   exact e ▸ ((HM1.out x).1 h1).2
  ·intro h
   exact tm.2 ⟨0,(HM1.out 0).2 ⟨by omega,h⟩,rfl⟩)
 have HI2:=hid (show jW (L2.map fun(x:Nat)=>(x:Int)) ((cn:Int) - (k:Int))=true ↔ aN c rr k c.length from by
  rw[cF]
  constructor
  ·intro h
   obtain⟨x,h1,h2⟩:=tm.1 h;have e:k+x=c.length:=by have:=HCN.out;omega
   exact e ▸ ((HM2.out x).1 h1).2
  ·intro h
   refine tm.2 ⟨cn - k,(HM2.out (cn - k)).2 ⟨by omega,?_⟩,by omega⟩
   rw[tK hk,HCN.out];exact h)
 clear HM1 HM2 HR1 HR2 HN1 HN2 HX1 HX2;obtain⟨b1,hb1⟩:∃b,b=jW (L1.map fun(x:Nat)=>(x:Int)) 0:=⟨_,rfl⟩
 obtain⟨b2,hb2⟩:∃b,b=jW (L2.map fun(x:Nat)=>(x:Int)) ((cn:Int) - (k:Int)):=⟨_,rfl⟩
 rw[<- hb1] at HIn1 HI1;rw[<- hb2] at HIn2 HI2;clear hb1 hb2;have HQ:=hid (show App ⟨rb,rs,re,rl,rr⟩ c k ↔ ((rs=true->b1=true)/\(re=true->b2=true)) from by
  unfold App
  simp only[]
  rw[<- HI1.out,<- HI2.out];exact⟨fun h=>⟨h.2.2.1,h.2.2.2⟩,fun h=>⟨HC1.out,HC2.out,h.1,h.2⟩⟩)
 have e9:tf.wrap ((cn:Int) - (k:Int))=(cn:Int) - (k:Int):=by unfold sY sZ sS;simp;omega
 cases rs with
 | false=>
  cases re with
  | false=>
   go_wp2;go_ret;exact⟨true,rfl,by simp[HQ.out],HBw.out⟩
  | true=>
   go_wp2_with fail;refine(HIn2.out w5 (td _ _)).mono ?_;rintro e w6 ⟨rfl,e6⟩;obtain rfl:=e6.symm;go_wp2;go_ret;exact⟨b2,rfl,by simp[HQ.out],HBw.out⟩
 | true=>
  go_wp2_with fail;refine(HIn1.out w5 (td _ _)).mono ?_;rintro e w6 ⟨rfl,e6⟩;obtain rfl:=e6.symm
  cases b1 with
  | false=>
   go_wp2;go_ret;exact⟨false,rfl,by simp[HQ.out],HBw.out⟩
  | true=>
   cases re with
   | false=>
    go_wp2;go_ret;exact⟨true,rfl,by simp[HQ.out],HBw.out⟩
   | true=>
    go_wp2_with fail;refine(HIn2.out w5 (td _ _)).mono ?_;rintro e w6 ⟨rfl,e6⟩;obtain rfl:=e6.symm;go_wp2;go_ret;exact⟨b2,rfl,by simp[HQ.out],HBw.out⟩
end Pt
end
end Go.Proofs.YtbbapnpdfcgjnaaGreatDoor
