/- PtFun1, PtNone, PtBoth, PtBeh, PtMore, PtRd, PtLead, PtLead2, SdMath, PtGood, PtChk, PtSE, PtEn, PtAp: parts of the proof, joined. -/
import Derived.Deep.AppendLies
import Derived.WalkSpells
import Derived.WalkLawsBesides
import Derived.BigQuiet
import Derived.Test.YtbbapnpdfcgjnaaGreatDoorMPtMath
import Derived.Test.YtbbapnpdfcgjnaaGreatDoorMMix
open Go renaming World->sD, Calls->sK, Value->sN, wpList_append_lies->tj, info_parts->tH, cell_of_row->tQ, Ending->tV, TypeId->tY
open Go.RowKit renaming Below->sE, intOf->sJ
open List renaming getElem?_eq_getElem->sG, getElem?_eq_some_iff->sL, getElem_mem->sR, getElem?_take_of_lt->sX, take_succ_eq_append_getElem->td, exists_mem_of_length_pos->tf, mem_map->tg, mem_cons_self->tk, ext_getElem?->tm, getElem?_replicate->tq, take_length->tu, length_eq_zero_iff->tw, take_of_length_le->tz, length_map->tA, mem_cons_of_mem->tC, getD->tD, take_succ_cons->tF, mem_singleton->tJ, length_append->tL, length_take->tO, length_drop->tP, mem_append->tS, map_append->tT
open Nat renaming zero_le->sH, div_le_div_right->sI, le_trans->sO, le_of_lt->sS, lt_irrefl->sY, eq_or_lt_of_le->ta, lt_succ_of_lt->tc, pow_lt_pow_right->te, le_refl->tp, zero_testBit->tt, add_sub_cancel'->tG, lt_of_lt_of_le->tI, lt_trans->tM, zero_add->tN, mod_lt->tU
open Go.NoPanic renaming normal->sM
open Go.IntKind renaming signed->sP, wrap->sV, bits->sW, i64->tb, u64->tB
open And renaming intro->sQ
open Int renaming tdiv_eq_ediv_of_nonneg->sT, tmod_eq_emod_of_nonneg->ti
open Go.World renaming cell?_of_block->sU, ownsRow_nil->tn, news_of_block->tE, grownBy->tW
open Go.RowKit.Below renaming refl->sZ, heap_alloc->tr
set_option maxHeartbeats 64000000
namespace Go.Proofs.YtbbapnpdfcgjnaaGreatDoor
section
open Go.RowKit
namespace Pt
theorem hid {p:Prop} (h:p):Hid p:=h
def us (m:Nat) (r:Nat->Nat):List sN:=(List.range m).map fun j=>.int .u64 (r j)
theorem ft (m:Nat) (r:Nat->Nat) (j:Nat) (h:j<m):(us m r)[j]? =some (.int .u64 (r j)):=by simp[us,h]
theorem zso (m:Nat) (r:Nat->Nat) (j z:Nat):(us m r).set j (.int .u64 z)=us m (fun x=>if x=j then z else r x):=by
 apply tm
 intro i;rw[List.getElem?_set]
 by_cases h:j=i
 ·subst h
  by_cases hj:j<m
  ·simp[us,hj]
  ·simp[us,hj]
 ·rw[if_neg h]
  by_cases hi:i<m
  ·rw[ft m r i hi,ft m _ i hi,if_neg (fun e=>h e.symm)]
  ·simp[us,hi]
theorem kA {m:Nat} {r s:Nat->Nat} (h:∀j,j<m->r j=s j):us m r=us m s:=by
 apply tm
 intro i
 by_cases hi:i<m
 ·rw[ft m r i hi,ft m s i hi,h i hi]
 ·simp[us,hi]
theorem cell_row (w:sD) (b j:Nat) (l:List sN) (t:tY) (v:sN) (h:w.heap[b]? =some (.cells l.toArray t (0,0))) (hv:l[j]? =some v):w.cell? ⟨b,j,none⟩=some v:=by
 rw[tQ w b j l.toArray t (0,0) h]
 simpa using hv
theorem set_row (w:sD) (b j:Nat) (l:List sN) (t:tY) (u:sN) (h:w.heap[b]? =some (.cells l.toArray t (0,0))):(w.setCell ⟨b,j,none⟩ u).heap[b]? =some (.cells (l.set j u).toArray t (0,0)):=by
 rw[heap_setCell_same w b j _ t u h]
 simp
theorem frozen_row {w:sD} {b:Nat} {l:Array sN} {t:tY} (h:w.heap[b]? =some (.cells l t (0,0))) (j:Nat):w.frozen? ⟨b,j,none⟩=false:=by
 unfold sD.frozen?
 simp only[h]
 simp
def Rw (w:sD) (b m:Nat) (r:Nat->Nat):Prop:=w.heap[b]? =some (.cells (us m r).toArray 159 (0,0))
theorem zvL (x j:Nat) (hx:x<18446744073709551616):(bits BinOp.and tB ((x:Int) / 2 ^ j) 1==1)=x.testBit j:=by
 have e:((x:Int) / 2 ^ j)=((x / 2 ^ j:Nat):Int):=by simp
 have h:=u64_and_nat (x / 2 ^ j) 1 (Nat.lt_of_le_of_lt (Nat.div_le_self _ _) hx) (by decide)
 rw[e];rw[show(1:Int)=((1:Nat):Int) from rfl,h]
 rw[Nat.testBit_eq_decide_div_mod_eq,Nat.and_one_is_mod]
 by_cases hh:x / 2 ^ j % 2=1
 ·rw[hh];rfl
 ·have:x / 2 ^ j % 2=0:=by omega
  rw[this];rfl
theorem nP (b m k:Nat) (r:Nat->Nat) (w:sD) (hc:Rw w b m r) (hk:k / 64<m) (hb:r (k / 64)<18446744073709551616) (hm:k<1000000):
  sK Tryz.prog 150 #[.slice (some ⟨b,0,none⟩) m m,.int .i64 k] w fun e w'=>e= .returned (.bool (bt r k))/\w'=w:=by
 have c1:=cell_row w b (k / 64) _ _ _ hc (ft m r _ hk);have e1:(k:Int).tdiv 64=((k / 64:Nat):Int):=by rw[sT (by omega)];omega
 have e2:tb.wrap ((k / 64:Nat):Int)=((k / 64:Nat):Int):=by unfold sV sW sP;simp;omega
 have e3:(k:Int).tmod 64=((k % 64:Nat):Int):=by rw[ti (by omega)];omega
 have e4:tb.wrap ((k % 64:Nat):Int)=((k % 64:Nat):Int):=by unfold sV sW sP;simp;omega
 have i1:(0:Int)<=((k / 64:Nat):Int):=by omega
 have i2:((k / 64:Nat):Int)<(m:Int):=by omega
 have HB:=hid (zvL (r (k / 64)) (k % 64) hb);clear hc hb;go_enter Tryz.func150,Tryz.ntmps150;go_wp2;go_ret;exact⟨by rw[HB.out];rfl,rfl⟩
structure di (b:Nat) (w w':sD):Prop where
 os:w'.os=w.os
 tape:w'.tape=w.tape
 output:w'.output=w.output
 size:w'.heap.size=w.heap.size
 block:∀k,k≠b->w'.heap[k]? =w.heap[k]?
theorem di.refl (b:Nat) (w:sD):di b w w:=⟨rfl,rfl,rfl,rfl,fun _ _=>rfl⟩
theorem di.trans {b:Nat} {w v u:sD} (h:di b w v) (k:di b v u):di b w u:=⟨k.os.trans h.os,k.tape.trans h.tape,k.output.trans h.output,k.size.trans h.size,fun i hi=>(k.block i hi).trans (h.block i hi)⟩
theorem di.set (b j:Nat) (w:sD) (v:sN):di b w (w.setCell ⟨b,j,none⟩ v):=⟨rfl,rfl,rfl,by simp,fun k hk=>heap_setCell_other w _ k v hk⟩
theorem di.drew (b k:Nat) (w:sD):di b w (w.drewN k):=⟨rfl,rfl,rfl,rfl,fun _ _=>rfl⟩
theorem di.below {b B:Nat} {w w':sD} (h:di b w w') (hb:B<=b):sE B w w':=⟨h.os,h.tape,h.output,Nat.le_of_eq h.size.symm,fun k hk=>h.block k (by omega)⟩
theorem Rw.set {w:sD} {b m:Nat} {r:Nat->Nat} (h:Rw w b m r) (j z:Nat):Rw (w.setCell ⟨b,j,none⟩ (.int .u64 z)) b m (fun x=>if x=j then z else r x):=by
 unfold Rw at h⊢;rw[set_row w b j _ _ _ h,zso]
theorem zwd (x j:Nat) (hx:x<18446744073709551616) (hj:j<64):bits BinOp.or tB (x:Int) (tB.wrap (2 ^ j))=((x ||| 2 ^ j:Nat):Int):=by
 have h1:2 ^ j<18446744073709551616:=te (by decide) hj
 have e:tB.wrap (2 ^ j)=((2 ^ j:Nat):Int):=by
  have:(2:Int) ^ j=((2 ^ j:Nat):Int):=by simp
  rw[this];rw[IntKind.wrap_u64]
  generalize 2 ^ j=y at h1⊢
  omega
 rw[e,u64_or_nat x (2 ^ j) hx h1]
theorem zhp (b m k:Nat) (r:Nat->Nat) (w:sD) (hc:Rw w b m r) (hk:k / 64<m) (hb:r (k / 64)<18446744073709551616) (hm:k<1000000):
  sK Tryz.prog 173 #[.slice (some ⟨b,0,none⟩) m m,.int .i64 k] w fun e w'=>e= .returned (.tuple #[])/\Rw w' b m (stR r k)/\di b w w':=by
 have c1:=cell_row w b (k / 64) _ _ _ hc (ft m r _ hk);have f1:=frozen_row hc (k / 64);have e1:(k:Int).tdiv 64=((k / 64:Nat):Int):=by rw[sT (by omega)];omega
 have e2:tb.wrap ((k / 64:Nat):Int)=((k / 64:Nat):Int):=by unfold sV sW sP;simp;omega
 have e3:(k:Int).tmod 64=((k % 64:Nat):Int):=by rw[ti (by omega)];omega
 have e4:tb.wrap ((k % 64:Nat):Int)=((k % 64:Nat):Int):=by unfold sV sW sP;simp;omega
 have i1:(0:Int)<=((k / 64:Nat):Int):=by omega
 have i2:((k / 64:Nat):Int)<(m:Int):=by omega
 have HO:=hid (zwd (r (k / 64)) (k % 64) hb (tU _ (by decide)))
 have HC:=hid hc;clear hb hc;go_enter Tryz.func173,Tryz.ntmps173;go_wp2;refine bodyPost_end (results_none rfl _ _ _) rfl ?_;refine⟨rfl,?_,di.set _ _ _ _⟩;rw[HO.out];have:=HC.out.set (k / 64) (r (k / 64) ||| 2 ^ (k % 64))
 refine Eq.trans this ?_;rw[kA (s:=stR r k)];intro j _;unfold stR
 by_cases h:j=k / 64
 ·rw[if_pos h,if_pos h,h]
 ·rw[if_neg h,if_neg h]
theorem nX (b d m:Nat) (r o:Nat->Nat) (w:sD) (hc:Rw w b m r) (hd:Rw w d m o) (hb:∀j,j<m->r j<18446744073709551616) (ho:∀j,j<m->o j<18446744073709551616) (hm:m<1000000):
  sK Tryz.prog 187 #[.slice (some ⟨b,0,none⟩) m m,.slice (some ⟨d,0,none⟩) m m] w fun e w'=>e= .returned (.tuple #[])/\Rw w' b m (mZ r o)/\di b w w':=by
 have HB:=hid hb;have HO:=hid ho;have HC:=hid hc;have HD:=hid hd;clear hb ho hc hd;go_enter Tryz.func187,Tryz.ntmps187;go_wp2;go_loopw [4] (fun y wr=>∃j:Nat,y= .int .i64 j/\j<=m/\Hid (Rw wr b m (fun x=>if x<j then r x ||| o x else r x))/\Hid (di b w wr)) (fun y _=>m - (sJ y).toNat)
 case atStart=>exact⟨0,rfl,sH _,by simpa using HC,hid (di.refl _ _)⟩
 case round=>
  obtain⟨j,rfl,hj,HR,HW⟩:=hrel
  by_cases hlt:j<m
  ·have c1:wr.cell? ⟨b,j,none⟩=some (.int .u64 (r j)):=by
    have:=cell_row wr b j _ _ _ HR.out (ft m _ _ hlt)
    simpa using this
   have f1:=frozen_row HR.out j;have c2:wr.cell? ⟨d,j,none⟩=some (.int .u64 (o j)):=by
    by_cases e:d=b
    ·subst e
     have h1:=cell_row w d j _ _ _ HC.out (ft m _ _ hlt);have h2:=cell_row w d j _ _ _ HD.out (ft m _ _ hlt);rw[c1,<- h1,h2]
    ·have:=HW.out.block d e
     exact cell_row wr d j _ _ _ (this.trans HD.out) (ft m _ _ hlt)
   have i0:(0:Int)<=(j:Int):=by omega
   have i1:(j:Int)<(m:Int):=by omega
   have HE:=hid (u64_or_nat (r j) (o j) (HB.out j hlt) (HO.out j hlt));go_wp2_with fail;refine am [(0,true),(1,true),(2,true),(3,true),(4,true),(5,true),(6,true),(7,true),(8,true),(9,true),(10,true),(11,true),(12,false)] (fun w'=>w'.cell? ⟨b,j,none⟩=some (.int .u64 (r j))/\w'.cell? ⟨d,j,none⟩=some (.int .u64 (o j))) (fun j=>j==12) (by kernel_rfl) (by kernel_rfl) (fun j hj=>by have:=beq_iff_eq.1 hj;subst this;decide) rfl (by kernel_rfl) ⟨c1,c2⟩ ?_
   iterate 12 (refine av ?_ rfl (by kernel_rfl) (fun w' hS=>?_) ?_;(rotate_left;(obtain⟨s1,s2⟩:=hS;go_simp;with_reducible rfl);rotate_left))
   refine ar rfl (by kernel_rfl) fun KK hKK=>?_
   go_simp;refine hKK _ _ (fun h=>by cases h) ?_
   refine aQ (sM ?_);go_wp2;go_roundw
   case rel=>
    refine⟨j+1,by go_num,by omega,hid ?_,hid ?_⟩
    ·rw[HE.out]
     have:=HR.out.set j (r j ||| o j)
     refine Eq.trans this ?_;rw[kA (s:=fun x=>if x<j+1 then r x ||| o x else r x)]
     intro x _
     by_cases h:x=j
     ·subst h;simp
     ·by_cases h2:x<j
      ·simp[h,h2,tc h2]
      ·have:¬x<j+1:=by omega
       simp[h,h2,this]
    ·exact HW.out.trans ((di.set b j wr _).trans (di.drew b 1 _))
   case measure=>simp[sJ];omega
  ·have i1:¬(j:Int)<(m:Int):=by omega
   go_wp2;refine bodyPost_end (results_none rfl _ _ _) rfl ?_;refine⟨rfl,?_,HW.out⟩;refine Eq.trans HR.out ?_;rw[kA (s:=mZ r o)];intro x hx;rw[if_pos (by omega)]
   rfl
end Pt
end
section
open Go.RowKit
namespace Pt
theorem Tryz.infoRow:(Tryz.prog.info? 144).map (fun i=>(i.zero,i.size,i.bytes))=some (some (.slice none 0 0),1,24):=by kernel_rfl
theorem Tryz.infoU64:(Tryz.prog.info? 159).map (fun i=>(i.zero,i.size,i.bytes))=some (some (.int .u64 0),1,8):=by kernel_rfl
theorem Tryz.underRows:Tryz.prog.underlying 141=some (.slice 144):=by kernel_rfl
theorem Tryz.underRow:Tryz.prog.underlying 144=some (.slice 159):=by kernel_rfl
theorem zpj (m:Nat):(madeCells (sN.int .u64 0).cells m)=(us m fun _=>0).toArray:=by
 apply Array.toList_inj.1
 rw[show(sN.int .u64 0).cells=#[sN.int .u64 0] from rfl,toList_madeCells_one]
 apply tm
 intro i
 by_cases hi:i<m
 ·rw[tq];simp[us,hi]
 ·rw[tq];simp[us,hi]
theorem zml (n:Nat) (hn:n<=1000000) (W:sD):
  (Instr.makeSlice 144 (.int .i64 (n:Int)) (.int .i64 (n:Int))).run Tryz.prog W= .ok (.slice (some ⟨W.heap.size,0,none⟩) n n) (W.alloc (.cells (us n fun _=>0).toArray 159)):=by
 obtain⟨i,hi,hz,h1,h2⟩:=tH Tryz.infoU64;have h:=run_make (P:=Tryz.prog) W 144 159 i _ Tryz.underRow hi hz .i64 .i64 (n:Int) (n:Int) (by omega) (Int.le_refl _) (by rw[h2];omega) (by omega)
 rw[h1,Nat.mul_one] at h;rw[<- zpj]
 simpa using h
structure Mt (B:Nat) (w:sD) (g n m:Nat) (bs:Nat->Nat) (W:Nat->Nat->Nat):Prop where
 out:∃cur,w.heap[g]? =some (.cells cur 144 (0,0))/\∀i,i<n->cur[i]? =some (.slice (some ⟨bs i,0,none⟩) m m)
 row:∀i,i<n->Rw w (bs i) m (W i)
 inj:∀i j,i<n->j<n->bs i=bs j->i=j
 low:∀i,i<n->B<=bs i
 lg:B<=g
 bd:∀i j,i<n->j<m->W i j<18446744073709551616
theorem Mt.cell {B:Nat} {w:sD} {g n m:Nat} {bs:Nat->Nat} {W:Nat->Nat->Nat} (h:Mt B w g n m bs W) (i:Nat) (hi:i<n):w.cell? ⟨g,i,none⟩=some (.slice (some ⟨bs i,0,none⟩) m m):=by
 obtain⟨cur,h1,h2⟩:=h.out;rw[tQ w g i cur _ _ h1];exact h2 i hi
theorem Mt.keep {B:Nat} {w w':sD} {g n m:Nat} {bs:Nat->Nat} {W:Nat->Nat->Nat} (h:Mt B w g n m bs W) (e:∀b,(b=g\/∃i,i<n/\b=bs i)->w'.heap[b]? =w.heap[b]?):Mt B w' g n m bs W:=by
 obtain⟨cur,h1,h2⟩:=h.out;exact⟨⟨cur,(e g (.inl rfl)).trans h1,h2⟩,fun i hi=>(e _ (.inr ⟨i,hi,rfl⟩)).trans (h.row i hi),h.inj,h.low,h.lg,h.bd⟩
theorem ae {w:sD} {b:Nat} {o:Obj} (h:w.heap[b]? =some o):b<w.heap.size:=(Array.getElem?_eq_some_iff.1 h).1
theorem Mt.below {B:Nat} {w w':sD} {g n m:Nat} {bs:Nat->Nat} {W:Nat->Nat->Nat} (h:Mt B w g n m bs W) (hb:sE w.heap.size w w'):Mt B w' g n m bs W:=by
 refine h.keep fun b hx=>hb.block b ?_
 rcases hx with rfl | ⟨i,hi,rfl⟩
 ·obtain⟨cur,h1,h2⟩:=h.out
  exact ae h1
 ·exact ae (h.row i hi)
theorem Mt.gne {B:Nat} {w:sD} {g n m:Nat} {bs:Nat->Nat} {W:Nat->Nat->Nat} (h:Mt B w g n m bs W) (i:Nat) (hi:i<n):bs i≠g:=fun e=>by
 obtain⟨cur,h1,h2⟩:=h.out;have h3:=h.row i hi;unfold Rw at h3;rw[e,h1] at h3
 cases h3
theorem Mt.set {B:Nat} {w w':sD} {g n m:Nat} {bs:Nat->Nat} {W:Nat->Nat->Nat} (h:Mt B w g n m bs W) (i:Nat) (hi:i<n) {r:Nat->Nat} (hr:Rw w' (bs i) m r) (ho:di (bs i) w w') (hb:∀j,j<m->r j<18446744073709551616):Mt B w' g n m bs (fun x=>if x=i then r else W x):=by
 obtain⟨cur,h1,h2⟩:=h.out;refine⟨⟨cur,(ho.block g (fun e=>h.gne i hi e.symm)).trans h1,h2⟩,fun k hk=>?_,h.inj,h.low,h.lg,fun k j hk hj=>?_⟩
 ·by_cases e:k=i
  ·subst e;rw[if_pos rfl];exact hr
  ·rw[if_neg e];exact(ho.block _ (fun e2=>e (h.inj k i hk hi e2))).trans (h.row k hk)
 ·by_cases e:k=i
  ·simp only[if_pos e];exact hb j hj
  ·simp only[if_neg e];exact h.bd k j hk hj
theorem Mt.congr {B:Nat} {w:sD} {g n m:Nat} {bs:Nat->Nat} {W V:Nat->Nat->Nat} (h:Mt B w g n m bs W) (e:∀i j,i<n->j<m->W i j=V i j):Mt B w g n m bs V:=⟨h.out,fun i hi=>by
 have:=h.row i hi;unfold Rw at this⊢;rw[this,kA (e i · hi)],h.inj,h.low,h.lg,fun i j hi hj=>by rw[<- e i j hi hj];exact h.bd i j hi hj⟩
theorem Mt.lower {B C:Nat} {w:sD} {g n m:Nat} {bs:Nat->Nat} {W:Nat->Nat->Nat} (h:Mt B w g n m bs W) (hc:C<=B):Mt C w g n m bs W:=⟨h.out,h.row,h.inj,fun i hi=>sO hc (h.low i hi),sO hc h.lg,h.bd⟩
structure Nn (w wr:sD) (v:sN) (i m:Nat) (bs:Nat->Nat) (xs:List sN):Prop where
 own:wr.ownsRow w.heap.size 144 1 v i xs
 get:∀k,k<i->xs[k]? =some (.slice (some ⟨bs k,0,none⟩) m m)
 row:∀k,k<i->Rw wr (bs k) m fun _=>0
 inj:∀k j,k<i->j<i->bs k=bs j->k=j
 low:∀k,k<i->w.heap.size<=bs k
 bl:sE w.heap.size w wr
theorem zwi (w:sD) (o:Obj) (v:sN) (T:tY):∀j u,[v][j]? =some u->((w.alloc o).alloc (.cells #[v] T)).cell? ((⟨w.heap.size+1,0,none⟩:Addr).add j)=some u:=by
 have h:=tE (cs:=#[v]) (heap_alloc_new (w.alloc o) (.cells #[v] T))
 simpa using h
theorem Nn.step {w wr w8:sD} {v:sN} {i m g8 c8:Nat} {bs:Nat->Nat} {xs:List sN} (h:Nn w wr v i m bs xs)
  (o8:w8.ownsRow w.heap.size 144 1 (.slice (some ⟨g8,0,none⟩) (i+1) c8) (i+1) (xs++[.slice (some ⟨wr.heap.size,0,none⟩) m m]))
  (gr:tW ((wr.alloc (.cells (us m fun _=>0).toArray 159)).alloc (.cells #[.slice (some ⟨wr.heap.size,0,none⟩) m m] 144)) w8 v.ownBlock):
  Nn w w8 (.slice (some ⟨g8,0,none⟩) (i+1) c8) (i+1) m (fun k=>if k=i then wr.heap.size else bs k) (xs++[.slice (some ⟨wr.heap.size,0,none⟩) m m]):=by
 have hs:=h.bl.size;have hx:xs.length=i:=by have:=h.own.1;omega
 have hv:∀b,v.ownBlock=some b->w.heap.size<=b/\b<wr.heap.size/\∃cur,wr.heap[b]? =some (.cells cur 144 (0,0)):=fun b hb=>by
  rcases h.own.2 with ⟨rfl,_⟩ | ⟨g,cap,cur,rfl,h2,h3,_⟩
  ·cases hb
  ·cases hb;exact⟨h2,ae h3,cur,h3⟩
 have old:∀b,b<wr.heap.size->v.ownBlock≠some b->w8.heap[b]? =wr.heap[b]? :=fun b hb hne=>by
  rw[gr.block b (by simp;omega) (fun e=>hne e.symm),tr _ _ b (by simp;omega),tr _ _ b hb]
 have new:w8.heap[wr.heap.size]? =some (.cells (us m fun _=>0).toArray 159 (0,0)):=by
  rw[gr.block wr.heap.size (by simp;omega) (fun e=>by have:=(hv _ e.symm).2.1;omega),tr _ _ wr.heap.size (by simp)]
  exact heap_alloc_new _ _
 have rows:∀k,k<i->v.ownBlock≠some (bs k):=fun k hk e=>by
  obtain⟨_,_,cur,h3⟩:=hv _ e;have h4:=h.row k hk;unfold Rw at h4;rw[h3] at h4
  cases h4
 have blt:∀k,k<i->bs k<wr.heap.size:=fun k hk=>ae (h.row k hk)
 refine⟨o8,fun k hk=>?_,fun k hk=>?_,fun k j hk hj=>?_,fun k hk=>?_,?_⟩
 ·by_cases e:k=i
  ·subst e;rw[if_pos rfl,List.getElem?_append_right (by omega),hx];simp
  ·rw[if_neg e,List.getElem?_append_left (by omega)];exact h.get k (by omega)
 ·by_cases e:k=i
  ·subst e;rw[if_pos rfl];exact new
  ·rw[if_neg e];exact(old _ (blt k (by omega)) (rows k (by omega))).trans (h.row k (by omega))
 ·by_cases e:k=i<;>by_cases e2:j=i
  ·omega
  ·rw[if_pos e,if_neg e2];intro e3;have:=blt j (by omega);omega
  ·rw[if_neg e,if_pos e2];intro e3;have:=blt k (by omega);omega
  ·rw[if_neg e,if_neg e2];exact h.inj k j (by omega) (by omega)
 ·by_cases e:k=i
  ·rw[if_pos e];exact hs
  ·rw[if_neg e];exact h.low k (by omega)
 ·refine h.bl.trans ⟨gr.os,gr.tape,gr.output,?_,fun b hb=>old b (by omega) (fun e=>by have:=(hv b e).1;omega)⟩
  have:=gr.size
  simp at this
  omega
theorem Nn.done {w wr:sD} {v:sN} {n m:Nat} {bs:Nat->Nat} {xs:List sN} (h:Nn w wr v n m bs xs) (hn:1<=n):∃g cap,v= .slice (some ⟨g,0,none⟩) n cap/\Mt w.heap.size wr g n m bs (fun _ _=>0):=by
 rcases h.own.2 with ⟨rfl,h1⟩ | ⟨g,cap,cur,rfl,h2,h3,h4,h5,h6,h7⟩
 ·omega
 ·refine⟨g,cap,rfl,⟨cur,h3,fun i hi=>?_⟩,h.row,h.inj,h.low,h2,fun _ _ _ _=>by omega⟩
  have h8:=h.get i hi;rw[<- h7,sX (by omega)] at h8
  simpa using h8
def MtQ (w:sD) (n m:Nat) (W:Nat->Nat->Nat) (e:tV) (w':sD):Prop:=∃g cap bs,e= .returned (.slice (some ⟨g,0,none⟩) n cap)/\Mt w.heap.size w' g n (m+1) bs W/\sE w.heap.size w w'
theorem io (n m:Nat) (w:sD) (h1:1<=n) (hn:n<=100000) (hm:m=n / 64):sK Tryz.prog 172 #[.int .i64 n] w (MtQ w n m fun _ _=>0):=by
 have e1:(n:Int).tdiv 64=((n / 64:Nat):Int):=by rw[sT (by omega)];omega
 have e2:tb.wrap ((n / 64:Nat):Int)=((n / 64:Nat):Int):=by unfold sV sW sP;simp;omega
 rw[<- hm] at e1 e2;have hml:m<=100000:=by omega
 clear hm;have M1:∀W:sD,(Instr.makeSlice 144 (.int .i64 ((m:Int)+1)) (.int .i64 ((m:Int)+1))).run Tryz.prog W= .ok (.slice (some ⟨W.heap.size,0,none⟩) (m+1) (m+1)) (W.alloc (.cells (us (m+1) fun _=>0).toArray 159)):=fun W=>zml (m+1) (by omega) W
 obtain⟨i0,hi0,hz0,hz1,hz2⟩:=tH Tryz.infoRow;have HI:=hid (sQ hi0 (sQ hz0 (sQ hz1 hz2)));clear hi0 hz0 hz1 hz2;go_enter Tryz.func172,Tryz.ntmps172;go_wp2;go_loopw [3,4] (fun x y wr=>∃(i:Nat) (bs:Nat->Nat) (xs:List sN) (vo:Option Addr) (vc:Nat),x= .slice vo i vc/\y= .int .i64 i/\i<=n/\Hid (Nn w wr (.slice vo i vc) i (m+1) bs xs)) (fun _ y _=>n - (sJ y).toNat)
 case atStart=>exact⟨0,fun _=>0,[],none,0,rfl,rfl,sH _,hid ⟨tn _ _ _ _,fun k hk=>by omega,fun k hk=>by omega,fun k j hk=>by omega,fun k hk=>by omega,sZ _ _⟩⟩
 case round=>
  obtain⟨i,bs,xs,vo,vc,rfl,rfl,hi,HN⟩:=hrel
  by_cases hlt:i<n
  ·have i1:(i:Int)<(n:Int):=by omega
   go_wp2_with (at_builtin;refine tj _ rfl _ _ 141 rfl w.heap.size 144 i0 (.slice none 0 0) 1 24 Tryz.underRows HI.out.1 HI.out.2.1 HI.out.2.2.1 HI.out.2.2.2 rfl (by decide) (.slice vo i vc) i xs rfl ((HN.out.own.alloc _).alloc _) ⟨wr.heap.size+1,0,none⟩ 1 1 [.slice (some ⟨wr.heap.size,0,none⟩) (m+1) (m+1)] rfl rfl (zwi wr _ _ _) (fun u hu=>by simp at hu;rw[hu];rfl) (by decide) (by unfold maxLen;omega) (by omega) (by have:=HN.out.bl.size;simp;omega) (wr.heap.size+2) (by simp) ?_;intro g8 c8 w8 o8 gr8 hl8 hlt8;have HO8:=hid (HN.out.step o8 gr8);clear o8 gr8 hl8 hlt8)
   go_roundw
   case rel=>exact⟨i+1,_,_,_,_,rfl,by go_num,by omega,HO8⟩
   case measure=>simp[sJ];omega
  ·have e:i=n:=by omega
   subst e;have i1:¬(i:Int)<(i:Int):=by omega
   obtain⟨g,cap,hv,hM⟩:=HN.out.done h1;have HM:=hid hM
   cases hv
   clear hM;go_wp2;go_ret;exact⟨g,_,bs,rfl,HM.out,HN.out.bl⟩
theorem nF (n m:Nat) (w:sD) (h1:1<=n) (hn:n<=100000) (hm:m=n / 64):sK Tryz.prog 174 #[.int .i64 n] w (MtQ w n m fun i=>stR (fun _=>0) i):=by
 have HN:=hid (io n m w h1 hn hm);have HM:=hid hm;clear hm;go_enter Tryz.func174,Tryz.ntmps174;go_wp2_with fail;refine HN.out.mono ?_;rintro e w1 ⟨g,cap,bs,rfl,hM,hB⟩;have HT:=hid hM;have HB:=hid hB;clear hM hB HN;go_wp2;go_loopw [4] (fun y wr=>∃i:Nat,y= .int .i64 i/\i<=n/\Hid (Mt w.heap.size wr g n (m+1) bs fun x=>if x<i then stR (fun _=>0) x else fun _=>0)/\Hid (sE w.heap.size w wr)) (fun y _=>n - (sJ y).toNat)
 case atStart=>exact⟨0,rfl,sH _,by simpa using HT,HB⟩
 case round=>
  obtain⟨i,rfl,hi,HR,HW⟩:=hrel
  by_cases hlt:i<n
  ·have i0:(0:Int)<=(i:Int):=by omega
   have i1:(i:Int)<(n:Int):=by omega
   have c1:=HR.out.cell i hlt;have hr:=HR.out.row i hlt
   simp only[sY,if_false] at hr
   have HS:=hid (zhp (bs i) (m+1) i _ wr hr (by have:=HM.out;have:=sI (c:=64) (sS hlt);omega) (by decide) (by omega))
   clear hr;go_wp2_with fail;refine HS.out.mono ?_;rintro e w2 ⟨rfl,hr2,ho2⟩;have HR2:=hid (HR.out.set i hlt hr2 ho2 (fun j hj=>by unfold stR;split;rw[Nat.zero_or];exact te (by decide) (tU _ (by decide));exact(by decide:(0:Nat)<18446744073709551616)))
   have HW2:=hid (HW.out.trans (ho2.below (HR.out.low i hlt)));clear hr2 ho2 HS;go_wp2;go_roundw
   case rel=>
    refine⟨i+1,by go_num,by omega,hid (HR2.out.congr fun x j hx hj=>?_),HW2⟩
    by_cases e:x=i
    ·subst e;simp
    ·by_cases e2:x<i
     ·simp[e,e2,tc e2]
     ·have:¬x<i+1:=by omega
      simp[e,e2,this]
   case measure=>simp[sJ];omega
  ·have i1:¬(i:Int)<(n:Int):=by omega
   have HQ:=hid (HR.out.congr (V:=fun i=>stR (fun _=>0) i) fun x j hx hj=>by rw[if_pos (by omega)])
   go_wp2;go_ret;exact⟨g,cap,bs,rfl,HQ.out,HW.out⟩
end Pt
end
section
open Go.RowKit
namespace Pt
theorem oR {r o:Nat->Nat} {m:Nat} (h1:∀j,j<m->r j<18446744073709551616) (h2:∀j,j<m->o j<18446744073709551616) (j:Nat) (hj:j<m):mZ r o j<18446744073709551616:=Nat.or_lt_two_pow (n:=64) (h1 j hj) (h2 j hj)
theorem pT (n m:Nat) (C D:Nat) (g h:Nat) (gc hc:Nat) (bs ds:Nat->Nat) (U V:Nat->Nat->Nat) (w:sD) (h1:1<=n) (hn:n<=100000) (hm:m=n / 64) (hg:Mt C w g n (m+1) bs U) (hh:Mt D w h n (m+1) ds V):
  sK Tryz.prog 176 #[.slice (some ⟨g,0,none⟩) n gc,.slice (some ⟨h,0,none⟩) n hc] w (MtQ w n m fun i=>mZ (mZ (fun _=>0) (U i)) (V i)):=by
 have HN:=hid (io n m w h1 hn hm);have HG:=hid hg;have HH:=hid hh;have HM:=hid hm;clear hm hg hh;go_enter Tryz.func176,Tryz.ntmps176;go_wp2_with fail;refine HN.out.mono ?_;rintro e w1 ⟨k,cap,cs,rfl,hM,hB⟩;have HT:=hid hM;have HB:=hid hB;clear hM hB HN;go_wp2;go_loopw [6] (fun y wr=>∃i:Nat,y= .int .i64 i/\i<=n/\Hid (Mt w.heap.size wr k n (m+1) cs fun x=>if x<i then mZ (mZ (fun _=>0) (U x)) (V x) else fun _=>0)/\Hid (sE w.heap.size w wr)) (fun y _=>n - (sJ y).toNat)
 case atStart=>exact⟨0,rfl,sH _,by simpa using HT,HB⟩
 case round=>
  obtain⟨i,rfl,hi,HR,HW⟩:=hrel
  by_cases hlt:i<n
  ·have i0:(0:Int)<=(i:Int):=by omega
   have i1:(i:Int)<(n:Int):=by omega
   have c1:=HR.out.cell i hlt;have HGr:=hid (HG.out.below HW.out);have HHr:=hid (HH.out.below HW.out);have c2:=HGr.out.cell i hlt;have hr:=HR.out.row i hlt
   simp only[sY,if_false] at hr
   have HA:=hid (fun(W:sD) (e1:Rw W (cs i) (m+1) fun _=>0) (e2:Rw W (bs i) (m+1) (U i))=>nX (cs i) (bs i) (m+1) _ _ W e1 e2 (fun _ _=>by decide) (HGr.out.bd i · hlt) (by have:=HM.out;omega))
   have HRr:=hid hr;clear hr;have n1:g≠cs i:=fun e=>by
    obtain⟨cur,h3,_⟩:=HG.out.out;have:=ae h3;have:=HR.out.low i hlt;omega
   have n2:h≠cs i:=fun e=>by
    obtain⟨cur,h3,_⟩:=HH.out.out;have:=ae h3;have:=HR.out.low i hlt;omega
   have n3:k≠cs i:=fun e=>HR.out.gne i hlt e.symm
   have n4:ds i≠cs i:=fun e=>by
    have:=ae (HH.out.row i hlt);have:=HR.out.low i hlt;omega
   have HX:=hid (sQ n1 (sQ n2 (sQ n3 n4)));clear n1 n2 n3 n4;go_wp2_with fail;refine am [(0,true),(1,true),(2,true),(3,true),(4,true),(5,true),(6,true),(7,true),(8,false)] (fun w'=>w'.cell? ⟨k,i,none⟩=some (.slice (some ⟨cs i,0,none⟩) (m+1) (m+1))/\w'.cell? ⟨g,i,none⟩=some (.slice (some ⟨bs i,0,none⟩) (m+1) (m+1))) (fun _=>false) (by kernel_rfl) (by kernel_rfl) (fun j hj=>by cases hj) rfl (by kernel_rfl) ⟨c1,c2⟩ ?_
   iterate 8 (refine av ?_ rfl (by kernel_rfl) (fun w' hS=>?_) ?_;(rotate_left;(obtain⟨s1,s2⟩:=hS;go_simp;with_reducible rfl);rotate_left))
   refine ar rfl (by kernel_rfl) fun KK hKK=>?_
   go_simp;refine(HA.out wr.drew HRr.out (HGr.out.row i hlt)).mono ?_;rintro e w2 ⟨rfl,hr2,ho2⟩;have HR2:=hid (show Mt w.heap.size w2 k n (m+1) cs _ from HR.out.set i hlt hr2 ((di.drew _ 1 wr).trans ho2) (oR (fun _ _=>by decide) (HGr.out.bd i · hlt)))
   have HO2:=hid (show di (cs i) wr w2 from(di.drew _ 1 wr).trans ho2)
   have HW2:=hid (HW.out.trans (HO2.out.below (HR.out.low i hlt)));have HH2:=hid (show Rw w2 (ds i) (m+1) (V i) from(HO2.out.block _ HX.out.2.2.2).trans (HHr.out.row i hlt))
   have HR2r:=hid (show Rw w2 (cs i) (m+1) _ from hr2)
   refine hKK _ _ (fun _=>⟨HR2.out.cell i hlt,(sU (HO2.out.block g HX.out.1)).trans c2⟩) ?_
   refine aQ (sM ?_);have d1:=HR2.out.cell i hlt;have d2:w2.cell? ⟨h,i,none⟩=some (.slice (some ⟨ds i,0,none⟩) (m+1) (m+1)):=(sU (HO2.out.block h HX.out.2.1)).trans (HHr.out.cell i hlt);clear hr2 ho2 hKK c1 c2 HA;have HA:=hid (fun(W:sD) (e1:Rw W (cs i) (m+1) (mZ (fun _=>0) (U i))) (e2:Rw W (ds i) (m+1) (V i))=>nX (cs i) (ds i) (m+1) _ _ W e1 e2 (oR (fun _ _=>by decide) (HGr.out.bd i · hlt)) (HHr.out.bd i · hlt) (by have:=HM.out;omega))
   go_wp2_with fail;refine am [(0,true),(1,true),(2,true),(3,true),(4,true),(5,true),(6,true),(7,true),(8,false)] (fun w'=>w'.cell? ⟨k,i,none⟩=some (.slice (some ⟨cs i,0,none⟩) (m+1) (m+1))/\w'.cell? ⟨h,i,none⟩=some (.slice (some ⟨ds i,0,none⟩) (m+1) (m+1))) (fun _=>false) (by kernel_rfl) (by kernel_rfl) (fun j hj=>by cases hj) rfl (by kernel_rfl) ⟨d1,d2⟩ ?_
   iterate 8 (refine av ?_ rfl (by kernel_rfl) (fun w' hS=>?_) ?_;(rotate_left;(obtain⟨s1,s2⟩:=hS;go_simp;with_reducible rfl);rotate_left))
   refine ar rfl (by kernel_rfl) fun KK hKK=>?_
   go_simp;refine(HA.out w2.drew HR2r.out HH2.out).mono ?_;rintro e w3 ⟨rfl,hr3,ho3⟩;have HR3:=hid (show Mt w.heap.size w3 k n (m+1) cs _ from HR2.out.set i hlt hr3 ((di.drew _ 1 w2).trans ho3) (oR (oR (fun _ _=>by decide) (HGr.out.bd i · hlt)) (HHr.out.bd i · hlt)))
   have HO3:=hid (show di (cs i) w2 w3 from(di.drew _ 1 w2).trans ho3)
   have HW3:=hid (HW2.out.trans (HO3.out.below (HR.out.low i hlt)));refine hKK _ _ (fun _=>⟨HR3.out.cell i hlt,(sU (HO3.out.block h HX.out.2.1)).trans d2⟩) ?_
   refine aQ (sM ?_);clear hr3 ho3 hKK d1 d2;go_wp2;go_roundw
   case rel=>
    refine⟨i+1,by go_num,by omega,hid (HR3.out.congr fun x j hx hj=>?_),HW3⟩
    by_cases e:x=i
    ·subst e;simp
    ·by_cases e2:x<i
     ·simp[e,e2,tc e2]
     ·have:¬x<i+1:=by omega
      simp[e,e2,this]
   case measure=>simp[sJ];omega
  ·have i1:¬(i:Int)<(n:Int):=by omega
   have HQ:=hid (HR.out.congr (V:=fun i=>mZ (mZ (fun _=>0) (U i)) (V i)) fun x j hx hj=>by rw[if_pos (by omega)])
   go_wp2;go_ret;exact⟨k,cap,cs,rfl,HQ.out,HW.out⟩
end Pt
end
section
open Go.RowKit
namespace Pt
theorem zoN {n m:Nat} {a:Nat->Nat} {B:Nat->Nat->Nat} (h:∀i j,i<n->j<m->B i j<18446744073709551616):∀k,k<=n->∀j,j<m->bhR n a B k j<18446744073709551616
 | 0,_,j,_=>(by decide:(0:Nat)<18446744073709551616)
 | k+1,hk,j,hj=>by
  unfold bhR
  split
  ·exact oR (fun j hj=>zoN h k (by omega) j hj) (fun j hj=>h k j (by omega) hj) j hj
  ·exact zoN h k (by omega) j hj
def inW (n:Nat) (U V:Nat->Nat->Nat) (i k:Nat):Nat->Nat->Nat:=fun x=>if x<i then bhR n (U x) V n else if x=i then bhR n (U x) V k else fun _=>0
theorem pX (n m:Nat) (C D:Nat) (g h:Nat) (gc hc:Nat) (bs ds:Nat->Nat) (U V:Nat->Nat->Nat) (w:sD) (h1:1<=n) (hn:n<=100000) (hm:m=n / 64) (hg:Mt C w g n (m+1) bs U) (hh:Mt D w h n (m+1) ds V):
  sK Tryz.prog 175 #[.slice (some ⟨g,0,none⟩) n gc,.slice (some ⟨h,0,none⟩) n hc] w (MtQ w n m fun i=>bhR n (U i) V n):=by
 have HN:=hid (io n m w h1 hn hm);have HG:=hid hg;have HH:=hid hh;have HM:=hid hm;clear hm hg hh;go_enter Tryz.func175,Tryz.ntmps175;go_wp2_with fail;refine HN.out.mono ?_;rintro e w1 ⟨z,cap,cs,rfl,hM,hB⟩;have HT:=hid hM;have HB:=hid hB;clear hM hB HN;go_wp2;go_loopw [7] (fun y wr=>∃i:Nat,y= .int .i64 i/\i<=n/\Hid (Mt w.heap.size wr z n (m+1) cs (inW n U V i 0))/\Hid (sE w.heap.size w wr)) (fun y _=>n - (sJ y).toNat)
 case atStart=>exact⟨0,rfl,sH _,hid (HT.out.congr fun x j _ _=>by unfold inW;split;omega;split<;>simp[bhR]),HB⟩
 case round=>
  obtain⟨i,rfl,hi,HR,HW⟩:=hrel
  by_cases hlt:i<n
  ·have i0:(0:Int)<=(i:Int):=by omega
   have i1:(i:Int)<(n:Int):=by omega
   have HI:=hid hlt;go_wp2;go_loopw [8] (fun y wr=>∃k:Nat,y= .int .i64 k/\k<=n/\Hid (Mt w.heap.size wr z n (m+1) cs (inW n U V i k))/\Hid (sE w.heap.size w wr)) (fun y _=>n - (sJ y).toNat)
   case atStart=>exact⟨0,rfl,sH _,HR,HW⟩
   case round=>
    clear HR HW;obtain⟨k,rfl,hk,HR,HW⟩:=hrel
    by_cases hkn:k<n
    ·have k0:(0:Int)<=(k:Int):=by omega
     have k1:(k:Int)<(n:Int):=by omega
     have HGr:=hid (HG.out.below HW.out);have HHr:=hid (HH.out.below HW.out);have c0:=HGr.out.cell i hlt;have HS:=hid (nP (bs i) (m+1) k (U i) wr (HGr.out.row i hlt) (by have:=HM.out;have:=sI (c:=64) (sS hkn);omega) (HGr.out.bd i _ hlt (by have:=HM.out;have:=sI (c:=64) (sS hkn);omega)) (by omega))
     go_wp2_with fail;refine HS.out.mono ?_;rintro e w2 ⟨rfl,e2⟩;obtain rfl:=e2.symm;clear HS c0
     by_cases hb:bt (U i) k=true
     ·rw[hb]
      have HBT:=hid hb;clear hb;have c1:=HR.out.cell i hlt;have c2:=HHr.out.cell k hkn;have n2:h≠cs i:=fun e=>by
       obtain⟨cur,h3,_⟩:=HH.out.out;have:=ae h3;have:=HR.out.low i hlt;omega
      have hr:=HR.out.row i hlt;rw[show inW n U V i k i=bhR n (U i) V k from by unfold inW;rw[if_neg (sY i),if_pos rfl]] at hr
      have HX:=hid n2;have HRr:=hid hr;have HBD:=hid (fun(j:Nat) (hj:j<m+1)=>zoN (a:=U i) HHr.out.bd k (by omega) j hj)
      clear n2 hr;have HA:=hid (fun(W:sD) (e1:Rw W (cs i) (m+1) (bhR n (U i) V k)) (e2:Rw W (ds k) (m+1) (V k))=>nX (cs i) (ds k) (m+1) _ _ W e1 e2 HBD.out (HHr.out.bd k · hkn) (by have:=HM.out;omega))
      go_wp2_with fail;refine am [(0,true),(1,true),(2,true),(3,true),(4,true),(5,true),(6,true),(7,true),(8,false)] (fun w'=>w'.cell? ⟨z,i,none⟩=some (.slice (some ⟨cs i,0,none⟩) (m+1) (m+1))/\w'.cell? ⟨h,k,none⟩=some (.slice (some ⟨ds k,0,none⟩) (m+1) (m+1))) (fun _=>false) (by kernel_rfl) (by kernel_rfl) (fun j hj=>by cases hj) rfl (by kernel_rfl) ⟨c1,c2⟩ ?_
      iterate 8 (refine av ?_ rfl (by kernel_rfl) (fun w' hS=>?_) ?_;(rotate_left;(obtain⟨s1,s2⟩:=hS;go_simp;with_reducible rfl);rotate_left))
      refine ar rfl (by kernel_rfl) fun KK hKK=>?_
      go_simp;refine(HA.out wr.drew HRr.out (HHr.out.row k hkn)).mono ?_;rintro e w2 ⟨rfl,hr2,ho2⟩;have HR2:=hid (show Mt w.heap.size w2 z n (m+1) cs _ from HR.out.set i hlt hr2 ((di.drew _ 1 wr).trans ho2) (oR HBD.out (HHr.out.bd k · hkn)))
      have HO2:=hid (show di (cs i) wr w2 from(di.drew _ 1 wr).trans ho2)
      have HW2:=hid (HW.out.trans (HO2.out.below (HR.out.low i hlt)));refine hKK _ _ (fun _=>⟨HR2.out.cell i hlt,(sU (HO2.out.block h HX.out)).trans c2⟩) ?_
      refine aQ (sM ?_);clear hr2 ho2 hKK c1 c2;go_wp2;go_roundw
      case rel=>
       refine⟨k+1,by go_num,by omega,hid (HR2.out.congr fun x j hx hj=>?_),HW2⟩
       by_cases e:x=i
       ·subst e
        rw[if_pos rfl];unfold inW;rw[if_neg (sY x),if_pos rfl]
        conv=>rhs;unfold bhR
        rw[if_pos HBT.out]
       ·rw[if_neg e]
        unfold inW;rw[if_neg e,if_neg e]
      case measure=>simp[sJ];omega
     ·have hb':bt (U i) k=false:=by simpa using hb
      rw[hb'];have HBT:=hid hb;clear hb hb';go_wp2;go_roundw
      case rel=>
       refine⟨k+1,by go_num,by omega,hid (HR.out.congr fun x j hx hj=>?_),HW⟩
       unfold inW
       by_cases e:x=i
       ·subst e
        rw[if_neg (sY x),if_neg (sY x),if_pos rfl,if_pos rfl]
        conv=>rhs;unfold bhR
        rw[if_neg HBT.out]
       ·rw[if_neg e,if_neg e]
      case measure=>simp[sJ];omega
    ·have k1:¬(k:Int)<(n:Int):=by omega
     have e:k=n:=by omega
     have HR2:=hid (HR.out.congr (V:=inW n U V (i+1) 0) fun x j hx hj=>by
      unfold inW
      by_cases e1:x<i
      ·rw[if_pos e1,if_pos (by omega)]
      ·rw[if_neg e1]
       by_cases e2:x=i
       ·rw[if_pos e2,if_pos (by omega),e]
       ·rw[if_neg e2,if_neg (by omega)]
        split<;>rfl)
     clear e;go_wp2;go_roundw
     case rel=>exact⟨i+1,by go_num,by omega,HR2,HW⟩
     case measure=>simp[sJ];omega
  ·have i1:¬(i:Int)<(n:Int):=by omega
   have HQ:=hid (HR.out.congr (V:=fun i=>bhR n (U i) V n) fun x j hx hj=>by unfold inW;rw[if_pos (by omega)])
   go_wp2;go_ret;exact⟨z,cap,cs,rfl,HQ.out,HW.out⟩
end Pt
end
section
open Go.RowKit
namespace Pt
theorem zcN (W:Nat->Nat->Nat) (k i:Nat):qe W k (i+1)=fun x=>if x=i/\bt (qe W k i i) k=true then mZ (qe W k i i) (qe W k i k) else qe W k i x:=rfl
theorem zcO (n m:Nat) (C:Nat) (g:Nat) (gc:Nat) (bs:Nat->Nat) (U:Nat->Nat->Nat) (w:sD) (h1:1<=n) (hn:n<=100000) (hm:m=n / 64) (hg:Mt C w g n (m+1) bs U):
  sK Tryz.prog 177 #[.slice (some ⟨g,0,none⟩) n gc] w (MtQ w n m (mrK n (fun i=>mZ (mZ (fun _=>0) (U i)) (stR (fun _=>0) i)) n)):=by
 have HN:=hid (nF n m w h1 hn hm);have HBO:=hid (fun(W:sD) (h:Nat) (hc:Nat) (ds:Nat->Nat) (D:Nat) (e1:Mt C W g n (m+1) bs U) (e2:Mt D W h n (m+1) ds fun i=>stR (fun _=>0) i)=>pT n m C D g h gc hc bs ds _ _ W h1 hn hm e1 e2)
 have HG:=hid hg;have HM:=hid hm;clear hm hg;obtain⟨Z,hZ⟩:∃Z:Nat->Nat->Nat,Z=fun i=>mZ (mZ (fun _=>0) (U i)) (stR (fun _=>0) i):=⟨_,rfl⟩
 rw[<- hZ];have HZ:=hid hZ;clear hZ;go_enter Tryz.func177,Tryz.ntmps177;go_wp2_with fail;refine HN.out.mono ?_;rintro e w1 ⟨y,yc,ys,rfl,hM,hB⟩;have HT1:=hid hM;have HB1:=hid hB;clear hM hB HN;go_wp2_with fail;refine(HBO.out w1 y yc ys w.heap.size (HG.out.below HB1.out) HT1.out).mono ?_;rintro e w2 ⟨z,cap,cs,rfl,hM,hB⟩;rw[<- HZ.out] at hM;have HT:=hid (hM.lower HB1.out.size);have HB:=hid (HB1.out.trans (hB.mono HB1.out.size));clear hM hB HBO;go_wp2;go_loopw [5] (fun y wr=>∃k:Nat,y= .int .i64 k/\k<=n/\Hid (Mt w.heap.size wr z n (m+1) cs (mrK n Z k))/\Hid (sE w.heap.size w wr)) (fun y _=>n - (sJ y).toNat)
 case atStart=>exact⟨0,rfl,sH _,HT,HB⟩
 case round=>
  obtain⟨k,rfl,hk,HR,HW⟩:=hrel
  by_cases hkn:k<n
  ·have k0:(0:Int)<=(k:Int):=by omega
   have k1:(k:Int)<(n:Int):=by omega
   go_wp2;go_loopw [6] (fun y wr=>∃i:Nat,y= .int .i64 i/\i<=n/\Hid (Mt w.heap.size wr z n (m+1) cs (qe (mrK n Z k) k i))/\Hid (sE w.heap.size w wr)) (fun y _=>n - (sJ y).toNat)
   case atStart=>exact⟨0,rfl,sH _,HR,HW⟩
   case round=>
    clear HR HW;obtain⟨i,rfl,hi,HR,HW⟩:=hrel
    by_cases hlt:i<n
    ·have i0:(0:Int)<=(i:Int):=by omega
     have i1:(i:Int)<(n:Int):=by omega
     have c0:=HR.out.cell i hlt;have HS:=hid (nP (cs i) (m+1) k _ wr (HR.out.row i hlt) (by have:=HM.out;have:=sI (c:=64) (sS hkn);omega) (HR.out.bd i _ hlt (by have:=HM.out;have:=sI (c:=64) (sS hkn);omega)) (by omega))
     go_wp2_with fail;refine HS.out.mono ?_;rintro e w2 ⟨rfl,e2⟩;obtain rfl:=e2.symm;clear HS c0
     by_cases hb:bt (qe (mrK n Z k) k i i) k=true
     ·rw[hb]
      have HBT:=hid hb;clear hb;have c1:=HR.out.cell i hlt;have c2:=HR.out.cell k hkn;have HA:=hid (fun(W:sD) (e1:Rw W (cs i) (m+1) (qe (mrK n Z k) k i i)) (e2:Rw W (cs k) (m+1) (qe (mrK n Z k) k i k))=>nX (cs i) (cs k) (m+1) _ _ W e1 e2 (HR.out.bd i · hlt) (HR.out.bd k · hkn) (by have:=HM.out;omega))
      go_wp2_with fail;refine am [(0,true),(1,true),(2,true),(3,true),(4,true),(5,true),(6,true),(7,true),(8,false)] (fun w'=>w'.cell? ⟨z,i,none⟩=some (.slice (some ⟨cs i,0,none⟩) (m+1) (m+1))/\w'.cell? ⟨z,k,none⟩=some (.slice (some ⟨cs k,0,none⟩) (m+1) (m+1))) (fun _=>false) (by kernel_rfl) (by kernel_rfl) (fun j hj=>by cases hj) rfl (by kernel_rfl) ⟨c1,c2⟩ ?_
      iterate 8 (refine av ?_ rfl (by kernel_rfl) (fun w' hS=>?_) ?_;(rotate_left;(obtain⟨s1,s2⟩:=hS;go_simp;with_reducible rfl);rotate_left))
      refine ar rfl (by kernel_rfl) fun KK hKK=>?_
      go_simp;refine(HA.out wr.drew (HR.out.row i hlt) (HR.out.row k hkn)).mono ?_;rintro e w2 ⟨rfl,hr2,ho2⟩;have HR2:=hid (show Mt w.heap.size w2 z n (m+1) cs _ from HR.out.set i hlt hr2 ((di.drew _ 1 wr).trans ho2) (oR (HR.out.bd i · hlt) (HR.out.bd k · hkn)))
      have HO2:=hid (show di (cs i) wr w2 from(di.drew _ 1 wr).trans ho2)
      have HW2:=hid (HW.out.trans (HO2.out.below (HR.out.low i hlt)));refine hKK _ _ (fun _=>⟨HR2.out.cell i hlt,HR2.out.cell k hkn⟩) ?_
      refine aQ (sM ?_);clear hr2 ho2 hKK c1 c2;go_wp2;go_roundw
      case rel=>
       refine⟨i+1,by go_num,by omega,hid (HR2.out.congr fun x j hx hj=>?_),HW2⟩
       rw[zcN]
       by_cases e:x=i
       ·simp only[e,if_pos,HBT.out,and_self]
       ·simp only[e,false_and,if_false]
      case measure=>simp[sJ];omega
     ·have hb':bt (qe (mrK n Z k) k i i) k=false:=by simpa using hb
      rw[hb'];have HBT:=hid hb;clear hb hb';go_wp2;go_roundw
      case rel=>
       refine⟨i+1,by go_num,by omega,hid (HR.out.congr fun x j hx hj=>?_),HW⟩
       rw[zcN]
       show _=(if x=i/\_ then _ else _:Nat->Nat) j
       rw[if_neg (fun h=>HBT.out h.2)]
      case measure=>simp[sJ];omega
    ·have i1:¬(i:Int)<(n:Int):=by omega
     have e:i=n:=by omega
     have HR2:=hid (HR.out.congr (V:=mrK n Z (k+1)) fun x j hx hj=>by rw[e];rfl)
     clear e;go_wp2;go_roundw
     case rel=>exact⟨k+1,by go_num,by omega,HR2,HW⟩
     case measure=>simp[sJ];omega
  ·have k1:¬(k:Int)<(n:Int):=by omega
   have HQ:=hid (HR.out.congr (V:=mrK n Z n) fun x j hx hj=>by rw[show k=n by omega])
   go_wp2;go_ret;exact⟨z,cap,cs,rfl,HQ.out,HW.out⟩
end Pt
end
section
open Go.RowKit
namespace Pt
theorem add_blk (a:Addr) (k:Nat):(a.add k).block=a.block:=by unfold Addr.add;split<;>rfl
def RdI (w:sD) (ao:Option Addr) (l:List Int):Prop:=
 ∀(k:Nat) (z:Int),l[k]? =some z->∃a:Addr,ao=some a/\a.block<w.heap.size/\w.cell? (a.add k)=some (.int .i64 z)
theorem RdI.below {w w':sD} {ao:Option Addr} {l:List Int} (h:RdI w ao l) (hb:sE w.heap.size w w'):RdI w' ao l:=fun k z hk=>by
 obtain⟨a,h1,h2,h3⟩:=h k z hk;exact⟨a,h1,tI h2 hb.size,(hb.cell (p:=a.add k) (by rw[add_blk];exact h2)).trans h3⟩
theorem RdI.at {w:sD} {ao:Option Addr} {l:List Int} {k:Nat} (h:RdI w ao l) (hk:k<l.length):∃a:Addr,ao=some a/\a.block<w.heap.size/\w.cell? (a.add k)=some (.int .i64 l[k]):=h k l[k] (sG hk)
mutual
def cv (w:sD):ax->sN->sN->sN->Prop
 | .mk op cls kids,v0,v1,v2=>v0= .int .i64 op/\(∃co cc,v1= .slice co cls.length cc/\RdI w co cls/\cls.length<=1000000)/\(∃ko kc,v2= .slice ko kids.length kc/\gu w kids ko 0/\kids.length<=1000000/\kids.length<=kc)
def gu (w:sD):List ax->Option Addr->Nat->Prop
 | [],_,_=>True
 | p::ps,ko,i=>(∃b o,ko=some ⟨b,o,none⟩/\b<w.heap.size/\∃v0 v1 v2,w.cell? ⟨b,o+i * 3,none⟩=some v0/\w.cell? ⟨b,o+i * 3+1,none⟩=some v1/\w.cell? ⟨b,o+i * 3+2,none⟩=some v2/\cv w p v0 v1 v2)/\gu w ps ko (i+1)
end
mutual
theorem cv.below {w w':sD} (hb:sE w.heap.size w w'):∀(p:ax) (v0 v1 v2:sN),cv w p v0 v1 v2->cv w' p v0 v1 v2
 | .mk op cls kids,v0,v1,v2,h=>by
  unfold cv at h⊢;obtain⟨h1,⟨co,cc,h2,h3,h4⟩,ko,kc,h5,h6,h7⟩:=h;exact⟨h1,⟨co,cc,h2,h3.below hb,h4⟩,ko,kc,h5,gu.below hb kids ko 0 h6,h7⟩
theorem gu.below {w w':sD} (hb:sE w.heap.size w w'):∀(ps:List ax) (ko:Option Addr) (i:Nat),gu w ps ko i->gu w' ps ko i
 | [],_,_,_=>by unfold gu;trivial
 | p::ps,ko,i,h=>by
  unfold gu at h⊢;obtain⟨⟨b,o,h1,h2,v0,v1,v2,h3,h4,h5,h6⟩,h7⟩:=h;have hc:∀k v,w.cell? ⟨b,k,none⟩=some v->w'.cell? ⟨b,k,none⟩=some v:=fun k v hk=>(hb.cell (p:=⟨b,k,none⟩) h2).trans hk
  exact⟨⟨b,o,h1,tI h2 hb.size,v0,v1,v2,hc _ _ h3,hc _ _ h4,hc _ _ h5,cv.below hb p _ _ _ h6⟩,gu.below hb ps ko (i+1) h7⟩
end
theorem gu.at {w:sD}:∀(ps:List ax) (ko:Option Addr) (i j:Nat) (p:ax),gu w ps ko i->ps[j]? =some p->∃b o,ko=some ⟨b,o,none⟩/\b<w.heap.size/\∃v0 v1 v2,w.cell? ⟨b,o+(i+j) * 3,none⟩=some v0/\w.cell? ⟨b,o+(i+j) * 3+1,none⟩=some v1/\w.cell? ⟨b,o+(i+j) * 3+2,none⟩=some v2/\cv w p v0 v1 v2
 | [],_,_,j,p,_,h=>by simp at h
 | q::ps,ko,i,0,p,h,hj=>by
  unfold gu at h
  simp at hj
  subst hj;exact h.1
 | q::ps,ko,i,j+1,p,h,hj=>by
  unfold gu at h;have:=gu.at ps ko (i+1) j p h.2 (by simpa using hj)
  rw[show i+1+j=i+(j+1) by omega] at this
  exact this
def kf (l:List Int) (c:Int):Bool:=l.any fun z=>z==c
theorem cI (l:List Int) (c:Int):kf l c=true ↔ c∈l:=by
 unfold kf;rw[List.any_eq_true]
 constructor
 ·rintro ⟨z,h1,h2⟩;rw[beq_iff_eq] at h2;exact h2 ▸ h1
 ·intro h;exact⟨c,h,by simp⟩
theorem znE (lo:Option Addr) (n lc:Nat) (l:List Int) (c:Int) (w:sD) (hl:RdI w lo l) (hn:n=l.length) (hm:n<=1000000):
  sK Tryz.prog 170 #[.slice lo n lc,.int .i64 c] w fun e w'=>e= .returned (.bool (kf l c))/\w'=w:=by
 have HL:=hid hl;have HN:=hid hn;clear hl hn;go_enter Tryz.func170,Tryz.ntmps170;go_wp2;go_loopw [5] (fun y wr=>∃i:Nat,y= .int .i64 i/\i<=n/\wr=w/\Hid (∀z∈l.take i,z≠c)) (fun y _=>n - (sJ y).toNat)
 case atStart=>exact⟨0,rfl,sH _,rfl,hid (by simp)⟩
 case round=>
  obtain⟨i,rfl,hi,rfl,HT⟩:=hrel
  by_cases hlt:i<n
  ·have i0:(0:Int)<=(i:Int):=by omega
   have i1:(i:Int)<(n:Int):=by omega
   have hil:i<l.length:=by have:=HN.out;omega
   obtain⟨a,rfl,ha,c1⟩:=HL.out.at hil;obtain⟨z,hz⟩:∃z,z=l[i]:=⟨_,rfl⟩;rw[<- hz] at c1;have HZ:=hid hz;clear hz
   by_cases e:z=c
   ·subst e
    have b1:(z==z)=true:=by simp
    have HE:=hid (show kf l z=true from(cI l z).2 (by rw[HZ.out];exact sR _))
    go_wp2;go_ret;exact⟨by rw[HE.out];rfl,rfl⟩
   ·have b1:(z==c)=false:=by simpa using e
    have HE:=hid e;clear e;go_wp2;go_roundw
    case rel=>
     refine⟨i+1,by go_num,by omega,trivial,hid fun x hx=>?_⟩
     rw[td hil,tS] at hx
     rcases hx with hx | hx
     ·exact HT.out x hx
     ·rw[tJ] at hx
      rw[hx,<- HZ.out];exact HE.out
    case measure=>simp[sJ];omega
  ·have i1:¬(i:Int)<(n:Int):=by omega
   have HE:=hid (show kf l c=false from by
    cases h:kf l c with
    | false=>rfl
    | true=>exact absurd rfl (HT.out c (by rw[tz (by have:=HN.out;omega)];exact(cI l c).1 h)))
   go_wp2;go_ret;exact⟨by rw[HE.out];rfl,rfl⟩
end Pt
end
section
open Go.RowKit
namespace Pt
mutual
theorem ax.ind {M:ax->Prop} (h:∀op cls kids,(∀p∈kids,M p)->M (.mk op cls kids)):∀p,M p
 | .mk op cls kids=>h op cls kids (ax.indL h kids)
theorem ax.indL {M:ax->Prop} (h:∀op cls kids,(∀p∈kids,M p)->M (.mk op cls kids)):∀ps:List ax,∀p∈ps,M p
 | [],p,hp=>by cases hp
 | q::ps,p,hp=>by
  cases hp with
  | head=>exact ax.ind h _
  | tail _ hp=>exact ax.indL h ps p hp
end
mutual
def Wf:ax->Prop
 | .mk op _ kids=>((op=4\/op=5\/op=6)->kids≠ [])/\WfL kids
def WfL:List ax->Prop
 | []=>True
 | p::ps=>Wf p/\WfL ps
end
theorem WfL.mem:∀{ps:List ax} {p:ax},WfL ps->p∈ps->Wf p
 | [],p,_,hp=>by cases hp
 | q::ps,p,h,hp=>by
  unfold WfL at h
  cases hp with
  | head=>exact h.1
  | tail _ hp=>exact WfL.mem h.2 hp
def LdR (n m:Nat) (R:Nat->Nat->Prop) (w:sD) (e:tV) (w':sD):Prop:=∃W,MtQ w n m W e w'/\qa n W R
theorem below_box {w:sD} {o:Obj}:sE w.heap.size w (w.alloc o):=(sZ _ _).alloc (tp _) _
theorem MtQ.low {w w1:sD} {n m:Nat} {W:Nat->Nat->Nat} {e:tV} {w':sD} (h:MtQ w1 n m W e w') (hb:sE w.heap.size w w1):MtQ w n m W e w':=by
 obtain⟨g,cap,bs,h1,h2,h3⟩:=h;exact⟨g,cap,bs,h1,h2.lower hb.size,hb.trans (h3.mono hb.size)⟩
section
variable (lo co:Option Addr) (ln lc b o kn kc cn cc m:Nat) (u0 u1 u2:sN) (R:Nat->Nat->Prop) (w:sD)
theorem zxj (hb:b<w.heap.size) (hkn:1<=kn) (hc:cn<=90000) (hm:m=(cn+1) / 64) (q0:w.cell? ⟨b,o,none⟩=some u0) (q1:w.cell? ⟨b,o+1,none⟩=some u1) (q2:w.cell? ⟨b,o+2,none⟩=some u2)
  (HL:Hid (∀W,sE w.heap.size w W->sK Tryz.prog 149 #[.agg #[u0,u1,u2],.slice co cn cc] W (LdR (cn+1) m R W))) (HK:Hid (Kn (cn+1) R)):
  sK Tryz.prog 149 #[.agg #[.int .i64 4,.slice lo ln lc,.slice (some ⟨b,o,none⟩) kn kc],.slice co cn cc] w (LdR (cn+1) m (cg R) w):=by
 have HMo:=hid (fun(C g gc:Nat) (bs:Nat->Nat) (U:Nat->Nat->Nat) (W:sD) (hg:Mt C W g (cn+1) (m+1) bs U)=>zcO (cn+1) m C g gc bs U W (by omega) (by omega) hm hg)
 have k1:(0:Int)<(kn:Int):=by omega
 clear hm;go_enter Tryz.func149,Tryz.ntmps149;go_wp2_with fail;refine(HL.out _ below_box).mono ?_;rintro e w2 ⟨W,⟨g,cap,bs,rfl,hM,hB⟩,hR⟩;have HM:=hid hM;have HB:=hid (below_box.trans (hB.mono (by simp)))
 have HR:=hid hR;clear hM hB hR;go_wp2_with fail;refine(HMo.out _ g cap bs W w2 HM.out).mono ?_;rintro e w3 ⟨z,cap2,cs,rfl,hM3,hB3⟩;have HQ:=hid (show LdR (cn+1) m (cg R) w (.returned (.slice (some ⟨z,0,none⟩) (cn+1) cap2)) w3 from⟨_,⟨z,cap2,cs,rfl,hM3.lower HB.out.size,HB.out.trans (hB3.mono HB.out.size)⟩,zcx HR.out (kH (cn+1)) HK.out⟩)
 clear hM3 hB3;go_wp2;go_ret;exact HQ.out
theorem zxi (hb:b<w.heap.size) (hkn:1<=kn) (hc:cn<=90000) (hm:m=(cn+1) / 64) (q0:w.cell? ⟨b,o,none⟩=some u0) (q1:w.cell? ⟨b,o+1,none⟩=some u1) (q2:w.cell? ⟨b,o+2,none⟩=some u2)
  (HL:Hid (∀W,sE w.heap.size w W->sK Tryz.prog 149 #[.agg #[u0,u1,u2],.slice co cn cc] W (LdR (cn+1) m R W))) (HK:Hid (Kn (cn+1) R)):
  sK Tryz.prog 149 #[.agg #[.int .i64 5,.slice lo ln lc,.slice (some ⟨b,o,none⟩) kn kc],.slice co cn cc] w (LdR (cn+1) m (Cmp R (cg R)) w):=by
 have HMo:=hid (fun(C g gc:Nat) (bs:Nat->Nat) (U:Nat->Nat->Nat) (W:sD) (hg:Mt C W g (cn+1) (m+1) bs U)=>zcO (cn+1) m C g gc bs U W (by omega) (by omega) hm hg)
 have HBe:=hid (fun(C D g gc h hc:Nat) (bs ds:Nat->Nat) (U V:Nat->Nat->Nat) (W:sD) (hg:Mt C W g (cn+1) (m+1) bs U) (hh:Mt D W h (cn+1) (m+1) ds V)=>pX (cn+1) m C D g h gc hc bs ds U V W (by omega) (by omega) hm hg hh)
 have k1:(0:Int)<(kn:Int):=by omega
 clear hm;go_enter Tryz.func149,Tryz.ntmps149;go_wp2_with fail;refine(HL.out _ below_box).mono ?_;rintro e w2 ⟨W,⟨g,cap,bs,rfl,hM,hB⟩,hR⟩;have HM:=hid hM;have HB:=hid (below_box.trans (hB.mono (by simp)))
 have HR:=hid hR;clear hM hB hR;go_wp2_with fail;refine(HMo.out _ g cap bs W w2 HM.out).mono ?_;rintro e w3 ⟨z,cap2,cs,rfl,hM3,hB3⟩;have HM3:=hid hM3;have HB3:=hid hB3;clear hM3 hB3;go_wp2_with fail;refine(HBe.out _ _ g cap z cap2 bs cs _ _ w3 (HM.out.below HB3.out) HM3.out).mono ?_;rintro e w4 ⟨y,cap3,ds,rfl,hM4,hB4⟩;have HB5:=hid (HB.out.trans (HB3.out.mono HB.out.size));have HQ:=hid (show LdR (cn+1) m (Cmp R (cg R)) w (.returned (.slice (some ⟨y,0,none⟩) (cn+1) cap3)) w4 from⟨_,⟨y,cap3,ds,rfl,hM4.lower HB5.out.size,HB5.out.trans (hB4.mono HB5.out.size)⟩,oK HR.out (zcx HR.out (kH (cn+1)) HK.out) HK.out⟩)
 clear hM4 hB4;go_wp2;go_ret;exact HQ.out
theorem zxh (hb:b<w.heap.size) (hkn:1<=kn) (hc:cn<=90000) (hm:m=(cn+1) / 64) (q0:w.cell? ⟨b,o,none⟩=some u0) (q1:w.cell? ⟨b,o+1,none⟩=some u1) (q2:w.cell? ⟨b,o+2,none⟩=some u2)
  (HL:Hid (∀W,sE w.heap.size w W->sK Tryz.prog 149 #[.agg #[u0,u1,u2],.slice co cn cc] W (LdR (cn+1) m R W))):
  sK Tryz.prog 149 #[.agg #[.int .i64 6,.slice lo ln lc,.slice (some ⟨b,o,none⟩) kn kc],.slice co cn cc] w (LdR (cn+1) m (fun i k=>i=k\/R i k) w):=by
 have HOw:=hid (fun(W:sD)=>show sK Tryz.prog 174 #[.int .i64 ((cn:Int)+1)] W _ from nF (cn+1) m W (by omega) (by omega) hm)
 have HBo:=hid (fun(C D g gc h hc:Nat) (bs ds:Nat->Nat) (U V:Nat->Nat->Nat) (W:sD) (hg:Mt C W g (cn+1) (m+1) bs U) (hh:Mt D W h (cn+1) (m+1) ds V)=>pT (cn+1) m C D g h gc hc bs ds U V W (by omega) (by omega) hm hg hh)
 have k1:(0:Int)<(kn:Int):=by omega
 have k2:0<kn:=hkn;clear hm;go_enter Tryz.func149,Tryz.ntmps149;go_wp2_with fail;obtain⟨w1,hw1⟩:∃w1,w1=w.alloc (.cells #[.int .i64 6,.slice lo ln lc,.slice (some ⟨b,o,none⟩) kn kc] 105):=⟨_,rfl⟩;have hb1:sE w.heap.size w w1:=by rw[hw1];exact below_box
 have x2:w1.cell? ⟨w.heap.size,2,none⟩=some (.slice (some ⟨b,o,none⟩) kn kc):=by rw[hw1];simp[go_sem]
 have hs1:w.heap.size<w1.heap.size:=by rw[hw1];simp
 rw[<- hw1];clear hw1;have y0:w1.cell? ⟨b,o,none⟩=some u0:=(hb1.cell (p:=⟨b,o,none⟩) hb).trans q0;have y1:w1.cell? ⟨b,o+1,none⟩=some u1:=(hb1.cell (p:=⟨b,o+1,none⟩) hb).trans q1;have y2:w1.cell? ⟨b,o+2,none⟩=some u2:=(hb1.cell (p:=⟨b,o+2,none⟩) hb).trans q2;have HS:=hid (fun(W:sD) (h:sE w1.heap.size w1 W)=>show W.cell? ⟨w.heap.size,2,none⟩=some (.slice (some ⟨b,o,none⟩) kn kc)/\W.cell? ⟨b,o,none⟩=some u0/\W.cell? ⟨b,o+1,none⟩=some u1/\W.cell? ⟨b,o+2,none⟩=some u2 from
  ⟨(h.cell (p:=⟨w.heap.size,2,none⟩) hs1).trans x2,(h.cell (p:=⟨b,o,none⟩) (tM hb hs1)).trans y0,(h.cell (p:=⟨b,o+1,none⟩) (tM hb hs1)).trans y1,(h.cell (p:=⟨b,o+2,none⟩) (tM hb hs1)).trans y2⟩)
 have HB1:=hid hb1;clear x2 y0 y1 y2 hb1 q0 q1 q2;refine am [(0,true),(2,true),(3,true),(4,true),(5,true),(6,true),(1,false),(7,false),(8,false),(9,false)] (fun W=>W.cell? ⟨w.heap.size,2,none⟩=some (.slice (some ⟨b,o,none⟩) kn kc)/\W.cell? ⟨b,o,none⟩=some u0/\W.cell? ⟨b,o+1,none⟩=some u1/\W.cell? ⟨b,o+2,none⟩=some u2) (fun _=>false) (by kernel_rfl) (by kernel_rfl) (fun j hj=>by cases hj) rfl (by kernel_rfl) (HS.out _ ⟨rfl,rfl,rfl,tp _,fun _ _=>rfl⟩) ?_
 iterate 6 (refine av ?_ rfl (by kernel_rfl) (fun w' hS=>?_) ?_;(rotate_left;(obtain⟨s1,s2,s3,s4⟩:=hS;go_simp;with_reducible rfl);rotate_left))
 refine ar rfl (by kernel_rfl) fun KK hKK=>?_
 go_simp;refine(HOw.out w1.drew).mono ?_;rintro e w2 ⟨g,cap,bs,rfl,hM2,hB2⟩;have HM2:=hid hM2;have HB2:=hid (show sE w1.heap.size w1 w2 from⟨hB2.os,hB2.tape,hB2.output,hB2.size,hB2.block⟩)
 clear hM2 hB2;refine hKK _ _ (fun _=>HS.out _ HB2.out) ?_
 clear hKK;refine ar rfl (by kernel_rfl) fun KK hKK=>?_
 go_simp;refine(HL.out w2 (HB1.out.trans (HB2.out.mono HB1.out.size))).mono ?_;rintro e w3 ⟨W,⟨h,cap2,ds,rfl,hM3,hB3⟩,hR3⟩;have HM3:=hid hM3;have HB3:=hid hB3;have HR3:=hid hR3;clear hM3 hB3 hR3;refine hKK _ _ (fun _=>HS.out _ (HB2.out.trans (HB3.out.mono HB2.out.size))) ?_
 clear hKK;refine ar rfl (by kernel_rfl) fun KK hKK=>?_
 go_simp;refine(HBo.out _ _ g cap h cap2 bs ds _ _ w3 (HM2.out.below HB3.out) HM3.out).mono ?_;rintro e w4 ⟨y,cap3,es,rfl,hM4,hB4⟩;have HB5:=hid (HB1.out.trans ((HB2.out.trans (HB3.out.mono HB2.out.size)).mono HB1.out.size));have HQ:=hid (show LdR (cn+1) m (fun i k=>i=k\/R i k) w (.returned (.slice (some ⟨y,0,none⟩) (cn+1) cap3)) w4 from⟨_,⟨y,cap3,es,rfl,hM4.lower HB5.out.size,HB5.out.trans (hB4.mono HB5.out.size)⟩,oJ (kH (cn+1)) HR3.out⟩)
 have HB4:=hid hB4;clear hM4 hB4;refine hKK _ _ (fun _=>HS.out _ ((HB2.out.trans (HB3.out.mono HB2.out.size)).trans (HB4.out.mono (sO HB2.out.size HB3.out.size)))) ?_
 clear hKK;refine ar rfl (by kernel_rfl) fun KK hKK=>?_
 go_simp;refine hKK _ _ (fun _=>HS.out _ ((HB2.out.trans (HB3.out.mono HB2.out.size)).trans (HB4.out.mono (sO HB2.out.size HB3.out.size)))) ?_
 refine aQ (sM ?_);go_wp2;go_ret;exact HQ.out
theorem zxn (v1 v2:sN) (op:Int) (h1:op≠1) (h2:op≠2) (h3:op≠3) (h4:op≠4) (h5:op≠5) (h6:op≠6) (hc:cn<=90000) (hm:m=(cn+1) / 64):
  sK Tryz.prog 149 #[.agg #[.int .i64 op,v1,v2],.slice co cn cc] w (LdR (cn+1) m (fun i k=>i=k) w):=by
 have HOw:=hid (fun(W:sD)=>show sK Tryz.prog 174 #[.int .i64 ((cn:Int)+1)] W _ from nF (cn+1) m W (by omega) (by omega) hm)
 have e1:(op==1)=false:=by simpa using h1
 have e2:(op==2)=false:=by simpa using h2
 have e3:(op==3)=false:=by simpa using h3
 have e4:(op==4)=false:=by simpa using h4
 have e5:(op==5)=false:=by simpa using h5
 have e6:(op==6)=false:=by simpa using h6
 clear hm h1 h2 h3 h4 h5 h6;go_enter Tryz.func149,Tryz.ntmps149;go_wp2_with fail;refine(HOw.out _).mono ?_;rintro e w2 ⟨g,cap,bs,rfl,hM2,hB2⟩;have HQ:=hid (show LdR (cn+1) m (fun i k=>i=k) w (.returned (.slice (some ⟨g,0,none⟩) (cn+1) cap)) w2 from⟨_,MtQ.low ⟨g,cap,bs,rfl,hM2,hB2⟩ below_box,kH (cn+1)⟩)
 clear hM2 hB2;go_wp2;go_ret;exact HQ.out
end
end Pt
end
section
open Go.RowKit
namespace Pt
section
variable (lo co:Option Addr) (ln lc b o kn kc cn cc m:Nat) (w:sD)
def KdA (w:sD) (ko:Option Addr) (kn:Nat) (co:Option Addr) (cn cc m:Nat) (R:Nat->Nat->Nat->Prop):Prop:=∀j,j<kn->∃b o u0 u1 u2,ko=some ⟨b,o,none⟩/\b<w.heap.size/\w.cell? ⟨b,o+j * 3,none⟩=some u0/\w.cell? ⟨b,o+j * 3+1,none⟩=some u1/\w.cell? ⟨b,o+j * 3+2,none⟩=some u2∧
 (∀W,sE w.heap.size w W->sK Tryz.prog 149 #[.agg #[u0,u1,u2],.slice co cn cc] W (LdR (cn+1) m (R j) W))/\Kn (cn+1) (R j)
theorem zxl (ko:Option Addr) (R:Nat->Nat->Nat->Prop) (T:Nat->Nat->Nat->Prop) (hc:cn<=90000) (hk:kn<=1000000) (hm:m=(cn+1) / 64) (HA:Hid (KdA w ko kn co cn cc m R)) (HT0:Hid (T 0=fun i k=>i=k)) (HT:Hid (∀j,j<kn->T (j+1)=Cmp (T j) (R j))):
  sK Tryz.prog 149 #[.agg #[.int .i64 2,.slice lo ln lc,.slice ko kn kc],.slice co cn cc] w (LdR (cn+1) m (T kn) w):=by
 have HOw:=hid (fun(W:sD)=>show sK Tryz.prog 174 #[.int .i64 ((cn:Int)+1)] W _ from nF (cn+1) m W (by omega) (by omega) hm)
 have HBe:=hid (fun(C D g gc h hc:Nat) (bs ds:Nat->Nat) (U V:Nat->Nat->Nat) (W:sD) (hg:Mt C W g (cn+1) (m+1) bs U) (hh:Mt D W h (cn+1) (m+1) ds V)=>pX (cn+1) m C D g h gc hc bs ds U V W (by omega) (by omega) hm hg hh)
 clear hm;go_enter Tryz.func149,Tryz.ntmps149;go_wp2_with fail;obtain⟨w1,hw1⟩:∃w1,w1=w.alloc (.cells #[.int .i64 2,.slice lo ln lc,.slice ko kn kc] 105):=⟨_,rfl⟩;have hb1:sE w.heap.size w w1:=by rw[hw1];exact below_box
 have x2:w1.cell? ⟨w.heap.size,2,none⟩=some (.slice ko kn kc):=by rw[hw1];simp[go_sem]
 have hs1:w.heap.size<w1.heap.size:=by rw[hw1];simp
 rw[<- hw1];have HB1:=hid hb1;have HX2:=hid x2;clear hw1 hb1 x2;refine(HOw.out w1).mono ?_;rintro e w2 ⟨g,cap,bs,rfl,hM2,hB2⟩;have HM2:=hid (hM2.lower (sS hs1));have HB2:=hid hB2;clear hM2 hB2;go_wp2;go_loopw [8,9] (fun x y wr=>∃(j g cap:Nat) (bs:Nat->Nat) (W:Nat->Nat->Nat),x= .slice (some ⟨g,0,none⟩) (cn+1) cap/\y= .int .i64 j/\j<=kn/\Hid (Mt w.heap.size wr g (cn+1) (m+1) bs W)/\Hid (qa (cn+1) W (T j))/\Hid (Kn (cn+1) (T j))/\Hid (sE w1.heap.size w1 wr)) (fun _ y _=>kn - (sJ y).toNat)
 case atStart=>exact⟨0,g,cap,bs,_,rfl,rfl,sH _,HM2,hid (by rw[HT0.out];exact kH (cn+1)),hid (by rw[HT0.out];exact fun i j hi e=>e ▸ hi),HB2⟩
 case round=>
  clear HM2 HB2;obtain⟨j,g,cap,bs,W,rfl,rfl,hj,HM,HR,HK,HB⟩:=hrel;have x2:wr.cell? ⟨w.heap.size,2,none⟩=some (.slice ko kn kc):=(HB.out.cell (p:=⟨w.heap.size,2,none⟩) hs1).trans HX2.out;have HBw:=hid (HB1.out.trans (HB.out.mono HB1.out.size))
  by_cases hlt:j<kn
  ·have j0:(0:Int)<=(j:Int):=by omega
   have j1:(j:Int)<(kn:Int):=by omega
   obtain⟨b,o,u0,u1,u2,rfl,hb,q0,q1,q2,hL,hKn⟩:=HA.out j hlt;have y0:wr.cell? ⟨b,o+j * 3,none⟩=some u0:=(HBw.out.cell (p:=⟨b,o+j * 3,none⟩) hb).trans q0;have y1:wr.cell? ⟨b,o+j * 3+1,none⟩=some u1:=(HBw.out.cell (p:=⟨b,o+j * 3+1,none⟩) hb).trans q1;have y2:wr.cell? ⟨b,o+j * 3+2,none⟩=some u2:=(HBw.out.cell (p:=⟨b,o+j * 3+2,none⟩) hb).trans q2;have HL:=hid hL;have HKn:=hid hKn;clear q0 q1 q2 hL hKn;go_wp2_with fail;refine(HL.out wr HBw.out).mono ?_;rintro e w3 ⟨V,⟨h,cap2,ds,rfl,hM3,hB3⟩,hR3⟩;have HM3:=hid hM3;have HB3:=hid hB3;have HR3:=hid hR3;clear hM3 hB3 hR3 y0 y1 y2 x2;go_wp2_with fail;refine(HBe.out _ _ g cap h cap2 bs ds _ _ w3 (HM.out.below HB3.out) HM3.out).mono ?_;rintro e w4 ⟨y,cap3,es,rfl,hM4,hB4⟩;have HB5:=hid (show sE wr.heap.size wr w4 from HB3.out.trans (hB4.mono HB3.out.size))
   have HM4:=hid (hM4.lower (sO HBw.out.size HB3.out.size));have HR4:=hid (show qa (cn+1) _ (T (j+1)) from by rw[HT.out j hlt];exact oK HR.out HR3.out HK.out)
   have HK4:=hid (show Kn (cn+1) (T (j+1)) from by rw[HT.out j hlt];exact zgD HK.out HKn.out)
   clear hM4 hB4;go_wp2;go_roundw
   case rel=>exact⟨j+1,y,cap3,es,_,rfl,by go_num,by omega,HM4,HR4,HK4,hid (HB.out.trans (HB5.out.mono HB.out.size))⟩
   case measure=>simp[sJ];omega
  ·have j1:¬(j:Int)<(kn:Int):=by omega
   have HQ:=hid (show LdR (cn+1) m (T kn) w (.returned (.slice (some ⟨g,0,none⟩) (cn+1) cap)) wr from⟨W,⟨g,cap,bs,rfl,HM.out,HBw.out⟩,(show j=kn by omega) ▸ HR.out⟩)
   go_wp2;go_ret;exact HQ.out
theorem zxk (ko:Option Addr) (R:Nat->Nat->Nat->Prop) (T:Nat->Nat->Nat->Prop) (hc:cn<=90000) (hk:kn<=1000000) (hm:m=(cn+1) / 64) (HA:Hid (KdA w ko kn co cn cc m R)) (HT0:Hid (T 0=fun _ _=>False)) (HT:Hid (∀j,j<kn->T (j+1)=fun i k=>T j i k\/R j i k)):
  sK Tryz.prog 149 #[.agg #[.int .i64 3,.slice lo ln lc,.slice ko kn kc],.slice co cn cc] w (LdR (cn+1) m (T kn) w):=by
 have HOw:=hid (fun(W:sD)=>show sK Tryz.prog 172 #[.int .i64 ((cn:Int)+1)] W _ from io (cn+1) m W (by omega) (by omega) hm)
 have HBe:=hid (fun(C D g gc h hc:Nat) (bs ds:Nat->Nat) (U V:Nat->Nat->Nat) (W:sD) (hg:Mt C W g (cn+1) (m+1) bs U) (hh:Mt D W h (cn+1) (m+1) ds V)=>pT (cn+1) m C D g h gc hc bs ds U V W (by omega) (by omega) hm hg hh)
 clear hm;go_enter Tryz.func149,Tryz.ntmps149;go_wp2_with fail;obtain⟨w1,hw1⟩:∃w1,w1=w.alloc (.cells #[.int .i64 3,.slice lo ln lc,.slice ko kn kc] 105):=⟨_,rfl⟩;have hb1:sE w.heap.size w w1:=by rw[hw1];exact below_box
 have x2:w1.cell? ⟨w.heap.size,2,none⟩=some (.slice ko kn kc):=by rw[hw1];simp[go_sem]
 have hs1:w.heap.size<w1.heap.size:=by rw[hw1];simp
 rw[<- hw1];have HB1:=hid hb1;have HX2:=hid x2;clear hw1 hb1 x2;refine(HOw.out w1).mono ?_;rintro e w2 ⟨g,cap,bs,rfl,hM2,hB2⟩;have HM2:=hid (hM2.lower (sS hs1));have HB2:=hid hB2;clear hM2 hB2;go_wp2;go_loopw [10,11] (fun x y wr=>∃(j g cap:Nat) (bs:Nat->Nat) (W:Nat->Nat->Nat),x= .slice (some ⟨g,0,none⟩) (cn+1) cap/\y= .int .i64 j/\j<=kn/\Hid (Mt w.heap.size wr g (cn+1) (m+1) bs W)/\Hid (qa (cn+1) W (T j))/\Hid (sE w1.heap.size w1 wr)) (fun _ y _=>kn - (sJ y).toNat)
 case atStart=>exact⟨0,g,cap,bs,_,rfl,rfl,sH _,HM2,hid (by rw[HT0.out];exact zlK (cn+1)),HB2⟩
 case round=>
  clear HM2 HB2;obtain⟨j,g,cap,bs,W,rfl,rfl,hj,HM,HR,HB⟩:=hrel;have x2:wr.cell? ⟨w.heap.size,2,none⟩=some (.slice ko kn kc):=(HB.out.cell (p:=⟨w.heap.size,2,none⟩) hs1).trans HX2.out;have HBw:=hid (HB1.out.trans (HB.out.mono HB1.out.size))
  by_cases hlt:j<kn
  ·have j0:(0:Int)<=(j:Int):=by omega
   have j1:(j:Int)<(kn:Int):=by omega
   obtain⟨b,o,u0,u1,u2,rfl,hb,q0,q1,q2,hL,hKn⟩:=HA.out j hlt;have y0:wr.cell? ⟨b,o+j * 3,none⟩=some u0:=(HBw.out.cell (p:=⟨b,o+j * 3,none⟩) hb).trans q0;have y1:wr.cell? ⟨b,o+j * 3+1,none⟩=some u1:=(HBw.out.cell (p:=⟨b,o+j * 3+1,none⟩) hb).trans q1;have y2:wr.cell? ⟨b,o+j * 3+2,none⟩=some u2:=(HBw.out.cell (p:=⟨b,o+j * 3+2,none⟩) hb).trans q2;have HL:=hid hL;clear q0 q1 q2 hL hKn;go_wp2_with fail;refine(HL.out wr HBw.out).mono ?_;rintro e w3 ⟨V,⟨h,cap2,ds,rfl,hM3,hB3⟩,hR3⟩;have HM3:=hid hM3;have HB3:=hid hB3;have HR3:=hid hR3;clear hM3 hB3 hR3 y0 y1 y2 x2;go_wp2_with fail;refine(HBe.out _ _ g cap h cap2 bs ds _ _ w3 (HM.out.below HB3.out) HM3.out).mono ?_;rintro e w4 ⟨y,cap3,es,rfl,hM4,hB4⟩;have HB5:=hid (show sE wr.heap.size wr w4 from HB3.out.trans (hB4.mono HB3.out.size))
   have HM4:=hid (hM4.lower (sO HBw.out.size HB3.out.size));have HR4:=hid (show qa (cn+1) _ (T (j+1)) from by rw[HT.out j hlt];exact oJ HR.out HR3.out)
   clear hM4 hB4;go_wp2;go_roundw
   case rel=>exact⟨j+1,y,cap3,es,_,rfl,by go_num,by omega,HM4,HR4,hid (HB.out.trans (HB5.out.mono HB.out.size))⟩
   case measure=>simp[sJ];omega
  ·have j1:¬(j:Int)<(kn:Int):=by omega
   have HQ:=hid (show LdR (cn+1) m (T kn) w (.returned (.slice (some ⟨g,0,none⟩) (cn+1) cap)) wr from⟨W,⟨g,cap,bs,rfl,HM.out,HBw.out⟩,(show j=kn by omega) ▸ HR.out⟩)
   go_wp2;go_ret;exact HQ.out
def stW (c cls:List Int) (i:Nat):Nat->Nat->Nat:=fun x=>if x<i/\kf cls (c.getD x 0)=true then stR (fun _=>0) (x+1) else fun _=>0
theorem zqb (c cls:List Int) (kids:List ax):qa (c.length+1) (stW c cls c.length) (aO c (.mk 1 cls kids)):=fun i k hi hk=>by
 unfold aO stW;rw[if_pos rfl]
 by_cases h:i<c.length
 ·have hg:c.getD i 0=c[i]:=by simp[tD,h]
  rw[hg]
  by_cases hb:kf cls c[i]=true
  ·rw[if_pos ⟨h,hb⟩,zsj]
   simp only[bt,tt,Bool.false_or,decide_eq_true_eq]
   exact⟨fun e=>⟨e,c[i],sG h,(cI _ _).1 hb⟩,fun e=>e.1⟩
  ·rw[if_neg (fun e=>hb e.2)]
   simp only[bt,tt,Bool.false_eq_true,false_iff]
   rintro ⟨_,z,hz,hm⟩;rw[sG h] at hz
   cases hz
   exact hb ((cI _ _).2 hm)
 ·rw[if_neg (fun e=>h e.1)]
  simp only[bt,tt,Bool.false_eq_true,false_iff]
  rintro ⟨_,z,hz,_⟩;exact h (sL.1 hz).1
theorem zbW (c cls:List Int) (i x:Nat):stW c cls (i+1) x=if x=i then (if kf cls (c.getD i 0)=true then stR (fun _=>0) (i+1) else fun _=>0) else stW c cls i x:=by
 unfold stW
 by_cases e:x=i
 ·subst e;simp
 ·rw[if_neg e]
  by_cases h:x<i
  ·simp only[h,tc h,true_and]
  ·have h2:¬x<i+1:=by omega
   simp only[h,h2,false_and]
theorem zbX (c cls:List Int) (i:Nat):stW c cls i i=fun _=>0:=by unfold stW;simp
theorem zxm (v2:sN) (c cls:List Int) (hc:cn<=90000) (hcn:cn=c.length) (hln:ln=cls.length) (hl9:ln<=1000000) (hm:m=(cn+1) / 64) (hI:RdI w co c) (hC:RdI w lo cls):
  sK Tryz.prog 149 #[.agg #[.int .i64 1,.slice lo ln lc,v2],.slice co cn cc] w (LdR (cn+1) m (aO c (.mk 1 cls [])) w):=by
 have HOw:=hid (fun(W:sD)=>show sK Tryz.prog 172 #[.int .i64 ((cn:Int)+1)] W _ from io (cn+1) m W (by omega) (by omega) hm)
 have HIn:=hid (fun(W:sD) (z:Int) (h:sE w.heap.size w W)=>znE lo ln lc cls z W (hC.below h) hln hl9)
 have HI:=hid hI;have HCN:=hid hcn;have HMm:=hid hm;clear hm hI hC hcn hln;go_enter Tryz.func149,Tryz.ntmps149;go_wp2_with fail;obtain⟨w1,hw1⟩:∃w1,w1=w.alloc (.cells #[.int .i64 1,.slice lo ln lc,v2] 105):=⟨_,rfl⟩;have hb1:sE w.heap.size w w1:=by rw[hw1];exact below_box
 have x2:w1.cell? ⟨w.heap.size,1,none⟩=some (.slice lo ln lc):=by rw[hw1];simp[go_sem]
 have hs1:w.heap.size<w1.heap.size:=by rw[hw1];simp
 rw[<- hw1];have HB1:=hid hb1;have HX2:=hid x2;clear hw1 hb1 x2;refine(HOw.out w1).mono ?_;rintro e w2 ⟨g,cap,bs,rfl,hM2,hB2⟩;have HM2:=hid (hM2.congr (V:=stW c cls 0) fun x j _ _=>by unfold stW;simp)
 have HB2:=hid hB2;clear hM2 hB2;go_wp2;go_loopw [7] (fun y wr=>∃(i:Nat),y= .int .i64 i/\i<=cn/\Hid (Mt w1.heap.size wr g (cn+1) (m+1) bs (stW c cls i))/\Hid (sE w1.heap.size w1 wr)) (fun y _=>cn - (sJ y).toNat)
 case atStart=>exact⟨0,rfl,sH _,HM2,HB2⟩
 case round=>
  clear HM2 HB2;obtain⟨i,rfl,hi,HM,HB⟩:=hrel;have x2:wr.cell? ⟨w.heap.size,1,none⟩=some (.slice lo ln lc):=(HB.out.cell (p:=⟨w.heap.size,1,none⟩) hs1).trans HX2.out;have HBw:=hid (HB1.out.trans (HB.out.mono HB1.out.size))
  by_cases hlt:i<cn
  ·have i0:(0:Int)<=(i:Int):=by omega
   have i1:(i:Int)<(cn:Int):=by omega
   have hil:i<c.length:=by have:=HCN.out;omega
   obtain⟨a,rfl,ha,c1⟩:=HI.out.at hil;have c2:wr.cell? (a.add i)=some (.int .i64 c[i]):=(HBw.out.cell (p:=a.add i) (by rw[add_blk];exact ha)).trans c1
   have HG:=hid (show c.getD i 0=c[i] by simp[tD,hil])
   obtain⟨z,hz⟩:∃z,z=c[i]:=⟨_,rfl⟩;rw[<- hz] at c2 HG;clear c1 hz;go_wp2_with fail;refine am [(0,true),(1,true),(2,true),(3,true),(4,true),(5,true),(6,false)] (fun W=>W.cell? ⟨w.heap.size,1,none⟩=some (.slice lo ln lc)/\W.cell? (a.add i)=some (.int .i64 z)) (fun _=>false) (by kernel_rfl) (by kernel_rfl) (fun j hj=>by cases hj) rfl (by kernel_rfl) ⟨x2,c2⟩ ?_
   iterate 6 (refine av ?_ rfl (by kernel_rfl) (fun w' hS=>?_) ?_;(rotate_left;(obtain⟨s1,s2⟩:=hS;go_simp;with_reducible rfl);rotate_left))
   refine ar rfl (by kernel_rfl) fun KK hKK=>?_
   go_simp;refine(HIn.out wr.drew z ⟨HBw.out.os,HBw.out.tape,HBw.out.output,HBw.out.size,HBw.out.block⟩).mono ?_;rintro e w3 ⟨rfl,e3⟩;obtain rfl:=e3.symm;refine hKK _ _ (fun _=>⟨x2,c2⟩) ?_
   refine aQ (sM ?_);clear hKK x2 c2;have HMd:=hid (show Mt w1.heap.size wr.drew g (cn+1) (m+1) bs (stW c cls i) from HM.out.keep fun _ _=>rfl)
   have HBd:=hid (show sE w1.heap.size w1 wr.drew from⟨HB.out.os,HB.out.tape,HB.out.output,HB.out.size,HB.out.block⟩)
   by_cases hb:kf cls z=true
   ·rw[hb]
    have HBT:=hid hb;clear hb;have c3:=HMd.out.cell i (by omega)
    have hr:=HMd.out.row i (by omega)
    rw[zbX] at hr;have HSt:=hid (show sK Tryz.prog 173 #[.slice (some ⟨bs i,0,none⟩) (m+1) (m+1),.int .i64 ((i:Int)+1)] wr.drew _ from zhp (bs i) (m+1) (i+1) _ wr.drew hr (by have:=HMm.out;have:=sI (c:=64) (show i+1<=cn+1 by omega);omega) (by decide) (by omega))
    clear hr;have i2:(i:Int)<(cn:Int)+1:=by omega
    have i3:i<cn+1:=by omega
    go_wp2_with fail;refine HSt.out.mono ?_;rintro e w4 ⟨rfl,hr4,ho4⟩;have HM4:=hid ((HMd.out.set i (by omega) hr4 ho4 (fun j hj=>by unfold stR;split;rw[Nat.zero_or];exact te (by decide) (tU _ (by decide));exact(by decide:(0:Nat)<18446744073709551616))).congr (V:=stW c cls (i+1)) fun x j _ _=>by
     rw[zbW,HG.out,if_pos HBT.out])
    have HB4:=hid (HBd.out.trans (ho4.below (HM.out.low i (by omega))))
    clear hr4 ho4 c3;go_wp2;go_roundw
    case rel=>exact⟨i+1,by go_num,by omega,HM4,HB4⟩
    case measure=>simp[sJ];omega
   ·have hb':kf cls z=false:=by simpa using hb
    rw[hb'];have HBT:=hid hb;clear hb hb';have HM4:=hid (HMd.out.congr (V:=stW c cls (i+1)) fun x j _ _=>by
     rw[zbW,HG.out,if_neg HBT.out]
     by_cases e:x=i
     ·subst e;rw[if_pos rfl,zbX]
     ·rw[if_neg e])
    go_wp2;go_roundw
    case rel=>exact⟨i+1,by go_num,by omega,HM4,HBd⟩
    case measure=>simp[sJ];omega
  ·have i1:¬(i:Int)<(cn:Int):=by omega
   have HQ:=hid (show LdR (cn+1) m (aO c (.mk 1 cls [])) w (.returned (.slice (some ⟨g,0,none⟩) (cn+1) cap)) wr from⟨stW c cls i,⟨g,cap,bs,rfl,HM.out.lower (sS hs1),HBw.out⟩,by
    have e:i=c.length:=by have:=HCN.out;omega
    have h:=zqb c cls [];rw[e,HCN.out];exact h⟩)
   go_wp2;go_ret;exact HQ.out
end
theorem zxe (c cls:List Int) (kids:List ax):aO c (.mk 1 cls kids)=aO c (.mk 1 cls []):=by
 funext i k
 unfold aO;rw[if_pos rfl,if_pos rfl]
theorem zaK (c:List Int) (p0:ax) (ps:List ax):cG c (p0::ps)=aO c p0:=by rw[cG]
theorem zxd (c cls:List Int) (p0:ax) (ps:List ax):aO c (.mk 4 cls (p0::ps))=cg (aO c p0):=by
 rw[aO]
 simp[zaK]
theorem zrV (c cls:List Int) (p0:ax) (ps:List ax):aO c (.mk 5 cls (p0::ps))=Cmp (aO c p0) (cg (aO c p0)):=by
 rw[aO]
 simp[zaK]
theorem zxc (c cls:List Int) (p0:ax) (ps:List ax):aO c (.mk 6 cls (p0::ps))=fun i k=>i=k\/aO c p0 i k:=by
 rw[aO]
 simp[zaK]
theorem zhR (c cls:List Int) (ks:List ax):aO c (.mk 2 cls ks)=cz c ks:=by
 rw[aO]
 simp
theorem zrW (c cls:List Int) (ks:List ax):aO c (.mk 3 cls ks)=bO c ks:=by
 rw[aO]
 simp
theorem zrU (c cls:List Int) (ks:List ax) (op:Int) (h1:op≠1) (h2:op≠2) (h3:op≠3) (h4:op≠4) (h5:op≠5) (h6:op≠6):aO c (.mk op cls ks)=fun i k=>i=k:=by
 rw[aO]
 simp[h1,h2,h3,h4,h5,h6]
theorem rm (c:List Int) (cn m:Nat) (hcn:cn=c.length) (hc:cn<=90000) (hm:m=(cn+1) / 64) (co:Option Addr) (cc:Nat):∀p:ax,Wf p->∀(v0 v1 v2:sN) (w:sD),cv w p v0 v1 v2->RdI w co c->sK Tryz.prog 149 #[.agg #[v0,v1,v2],.slice co cn cc] w (LdR (cn+1) m (aO c p) w):=by
 refine ax.ind fun op cls kids ih hW v0 v1 v2 w hP hI=>?_
 unfold cv at hP;unfold Wf at hW;obtain⟨rfl,⟨lo,lc,rfl,hl1,hl2⟩,ko,kc,rfl,hk1,hk2,_⟩:=hP;have HA:KdA w ko kids.length co cn cc m (fun j=>aO c (kids.getD j (.mk 0 [] []))):=fun j hj=>by
  have hg:kids[j]? =some kids[j]:=sG hj;have hd:kids.getD j (.mk 0 [] [])=kids[j]:=by simp[tD,hj]
  obtain⟨b,o,h1,h2,u0,u1,u2,q0,q1,q2,hq⟩:=gu.at kids ko 0 j _ hk1 hg;rw[tN] at q0 q1 q2;refine⟨b,o,u0,u1,u2,h1,h2,q0,q1,q2,fun W hW2=>?_,?_⟩
  ·simp only[hd]
   exact ih _ (sR hj) (hW.2.mem (sR hj)) u0 u1 u2 W (cv.below hW2 _ _ _ _ hq) (hI.below hW2)
  ·simp only[hd,hcn]
   exact zaJ c _
 by_cases h1:op=1
 ·subst h1
  rw[zxe];exact zxm lo co cls.length lc cn cc m w _ c cls hc hcn rfl hl2 hm hI hl1
 by_cases h2:op=2
 ·subst h2
  have:=zxl lo co cls.length lc kids.length kc cn cc m w ko _ (fun j=>cz c (kids.take j)) hc hk2 hm (hid HA) (hid (by simp only[List.take_zero];exact ca c)) (hid fun j hj=>by
   have hd:kids.getD j (.mk 0 [] [])=kids[j]:=by simp[tD,hj]
   simp only[hd]
   exact zki c kids j hj)
  simp only[tu] at this
  rw[zhR];exact this
 by_cases h3:op=3
 ·subst h3
  have:=zxk lo co cls.length lc kids.length kc cn cc m w ko _ (fun j=>bO c (kids.take j)) hc hk2 hm (hid HA) (hid (by funext i k;simp[bO])) (hid fun j hj=>by
   have hd:kids.getD j (.mk 0 [] [])=kids[j]:=by simp[tD,hj]
   simp only[hd]
   funext i k
   exact propext (zkj c kids j hj i k))
  simp only[tu] at this
  rw[zrW];exact this
 by_cases h456:op=4\/op=5\/op=6
 ·obtain⟨p0,ps,rfl⟩:∃p0 ps,kids=p0::ps:=by
   cases kids with
   | nil=>exact absurd rfl (hW.1 h456)
   | cons a b=>exact⟨a,b,rfl⟩
  obtain⟨b,o,u0,u1,u2,rfl,hb,q0,q1,q2,hL,hKn⟩:=HA 0 (by simp)
  simp only[Nat.zero_mul,Nat.add_zero,List.getD_cons_zero] at q0 q1 q2 hL hKn
  rcases h456 with rfl | rfl | rfl
  ·rw[zxd]
   exact zxj lo co cls.length lc b o _ kc cn cc m u0 u1 u2 _ w hb (by simp) hc hm q0 q1 q2 (hid hL) (hid hKn)
  ·rw[zrV]
   exact zxi lo co cls.length lc b o _ kc cn cc m u0 u1 u2 _ w hb (by simp) hc hm q0 q1 q2 (hid hL) (hid hKn)
  ·rw[zxc]
   exact zxh lo co cls.length lc b o _ kc cn cc m u0 u1 u2 _ w hb (by simp) hc hm q0 q1 q2 (hid hL)
 ·have h4:op≠4:=fun e=>h456 (.inl e)
  have h5:op≠5:=fun e=>h456 (.inr (.inl e))
  have h6:op≠6:=fun e=>h456 (.inr (.inr e))
  rw[zrU c cls kids op h1 h2 h3 h4 h5 h6];exact zxn co cn cc m w _ _ op h1 h2 h3 h4 h5 h6 hc hm
end Pt
end
section
namespace Pt
mutual
def oI:ax->ax
 | .mk op cls kids=>.mk op cls (if op=2 then (lQ kids).reverse else lQ kids)
def lQ:List ax->List ax
 | []=>[]
 | p::ps=>oI p::lQ ps
end
theorem zcv:∀ps:List ax,lQ ps=ps.map oI
 | []=>by unfold lQ;rfl
 | p::ps=>by unfold lQ;rw[zcv ps];rfl
theorem zfy (op:Int) (cls:List Int) (kids:List ax):oI (.mk op cls kids)= .mk op cls (if op=2 then (kids.map oI).reverse else kids.map oI):=by
 unfold oI;rw[zcv]
theorem ziX {R:Nat->Nat->Prop} {i j k:Nat} (h:cg R i j) (h2:R j k):Cmp R (cg R) i k:=by
 induction h with
 | refl=>exact⟨k,h2,.refl _⟩
 | step a b ih=>
  obtain⟨m,h3,h4⟩:=ih h2;exact⟨_,a,.step h3 h4⟩
theorem qH {R S:Nat->Nat->Prop} {n:Nat} (hR:∀i k,R i k->i<=k) (h:∀i k,k<=n->R i k->S (n - k) (n - i)) {i k:Nat} (hs:cg R i k):k<=n->cg S (n - k) (n - i):=by
 induction hs with
 | refl=>exact fun _=>.refl _
 | step a b ih=>
  intro hk;have h1:=dB hR b;exact(ih hk).trans (.step (h _ _ (by omega) a) (.refl _))
mutual
theorem nM (c:List Int):∀(p:ax) (i k:Nat),k<=c.length->aO c p i k->aO c.reverse (oI p) (c.length - k) (c.length - i)
 | .mk op cls kids,i,k,hk,h=>by
  have H:=znA c kids;have HL:=gH c kids;unfold aO at h;rw[oI];unfold aO
  split at h
  ·rename_i e
   rw[if_pos e];obtain⟨h1,z,h2,h3⟩:=h;have hi:=(sL.1 h2).1;refine⟨by omega,z,?_,h3⟩
   rw[List.getElem?_reverse (by omega),show c.length - 1 - (c.length - k)=i by omega]
   exact h2
  ·rename_i e
   rw[if_neg e]
   split at h
   ·rename_i e
    rw[if_pos e,if_pos e];exact zek c kids i k hk h
   ·rename_i e
    rw[if_neg e,if_neg e]
    split at h
    ·rename_i e
     rw[if_pos e];exact zem c kids i k hk h
    ·rename_i e
     rw[if_neg e]
     split at h
     ·rename_i e
      rw[if_pos e];exact qH HL H h hk
     ·rename_i e
      rw[if_neg e]
      split at h
      ·rename_i e
       rw[if_pos e];obtain⟨j,h1,h2⟩:=h;have h3:=dB HL h2;exact ziX (qH HL H h2 hk) (H _ _ (by omega) h1)
      ·rename_i e
       rw[if_neg e]
       split at h
       ·rename_i e
        rw[if_pos e]
        rcases h with h | h
        ·exact .inl (by omega)
        ·exact .inr (H _ _ hk h)
       ·rename_i e
        rw[if_neg e];omega
theorem zek (c:List Int):∀(ps:List ax) (i k:Nat),k<=c.length->cz c ps i k->cz c.reverse (lQ ps).reverse (c.length - k) (c.length - i)
 | [],i,k,hk,h=>by
  rw[ca] at h;rw[lQ,List.reverse_nil,ca];omega
 | p::ps,i,k,hk,h=>by
  rw[bU] at h;obtain⟨j,h1,h2⟩:=h;have h3:=kR c ps _ _ h2;rw[lQ,List.reverse_cons,kS,bU,ca,ziA];exact⟨c.length - j,zek c ps j k hk h2,nM c p i j (by omega) h1⟩
theorem zem (c:List Int):∀(ps:List ax) (i k:Nat),k<=c.length->bO c ps i k->bO c.reverse (lQ ps) (c.length - k) (c.length - i)
 | [],i,k,hk,h=>by unfold bO at h;exact h.elim
 | p::ps,i,k,hk,h=>by
  rw[lQ];unfold bO at h⊢
  rcases h with h | h
  ·exact .inl (nM c p i k hk h)
  ·exact .inr (zem c ps i k hk h)
theorem znA (c:List Int):∀(ps:List ax) (i k:Nat),k<=c.length->cG c ps i k->cG c.reverse (lQ ps) (c.length - k) (c.length - i)
 | [],i,k,hk,h=>by unfold cG at h;exact h.elim
 | p::ps,i,k,hk,h=>by
  rw[lQ];unfold cG at h⊢;exact nM c p i k hk h
end
def dE (p:ax) (L:List Int):Prop:=∀(c:List Int) (i k:Nat),aO c p i k->i<k->∃z,c[i]? =some z/\z∈L
def Nil (p:ax):Prop:=∀(c:List Int) (i k:Nat),¬aO c p i k
def zbG (ps:List ax):Prop:=∀(c:List Int) (i k:Nat),¬cz c ps i k
def Ful (p:ax):Prop:=∀(c:List Int) (i:Nat),¬aO c p i i
theorem dE.mono {p:ax} {L M:List Int} (h:dE p L) (hm:∀z∈L,z∈M):dE p M:=fun c i k h1 h2=>by
 obtain⟨z,h3,h4⟩:=h c i k h1 h2;exact⟨z,h3,hm z h4⟩
theorem zvu (cls:List Int) (kids:List ax):dE (.mk 1 cls kids) cls:=fun c i k h _=>by
 unfold aO at h;rw[if_pos rfl] at h;exact h.2
theorem zqL (op:Int) (cls:List Int) (kids:List ax) (h1:op≠1) (h2:op≠2) (h3:op≠3) (h4:op≠4) (h5:op≠5) (h6:op≠6):dE (.mk op cls kids) []:=fun c i k h hlt=>by
 rw[zrU c cls kids op h1 h2 h3 h4 h5 h6] at h;have h:i=k:=h;omega
theorem zhn {R:Nat->Nat->Prop} {c L:List Int} (hR:∀i k,R i k->i<=k) (h:∀i k,R i k->i<k->∃z,c[i]? =some z/\z∈L) {i k:Nat} (hs:cg R i k):i<k->∃z,c[i]? =some z/\z∈L:=by
 induction hs with
 | refl=>intro h;omega
 | step a b ih=>
  rename_i i j k
  intro hlt
  rcases ta (hR _ _ a) with e | e
  ·subst e;exact ih hlt
  ·exact h _ _ a e
theorem zqM (op:Int) (cls:List Int) (kids:List ax) (L:List Int) (h1:op≠1) (h2:op≠2) (h:∀p∈kids,dE p L):dE (.mk op cls kids) L:=fun c i k hl hlt=>by
 have hO:∀ps:List ax,(∀p∈ps,dE p L)->∀i k,bO c ps i k->i<k->∃z,c[i]? =some z/\z∈L:=by
  intro ps
  induction ps with
  | nil=>intro _ i k h;unfold bO at h;exact h.elim
  | cons p ps ih=>
   intro hp i k h hlt;unfold bO at h
   rcases h with h | h
   ·exact hp p (tk ..) c i k h hlt
   ·exact ih (fun q hq=>hp q (tC _ hq)) i k h hlt
 have hH:∀i k,cG c kids i k->i<k->∃z,c[i]? =some z/\z∈L:=by
  intro i k h2 hlt
  cases kids with
  | nil=>unfold cG at h2;exact h2.elim
  | cons p ps=>
   rw[zaK] at h2;exact h p (tk ..) c i k h2 hlt
 unfold aO at hl;rw[if_neg h1,if_neg h2] at hl
 split at hl
 ·exact hO kids h i k hl hlt
 ·split at hl
  ·exact zhn (gH c kids) hH hl hlt
  ·split at hl
   ·obtain⟨j,h3,h4⟩:=hl
    rcases ta (gH c kids _ _ h3) with e | e
    ·subst e;exact zhn (gH c kids) hH h4 hlt
    ·exact hH _ _ h3 e
   ·split at hl
    ·rcases hl with hl | hl
     ·omega
     ·exact hH _ _ hl hlt
    ·omega
def FsT (kids:List ax) (j:Nat) (L:List Int):Prop:=∀(c:List Int) (i k:Nat),cz c kids i k->i<k->(∃z,c[i]? =some z/\z∈L)\/cz c (kids.drop j) i k
theorem zxq (kids:List ax):FsT kids 0 []:=fun _ _ _ h _=>.inr h
theorem zgr {kids:List ax} {j:Nat} {c:List Int} {i k:Nat} (hj:j<kids.length) (h:cz c (kids.drop j) i k):∃m,aO c kids[j] i m/\cz c (kids.drop (j+1)) m k:=by
 rw[List.drop_eq_getElem_cons hj,bU] at h;exact h
theorem pC {kids:List ax} {j:Nat} {L M:List Int} (hj:j<kids.length) (h:FsT kids j L) (hL:∀z∈L,z∈M) (h1:dE kids[j] M\/Nil kids[j]\/zbG (kids.drop (j+1))):FsT kids (j+1) M:=fun c i k hl hlt=>by
 rcases h c i k hl hlt with ⟨z,h2,h3⟩ | h2
 ·exact .inl ⟨z,h2,hL z h3⟩
 ·obtain⟨m,h3,h4⟩:=zgr hj h2
  rcases ta (ke c _ _ _ h3) with e | e
  ·subst e;exact .inr h4
  ·rcases h1 with h1 | h1 | h1
   ·exact .inl (h1 c i m h3 e)
   ·exact absurd h3 (h1 _ _ _)
   ·exact absurd h4 (h1 _ _ _)
theorem pB {kids:List ax} {j:Nat} {L M:List Int} (hj:j<kids.length) (h:FsT kids j L) (hL:∀z∈L,z∈M) (h1:dE kids[j] M\/Nil kids[j]\/zbG (kids.drop (j+1))) (h0:Ful kids[j]) (op:Int) (cls:List Int) (ho:op=2):dE (.mk op cls kids) M:=fun c i k hl hlt=>by
 subst ho;rw[zhR] at hl
 rcases h c i k hl hlt with ⟨z,h2,h3⟩ | h2
 ·exact⟨z,h2,hL z h3⟩
 ·obtain⟨m,h3,h4⟩:=zgr hj h2
  rcases ta (ke c _ _ _ h3) with e | e
  ·subst e;exact absurd h3 (h0 _ _)
  ·rcases h1 with h1 | h1 | h1
   ·exact h1 c i m h3 e
   ·exact absurd h3 (h1 _ _ _)
   ·exact absurd h4 (h1 _ _ _)
theorem zqK {kids:List ax} {L:List Int} (h:FsT kids kids.length L) (op:Int) (cls:List Int) (ho:op=2):dE (.mk op cls kids) L:=fun c i k hl hlt=>by
 subst ho;rw[zhR] at hl
 rcases h c i k hl hlt with h2 | h2
 ·exact h2
 ·rw[List.drop_length,ca] at h2
  omega
theorem zhH {ps:List ax} {j:Nat} (hj:j<ps.length) (h:Nil ps[j]):zbG ps:=fun c i k hl=>by
 rw[<- List.take_append_drop j ps,kS] at hl;obtain⟨m,_,h2⟩:=hl;obtain⟨q,h3,_⟩:=zgr hj h2;exact h _ _ _ h3
theorem zqi (kids:List ax):Nil (.mk 1 [] kids):=fun c i k h=>by
 unfold aO at h;rw[if_pos rfl] at h;obtain⟨_,z,_,h2⟩:=h
 cases h2
theorem zmc {cls:List Int} {kids:List ax} (h:zbG kids):Nil (.mk 2 cls kids):=fun c i k hl=>by
 rw[zhR] at hl;exact h _ _ _ hl
theorem zsW {cls:List Int} {kids:List ax} (h:∀p∈kids,Nil p):Nil (.mk 3 cls kids):=fun c i k hl=>by
 rw[zrW] at hl
 revert i k
 induction kids with
 | nil=>intro i k h;unfold bO at h;exact h
 | cons p ps ih=>
  intro i k h2;unfold bO at h2
  rcases h2 with h2 | h2
  ·exact h p (tk ..) _ _ _ h2
  ·exact ih (fun q hq=>h q (tC _ hq)) i k h2
theorem zmd {cls:List Int} {p:ax} {ps:List ax} (h:Nil p):Nil (.mk 5 cls (p::ps)):=fun c i k hl=>by
 rw[zrV] at hl;obtain⟨_,h1,_⟩:=hl;exact h _ _ _ h1
mutual
theorem nN (c:List Int):∀(p:ax) (i:Nat),aO c p i i->aO [] p 0 0
 | .mk op cls kids,i,h=>by
  have H:=znB c kids;have HL:=gH c kids;unfold aO at h⊢
  split at h
  ·omega
  ·rename_i e
   rw[if_neg e]
   split at h
   ·rename_i e
    rw[if_pos e];exact zel c kids i h
   ·rename_i e
    rw[if_neg e]
    split at h
    ·rename_i e
     rw[if_pos e];exact zen c kids i h
    ·rename_i e
     rw[if_neg e]
     split at h
     ·rename_i e
      rw[if_pos e];exact .refl _
     ·rename_i e
      rw[if_neg e]
      split at h
      ·rename_i e
       rw[if_pos e];obtain⟨j,h1,h2⟩:=h;have h3:=HL _ _ h1;have h4:=dB HL h2;obtain rfl:j=i:=by omega
       exact⟨0,H _ h1,.refl _⟩
      ·rename_i e
       rw[if_neg e]
       split at h
       ·rename_i e
        rw[if_pos e];exact .inl rfl
       ·rename_i e
        rw[if_neg e]
theorem zel (c:List Int):∀(ps:List ax) (i:Nat),cz c ps i i->cz [] ps 0 0
 | [],i,h=>by rw[ca]
 | p::ps,i,h=>by
  rw[bU] at h⊢;obtain⟨j,h1,h2⟩:=h;have h3:=ke c p _ _ h1;have h4:=kR c ps _ _ h2;obtain rfl:j=i:=by omega
  exact⟨0,nN c p _ h1,zel c ps _ h2⟩
theorem zen (c:List Int):∀(ps:List ax) (i:Nat),bO c ps i i->bO [] ps 0 0
 | [],i,h=>by unfold bO at h;exact h.elim
 | p::ps,i,h=>by
  unfold bO at h⊢
  rcases h with h | h
  ·exact .inl (nN c p i h)
  ·exact .inr (zen c ps i h)
theorem znB (c:List Int):∀(ps:List ax) (i:Nat),cG c ps i i->cG [] ps 0 0
 | [],i,h=>by unfold cG at h;exact h.elim
 | p::ps,i,h=>by unfold cG at h⊢;exact nN c p i h
end
theorem zvt {p:ax} (h:¬aO [] p 0 0):Ful p:=fun c i hl=>h (nN c p i hl)
end Pt
end
section
open Go.RowKit
namespace Pt
def Rs (cls:List Int):Prop:=∀(i:Nat) (z:Int),cls[i]? =some z->0<=z/\z<2147483647/\∀(y:Int),0<i->cls[i - 1]? =some y->y<z
def OkN (op:Int) (cls:List Int) (kn:Nat):Prop:=(op=1/\kn=0/\Rs cls)\/cls=[]/\((op=0/\kn=0)\/(op=2/\2<=kn)\/(op=3/\2<=kn)\/(op=4/\kn=1)\/(op=5/\kn=1)\/(op=6/\kn=1))
section
variable (lo:Option Addr) (ln lc kn kc:Nat) (ko:Option Addr) (w:sD)
theorem zsV (op:Int) (hk9:kn<=1000000) (h:(op=0/\kn=0)\/(op=2/\2<=kn)\/(op=3/\2<=kn)\/(op=4/\kn=1)\/(op=5/\kn=1)\/(op=6/\kn=1)):
  sK Tryz.prog 186 #[.agg #[.int .i64 op,.slice lo 0 lc,.slice ko kn kc],.int .i64 2147483647] w fun e w'=>e= .returned (.int .i64 0)/\sE w.heap.size w w':=by
 have HB:=hid (fun(o:Obj)=>below_box (w:=w) (o:=o))
 rcases h with ⟨rfl,rfl⟩ | ⟨rfl,h2⟩ | ⟨rfl,h2⟩ | ⟨rfl,rfl⟩ | ⟨rfl,rfl⟩ | ⟨rfl,rfl⟩
 ·go_enter Tryz.func186,Tryz.ntmps186
  go_wp2;go_loopw [7] (fun y wr=>y= .int .i64 0/\wr=w.alloc (.cells #[.int .i64 0,.slice lo 0 lc,.slice ko 0 kc] 105)) (fun y _=>0)
  case atStart=>exact⟨rfl,rfl⟩
  case round=>
   obtain⟨rfl,rfl⟩:=hrel;go_wp2;go_ret;exact⟨rfl,HB.out _⟩
 ·have k1:(2:Int)<=(kn:Int):=by omega
  have k3:((kn:Int)==1)=false:=by simp;omega
  go_enter Tryz.func186,Tryz.ntmps186;go_wp2;go_loopw [7] (fun y wr=>y= .int .i64 0/\wr=w.alloc (.cells #[.int .i64 2,.slice lo 0 lc,.slice ko kn kc] 105)) (fun y _=>0)
  case atStart=>exact⟨rfl,rfl⟩
  case round=>
   obtain⟨rfl,rfl⟩:=hrel;go_wp2;go_ret;exact⟨rfl,HB.out _⟩
 ·have k1:(2:Int)<=(kn:Int):=by omega
  have k3:((kn:Int)==1)=false:=by simp;omega
  go_enter Tryz.func186,Tryz.ntmps186;go_wp2;go_loopw [7] (fun y wr=>y= .int .i64 0/\wr=w.alloc (.cells #[.int .i64 3,.slice lo 0 lc,.slice ko kn kc] 105)) (fun y _=>0)
  case atStart=>exact⟨rfl,rfl⟩
  case round=>
   obtain⟨rfl,rfl⟩:=hrel;go_wp2;go_ret;exact⟨rfl,HB.out _⟩
 ·go_enter Tryz.func186,Tryz.ntmps186
  go_wp2;go_loopw [7] (fun y wr=>y= .int .i64 0/\wr=w.alloc (.cells #[.int .i64 4,.slice lo 0 lc,.slice ko 1 kc] 105)) (fun y _=>0)
  case atStart=>exact⟨rfl,rfl⟩
  case round=>
   obtain⟨rfl,rfl⟩:=hrel;go_wp2;go_ret;exact⟨rfl,HB.out _⟩
 ·go_enter Tryz.func186,Tryz.ntmps186
  go_wp2;go_loopw [7] (fun y wr=>y= .int .i64 0/\wr=w.alloc (.cells #[.int .i64 5,.slice lo 0 lc,.slice ko 1 kc] 105)) (fun y _=>0)
  case atStart=>exact⟨rfl,rfl⟩
  case round=>
   obtain⟨rfl,rfl⟩:=hrel;go_wp2;go_ret;exact⟨rfl,HB.out _⟩
 ·go_enter Tryz.func186,Tryz.ntmps186
  go_wp2;go_loopw [7] (fun y wr=>y= .int .i64 0/\wr=w.alloc (.cells #[.int .i64 6,.slice lo 0 lc,.slice ko 1 kc] 105)) (fun y _=>0)
  case atStart=>exact⟨rfl,rfl⟩
  case round=>
   obtain⟨rfl,rfl⟩:=hrel;go_wp2;go_ret;exact⟨rfl,HB.out _⟩
theorem zsU (cls:List Int) (hln:ln=cls.length) (hl9:ln<=1000000) (hR:Rs cls) (hC:RdI w lo cls):
  sK Tryz.prog 186 #[.agg #[.int .i64 1,.slice lo ln lc,.slice ko 0 kc],.int .i64 2147483647] w fun e w'=>e= .returned (.int .i64 0)/\sE w.heap.size w w':=by
 have HR:=hid hR;have HC:=hid hC;have HLN:=hid hln;clear hR hC hln;go_enter Tryz.func186,Tryz.ntmps186;go_wp2;obtain⟨w1,hw1⟩:∃w1,w1=w.alloc (.cells #[.int .i64 1,.slice lo ln lc,.slice ko 0 kc] 105):=⟨_,rfl⟩;have hb1:sE w.heap.size w w1:=by rw[hw1];exact below_box
 have x2:w1.cell? ⟨w.heap.size,1,none⟩=some (.slice lo ln lc):=by rw[hw1];simp[go_sem]
 have hs1:w.heap.size<w1.heap.size:=by rw[hw1];simp
 rw[<- hw1];have HB1:=hid hb1;have HX2:=hid x2;clear hw1 hb1 x2;go_loopw [7] (fun y wr=>∃i:Nat,y= .int .i64 i/\i<=ln/\Hid (sE w1.heap.size w1 wr)) (fun y _=>ln - (sJ y).toNat)
 case atStart=>exact⟨0,rfl,sH _,hid (sZ _ _)⟩
 case round=>
  obtain⟨i,rfl,hi,HB⟩:=hrel;have x2:wr.cell? ⟨w.heap.size,1,none⟩=some (.slice lo ln lc):=(HB.out.cell (p:=⟨w.heap.size,1,none⟩) hs1).trans HX2.out;have HBw:=hid (HB1.out.trans (HB.out.mono HB1.out.size))
  by_cases hlt:i<ln
  ·have i0:(0:Int)<=(i:Int):=by omega
   have i1:(i:Int)<(ln:Int):=by omega
   have hil:i<cls.length:=by have:=HLN.out;omega
   obtain⟨a,ha1,ha,c1⟩:=HC.out.at hil;have c2:wr.cell? (a.add i)=some (.int .i64 cls[i]):=(HBw.out.cell (p:=a.add i) (by rw[add_blk];exact ha)).trans c1
   obtain⟨z,hz⟩:∃z,z=cls[i]:=⟨_,rfl⟩;have hgz:cls[i]? =some z:=by rw[hz];exact sG hil
   rw[<- hz] at c2;obtain⟨r1,r2,r3⟩:=HR.out i z hgz;clear c1 hz;have d1:decide (z<0)=false:=decide_eq_false (by omega)
   have d2:decide ((2147483647:Int)<=z)=false:=decide_eq_false (by omega)
   have n1:¬z<0:=by omega
   have n2:¬(2147483647:Int)<=z:=by omega
   by_cases hi0:i=0
   ·subst hi0
    subst ha1;have c5:wr.cell? a=some (.int .i64 z):=by
     have e:a.add 0=a:=by unfold Addr.add;split<;>simp_all
     rw[e] at c2;exact c2
    have i5:(0:Int)<(ln:Int):=by omega
    clear hgz r3 c2 i1 i0;go_wp2_with fail;go_quiet (fail);have HBd:=hid (show sE w1.heap.size w1 (wr.drewN nq) from⟨HB.out.os,HB.out.tape,HB.out.output,HB.out.size,HB.out.block⟩)
    go_wp2;go_roundw
    case rel=>exact⟨1,by go_num,by omega,HBd⟩
    case measure=>simp[sJ];omega
   ·have hj:i - 1<cls.length:=by omega
    obtain⟨a2,ha2,hb2,c3⟩:=HC.out.at hj;rw[ha1] at ha2
    cases ha2
    have c4:wr.cell? (a.add (i - 1))=some (.int .i64 cls[i - 1]):=(HBw.out.cell (p:=a.add (i - 1)) (by rw[add_blk];exact ha)).trans c3
    obtain⟨y,hy⟩:∃y,y=cls[i - 1]:=⟨_,rfl⟩;have hgy:cls[i - 1]? =some y:=by rw[hy];exact sG hj
    rw[<- hy] at c4;have r4:=r3 y (by omega) hgy
    subst ha1;clear c3 hy hgz hgy r3;have d3:decide ((0:Int)<(i:Int))=true:=decide_eq_true (by omega)
    have n3:(0:Int)<(i:Int):=by omega
    have n3':0<i:=by omega
    have d4:decide (z<=y)=false:=decide_eq_false (by omega)
    have n4:¬z<=y:=by omega
    have e1:((i:Int) - 1).toNat=i - 1:=by omega
    have e2:(0:Int)<=(i:Int) - 1:=by omega
    have e3:(i:Int) - 1<(ln:Int):=by omega
    have e4:tb.wrap ((i:Int) - 1)=(i:Int) - 1:=by unfold sV sW sP;simp;omega
    clear hi0;go_wp2_with fail;go_quiet (fail);have HBd:=hid (show sE w1.heap.size w1 (wr.drewN nq) from⟨HB.out.os,HB.out.tape,HB.out.output,HB.out.size,HB.out.block⟩)
    go_wp2;go_roundw
    case rel=>exact⟨i+1,by go_num,by omega,HBd⟩
    case measure=>simp[sJ];omega
  ·have i1:¬(i:Int)<(ln:Int):=by omega
   go_wp2;go_ret;exact⟨rfl,HBw.out⟩
end
end Pt
end
section
open Go.RowKit
namespace Pt
mutual
def gh:ax->Nat
 | .mk _ _ kids=>kC kids+1
def kC:List ax->Nat
 | []=>0
 | p::ps=>gh p+kC ps
end
mutual
def jU:ax->Prop
 | .mk op cls kids=>OkN op cls kids.length/\mX kids
def mX:List ax->Prop
 | []=>True
 | p::ps=>jU p/\mX ps
end
theorem mX.mem:∀{ps:List ax} {p:ax},mX ps->p∈ps->jU p
 | [],p,_,hp=>by cases hp
 | q::ps,p,h,hp=>by
  unfold mX at h
  cases hp with
  | head=>exact h.1
  | tail _ hp=>exact mX.mem h.2 hp
mutual
theorem jU.wf:∀{p:ax},jU p->Wf p
 | .mk op cls kids,h=>by
  unfold jU at h;unfold Wf;refine⟨fun h456 e=>?_,mX.wf h.2⟩
  obtain⟨h1,_⟩:=h;subst e;unfold OkN at h1
  simp only[List.length_nil] at h1
  rcases h1 with ⟨h1,_⟩ | ⟨_,h1⟩<;>omega
theorem mX.wf:∀{ps:List ax},mX ps->WfL ps
 | [],_=>by unfold WfL;trivial
 | q::ps,h=>by
  unfold mX at h;unfold WfL;exact⟨jU.wf h.1,mX.wf h.2⟩
end
theorem ez:∀(ps:List ax) (j:Nat) (p:ax),ps[j]? =some p->kC (ps.take (j+1))=kC (ps.take j)+gh p
 | [],j,p,h=>by simp at h
 | q::ps,0,p,h=>by simp at h;subst h;simp[kC]
 | q::ps,j+1,p,h=>by
  have:=ez ps j p (by simpa using h)
  simp only[tF,kC,this]
  omega
theorem fu:∀(ps:List ax) (j:Nat),kC (ps.take j)<=kC ps
 | [],j=>by simp[kC]
 | q::ps,0=>by simp[kC]
 | q::ps,j+1=>by
  have:=fu ps j
  simp only[tF,kC]
  omega
def CkQ (w:sD) (n:Nat) (e:tV) (w':sD):Prop:=e= .returned (.tuple #[.int .i64 0,.int .i64 (n:Int)])/\sE w.heap.size w w'
set_option maxRecDepth 100000 in
theorem check_in (lo ko:Option Addr) (ln lc kn kc:Nat) (op:Int) (w:sD) (ahead:Nat) (S:Nat->Nat) (hk9:kn<=1000000) (h1:ahead<2048) (hS:∀j,j<=kn->S j<=3000) (HS0:Hid (S 0=ahead+1))
  (HN:Hid (∀W,sE w.heap.size w W->sK Tryz.prog 186 #[.agg #[.int .i64 op,.slice lo ln lc,.slice ko kn kc],.int .i64 2147483647] W fun e w'=>e= .returned (.int .i64 0)/\sE W.heap.size W w'))
  (HK:Hid (∀j,j<kn->∃b o u0 u1 u2,ko=some ⟨b,o,none⟩/\b<w.heap.size/\w.cell? ⟨b,o+j * 3,none⟩=some u0/\w.cell? ⟨b,o+j * 3+1,none⟩=some u1/\w.cell? ⟨b,o+j * 3+2,none⟩=some u2/\∀W,sE w.heap.size w W->sK Tryz.prog 171 #[.agg #[u0,u1,u2],.int .i64 2147483647,.int .i64 (S j)] W (CkQ W (S (j+1))))):
  sK Tryz.prog 171 #[.agg #[.int .i64 op,.slice lo ln lc,.slice ko kn kc],.int .i64 2147483647,.int .i64 ahead] w (CkQ w (S kn)):=by
 have a1:(ahead:Int)<2048:=by omega
 have HS:=hid hS;clear hS;go_enter Tryz.func171,Tryz.ntmps171;go_wp2_with fail;obtain⟨w1,hw1⟩:∃w1,w1=w.alloc (.cells #[.int .i64 op,.slice lo ln lc,.slice ko kn kc] 105):=⟨_,rfl⟩;have hb1:sE w.heap.size w w1:=by rw[hw1];exact below_box
 have x2:w1.cell? ⟨w.heap.size,2,none⟩=some (.slice ko kn kc):=by rw[hw1];simp[go_sem]
 have hs1:w.heap.size<w1.heap.size:=by rw[hw1];simp
 rw[<- hw1];have HB1:=hid hb1;have HX2:=hid x2;clear hw1 hb1 x2;refine(HN.out w1 HB1.out).mono ?_;rintro e w2 ⟨rfl,hB2⟩;have HB2:=hid hB2;clear hB2;go_wp2;go_loopw [8,9,10] (fun x y z wr=>∃(j s:Nat),x= .int .i64 0/\y= .int .i64 s/\z= .int .i64 j/\j<=kn/\s<=3000/\Hid (s=S j)/\Hid (sE w1.heap.size w1 wr)) (fun _ _ z _=>kn - (sJ z).toNat)
 case atStart=>exact⟨0,ahead+1,rfl,by go_num,rfl,sH _,by omega,hid HS0.out.symm,HB2⟩
 case round=>
  clear HB2;obtain⟨j,s,rfl,rfl,rfl,hj,hs9,HSj,HB⟩:=hrel;have x2:wr.cell? ⟨w.heap.size,2,none⟩=some (.slice ko kn kc):=(HB.out.cell (p:=⟨w.heap.size,2,none⟩) hs1).trans HX2.out;have HBw:=hid (HB1.out.trans (HB.out.mono HB1.out.size))
  by_cases hlt:j<kn
  ·have j0:(0:Int)<=(j:Int):=by omega
   have j1:(j:Int)<(kn:Int):=by omega
   obtain⟨b,o,u0,u1,u2,rfl,hb,q0,q1,q2,hL⟩:=HK.out j hlt;have y0:wr.cell? ⟨b,o+j * 3,none⟩=some u0:=(HBw.out.cell (p:=⟨b,o+j * 3,none⟩) hb).trans q0;have y1:wr.cell? ⟨b,o+j * 3+1,none⟩=some u1:=(HBw.out.cell (p:=⟨b,o+j * 3+1,none⟩) hb).trans q1;have y2:wr.cell? ⟨b,o+j * 3+2,none⟩=some u2:=(HBw.out.cell (p:=⟨b,o+j * 3+2,none⟩) hb).trans q2;rw[<- HSj.out] at hL;have HL:=hid hL;clear q0 q1 q2 hL;go_wp2_with fail;refine(HL.out wr HBw.out).mono ?_;rintro e w3 ⟨rfl,hB3⟩;have HB3:=hid (HB.out.trans (hB3.mono HB.out.size));clear hB3 y0 y1 y2 x2;go_wp2;go_roundw
   case rel=>exact⟨j+1,S (j+1),rfl,rfl,by go_num,by omega,HS.out _ (by omega),hid rfl,HB3⟩
   case measure=>simp[sJ];omega
  ·have j1:¬(j:Int)<(kn:Int):=by omega
   have HQ:=hid (show CkQ w (S kn) (.returned (.tuple #[.int .i64 0,.int .i64 s])) wr from⟨by rw[HSj.out,show j=kn by omega],HBw.out⟩)
   go_wp2;go_ret2;exact HQ.out
end Pt
end
section
open Go.RowKit
namespace Pt
theorem zkB:∀p:ax,jU p->∀(v0 v1 v2:sN) (ahead:Nat) (w:sD),cv w p v0 v1 v2->ahead+gh p<=2048->sK Tryz.prog 171 #[.agg #[v0,v1,v2],.int .i64 2147483647,.int .i64 ahead] w (CkQ w (ahead+gh p)):=by
 refine ax.ind fun op cls kids ih hO v0 v1 v2 ahead w hP hs=>?_
 unfold cv at hP;unfold jU at hO;unfold gh at hs⊢;obtain⟨rfl,⟨lo,lc,rfl,hl1,hl2⟩,ko,kc,rfl,hk1,hk2,_⟩:=hP;have h:=check_in lo ko cls.length lc kids.length kc op w ahead (fun j=>ahead+1+kC (kids.take j)) hk2 (by omega) (fun j _=>by have:=fu kids j;omega) (hid (by simp[kC])) (hid fun W hW=>?_) (hid fun j hj=>?_)
 ·have e:ahead+1+kC (kids.take kids.length)=ahead+(kC kids+1):=by rw[tu];omega
  rw[e] at h;exact h
 ·obtain⟨h1,_⟩:=hO
  rcases h1 with ⟨rfl,h2,h3⟩ | ⟨rfl,h2⟩
  ·rw[h2]
   exact zsU lo cls.length lc kc ko W cls rfl hl2 h3 (hl1.below hW)
  ·exact zsV lo lc kids.length kc ko W op hk2 h2
 ·obtain⟨b,o,h1,h2,u0,u1,u2,q0,q1,q2,hq⟩:=gu.at kids ko 0 j _ hk1 (sG hj)
  rw[tN] at q0 q1 q2;refine⟨b,o,u0,u1,u2,h1,h2,q0,q1,q2,fun W hW=>?_⟩
  have e:=ez kids j _ (sG hj);have e2:=fu kids (j+1);have:=ih _ (sR hj) (hO.2.mem (sR hj)) u0 u1 u2 (ahead+1+kC (kids.take j)) W (cv.below hW _ _ _ _ hq) (by omega)
  rw[show ahead+1+kC (kids.take j)+gh kids[j]=ahead+1+kC (kids.take (j+1)) by omega] at this
  exact this
theorem zgG (p:ax) (hO:jU p) (hs:gh p<=2048) (v0 v1 v2:sN) (w:sD) (hP:cv w p v0 v1 v2):sK Tryz.prog 148 #[.agg #[v0,v1,v2],.int .i64 2147483647] w fun e w'=>e= .returned (.int .i64 0)/\sE w.heap.size w w':=by
 have HC:=hid (fun(W:sD) (h:sE w.heap.size w W)=>zkB p hO v0 v1 v2 0 W (cv.below h _ _ _ _ hP) (by omega))
 clear hP;go_enter Tryz.func148,Tryz.ntmps148;go_wp2_with fail;refine(HC.out _ below_box).mono ?_;rintro e w2 ⟨rfl,hB2⟩;have HB:=hid (below_box.trans (hB2.mono (by simp)))
 clear hB2;go_wp2;go_ret;exact⟨rfl,HB.out⟩
theorem fL (p:ax) (hO:jU p) (hs:gh p<=2048) (v0 v1 v2:sN) (w:sD) (hP:cv w p v0 v1 v2):sK Tryz.prog 111 #[.agg #[v0,v1,v2]] w fun e w'=>e= .returned (.bool true)/\sE w.heap.size w w':=by
 have HC:=hid (fun(W:sD) (h:sE w.heap.size w W)=>zgG p hO hs v0 v1 v2 W (cv.below h _ _ _ _ hP))
 clear hP;go_enter Tryz.func111,Tryz.ntmps111;go_wp2_with fail;refine(HC.out _ below_box).mono ?_;rintro e w2 ⟨rfl,hB2⟩;have HB:=hid (below_box.trans (hB2.mono (by simp)))
 clear hB2;go_wp2;go_ret;exact⟨rfl,HB.out⟩
def kh (L:List Nat):List sN:=L.map fun(x:Nat)=>.int .i64 (x:Int)
open Classical in
noncomputable def gR (A:Nat->Prop) (n:Nat):List Nat:=(List.range n).filter fun i=>decide (A i)
theorem zrY (A:Nat->Prop):gR A 0=[]:=rfl
open Classical in
theorem kX (A:Nat->Prop) (n:Nat):gR A (n+1)=if A n then gR A n++[n] else gR A n:=by
 unfold gR;rw[List.range_succ,List.filter_append]
 by_cases h:A n
 ·simp[h]
 ·simp[h]
theorem zaT (A:Nat->Prop) (n:Nat):(gR A n).length<=n:=by
 unfold gR;exact sO (List.length_filter_le _ _) (by simp)
theorem zaS (A:Nat->Prop) (n x:Nat):x∈gR A n ↔ x<n/\A x:=by simp[gR]
theorem rC {A B:Nat->Prop} {n:Nat} (h:∀i,i<n->(A i ↔ B i)):gR A n=gR B n:=by
 unfold gR
 apply List.filter_congr
 intro i hi;rw[List.mem_range] at hi
 simp[h i hi]
def LsQ (w:sD) (L:List Nat) (e:tV) (w':sD):Prop:=∃(vo:Option Addr) (vc:Nat),e= .returned (.slice vo L.length vc)/\w'.ownsRow w.heap.size 3 1 (.slice vo L.length vc) L.length (kh L)/\sE w.heap.size w w'
theorem zeA (L:List Nat):∀v∈kh L,v.oneCell'=true:=fun v hv=>by
 unfold kh at hv;obtain⟨x,_,rfl⟩:=tg.1 hv
 rfl
theorem zmg (w:sD) (v:sN) (T:tY):∀j u,[v][j]? =some u->(w.alloc (.cells #[v] T)).cell? ((⟨w.heap.size,0,none⟩:Addr).add j)=some u:=tE (cs:=#[v]) (heap_alloc_new w _)
theorem Tryz.info3:(Tryz.prog.info? 3).map (fun i=>(i.zero,i.size,i.bytes))=some (some (.int .i64 0),1,8):=by kernel_rfl
theorem Tryz.underInts:Tryz.prog.underlying 23=some (.slice 3):=by kernel_rfl
theorem qY {w wr w8:sD} {v:sN} {o:Obj} {B n:Nat} {xs:List sN} (hB:sE w.heap.size w wr) (hB0:B=w.heap.size) (own:wr.ownsRow B 3 1 v n xs) (gr:tW (wr.alloc o) w8 v.ownBlock):sE w.heap.size w w8:=by
 subst hB0;have hs:=hB.size;have h1:sE w.heap.size w (wr.alloc o):=hB.alloc hs _;refine h1.grown gr (by simp;omega) fun k hk=>?_
 rcases own.2 with ⟨rfl,_⟩ | ⟨g,cap,cur,rfl,h2,_⟩
 ·cases hk
 ·cases hk;exact h2
theorem zfr (p:ax) (hO:jU p) (hs:gh p<=2048) (v0 v1 v2:sN) (c:List Int) (co:Option Addr) (cn cc:Nat) (hcn:cn=c.length) (hc:cn<=90000) (w:sD) (hP:cv w p v0 v1 v2) (hI:RdI w co c):
  sK Tryz.prog 112 #[.agg #[v0,v1,v2],.slice co cn cc] w (LsQ w (gR (fun i=>aO c p i cn) (cn+1))):=by
 have HG:=hid (fun(W:sD) (h:sE w.heap.size w W)=>fL p hO hs v0 v1 v2 W (cv.below h _ _ _ _ hP))
 have HL:=hid (fun(W:sD) (h:sE w.heap.size w W)=>rm c cn ((cn+1) / 64) hcn hc rfl co cc p hO.wf v0 v1 v2 W (cv.below h _ _ _ _ hP) (hI.below h))
 clear hP hI hcn;obtain⟨i0,hi3,hz0,hz1,hz2⟩:=tH Tryz.info3;have HI3:=hid (sQ hi3 (sQ hz0 (sQ hz1 hz2)));clear hi3 hz0 hz1 hz2;obtain⟨m,hm⟩:∃m,m=(cn+1) / 64:=⟨_,rfl⟩;rw[<- hm] at HL;have HMm:=hid hm;clear hm;go_enter Tryz.func112,Tryz.ntmps112;go_wp2_with fail;obtain⟨w1,hw1⟩:∃w1,w1=w.alloc (.cells #[v0,v1,v2] 105):=⟨_,rfl⟩;have hb1:sE w.heap.size w w1:=by rw[hw1];exact below_box
 have x0:w1.cell? ⟨w.heap.size,0,none⟩=some v0:=by rw[hw1];simp[go_sem]
 have x1:w1.cell? ⟨w.heap.size,1,none⟩=some v1:=by rw[hw1];simp[go_sem]
 have x2:w1.cell? ⟨w.heap.size,2,none⟩=some v2:=by rw[hw1];simp[go_sem]
 have hs1:w.heap.size<w1.heap.size:=by rw[hw1];simp
 rw[<- hw1];have HB1:=hid hb1;clear hw1 hb1;refine(HG.out w1 HB1.out).mono ?_;rintro e w2 ⟨rfl,hB2⟩;have y0:=(hB2.cell (p:=⟨w.heap.size,0,none⟩) hs1).trans x0;have y1:=(hB2.cell (p:=⟨w.heap.size,1,none⟩) hs1).trans x1;have y2:=(hB2.cell (p:=⟨w.heap.size,2,none⟩) hs1).trans x2;have HB2:=hid (HB1.out.trans (hB2.mono HB1.out.size));clear hB2 x0 x1 x2;go_wp2_with fail;refine(HL.out w2 HB2.out).mono ?_;rintro e w3 ⟨W,⟨g,cap,bs,rfl,hM3,hB3⟩,hR3⟩;have HM3:=hid hM3;have HB3:=hid (HB2.out.trans (hB3.mono HB2.out.size));have HR3:=hid hR3;clear hM3 hB3 hR3 y0 y1 y2;go_wp2;go_loopw [6,7] (fun x y wr=>∃(i n:Nat) (vo:Option Addr) (vc:Nat),x= .slice vo n vc/\y= .int .i64 i/\i<=cn+1/\n<=i/\Hid (n=(gR (fun i=>aO c p i cn) i).length)/\Hid (wr.ownsRow w3.heap.size 3 1 (.slice vo n vc) n (kh (gR (fun i=>aO c p i cn) i)))/\Hid (sE w3.heap.size w3 wr)) (fun _ y _=>cn+1 - (sJ y).toNat)
 case atStart=>exact⟨0,0,none,0,rfl,rfl,sH _,tp _,hid rfl,hid (by rw[zrY];exact tn _ _ _ _),hid (sZ _ _)⟩
 case round=>
  obtain⟨i,n,vo,vc,rfl,rfl,hi,hni,HN,HO,HB⟩:=hrel
  by_cases hlt:i<cn+1
  ·have i0':(0:Int)<=(i:Int):=by omega
   have i1:(i:Int)<=(cn:Int):=by omega
   have i2:(i:Int)<(cn:Int)+1:=by omega
   have HM:=hid (HM3.out.below HB.out);have c1:=HM.out.cell i hlt;have hq:cn / 64<m+1:=by have:=HMm.out;have:=sI (c:=64) (show cn<=cn+1 by omega);omega
   have HH:=hid (nP (bs i) (m+1) cn _ wr (HM.out.row i hlt) hq (HM.out.bd i _ hlt hq) (by omega))
   have HRi:=hid (HR3.out i cn hlt (by omega))
   clear hq;go_wp2_with fail;refine HH.out.mono ?_;rintro e w4 ⟨rfl,e4⟩;obtain rfl:=e4.symm
   by_cases hb:bt (W i) cn=true
   ·rw[hb]
    have HF:=hid (show gR (fun i=>aO c p i cn) (i+1)=gR (fun i=>aO c p i cn) i++[i] from by rw[kX,if_pos (HRi.out.1 hb)])
    clear hb c1 HH;go_wp2_with (at_builtin;refine tj _ rfl _ _ 23 rfl w3.heap.size 3 i0 (.int .i64 0) 1 8 Tryz.underInts HI3.out.1 HI3.out.2.1 HI3.out.2.2.1 HI3.out.2.2.2 rfl (by decide) (.slice vo n vc) n (kh (gR (fun i=>aO c p i cn) i)) rfl (HO.out.alloc _) ⟨wr.heap.size,0,none⟩ 1 1 [.int .i64 (i:Int)] rfl rfl (zmg wr _ _) (zeA [i]) (by decide) (by unfold maxLen;omega) (by omega) (by have:=HB.out.size;simp;omega) (wr.heap.size+1) (by simp) ?_;intro g8 c8 w8 o8 gr8 hl8 hlt8;have HO8:=hid o8;have HB8:=hid (qY HB.out rfl HO.out gr8);clear o8 gr8 hl8 hlt8)
    go_roundw
    case rel=>exact⟨i+1,n+1,_,_,rfl,by go_num,by omega,by omega,hid (by rw[HF.out,tL,HN.out];rfl),hid (by rw[HF.out];unfold kh;rw[tT];exact HO8.out),HB8⟩
    case measure=>simp[sJ];omega
   ·have hb':bt (W i) cn=false:=by simpa using hb
    rw[hb'];have HF:=hid (show gR (fun i=>aO c p i cn) (i+1)=gR (fun i=>aO c p i cn) i from by rw[kX,if_neg (fun h=>hb (HRi.out.2 h))])
    clear hb hb' c1 HH;go_wp2;go_roundw
    case rel=>exact⟨i+1,n,vo,vc,rfl,by go_num,by omega,by omega,hid (by rw[HF.out];exact HN.out),hid (by rw[HF.out];exact HO.out),HB⟩
    case measure=>simp[sJ];omega
  ·have i1:¬(i:Int)<=(cn:Int):=by omega
   have HQ:=hid (show LsQ w (gR (fun i=>aO c p i cn) (cn+1)) (.returned (.slice vo n vc)) wr from by
    have e:i=cn+1:=by omega
    have h1:=HN.out;have h2:=HO.out;rw[e] at h1 h2;refine⟨vo,vc,by rw[h1],?_,HB3.out.trans (HB.out.mono HB3.out.size)⟩
    rw[h1] at h2;exact⟨h2.1,h2.2.imp (fun h=>h) fun⟨g,cap,cur,a1,a2,a3⟩=>⟨g,cap,cur,a1,sO HB3.out.size a2,a3⟩⟩)
   go_wp2;go_ret;exact HQ.out
end Pt
end
section
open Go.RowKit
namespace Pt
theorem zeO (p:ax) (hO:jU p) (hs:gh p<=2048) (v0 v1 v2:sN) (c:List Int) (co:Option Addr) (cn cc:Nat) (hcn:cn=c.length) (hc:cn<=90000) (w:sD) (hP:cv w p v0 v1 v2) (hI:RdI w co c):
  sK Tryz.prog 113 #[.agg #[v0,v1,v2],.slice co cn cc] w (LsQ w (gR (fun i=>aO c p 0 i) (cn+1))):=by
 have HG:=hid (fun(W:sD) (h:sE w.heap.size w W)=>fL p hO hs v0 v1 v2 W (cv.below h _ _ _ _ hP))
 have HL:=hid (fun(W:sD) (h:sE w.heap.size w W)=>rm c cn ((cn+1) / 64) hcn hc rfl co cc p hO.wf v0 v1 v2 W (cv.below h _ _ _ _ hP) (hI.below h))
 clear hP hI hcn;obtain⟨i0,hi3,hz0,hz1,hz2⟩:=tH Tryz.info3;have HI3:=hid (sQ hi3 (sQ hz0 (sQ hz1 hz2)));clear hi3 hz0 hz1 hz2;obtain⟨m,hm⟩:∃m,m=(cn+1) / 64:=⟨_,rfl⟩;rw[<- hm] at HL;have HMm:=hid hm;clear hm;go_enter Tryz.func113,Tryz.ntmps113;go_wp2_with fail;obtain⟨w1,hw1⟩:∃w1,w1=w.alloc (.cells #[v0,v1,v2] 105):=⟨_,rfl⟩;have hb1:sE w.heap.size w w1:=by rw[hw1];exact below_box
 have x0:w1.cell? ⟨w.heap.size,0,none⟩=some v0:=by rw[hw1];simp[go_sem]
 have x1:w1.cell? ⟨w.heap.size,1,none⟩=some v1:=by rw[hw1];simp[go_sem]
 have x2:w1.cell? ⟨w.heap.size,2,none⟩=some v2:=by rw[hw1];simp[go_sem]
 have hs1:w.heap.size<w1.heap.size:=by rw[hw1];simp
 rw[<- hw1];have HB1:=hid hb1;clear hw1 hb1;refine(HG.out w1 HB1.out).mono ?_;rintro e w2 ⟨rfl,hB2⟩;have y0:=(hB2.cell (p:=⟨w.heap.size,0,none⟩) hs1).trans x0;have y1:=(hB2.cell (p:=⟨w.heap.size,1,none⟩) hs1).trans x1;have y2:=(hB2.cell (p:=⟨w.heap.size,2,none⟩) hs1).trans x2;have HB2:=hid (HB1.out.trans (hB2.mono HB1.out.size));clear hB2 x0 x1 x2;go_wp2_with fail;refine(HL.out w2 HB2.out).mono ?_;rintro e w3 ⟨W,⟨g,cap,bs,rfl,hM3,hB3⟩,hR3⟩;have HM3:=hid hM3;have z1:=hM3.cell 0 (by omega)
 have HB3:=hid (HB2.out.trans (hB3.mono HB2.out.size));have HR3:=hid hR3;clear hM3 hB3 hR3 y0 y1 y2;have z2:(0:Int)<(cn:Int)+1:=by omega
 have z3:0<cn+1:=by omega
 go_wp2;clear z1 z2 z3;go_loopw [6,7] (fun x y wr=>∃(i n:Nat) (vo:Option Addr) (vc:Nat),x= .slice vo n vc/\y= .int .i64 i/\i<=cn+1/\n<=i/\Hid (n=(gR (fun i=>aO c p 0 i) i).length)/\Hid (wr.ownsRow w3.heap.size 3 1 (.slice vo n vc) n (kh (gR (fun i=>aO c p 0 i) i)))/\Hid (sE w3.heap.size w3 wr)) (fun _ y _=>cn+1 - (sJ y).toNat)
 case atStart=>exact⟨0,0,none,0,rfl,rfl,sH _,tp _,hid rfl,hid (by rw[zrY];exact tn _ _ _ _),hid (sZ _ _)⟩
 case round=>
  obtain⟨i,n,vo,vc,rfl,rfl,hi,hni,HN,HO,HB⟩:=hrel
  by_cases hlt:i<cn+1
  ·have i0':(0:Int)<=(i:Int):=by omega
   have i1:(i:Int)<=(cn:Int):=by omega
   have i2:(i:Int)<(cn:Int)+1:=by omega
   have HM:=hid (HM3.out.below HB.out);have hq:i / 64<m+1:=by have:=HMm.out;have:=sI (c:=64) (show i<=cn+1 by omega);omega
   have HH:=hid (nP (bs 0) (m+1) i _ wr (HM.out.row 0 (by omega)) hq (HM.out.bd 0 _ (by omega) hq) (by omega))
   have HRi:=hid (HR3.out 0 i (by omega) hlt)
   clear hq;go_wp2_with fail;refine HH.out.mono ?_;rintro e w4 ⟨rfl,e4⟩;obtain rfl:=e4.symm
   by_cases hb:bt (W 0) i=true
   ·rw[hb]
    have HF:=hid (show gR (fun i=>aO c p 0 i) (i+1)=gR (fun i=>aO c p 0 i) i++[i] from by rw[kX,if_pos (HRi.out.1 hb)])
    clear hb HH;go_wp2_with (at_builtin;refine tj _ rfl _ _ 23 rfl w3.heap.size 3 i0 (.int .i64 0) 1 8 Tryz.underInts HI3.out.1 HI3.out.2.1 HI3.out.2.2.1 HI3.out.2.2.2 rfl (by decide) (.slice vo n vc) n (kh (gR (fun i=>aO c p 0 i) i)) rfl (HO.out.alloc _) ⟨wr.heap.size,0,none⟩ 1 1 [.int .i64 (i:Int)] rfl rfl (zmg wr _ _) (zeA [i]) (by decide) (by unfold maxLen;omega) (by omega) (by have:=HB.out.size;simp;omega) (wr.heap.size+1) (by simp) ?_;intro g8 c8 w8 o8 gr8 hl8 hlt8;have HO8:=hid o8;have HB8:=hid (qY HB.out rfl HO.out gr8);clear o8 gr8 hl8 hlt8)
    go_roundw
    case rel=>exact⟨i+1,n+1,_,_,rfl,by go_num,by omega,by omega,hid (by rw[HF.out,tL,HN.out];rfl),hid (by rw[HF.out];unfold kh;rw[tT];exact HO8.out),HB8⟩
    case measure=>simp[sJ];omega
   ·have hb':bt (W 0) i=false:=by simpa using hb
    rw[hb'];have HF:=hid (show gR (fun i=>aO c p 0 i) (i+1)=gR (fun i=>aO c p 0 i) i from by rw[kX,if_neg (fun h=>hb (HRi.out.2 h))])
    clear hb hb' HH;go_wp2;go_roundw
    case rel=>exact⟨i+1,n,vo,vc,rfl,by go_num,by omega,by omega,hid (by rw[HF.out];exact HN.out),hid (by rw[HF.out];exact HO.out),HB⟩
    case measure=>simp[sJ];omega
  ·have i1:¬(i:Int)<=(cn:Int):=by omega
   have HQ:=hid (show LsQ w (gR (fun i=>aO c p 0 i) (cn+1)) (.returned (.slice vo n vc)) wr from by
    have e:i=cn+1:=by omega
    have h1:=HN.out;have h2:=HO.out;rw[e] at h1 h2;refine⟨vo,vc,by rw[h1],?_,HB3.out.trans (HB.out.mono HB3.out.size)⟩
    rw[h1] at h2;exact⟨h2.1,h2.2.imp (fun h=>h) fun⟨g,cap,cur,a1,a2,a3⟩=>⟨g,cap,cur,a1,sO HB3.out.size a2,a3⟩⟩)
   go_wp2;go_ret;exact HQ.out
theorem zid (lo:Option Addr) (n lc:Nat) (l:List Int) (c:Int) (w:sD) (hl:RdI w lo l) (hn:n=l.length) (hm:n<=1000000):
  sK Tryz.prog 114 #[.slice lo n lc,.int .i64 c] w fun e w'=>e= .returned (.bool (kf l c))/\w'=w:=by
 have HL:=hid hl;have HN:=hid hn;clear hl hn;go_enter Tryz.func114,Tryz.ntmps114;go_wp2;go_loopw [5] (fun y wr=>∃i:Nat,y= .int .i64 i/\i<=n/\wr=w/\Hid (∀z∈l.take i,z≠c)) (fun y _=>n - (sJ y).toNat)
 case atStart=>exact⟨0,rfl,sH _,rfl,hid (by simp)⟩
 case round=>
  obtain⟨i,rfl,hi,rfl,HT⟩:=hrel
  by_cases hlt:i<n
  ·have i0:(0:Int)<=(i:Int):=by omega
   have i1:(i:Int)<(n:Int):=by omega
   have hil:i<l.length:=by have:=HN.out;omega
   obtain⟨a,rfl,ha,c1⟩:=HL.out.at hil;obtain⟨z,hz⟩:∃z,z=l[i]:=⟨_,rfl⟩;rw[<- hz] at c1;have HZ:=hid hz;clear hz
   by_cases e:z=c
   ·subst e
    have b1:(z==z)=true:=by simp
    have HE:=hid (show kf l z=true from(cI l z).2 (by rw[HZ.out];exact sR _))
    go_wp2;go_ret;exact⟨by rw[HE.out];rfl,rfl⟩
   ·have b1:(z==c)=false:=by simpa using e
    have HE:=hid e;clear e;go_wp2;go_roundw
    case rel=>
     refine⟨i+1,by go_num,by omega,trivial,hid fun x hx=>?_⟩
     rw[td hil,tS] at hx
     rcases hx with hx | hx
     ·exact HT.out x hx
     ·rw[tJ] at hx
      rw[hx,<- HZ.out];exact HE.out
    case measure=>simp[sJ];omega
  ·have i1:¬(i:Int)<(n:Int):=by omega
   have HE:=hid (show kf l c=false from by
    cases h:kf l c with
    | false=>rfl
    | true=>exact absurd rfl (HT.out c (by rw[tz (by have:=HN.out;omega)];exact(cI l c).1 h)))
   go_wp2;go_ret;exact⟨by rw[HE.out];rfl,rfl⟩
theorem nA {w:sD} {B:Nat} {vo:Option Addr} {vc n:Nat} {L:List Nat} (h:w.ownsRow B 3 1 (.slice vo n vc) n (kh L)) (hn:n=L.length):RdI w vo (L.map fun(x:Nat)=>(x:Int)):=fun k z hk=>by
 have hk1:=(sL.1 hk).1;rw[tA] at hk1
 rcases h.2 with ⟨h1,h2⟩ | ⟨g,cap,cur,h1,h2,h3,h4,h5,h6,h7⟩
 ·omega
 ·cases h1
  refine⟨⟨g,0,none⟩,rfl,ae h3,?_⟩;rw[Addr.add_lit,tN,tQ w g k cur _ _ h3];have e:(kh L)[k]? =some (.int .i64 z):=by
   unfold kh;rw[List.getElem?_map] at hk⊢
   cases hl:L[k]? with
   | none=>rw[hl] at hk;cases hk
   | some y=>rw[hl] at hk;simp at hk;simp[hk]
  rw[<- h7,sX (by omega)] at e
  simpa using e
end Pt
end
section
open Go.RowKit
namespace Pt
structure Rl where
 brk:Bool
 st:Bool
 en:Bool
 left:ax
 right:ax
def App (r:Rl) (c:List Int) (k:Nat):Prop:=(∃i,i<=k/\aO c r.left i k)/\(∃j,k<=j/\j<=c.length/\aO c r.right k j)/\(r.st=true->aO c r.left 0 k)/\(r.en=true->aO c r.right k c.length)
def zgV (r:Rl):Prop:=jU r.left/\jU r.right/\gh r.left<=2048/\gh r.right<=2048
def TlQ (w:sD) (A:Prop) (e:tV) (w':sD):Prop:=∃b:Bool,e= .returned (.bool b)/\(b=true ↔ A)/\sE w.heap.size w w'
theorem oL {w:sD} {g o n:Nat} {c:List Int} (h:RdI w (some ⟨g,o,none⟩) c):RdI w (some ⟨g,o,none⟩) (c.take n):=fun k z hk=>by
 have h1:=(sL.1 hk).1;rw[tO] at h1;rw[sX (by omega)] at hk
 exact h k z hk
theorem oM {w:sD} {g o n:Nat} {c:List Int} (h:RdI w (some ⟨g,o,none⟩) c):RdI w (some ⟨g,o+n,none⟩) (c.drop n):=fun k z hk=>by
 rw[List.getElem?_drop] at hk;obtain⟨a,h1,h2,h3⟩:=h (n+k) z hk
 cases h1
 refine⟨_,rfl,h2,?_⟩;rw[Addr.add_lit] at h3⊢;rw[<- h3]
 congr 2
 omega
set_option maxRecDepth 100000 in
theorem zfe (r:Rl) (hr:zgV r) (l0 l1 l2 r0 r1 r2:sN) (c:List Int) (g o cn cc k:Nat) (hcn:cn=c.length) (hc:cn<=90000) (hcc:cn<=cc) (hk:k<=cn) (w:sD) (hL:cv w r.left l0 l1 l2) (hR:cv w r.right r0 r1 r2) (hI:RdI w (some ⟨g,o,none⟩) c):
  sK Tryz.prog 76 #[.agg #[.bool r.brk,.bool r.st,.bool r.en,l0,l1,l2,r0,r1,r2],.slice (some ⟨g,o,none⟩) cn cc,.int .i64 k] w (TlQ w (App r c k)):=by
 obtain⟨o1,o2,s1,s2⟩:=hr;have HG1:=hid (fun(W:sD) (h:sE w.heap.size w W)=>fL r.left o1 s1 l0 l1 l2 W (cv.below h _ _ _ _ hL))
 have HG2:=hid (fun(W:sD) (h:sE w.heap.size w W)=>fL r.right o2 s2 r0 r1 r2 W (cv.below h _ _ _ _ hR))
 have HS:=hid (fun(W:sD) (h:sE w.heap.size w W)=>zfr r.left o1 s1 l0 l1 l2 (c.take k) (some ⟨g,o,none⟩) k cc (by rw[tO];omega) (by omega) W (cv.below h _ _ _ _ hL) (oL (hI.below h)))
 have HE:=hid (fun(W:sD) (h:sE w.heap.size w W)=>zeO r.right o2 s2 r0 r1 r2 (c.drop k) (if cc=k then some ⟨g,o,none⟩ else some ⟨g,o+k,none⟩) (cn - k) (cc - k) (by rw[tP];omega) (by omega) W (cv.below h _ _ _ _ hR) (by
  split
  ·intro j z hj
   have h1:=(sL.1 hj).1;rw[tP] at h1;omega
  ·exact oM (hI.below h)))
 have HSA:=hid (show gR (fun i=>aO (c.take k) r.left i k) (k+1)=gR (fun i=>aO c r.left i k) (k+1) from rC fun i _=>zny c r.left k i k (by omega) (tp _))
 have HEA:=hid (show gR (fun i=>aO (c.drop k) r.right 0 i) (cn - k+1)=gR (fun i=>aO c r.right k (k+i)) (cn - k+1) from rC fun i hi=>by have:=znz c r.right k 0 i (by omega) (by omega);simpa using this)
 have HCN:=hid hcn;clear hL hR hI hcn o1 o2 s1 s2;have k0:(0:Int)<=(k:Int):=by omega
 have k1:(k:Int)<=(cn:Int):=by omega
 have k2:(k:Int)<=(cc:Int):=by omega
 have k3:(cn:Int)<=(cc:Int):=by omega
 have d1:decide ((k:Int)<0)=false:=decide_eq_false (by omega)
 have d2:decide ((cn:Int)<(k:Int))=false:=decide_eq_false (by omega)
 have d3:decide (cn<k)=false:=decide_eq_false (by omega)
 obtain⟨rb,rs,re,rl,rr⟩:=r;go_enter Tryz.func76,Tryz.ntmps76;go_wp2_with fail;obtain⟨w1,hw1⟩:∃w1,w1=w.alloc (.cells #[.bool rb,.bool rs,.bool re,l0,l1,l2,r0,r1,r2] 107):=⟨_,rfl⟩;have hb1:sE w.heap.size w w1:=by rw[hw1];exact below_box
 have hs1:w.heap.size<w1.heap.size:=by rw[hw1];simp
 have HX1:=hid (fun(W:sD) (h:sE w1.heap.size w1 W)=>show W.cell? ⟨w.heap.size,3,none⟩=some l0/\W.cell? ⟨w.heap.size,4,none⟩=some l1/\W.cell? ⟨w.heap.size,5,none⟩=some l2 from
  ⟨(h.cell (p:=⟨w.heap.size,3,none⟩) hs1).trans (by rw[hw1];simp[go_sem]),(h.cell (p:=⟨w.heap.size,4,none⟩) hs1).trans (by rw[hw1];simp[go_sem]),(h.cell (p:=⟨w.heap.size,5,none⟩) hs1).trans (by rw[hw1];simp[go_sem])⟩)
 have HX2:=hid (fun(W:sD) (h:sE w1.heap.size w1 W)=>show W.cell? ⟨w.heap.size,6,none⟩=some r0/\W.cell? ⟨w.heap.size,7,none⟩=some r1/\W.cell? ⟨w.heap.size,8,none⟩=some r2 from
  ⟨(h.cell (p:=⟨w.heap.size,6,none⟩) hs1).trans (by rw[hw1];simp[go_sem]),(h.cell (p:=⟨w.heap.size,7,none⟩) hs1).trans (by rw[hw1];simp[go_sem]),(h.cell (p:=⟨w.heap.size,8,none⟩) hs1).trans (by rw[hw1];simp[go_sem])⟩)
 have HX3:=hid (fun(W:sD) (h:sE w1.heap.size w1 W)=>show W.cell? ⟨w.heap.size,1,none⟩=some (.bool rs)/\W.cell? ⟨w.heap.size,2,none⟩=some (.bool re) from
  ⟨(h.cell (p:=⟨w.heap.size,1,none⟩) hs1).trans (by rw[hw1];simp[go_sem]),(h.cell (p:=⟨w.heap.size,2,none⟩) hs1).trans (by rw[hw1];simp[go_sem])⟩)
 rw[<- hw1];have HB1:=hid hb1;clear hw1 hb1;refine(HG1.out w1 HB1.out).mono ?_;rintro e w2 ⟨rfl,hB2⟩;have HB2:=hid hB2;obtain⟨x6,x7,x8⟩:=HX2.out w2 hB2;clear hB2;go_wp2_with fail;refine(HG2.out w2 (HB1.out.trans (HB2.out.mono HB1.out.size))).mono ?_;rintro e w3 ⟨rfl,hB3⟩;have HB3:=hid (HB2.out.trans (hB3.mono HB2.out.size));clear hB3 x6 x7 x8;go_wp2_with fail;refine am [(0,true),(1,true),(2,true),(3,true),(4,true),(5,false),(6,false)] (fun W=>W.cell? ⟨w.heap.size,3,none⟩=some l0/\W.cell? ⟨w.heap.size,4,none⟩=some l1/\W.cell? ⟨w.heap.size,5,none⟩=some l2) (fun _=>false) (by kernel_rfl) (by kernel_rfl) (fun j hj=>by cases hj) rfl (by kernel_rfl) (HX1.out _ (show sE w1.heap.size w1 w3.drew from⟨HB3.out.os,HB3.out.tape,HB3.out.output,HB3.out.size,HB3.out.block⟩)) ?_
 iterate 5 (refine av ?_ rfl (by kernel_rfl) (fun w' hS=>?_) ?_;(rotate_left;(obtain⟨s1,s2,s3⟩:=hS;go_simp;with_reducible rfl);rotate_left))
 refine ar rfl (by kernel_rfl) fun KK hKK=>?_
 go_simp;have HB3d:=hid (show sE w1.heap.size w1 w3.drew from⟨HB3.out.os,HB3.out.tape,HB3.out.output,HB3.out.size,HB3.out.block⟩)
 refine(HS.out w3.drew (HB1.out.trans (HB3d.out.mono HB1.out.size))).mono ?_;rintro e w4 ⟨vo,vc,rfl,hO4,hB4⟩;have HB4:=hid (show sE w1.heap.size w1 w4 from HB3d.out.trans (hB4.mono HB3d.out.size))
 rw[HSA.out] at hO4⊢;obtain⟨L1,hL1⟩:∃L,L=gR (fun i=>aO c rl i k) (k+1):=⟨_,rfl⟩
 rw[<- hL1] at hO4⊢;have HL1:=hid hL1;obtain⟨n1,hn1⟩:∃n,n=L1.length:=⟨_,rfl⟩;rw[<- hn1] at hO4⊢;have HN1:=hid hn1;have HR1:=hid (nA hO4 hn1);have q1:n1<=k+1:=by rw[hn1,hL1];exact zaT _ _
 clear hO4 hB4 hL1 hn1;refine hKK _ _ (fun _=>HX1.out _ HB4.out) ?_
 clear hKK;refine ar rfl (by kernel_rfl) fun KK hKK=>?_
 go_simp;refine hKK _ _ (fun _=>HX1.out _ HB4.out) ?_
 clear hKK;refine aQ (sM ?_);go_wp2_with fail;refine am [(0,true),(1,true),(2,true),(3,true),(4,true),(5,false),(6,false)] (fun W=>W.cell? ⟨w.heap.size,6,none⟩=some r0/\W.cell? ⟨w.heap.size,7,none⟩=some r1/\W.cell? ⟨w.heap.size,8,none⟩=some r2) (fun _=>false) (by kernel_rfl) (by kernel_rfl) (fun j hj=>by cases hj) rfl (by kernel_rfl) (HX2.out _ (show sE w1.heap.size w1 w4.drew from⟨HB4.out.os,HB4.out.tape,HB4.out.output,HB4.out.size,HB4.out.block⟩)) ?_
 iterate 5 (refine av ?_ rfl (by kernel_rfl) (fun w' hS=>?_) ?_;(rotate_left;(obtain⟨s1,s2,s3⟩:=hS;go_simp;with_reducible rfl);rotate_left))
 refine ar rfl (by kernel_rfl) fun KK hKK=>?_
 go_simp;have HB4d:=hid (show sE w1.heap.size w1 w4.drew from⟨HB4.out.os,HB4.out.tape,HB4.out.output,HB4.out.size,HB4.out.block⟩)
 obtain⟨ao,hao⟩:∃ao,ao=(if cc=k then some (⟨g,o,none⟩:Addr) else some ⟨g,o+k,none⟩):=⟨_,rfl⟩;rw[<- hao] at HE⊢;clear hao;refine(HE.out w4.drew (HB1.out.trans (HB4d.out.mono HB1.out.size))).mono ?_;rintro e w5 ⟨uo,uc,rfl,hO5,hB5⟩;have HB5':=hid (show sE w4.heap.size w4 w5 from⟨hB5.os,hB5.tape,hB5.output,hB5.size,hB5.block⟩)
 have HB5:=hid (show sE w1.heap.size w1 w5 from HB4d.out.trans (hB5.mono HB4d.out.size))
 rw[HEA.out] at hO5⊢;obtain⟨L2,hL2⟩:∃L,L=gR (fun i=>aO c rr k (k+i)) (cn - k+1):=⟨_,rfl⟩
 rw[<- hL2] at hO5⊢;have HL2:=hid hL2;obtain⟨n2,hn2⟩:∃n,n=L2.length:=⟨_,rfl⟩;rw[<- hn2] at hO5⊢;have HN2:=hid hn2;have HR2:=hid (nA hO5 hn2);have q2:n2<=cn - k+1:=by rw[hn2,hL2];exact zaT _ _
 clear hO5 hB5 hL2 hn2;refine hKK _ _ (fun _=>HX2.out _ HB5.out) ?_
 clear hKK;refine ar rfl (by kernel_rfl) fun KK hKK=>?_
 go_simp;refine hKK _ _ (fun _=>HX2.out _ HB5.out) ?_
 clear hKK;refine aQ (sM ?_);clear d1 d2 d3 HG1 HG2 HS HE HSA HEA HB2 HB3 HB3d HB4d;have HBw:=hid (HB1.out.trans (HB5.out.mono HB1.out.size));have HM1:=hid (fun(x:Nat)=>show x∈L1 ↔ x<k+1/\aO c rl x k by rw[HL1.out];exact zaS _ _ _)
 have HM2:=hid (fun(x:Nat)=>show x∈L2 ↔ x<cn - k+1/\aO c rr k (k+x) by rw[HL2.out];exact zaS _ _ _)
 clear HL1 HL2;obtain⟨y1,y2⟩:=HX3.out _ HB5.out
 by_cases z1:n1=0
 ·have HA:=hid (show ¬App ⟨rb,rs,re,rl,rr⟩ c k from fun⟨⟨i,h1,h2⟩,_⟩=>by
   have h3:=(HM1.out i).2 ⟨by omega,h2⟩
   rw[tw.1 (HN1.out.symm.trans z1)] at h3
   cases h3)
  subst z1;go_wp2;go_ret;exact⟨false,rfl,by simp[HA.out],HBw.out⟩
 have z1':((n1:Int)==0)=false:=by simpa using z1
 have HZ1:=hid z1;clear z1
 by_cases z2:n2=0
 ·have HA:=hid (show ¬App ⟨rb,rs,re,rl,rr⟩ c k from fun⟨_,⟨j,h1,h2,h3⟩,_⟩=>by
   have h4:=(HM2.out (j - k)).2 ⟨by have:=HCN.out;omega,by rw[tG h1];exact h3⟩
   rw[tw.1 (HN2.out.symm.trans z2)] at h4
   cases h4)
  subst z2;go_wp2;go_ret;exact⟨false,rfl,by simp[HA.out],HBw.out⟩
 have z2':((n2:Int)==0)=false:=by simpa using z2
 have HZ2:=hid z2;clear z2;have HC1:=hid (show ∃i,i<=k/\aO c rl i k from by
  obtain⟨x,hx⟩:=tf (l:=L1) (by have:=HN1.out;have:=HZ1.out;omega)
  have:=(HM1.out x).1 hx;exact⟨x,by omega,this.2⟩)
 have HC2:=hid (show ∃j,k<=j/\j<=c.length/\aO c rr k j from by
  obtain⟨x,hx⟩:=tf (l:=L2) (by have:=HN2.out;have:=HZ2.out;omega)
  have:=(HM2.out x).1 hx;exact⟨k+x,by omega,by have:=HCN.out;omega,this.2⟩)
 have HIn1:=hid (fun(W:sD) (h:sE w5.heap.size w5 W)=>zid vo n1 vc _ 0 W ((HR1.out.below HB5'.out).below h) (by rw[tA];exact HN1.out) (by omega))
 have HIn2:=hid (fun(W:sD) (h:sE w5.heap.size w5 W)=>zid uo n2 uc _ ((cn:Int) - (k:Int)) W (HR2.out.below h) (by rw[tA];exact HN2.out) (by omega))
 have HI1:=hid (show kf (L1.map fun(x:Nat)=>(x:Int)) 0=true ↔ aO c rl 0 k from by
  rw[cI]
  constructor
  ·intro h
   obtain⟨x,h1,h2⟩:=tg.1 h;have e:x=0:=by omega
   exact e ▸ ((HM1.out x).1 h1).2
  ·intro h
   exact tg.2 ⟨0,(HM1.out 0).2 ⟨by omega,h⟩,rfl⟩)
 have HI2:=hid (show kf (L2.map fun(x:Nat)=>(x:Int)) ((cn:Int) - (k:Int))=true ↔ aO c rr k c.length from by
  rw[cI]
  constructor
  ·intro h
   obtain⟨x,h1,h2⟩:=tg.1 h;have e:k+x=c.length:=by have:=HCN.out;omega
   exact e ▸ ((HM2.out x).1 h1).2
  ·intro h
   refine tg.2 ⟨cn - k,(HM2.out (cn - k)).2 ⟨by omega,?_⟩,by omega⟩
   rw[tG hk,HCN.out];exact h)
 clear HM1 HM2 HR1 HR2 HN1 HN2 HX1 HX2;obtain⟨b1,hb1⟩:∃b,b=kf (L1.map fun(x:Nat)=>(x:Int)) 0:=⟨_,rfl⟩
 obtain⟨b2,hb2⟩:∃b,b=kf (L2.map fun(x:Nat)=>(x:Int)) ((cn:Int) - (k:Int)):=⟨_,rfl⟩
 rw[<- hb1] at HIn1 HI1;rw[<- hb2] at HIn2 HI2;clear hb1 hb2;have HQ:=hid (show App ⟨rb,rs,re,rl,rr⟩ c k ↔ ((rs=true->b1=true)/\(re=true->b2=true)) from by
  unfold App
  simp only[]
  rw[<- HI1.out,<- HI2.out];exact⟨fun h=>⟨h.2.2.1,h.2.2.2⟩,fun h=>⟨HC1.out,HC2.out,h.1,h.2⟩⟩)
 have e9:tb.wrap ((cn:Int) - (k:Int))=(cn:Int) - (k:Int):=by unfold sV sW sP;simp;omega
 cases rs with
 | false=>
  cases re with
  | false=>
   go_wp2;go_ret;exact⟨true,rfl,by simp[HQ.out],HBw.out⟩
  | true=>
   go_wp2_with fail;refine(HIn2.out w5 (sZ _ _)).mono ?_;rintro e w6 ⟨rfl,e6⟩;obtain rfl:=e6.symm;go_wp2;go_ret;exact⟨b2,rfl,by simp[HQ.out],HBw.out⟩
 | true=>
  go_wp2_with fail;refine(HIn1.out w5 (sZ _ _)).mono ?_;rintro e w6 ⟨rfl,e6⟩;obtain rfl:=e6.symm
  cases b1 with
  | false=>
   go_wp2;go_ret;exact⟨false,rfl,by simp[HQ.out],HBw.out⟩
  | true=>
   cases re with
   | false=>
    go_wp2;go_ret;exact⟨true,rfl,by simp[HQ.out],HBw.out⟩
   | true=>
    go_wp2_with fail;refine(HIn2.out w5 (sZ _ _)).mono ?_;rintro e w6 ⟨rfl,e6⟩;obtain rfl:=e6.symm;go_wp2;go_ret;exact⟨b2,rfl,by simp[HQ.out],HBw.out⟩
end Pt
end
end Go.Proofs.YtbbapnpdfcgjnaaGreatDoor
