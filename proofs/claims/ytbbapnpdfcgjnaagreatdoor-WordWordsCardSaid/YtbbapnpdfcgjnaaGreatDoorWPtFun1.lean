/- PtFun1, PtNone, PtBoth, PtBeh, PtMore, PtRd, PtLead, PtLead2, PtGood, PtChk, PtSE, PtEn, PtAp, PtDc, PtEnM, SdMath, SdSome, PtOk: parts of the proof, joined. -/
import Derived.Deep.AppendLies
import Derived.WalkSpells
import Derived.WalkLawsBesides
import Derived.BigQuiet
import Derived.Test.YtbbapnpdfcgjnaaGreatDoorWZz
import Derived.Test.YtbbapnpdfcgjnaaGreatDoorWPtMath
import Derived.Test.YtbbapnpdfcgjnaaGreatDoorWMix
open Go renaming World->sD, Calls->sJ, Value->sM, wpList_append_lies->tA, Ending->tJ, info_parts->tS, cell_of_row->tY, TypeId->ue
open Go.RowKit renaming Below->sE, intOf->sL
open List renaming getElem?_eq_some_iff->sG, getElem?_eq_getElem->sH, getElem_mem->sO, drop_eq_getElem_cons->tc, getElem?_take_of_lt->td, length_eq_zero_iff->tj, getElem?_cons_succ->tk, take_succ_eq_append_getElem->tp, exists_mem_of_length_pos->tr, mem_map->tu, getD->tw, mem_cons_self->tC, ext_getElem?->tD, getElem?_replicate->tF, take_length->tI, take_of_length_le->tK, length_map->tM, mem_cons_of_mem->tO, take_succ_cons->tQ, mem_singleton->tT, length_append->tU, length_take->tW, length_drop->tX, mem_append->t6, map_append->t7
open Nat renaming zero_le->sI, div_le_div_right->sK, eq_of_beq_eq_true->sP, le_trans->sQ, le_of_lt->sU, eq_or_lt_of_le->sV, lt_irrefl->te, lt_of_lt_of_le->tf, le_refl->ti, lt_succ_of_lt->tn, pow_lt_pow_right->tq, zero_testBit->tH, zero_add->tL, add_sub_cancel'->tR, lt_trans->tV, mod_lt->t8, zero_mul->uf, add_zero->ug, beq->uj, ble->uk
open Go.NoPanic renaming normal->sN
open Go.IntKind renaming signed->sR, wrap->sY, bits->sZ, i64->tg, u64->tN
open And renaming intro->sS
open Go.RowKit.Below renaming refl->sT, heap_alloc->tG
open Int renaming tdiv_eq_ediv_of_nonneg->sW, tmod_eq_emod_of_nonneg->tz
open Go.World renaming cell?_of_block->sX, ownsRow_nil->tE, news_of_block->tP, grownBy->ua
open Bool renaming and_eq_true->ta, false_eq_true->tB
set_option maxHeartbeats 64000000
namespace Go.Proofs.YtbbapnpdfcgjnaaGreatDoor
section
open Go.RowKit
namespace Pt
def us(m:Nat)(r:Nat->Nat):List sM:=(List.range m).map fun j=>.int .u64 (r j)
theorem fE(m:Nat)(r:Nat->Nat)(j:Nat)(h:j<m):(us m r)[j]?=some (.int .u64 (r j)):=by simp[us,h]
theorem zuh(m:Nat)(r:Nat->Nat)(j z:Nat):(us m r).set j (.int .u64 z)=us m (fun x=>if x=j then z else r x):=by
 apply tD;intro i;rw[List.getElem?_set];by_cases h:j=i
 ·subst h;by_cases hj:j<m
  ·simp[us,hj]
  ·simp[us,hj]
 ·rw[if_neg h];by_cases hi:i<m
  ·rw[fE m r i hi,fE m _ i hi,if_neg (fun e=>h e.symm)]
  ·simp[us,hi]
theorem kU{m:Nat}{r s:Nat->Nat}(h:∀j,j<m->r j=s j):us m r=us m s:=by
 apply tD;intro i;by_cases hi:i<m
 ·rw[fE m r i hi,fE m s i hi,h i hi]
 ·simp[us,hi]
theorem cell_row(w:sD)(b j:Nat)(l:List sM)(t:ue)(v:sM)(h:w.heap[b]?=some (.cells l.toArray t (0,0)))(hv:l[j]?=some v):w.cell? ⟨b,j,none⟩=some v:=by rw[tY w b j l.toArray t (0,0) h];simpa using hv
theorem set_row(w:sD)(b j:Nat)(l:List sM)(t:ue)(u:sM)(h:w.heap[b]?=some (.cells l.toArray t (0,0))):(w.setCell ⟨b,j,none⟩ u).heap[b]?=some (.cells (l.set j u).toArray t (0,0)):=by rw[heap_setCell_same w b j _ t u h];simp
theorem frozen_row{w:sD}{b:Nat}{l:Array sM}{t:ue}(h:w.heap[b]?=some (.cells l t (0,0)))(j:Nat):w.frozen? ⟨b,j,none⟩=false:=by unfold sD.frozen?;simp only[h];simp
def Rw(w:sD)(b m:Nat)(r:Nat->Nat):Prop:=w.heap[b]?=some (.cells (us m r).toArray 159 (0,0))
theorem zvp(x j:Nat)(hx:x<18446744073709551616):(bits BinOp.and tN ((x:Int) / 2 ^ j) 1==1)=x.testBit j:=by
 have e:((x:Int) / 2 ^ j)=((x / 2 ^ j:Nat):Int):=by simp
 have h:=u64_and_nat (x / 2 ^ j) 1 (Nat.lt_of_le_of_lt (Nat.div_le_self _ _) hx) (by decide);rw[e];rw[show(1:Int)=((1:Nat):Int)from rfl,h];rw[Nat.testBit_eq_decide_div_mod_eq,Nat.and_one_is_mod];by_cases hh:x / 2 ^ j%2=1
 ·rw[hh];rfl
 ·have:x / 2 ^ j%2=0:=by omega
  rw[this];rfl
theorem oM(b m k:Nat)(r:Nat->Nat)(w:sD)(hc:Rw w b m r)(hk:k / 64<m)(hb:r (k / 64)<18446744073709551616)(hm:k<1000000):
  sJ Tryz.prog 150 #[.slice (some ⟨b,0,none⟩) m m,.int .i64 k] w fun e w'=>e=.returned (.bool (bt r k))/\w'=w:=by
 have c1:=cell_row w b (k / 64) _ _ _ hc (fE m r _ hk);have e1:(k:Int).tdiv 64=((k / 64:Nat):Int):=by rw[sW (by omega)];omega
 have e2:tg.wrap ((k / 64:Nat):Int)=((k / 64:Nat):Int):=by unfold sY sZ sR;simp;omega
 have e3:(k:Int).tmod 64=((k%64:Nat):Int):=by rw[tz (by omega)];omega
 have e4:tg.wrap ((k%64:Nat):Int)=((k%64:Nat):Int):=by unfold sY sZ sR;simp;omega
 have i1:(0:Int)<=((k / 64:Nat):Int):=by omega
 have i2:((k / 64:Nat):Int)<(m:Int):=by omega
 have HB:=aa (zvp (r (k / 64)) (k%64) hb);clear hc hb;go_enter Tryz.func150,Tryz.ntmps150;go_wp2;go_ret;exact⟨by rw[HB.o];rfl,rfl⟩
structure du(b:Nat)(w w':sD):Prop where
 os:w'.os=w.os
 tape:w'.tape=w.tape
 output:w'.output=w.output
 size:w'.heap.size=w.heap.size
 block:∀k,k≠b->w'.heap[k]?=w.heap[k]?
theorem du.refl(b:Nat)(w:sD):du b w w:=⟨rfl,rfl,rfl,rfl,fun _ _=>rfl⟩
theorem du.trans{b:Nat}{w v u:sD}(h:du b w v)(k:du b v u):du b w u:=⟨k.os.trans h.os,k.tape.trans h.tape,k.output.trans h.output,k.size.trans h.size,fun i hi=>(k.block i hi).trans (h.block i hi)⟩
theorem du.set(b j:Nat)(w:sD)(v:sM):du b w (w.setCell ⟨b,j,none⟩ v):=⟨rfl,rfl,rfl,by simp,fun k hk=>heap_setCell_other w _ k v hk⟩
theorem du.drew(b k:Nat)(w:sD):du b w (w.drewN k):=⟨rfl,rfl,rfl,rfl,fun _ _=>rfl⟩
theorem du.below{b B:Nat}{w w':sD}(h:du b w w')(hb:B<=b):sE B w w':=⟨h.os,h.tape,h.output,Nat.le_of_eq h.size.symm,fun k hk=>h.block k (by omega)⟩
theorem Rw.set{w:sD}{b m:Nat}{r:Nat->Nat}(h:Rw w b m r)(j z:Nat):Rw (w.setCell ⟨b,j,none⟩ (.int .u64 z)) b m (fun x=>if x=j then z else r x):=by unfold Rw at h⊢;rw[set_row w b j _ _ _ h,zuh]
theorem zwB(x j:Nat)(hx:x<18446744073709551616)(hj:j<64):bits BinOp.or tN (x:Int) (tN.wrap (2 ^ j))=((x|||2 ^ j:Nat):Int):=by
 have h1:2 ^ j<18446744073709551616:=tq (by decide) hj;have e:tN.wrap (2 ^ j)=((2 ^ j:Nat):Int):=by
  have:(2:Int) ^ j=((2 ^ j:Nat):Int):=by simp
  rw[this];rw[IntKind.wrap_u64];generalize 2 ^ j=y at h1⊢;omega
 rw[e,u64_or_nat x (2 ^ j) hx h1]
theorem zig(b m k:Nat)(r:Nat->Nat)(w:sD)(hc:Rw w b m r)(hk:k / 64<m)(hb:r (k / 64)<18446744073709551616)(hm:k<1000000):
  sJ Tryz.prog 173 #[.slice (some ⟨b,0,none⟩) m m,.int .i64 k] w fun e w'=>e=.returned (.tuple #[])/\Rw w' b m (stR r k)/\du b w w':=by
 have c1:=cell_row w b (k / 64) _ _ _ hc (fE m r _ hk);have f1:=frozen_row hc (k / 64);have e1:(k:Int).tdiv 64=((k / 64:Nat):Int):=by rw[sW (by omega)];omega
 have e2:tg.wrap ((k / 64:Nat):Int)=((k / 64:Nat):Int):=by unfold sY sZ sR;simp;omega
 have e3:(k:Int).tmod 64=((k%64:Nat):Int):=by rw[tz (by omega)];omega
 have e4:tg.wrap ((k%64:Nat):Int)=((k%64:Nat):Int):=by unfold sY sZ sR;simp;omega
 have i1:(0:Int)<=((k / 64:Nat):Int):=by omega
 have i2:((k / 64:Nat):Int)<(m:Int):=by omega
 have HO:=aa (zwB (r (k / 64)) (k%64) hb (t8 _ (by decide)));have HC:=aa hc;clear hb hc;go_enter Tryz.func173,Tryz.ntmps173;go_wp2;refine bodyPost_end (results_none rfl _ _ _) rfl ?_;refine⟨rfl,?_,du.set _ _ _ _⟩;rw[HO.o];have:=HC.o.set (k / 64) (r (k / 64)|||2 ^ (k%64));refine Eq.trans this ?_;rw[kU (s:=stR r k)];intro j _;unfold stR;by_cases h:j=k / 64
 ·rw[if_pos h,if_pos h,h]
 ·rw[if_neg h,if_neg h]
theorem oW(b d m:Nat)(r o:Nat->Nat)(w:sD)(hc:Rw w b m r)(hd:Rw w d m o)(hb:∀j,j<m->r j<18446744073709551616)(ho:∀j,j<m->o j<18446744073709551616)(hm:m<1000000):
  sJ Tryz.prog 187 #[.slice (some ⟨b,0,none⟩) m m,.slice (some ⟨d,0,none⟩) m m] w fun e w'=>e=.returned (.tuple #[])/\Rw w' b m (nY r o)/\du b w w':=by
 have HB:=aa hb;have HO:=aa ho;have HC:=aa hc;have HD:=aa hd;clear hb ho hc hd;go_enter Tryz.func187,Tryz.ntmps187;go_wp2;go_loopw [4] (fun y wr=>∃j:Nat,y=.int .i64 j/\j<=m/\ae (Rw wr b m (fun x=>if x<j then r x|||o x else r x))/\ae (du b w wr)) (fun y _=>m-(sL y).toNat)
 case atStart=>exact⟨0,rfl,sI _,by simpa using HC,aa (du.refl _ _)⟩
 case round=>
  obtain⟨j,rfl,hj,HR,HW⟩:=hrel;by_cases hlt:j<m
  ·have c1:wr.cell? ⟨b,j,none⟩=some (.int .u64 (r j)):=by have:=cell_row wr b j _ _ _ HR.o (fE m _ _ hlt);simpa using this
   have f1:=frozen_row HR.o j;have c2:wr.cell? ⟨d,j,none⟩=some (.int .u64 (o j)):=by
    by_cases e:d=b
    ·subst e;have h1:=cell_row w d j _ _ _ HC.o (fE m _ _ hlt);have h2:=cell_row w d j _ _ _ HD.o (fE m _ _ hlt);rw[c1,<-h1,h2]
    ·have:=HW.o.block d e;exact cell_row wr d j _ _ _ (this.trans HD.o) (fE m _ _ hlt)
   have i0:(0:Int)<=(j:Int):=by omega
   have i1:(j:Int)<(m:Int):=by omega
   have HE:=aa (u64_or_nat (r j) (o j) (HB.o j hlt) (HO.o j hlt));go_wp2_with fail;refine aw [(0,true),(1,true),(2,true),(3,true),(4,true),(5,true),(6,true),(7,true),(8,true),(9,true),(10,true),(11,true),(12,false)] (fun w'=>w'.cell? ⟨b,j,none⟩=some (.int .u64 (r j))/\w'.cell? ⟨d,j,none⟩=some (.int .u64 (o j))) (fun j=>j==12) (by kernel_rfl) (by kernel_rfl) (fun j hj=>by have:=beq_iff_eq.1 hj;subst this;decide) rfl (by kernel_rfl) ⟨c1,c2⟩ ?_
   iterate 12 (refine aF ?_ rfl (by kernel_rfl) (fun w' hS=>?_) ?_;(rotate_left;(obtain⟨s1,s2⟩:=hS;go_simp;with_reducible rfl);rotate_left))
   refine au rfl (by kernel_rfl) fun KK hKK=>?_;go_simp;refine hKK _ _ (fun h=>by cases h) ?_;refine ba (sN ?_);go_wp2;go_roundw
   case rel=>
    refine⟨j+1,by go_num,by omega,aa ?_,aa ?_⟩
    ·rw[HE.o];have:=HR.o.set j (r j|||o j);refine Eq.trans this ?_;rw[kU (s:=fun x=>if x<j+1 then r x|||o x else r x)];intro x _;by_cases h:x=j
     ·subst h;simp
     ·by_cases h2:x<j
      ·simp[h,h2,tn h2]
      ·have:¬x<j+1:=by omega
       simp[h,h2,this]
    ·exact HW.o.trans ((du.set b j wr _).trans (du.drew b 1 _))
   case measure=>simp[sL];omega
  ·have i1:¬(j:Int)<(m:Int):=by omega
   go_wp2;refine bodyPost_end (results_none rfl _ _ _) rfl ?_;refine⟨rfl,?_,HW.o⟩;refine Eq.trans HR.o ?_;rw[kU (s:=nY r o)];intro x hx;rw[if_pos (by omega)];rfl
end Pt
end
section
open Go.RowKit
namespace Pt
theorem Tryz.infoRow:(Tryz.prog.info? 144).map (fun i=>(i.zero,i.size,i.bytes))=some (some (.slice none 0 0),1,24):=by kernel_rfl
theorem Tryz.infoU64:(Tryz.prog.info? 159).map (fun i=>(i.zero,i.size,i.bytes))=some (some (.int .u64 0),1,8):=by kernel_rfl
theorem Tryz.underRows:Tryz.prog.underlying 141=some (.slice 144):=by kernel_rfl
theorem Tryz.underRow:Tryz.prog.underlying 144=some (.slice 159):=by kernel_rfl
theorem zpO(m:Nat):(madeCells (sM.int .u64 0).cells m)=(us m fun _=>0).toArray:=by
 apply Array.toList_inj.1;rw[show(sM.int .u64 0).cells=#[sM.int .u64 0]from rfl,toList_madeCells_one];apply tD;intro i;by_cases hi:i<m
 ·rw[tF];simp[us,hi]
 ·rw[tF];simp[us,hi]
theorem znL(n:Nat)(hn:n<=1000000)(W:sD):
  (Instr.makeSlice 144 (.int .i64 (n:Int)) (.int .i64 (n:Int))).run Tryz.prog W=.ok (.slice (some ⟨W.heap.size,0,none⟩) n n) (W.alloc (.cells (us n fun _=>0).toArray 159)):=by
 obtain⟨i,hi,hz,h1,h2⟩:=tS Tryz.infoU64;have h:=run_make (P:=Tryz.prog) W 144 159 i _ Tryz.underRow hi hz .i64 .i64 (n:Int) (n:Int) (by omega) (Int.le_refl _) (by rw[h2];omega) (by omega);rw[h1,Nat.mul_one]at h;rw[<-zpO];simpa using h
structure Mt(B:Nat)(w:sD)(g n m:Nat)(bs:Nat->Nat)(W:Nat->Nat->Nat):Prop where
 o:∃cur,w.heap[g]?=some (.cells cur 144 (0,0))/\∀i,i<n->cur[i]?=some (.slice (some ⟨bs i,0,none⟩) m m)
 row:∀i,i<n->Rw w (bs i) m (W i)
 inj:∀i j,i<n->j<n->bs i=bs j->i=j
 low:∀i,i<n->B<=bs i
 lg:B<=g
 bd:∀i j,i<n->j<m->W i j<18446744073709551616
theorem Mt.cell{B:Nat}{w:sD}{g n m:Nat}{bs:Nat->Nat}{W:Nat->Nat->Nat}(h:Mt B w g n m bs W)(i:Nat)(hi:i<n):w.cell? ⟨g,i,none⟩=some (.slice (some ⟨bs i,0,none⟩) m m):=by obtain⟨cur,h1,h2⟩:=h.o;rw[tY w g i cur _ _ h1];exact h2 i hi
theorem Mt.keep{B:Nat}{w w':sD}{g n m:Nat}{bs:Nat->Nat}{W:Nat->Nat->Nat}(h:Mt B w g n m bs W)(e:∀b,(b=g\/∃i,i<n/\b=bs i)->w'.heap[b]?=w.heap[b]?):Mt B w' g n m bs W:=by obtain⟨cur,h1,h2⟩:=h.o;exact⟨⟨cur,(e g (.inl rfl)).trans h1,h2⟩,fun i hi=>(e _ (.inr ⟨i,hi,rfl⟩)).trans (h.row i hi),h.inj,h.low,h.lg,h.bd⟩
theorem ag{w:sD}{b:Nat}{o:Obj}(h:w.heap[b]?=some o):b<w.heap.size:=(Array.getElem?_eq_some_iff.1 h).1
theorem Mt.below{B:Nat}{w w':sD}{g n m:Nat}{bs:Nat->Nat}{W:Nat->Nat->Nat}(h:Mt B w g n m bs W)(hb:sE w.heap.size w w'):Mt B w' g n m bs W:=by
 refine h.keep fun b hx=>hb.block b ?_;rcases hx with rfl|⟨i,hi,rfl⟩
 ·obtain⟨cur,h1,h2⟩:=h.o;exact ag h1
 ·exact ag (h.row i hi)
theorem Mt.gne{B:Nat}{w:sD}{g n m:Nat}{bs:Nat->Nat}{W:Nat->Nat->Nat}(h:Mt B w g n m bs W)(i:Nat)(hi:i<n):bs i≠g:=fun e=>by obtain⟨cur,h1,h2⟩:=h.o;have h3:=h.row i hi;unfold Rw at h3;rw[e,h1]at h3;cases h3
theorem Mt.set{B:Nat}{w w':sD}{g n m:Nat}{bs:Nat->Nat}{W:Nat->Nat->Nat}(h:Mt B w g n m bs W)(i:Nat)(hi:i<n){r:Nat->Nat}(hr:Rw w' (bs i) m r)(ho:du (bs i) w w')(hb:∀j,j<m->r j<18446744073709551616):Mt B w' g n m bs (fun x=>if x=i then r else W x):=by
 obtain⟨cur,h1,h2⟩:=h.o;refine⟨⟨cur,(ho.block g (fun e=>h.gne i hi e.symm)).trans h1,h2⟩,fun k hk=>?_,h.inj,h.low,h.lg,fun k j hk hj=>?_⟩
 ·by_cases e:k=i
  ·subst e;rw[if_pos rfl];exact hr
  ·rw[if_neg e];exact(ho.block _ (fun e2=>e (h.inj k i hk hi e2))).trans (h.row k hk)
 ·by_cases e:k=i
  ·simp only[if_pos e];exact hb j hj
  ·simp only[if_neg e];exact h.bd k j hk hj
theorem Mt.congr{B:Nat}{w:sD}{g n m:Nat}{bs:Nat->Nat}{W V:Nat->Nat->Nat}(h:Mt B w g n m bs W)(e:∀i j,i<n->j<m->W i j=V i j):Mt B w g n m bs V:=⟨h.o,fun i hi=>by have:=h.row i hi;unfold Rw at this⊢;rw[this,kU (e i · hi)],h.inj,h.low,h.lg,fun i j hi hj=>by rw[<-e i j hi hj];exact h.bd i j hi hj⟩
theorem Mt.lower{B C:Nat}{w:sD}{g n m:Nat}{bs:Nat->Nat}{W:Nat->Nat->Nat}(h:Mt B w g n m bs W)(hc:C<=B):Mt C w g n m bs W:=⟨h.o,h.row,h.inj,fun i hi=>sQ hc (h.low i hi),sQ hc h.lg,h.bd⟩
structure Nn(w wr:sD)(v:sM)(i m:Nat)(bs:Nat->Nat)(xs:List sM):Prop where
 own:wr.ownsRow w.heap.size 144 1 v i xs
 get:∀k,k<i->xs[k]?=some (.slice (some ⟨bs k,0,none⟩) m m)
 row:∀k,k<i->Rw wr (bs k) m fun _=>0
 inj:∀k j,k<i->j<i->bs k=bs j->k=j
 low:∀k,k<i->w.heap.size<=bs k
 bl:sE w.heap.size w wr
theorem zwF(w:sD)(o:Obj)(v:sM)(T:ue):∀j u,[v][j]?=some u->((w.alloc o).alloc (.cells #[v] T)).cell? ((⟨w.heap.size+1,0,none⟩:Addr).add j)=some u:=by have h:=tP (cs:=#[v]) (heap_alloc_new (w.alloc o) (.cells #[v] T));simpa using h
theorem Nn.step{w wr w8:sD}{v:sM}{i m g8 c8:Nat}{bs:Nat->Nat}{xs:List sM}(h:Nn w wr v i m bs xs)
  (o8:w8.ownsRow w.heap.size 144 1 (.slice (some ⟨g8,0,none⟩) (i+1) c8) (i+1) (xs++[.slice (some ⟨wr.heap.size,0,none⟩) m m]))
  (gr:ua ((wr.alloc (.cells (us m fun _=>0).toArray 159)).alloc (.cells #[.slice (some ⟨wr.heap.size,0,none⟩) m m] 144)) w8 v.ownBlock):
  Nn w w8 (.slice (some ⟨g8,0,none⟩) (i+1) c8) (i+1) m (fun k=>if k=i then wr.heap.size else bs k) (xs++[.slice (some ⟨wr.heap.size,0,none⟩) m m]):=by
 have hs:=h.bl.size;have hx:xs.length=i:=by have:=h.own.1;omega
 have hv:∀b,v.ownBlock=some b->w.heap.size<=b/\b<wr.heap.size/\∃cur,wr.heap[b]?=some (.cells cur 144 (0,0)):=fun b hb=>by
  rcases h.own.2 with ⟨rfl,_⟩|⟨g,cap,cur,rfl,h2,h3,_⟩
  ·cases hb
  ·cases hb;exact⟨h2,ag h3,cur,h3⟩
 have old:∀b,b<wr.heap.size->v.ownBlock≠some b->w8.heap[b]?=wr.heap[b]? :=fun b hb hne=>by rw[gr.block b (by simp;omega) (fun e=>hne e.symm),tG _ _ b (by simp;omega),tG _ _ b hb]
 have new:w8.heap[wr.heap.size]?=some (.cells (us m fun _=>0).toArray 159 (0,0)):=by rw[gr.block wr.heap.size (by simp;omega) (fun e=>by have:=(hv _ e.symm).2.1;omega),tG _ _ wr.heap.size (by simp)];exact heap_alloc_new _ _
 have rows:∀k,k<i->v.ownBlock≠some (bs k):=fun k hk e=>by obtain⟨_,_,cur,h3⟩:=hv _ e;have h4:=h.row k hk;unfold Rw at h4;rw[h3]at h4;cases h4
 have blt:∀k,k<i->bs k<wr.heap.size:=fun k hk=>ag (h.row k hk);refine⟨o8,fun k hk=>?_,fun k hk=>?_,fun k j hk hj=>?_,fun k hk=>?_,?_⟩
 ·by_cases e:k=i
  ·subst e;rw[if_pos rfl,List.getElem?_append_right (by omega),hx];simp
  ·rw[if_neg e,List.getElem?_append_left (by omega)];exact h.get k (by omega)
 ·by_cases e:k=i
  ·subst e;rw[if_pos rfl];exact new
  ·rw[if_neg e];exact(old _ (blt k (by omega)) (rows k (by omega))).trans (h.row k (by omega))
 ·by_cases e:k=i<;>by_cases e2:j=i
  ·omega
  ·rw[if_pos e,if_neg e2];intro e3;have:=blt j (by omega);omega
  ·rw[if_neg e,if_pos e2];intro e3;have:=blt k (by omega);omega
  ·rw[if_neg e,if_neg e2];exact h.inj k j (by omega) (by omega)
 ·by_cases e:k=i
  ·rw[if_pos e];exact hs
  ·rw[if_neg e];exact h.low k (by omega)
 ·refine h.bl.trans ⟨gr.os,gr.tape,gr.output,?_,fun b hb=>old b (by omega) (fun e=>by have:=(hv b e).1;omega)⟩;have:=gr.size;simp at this;omega
theorem Nn.done{w wr:sD}{v:sM}{n m:Nat}{bs:Nat->Nat}{xs:List sM}(h:Nn w wr v n m bs xs)(hn:1<=n):∃g cap,v=.slice (some ⟨g,0,none⟩) n cap/\Mt w.heap.size wr g n m bs (fun _ _=>0):=by
 rcases h.own.2 with ⟨rfl,h1⟩|⟨g,cap,cur,rfl,h2,h3,h4,h5,h6,h7⟩
 ·omega
 ·refine⟨g,cap,rfl,⟨cur,h3,fun i hi=>?_⟩,h.row,h.inj,h.low,h2,fun _ _ _ _=>by omega⟩;have h8:=h.get i hi;rw[<-h7,td (by omega)]at h8;simpa using h8
def MtQ(w:sD)(n m:Nat)(W:Nat->Nat->Nat)(e:tJ)(w':sD):Prop:=∃g cap bs,e=.returned (.slice (some ⟨g,0,none⟩) n cap)/\Mt w.heap.size w' g n (m+1) bs W/\sE w.heap.size w w'
theorem iG(n m:Nat)(w:sD)(h1:1<=n)(hn:n<=100000)(hm:m=n / 64):sJ Tryz.prog 172 #[.int .i64 n] w (MtQ w n m fun _ _=>0):=by
 have e1:(n:Int).tdiv 64=((n / 64:Nat):Int):=by rw[sW (by omega)];omega
 have e2:tg.wrap ((n / 64:Nat):Int)=((n / 64:Nat):Int):=by unfold sY sZ sR;simp;omega
 rw[<-hm]at e1 e2;have hml:m<=100000:=by omega
 clear hm;have M1:∀W:sD,(Instr.makeSlice 144 (.int .i64 ((m:Int)+1)) (.int .i64 ((m:Int)+1))).run Tryz.prog W=.ok (.slice (some ⟨W.heap.size,0,none⟩) (m+1) (m+1)) (W.alloc (.cells (us (m+1) fun _=>0).toArray 159)):=fun W=>znL (m+1) (by omega) W;obtain⟨i0,hi0,hz0,hz1,hz2⟩:=tS Tryz.infoRow;have HI:=aa (sS hi0 (sS hz0 (sS hz1 hz2)));clear hi0 hz0 hz1 hz2;go_enter Tryz.func172,Tryz.ntmps172;go_wp2;go_loopw [3,4] (fun x y wr=>∃(i:Nat)(bs:Nat->Nat)(xs:List sM)(vo:Option Addr)(vc:Nat),x=.slice vo i vc/\y=.int .i64 i/\i<=n/\ae (Nn w wr (.slice vo i vc) i (m+1) bs xs)) (fun _ y _=>n-(sL y).toNat)
 case atStart=>exact⟨0,fun _=>0,[],none,0,rfl,rfl,sI _,aa ⟨tE _ _ _ _,fun k hk=>by omega,fun k hk=>by omega,fun k j hk=>by omega,fun k hk=>by omega,sT _ _⟩⟩
 case round=>
  obtain⟨i,bs,xs,vo,vc,rfl,rfl,hi,HN⟩:=hrel;by_cases hlt:i<n
  ·have i1:(i:Int)<(n:Int):=by omega
   go_wp2_with (at_builtin;refine tA _ rfl _ _ 141 rfl w.heap.size 144 i0 (.slice none 0 0) 1 24 Tryz.underRows HI.o.1 HI.o.2.1 HI.o.2.2.1 HI.o.2.2.2 rfl (by decide) (.slice vo i vc) i xs rfl ((HN.o.own.alloc _).alloc _) ⟨wr.heap.size+1,0,none⟩ 1 1 [.slice (some ⟨wr.heap.size,0,none⟩) (m+1) (m+1)] rfl rfl (zwF wr _ _ _) (fun u hu=>by simp at hu;rw[hu];rfl) (by decide) (by unfold maxLen;omega) (by omega) (by have:=HN.o.bl.size;simp;omega) (wr.heap.size+2) (by simp) ?_;intro g8 c8 w8 o8 gr8 hl8 hlt8;have HO8:=aa (HN.o.step o8 gr8);clear o8 gr8 hl8 hlt8);go_roundw
   case rel=>exact⟨i+1,_,_,_,_,rfl,by go_num,by omega,HO8⟩
   case measure=>simp[sL];omega
  ·have e:i=n:=by omega
   subst e;have i1:¬(i:Int)<(i:Int):=by omega
   obtain⟨g,cap,hv,hM⟩:=HN.o.done h1;have HM:=aa hM;cases hv;clear hM;go_wp2;go_ret;exact⟨g,_,bs,rfl,HM.o,HN.o.bl⟩
theorem oC(n m:Nat)(w:sD)(h1:1<=n)(hn:n<=100000)(hm:m=n / 64):sJ Tryz.prog 174 #[.int .i64 n] w (MtQ w n m fun i=>stR (fun _=>0) i):=by
 have HN:=aa (iG n m w h1 hn hm);have HM:=aa hm;clear hm;go_enter Tryz.func174,Tryz.ntmps174;go_wp2_with fail;refine HN.o.mono ?_;rintro e w1 ⟨g,cap,bs,rfl,hM,hB⟩;have HT:=aa hM;have HB:=aa hB;clear hM hB HN;go_wp2;go_loopw [4] (fun y wr=>∃i:Nat,y=.int .i64 i/\i<=n/\ae (Mt w.heap.size wr g n (m+1) bs fun x=>if x<i then stR (fun _=>0) x else fun _=>0)/\ae (sE w.heap.size w wr)) (fun y _=>n-(sL y).toNat)
 case atStart=>exact⟨0,rfl,sI _,by simpa using HT,HB⟩
 case round=>
  obtain⟨i,rfl,hi,HR,HW⟩:=hrel;by_cases hlt:i<n
  ·have i0:(0:Int)<=(i:Int):=by omega
   have i1:(i:Int)<(n:Int):=by omega
   have c1:=HR.o.cell i hlt;have hr:=HR.o.row i hlt;simp only[te,if_false]at hr;have HS:=aa (zig (bs i) (m+1) i _ wr hr (by have:=HM.o;have:=sK (c:=64) (sU hlt);omega) (by decide) (by omega));clear hr;go_wp2_with fail;refine HS.o.mono ?_;rintro e w2 ⟨rfl,hr2,ho2⟩;have HR2:=aa (HR.o.set i hlt hr2 ho2 (fun j hj=>by unfold stR;split;rw[Nat.zero_or];exact tq (by decide) (t8 _ (by decide));exact(by decide:(0:Nat)<18446744073709551616)));have HW2:=aa (HW.o.trans (ho2.below (HR.o.low i hlt)));clear hr2 ho2 HS;go_wp2;go_roundw
   case rel=>
    refine⟨i+1,by go_num,by omega,aa (HR2.o.congr fun x j hx hj=>?_),HW2⟩;by_cases e:x=i
    ·subst e;simp
    ·by_cases e2:x<i
     ·simp[e,e2,tn e2]
     ·have:¬x<i+1:=by omega
      simp[e,e2,this]
   case measure=>simp[sL];omega
  ·have i1:¬(i:Int)<(n:Int):=by omega
   have HQ:=aa (HR.o.congr (V:=fun i=>stR (fun _=>0) i) fun x j hx hj=>by rw[if_pos (by omega)]);go_wp2;go_ret;exact⟨g,cap,bs,rfl,HQ.o,HW.o⟩
end Pt
end
section
open Go.RowKit
namespace Pt
theorem pZ{r o:Nat->Nat}{m:Nat}(h1:∀j,j<m->r j<18446744073709551616)(h2:∀j,j<m->o j<18446744073709551616)(j:Nat)(hj:j<m):nY r o j<18446744073709551616:=Nat.or_lt_two_pow (n:=64) (h1 j hj) (h2 j hj)
theorem qL(n m:Nat)(C D:Nat)(g h:Nat)(gc hc:Nat)(bs ds:Nat->Nat)(U V:Nat->Nat->Nat)(w:sD)(h1:1<=n)(hn:n<=100000)(hm:m=n / 64)(hg:Mt C w g n (m+1) bs U)(hh:Mt D w h n (m+1) ds V):
  sJ Tryz.prog 176 #[.slice (some ⟨g,0,none⟩) n gc,.slice (some ⟨h,0,none⟩) n hc] w (MtQ w n m fun i=>nY (nY (fun _=>0) (U i)) (V i)):=by
 have HN:=aa (iG n m w h1 hn hm);have HG:=aa hg;have HH:=aa hh;have HM:=aa hm;clear hm hg hh;go_enter Tryz.func176,Tryz.ntmps176;go_wp2_with fail;refine HN.o.mono ?_;rintro e w1 ⟨k,cap,cs,rfl,hM,hB⟩;have HT:=aa hM;have HB:=aa hB;clear hM hB HN;go_wp2;go_loopw [6] (fun y wr=>∃i:Nat,y=.int .i64 i/\i<=n/\ae (Mt w.heap.size wr k n (m+1) cs fun x=>if x<i then nY (nY (fun _=>0) (U x)) (V x)else fun _=>0)/\ae (sE w.heap.size w wr)) (fun y _=>n-(sL y).toNat)
 case atStart=>exact⟨0,rfl,sI _,by simpa using HT,HB⟩
 case round=>
  obtain⟨i,rfl,hi,HR,HW⟩:=hrel;by_cases hlt:i<n
  ·have i0:(0:Int)<=(i:Int):=by omega
   have i1:(i:Int)<(n:Int):=by omega
   have c1:=HR.o.cell i hlt;have HGr:=aa (HG.o.below HW.o);have HHr:=aa (HH.o.below HW.o);have c2:=HGr.o.cell i hlt;have hr:=HR.o.row i hlt;simp only[te,if_false]at hr;have HA:=aa (fun(W:sD)(e1:Rw W (cs i) (m+1) fun _=>0)(e2:Rw W (bs i) (m+1) (U i))=>oW (cs i) (bs i) (m+1) _ _ W e1 e2 (fun _ _=>by decide) (HGr.o.bd i · hlt) (by have:=HM.o;omega));have HRr:=aa hr;clear hr;have n1:g≠cs i:=fun e=>by obtain⟨cur,h3,_⟩:=HG.o.o;have:=ag h3;have:=HR.o.low i hlt;omega
   have n2:h≠cs i:=fun e=>by obtain⟨cur,h3,_⟩:=HH.o.o;have:=ag h3;have:=HR.o.low i hlt;omega
   have n3:k≠cs i:=fun e=>HR.o.gne i hlt e.symm;have n4:ds i≠cs i:=fun e=>by have:=ag (HH.o.row i hlt);have:=HR.o.low i hlt;omega
   have HX:=aa (sS n1 (sS n2 (sS n3 n4)));clear n1 n2 n3 n4;go_wp2_with fail;refine aw [(0,true),(1,true),(2,true),(3,true),(4,true),(5,true),(6,true),(7,true),(8,false)] (fun w'=>w'.cell? ⟨k,i,none⟩=some (.slice (some ⟨cs i,0,none⟩) (m+1) (m+1))/\w'.cell? ⟨g,i,none⟩=some (.slice (some ⟨bs i,0,none⟩) (m+1) (m+1))) (fun _=>false) (by kernel_rfl) (by kernel_rfl) (fun j hj=>by cases hj) rfl (by kernel_rfl) ⟨c1,c2⟩ ?_
   iterate 8 (refine aF ?_ rfl (by kernel_rfl) (fun w' hS=>?_) ?_;(rotate_left;(obtain⟨s1,s2⟩:=hS;go_simp;with_reducible rfl);rotate_left))
   refine au rfl (by kernel_rfl) fun KK hKK=>?_;go_simp;refine(HA.o wr.drew HRr.o (HGr.o.row i hlt)).mono ?_;rintro e w2 ⟨rfl,hr2,ho2⟩;have HR2:ae (Mt w.heap.size w2 k n (m+1) cs _):=aa (HR.o.set i hlt hr2 ((du.drew _ 1 wr).trans ho2) (pZ (fun _ _=>by decide) (HGr.o.bd i · hlt)));have HO2:ae (du (cs i) wr w2):=aa ((du.drew _ 1 wr).trans ho2);have HW2:=aa (HW.o.trans (HO2.o.below (HR.o.low i hlt)));have HH2:ae (Rw w2 (ds i) (m+1) (V i)):=aa ((HO2.o.block _ HX.o.2.2.2).trans (HHr.o.row i hlt));have HR2r:ae (Rw w2 (cs i) (m+1) _):=aa hr2;refine hKK _ _ (fun _=>⟨HR2.o.cell i hlt,(sX (HO2.o.block g HX.o.1)).trans c2⟩) ?_;refine ba (sN ?_);have d1:=HR2.o.cell i hlt;have d2:w2.cell? ⟨h,i,none⟩=some (.slice (some ⟨ds i,0,none⟩) (m+1) (m+1)):=(sX (HO2.o.block h HX.o.2.1)).trans (HHr.o.cell i hlt);clear hr2 ho2 hKK c1 c2 HA;have HA:=aa (fun(W:sD)(e1:Rw W (cs i) (m+1) (nY (fun _=>0) (U i)))(e2:Rw W (ds i) (m+1) (V i))=>oW (cs i) (ds i) (m+1) _ _ W e1 e2 (pZ (fun _ _=>by decide) (HGr.o.bd i · hlt)) (HHr.o.bd i · hlt) (by have:=HM.o;omega));go_wp2_with fail;refine aw [(0,true),(1,true),(2,true),(3,true),(4,true),(5,true),(6,true),(7,true),(8,false)] (fun w'=>w'.cell? ⟨k,i,none⟩=some (.slice (some ⟨cs i,0,none⟩) (m+1) (m+1))/\w'.cell? ⟨h,i,none⟩=some (.slice (some ⟨ds i,0,none⟩) (m+1) (m+1))) (fun _=>false) (by kernel_rfl) (by kernel_rfl) (fun j hj=>by cases hj) rfl (by kernel_rfl) ⟨d1,d2⟩ ?_
   iterate 8 (refine aF ?_ rfl (by kernel_rfl) (fun w' hS=>?_) ?_;(rotate_left;(obtain⟨s1,s2⟩:=hS;go_simp;with_reducible rfl);rotate_left))
   refine au rfl (by kernel_rfl) fun KK hKK=>?_;go_simp;refine(HA.o w2.drew HR2r.o HH2.o).mono ?_;rintro e w3 ⟨rfl,hr3,ho3⟩;have HR3:ae (Mt w.heap.size w3 k n (m+1) cs _):=aa (HR2.o.set i hlt hr3 ((du.drew _ 1 w2).trans ho3) (pZ (pZ (fun _ _=>by decide) (HGr.o.bd i · hlt)) (HHr.o.bd i · hlt)));have HO3:ae (du (cs i) w2 w3):=aa ((du.drew _ 1 w2).trans ho3);have HW3:=aa (HW2.o.trans (HO3.o.below (HR.o.low i hlt)));refine hKK _ _ (fun _=>⟨HR3.o.cell i hlt,(sX (HO3.o.block h HX.o.2.1)).trans d2⟩) ?_;refine ba (sN ?_);clear hr3 ho3 hKK d1 d2;go_wp2;go_roundw
   case rel=>
    refine⟨i+1,by go_num,by omega,aa (HR3.o.congr fun x j hx hj=>?_),HW3⟩;by_cases e:x=i
    ·subst e;simp
    ·by_cases e2:x<i
     ·simp[e,e2,tn e2]
     ·have:¬x<i+1:=by omega
      simp[e,e2,this]
   case measure=>simp[sL];omega
  ·have i1:¬(i:Int)<(n:Int):=by omega
   have HQ:=aa (HR.o.congr (V:=fun i=>nY (nY (fun _=>0) (U i)) (V i)) fun x j hx hj=>by rw[if_pos (by omega)]);go_wp2;go_ret;exact⟨k,cap,cs,rfl,HQ.o,HW.o⟩
end Pt
end
section
open Go.RowKit
namespace Pt
theorem zpr{n m:Nat}{a:Nat->Nat}{B:Nat->Nat->Nat}(h:∀i j,i<n->j<m->B i j<18446744073709551616):∀k,k<=n->∀j,j<m->bhR n a B k j<18446744073709551616
 |0,_,j,_=>(by decide:(0:Nat)<18446744073709551616)
 |k+1,hk,j,hj=>by
  unfold bhR;split
  ·exact pZ (fun j hj=>zpr h k (by omega) j hj) (fun j hj=>h k j (by omega) hj) j hj
  ·exact zpr h k (by omega) j hj
def inW(n:Nat)(U V:Nat->Nat->Nat)(i k:Nat):Nat->Nat->Nat:=fun x=>if x<i then bhR n (U x) V n else if x=i then bhR n (U x) V k else fun _=>0
theorem qN(n m:Nat)(C D:Nat)(g h:Nat)(gc hc:Nat)(bs ds:Nat->Nat)(U V:Nat->Nat->Nat)(w:sD)(h1:1<=n)(hn:n<=100000)(hm:m=n / 64)(hg:Mt C w g n (m+1) bs U)(hh:Mt D w h n (m+1) ds V):
  sJ Tryz.prog 175 #[.slice (some ⟨g,0,none⟩) n gc,.slice (some ⟨h,0,none⟩) n hc] w (MtQ w n m fun i=>bhR n (U i) V n):=by
 have HN:=aa (iG n m w h1 hn hm);have HG:=aa hg;have HH:=aa hh;have HM:=aa hm;clear hm hg hh;go_enter Tryz.func175,Tryz.ntmps175;go_wp2_with fail;refine HN.o.mono ?_;rintro e w1 ⟨z,cap,cs,rfl,hM,hB⟩;have HT:=aa hM;have HB:=aa hB;clear hM hB HN;go_wp2;go_loopw [7] (fun y wr=>∃i:Nat,y=.int .i64 i/\i<=n/\ae (Mt w.heap.size wr z n (m+1) cs (inW n U V i 0))/\ae (sE w.heap.size w wr)) (fun y _=>n-(sL y).toNat)
 case atStart=>exact⟨0,rfl,sI _,aa (HT.o.congr fun x j _ _=>by unfold inW;split;omega;split<;>simp[bhR]),HB⟩
 case round=>
  obtain⟨i,rfl,hi,HR,HW⟩:=hrel;by_cases hlt:i<n
  ·have i0:(0:Int)<=(i:Int):=by omega
   have i1:(i:Int)<(n:Int):=by omega
   have HI:=aa hlt;go_wp2;go_loopw [8] (fun y wr=>∃k:Nat,y=.int .i64 k/\k<=n/\ae (Mt w.heap.size wr z n (m+1) cs (inW n U V i k))/\ae (sE w.heap.size w wr)) (fun y _=>n-(sL y).toNat)
   case atStart=>exact⟨0,rfl,sI _,HR,HW⟩
   case round=>
    clear HR HW;obtain⟨k,rfl,hk,HR,HW⟩:=hrel;by_cases hkn:k<n
    ·have k0:(0:Int)<=(k:Int):=by omega
     have k1:(k:Int)<(n:Int):=by omega
     have HGr:=aa (HG.o.below HW.o);have HHr:=aa (HH.o.below HW.o);have c0:=HGr.o.cell i hlt;have HS:=aa (oM (bs i) (m+1) k (U i) wr (HGr.o.row i hlt) (by have:=HM.o;have:=sK (c:=64) (sU hkn);omega) (HGr.o.bd i _ hlt (by have:=HM.o;have:=sK (c:=64) (sU hkn);omega)) (by omega));go_wp2_with fail;refine HS.o.mono ?_;rintro e w2 ⟨rfl,e2⟩;obtain rfl:=e2.symm;clear HS c0;by_cases hb:bt (U i) k=true
     ·rw[hb];have HBT:=aa hb;clear hb;have c1:=HR.o.cell i hlt;have c2:=HHr.o.cell k hkn;have n2:h≠cs i:=fun e=>by obtain⟨cur,h3,_⟩:=HH.o.o;have:=ag h3;have:=HR.o.low i hlt;omega
      have hr:=HR.o.row i hlt;rw[show inW n U V i k i=bhR n (U i) V k from by unfold inW;rw[if_neg (te i),if_pos rfl]]at hr;have HX:=aa n2;have HRr:=aa hr;have HBD:=aa (fun(j:Nat)(hj:j<m+1)=>zpr (a:=U i) HHr.o.bd k (by omega) j hj);clear n2 hr;have HA:=aa (fun(W:sD)(e1:Rw W (cs i) (m+1) (bhR n (U i) V k))(e2:Rw W (ds k) (m+1) (V k))=>oW (cs i) (ds k) (m+1) _ _ W e1 e2 HBD.o (HHr.o.bd k · hkn) (by have:=HM.o;omega));go_wp2_with fail;refine aw [(0,true),(1,true),(2,true),(3,true),(4,true),(5,true),(6,true),(7,true),(8,false)] (fun w'=>w'.cell? ⟨z,i,none⟩=some (.slice (some ⟨cs i,0,none⟩) (m+1) (m+1))/\w'.cell? ⟨h,k,none⟩=some (.slice (some ⟨ds k,0,none⟩) (m+1) (m+1))) (fun _=>false) (by kernel_rfl) (by kernel_rfl) (fun j hj=>by cases hj) rfl (by kernel_rfl) ⟨c1,c2⟩ ?_
      iterate 8 (refine aF ?_ rfl (by kernel_rfl) (fun w' hS=>?_) ?_;(rotate_left;(obtain⟨s1,s2⟩:=hS;go_simp;with_reducible rfl);rotate_left))
      refine au rfl (by kernel_rfl) fun KK hKK=>?_;go_simp;refine(HA.o wr.drew HRr.o (HHr.o.row k hkn)).mono ?_;rintro e w2 ⟨rfl,hr2,ho2⟩;have HR2:ae (Mt w.heap.size w2 z n (m+1) cs _):=aa (HR.o.set i hlt hr2 ((du.drew _ 1 wr).trans ho2) (pZ HBD.o (HHr.o.bd k · hkn)));have HO2:ae (du (cs i) wr w2):=aa ((du.drew _ 1 wr).trans ho2);have HW2:=aa (HW.o.trans (HO2.o.below (HR.o.low i hlt)));refine hKK _ _ (fun _=>⟨HR2.o.cell i hlt,(sX (HO2.o.block h HX.o)).trans c2⟩) ?_;refine ba (sN ?_);clear hr2 ho2 hKK c1 c2;go_wp2;go_roundw
      case rel=>
       refine⟨k+1,by go_num,by omega,aa (HR2.o.congr fun x j hx hj=>?_),HW2⟩;by_cases e:x=i
       ·subst e;rw[if_pos rfl];unfold inW;rw[if_neg (te x),if_pos rfl]
        conv=>rhs;unfold bhR
        rw[if_pos HBT.o]
       ·rw[if_neg e];unfold inW;rw[if_neg e,if_neg e]
      case measure=>simp[sL];omega
     ·have hb':bt (U i) k=false:=by simpa using hb
      rw[hb'];have HBT:=aa hb;clear hb hb';go_wp2;go_roundw
      case rel=>
       refine⟨k+1,by go_num,by omega,aa (HR.o.congr fun x j hx hj=>?_),HW⟩;unfold inW;by_cases e:x=i
       ·subst e;rw[if_neg (te x),if_neg (te x),if_pos rfl,if_pos rfl]
        conv=>rhs;unfold bhR
        rw[if_neg HBT.o]
       ·rw[if_neg e,if_neg e]
      case measure=>simp[sL];omega
    ·have k1:¬(k:Int)<(n:Int):=by omega
     have e:k=n:=by omega
     have HR2:=aa (HR.o.congr (V:=inW n U V (i+1) 0) fun x j hx hj=>by
      unfold inW;by_cases e1:x<i
      ·rw[if_pos e1,if_pos (by omega)]
      ·rw[if_neg e1];by_cases e2:x=i
       ·rw[if_pos e2,if_pos (by omega),e]
       ·rw[if_neg e2,if_neg (by omega)];split<;>rfl)
     clear e;go_wp2;go_roundw
     case rel=>exact⟨i+1,by go_num,by omega,HR2,HW⟩
     case measure=>simp[sL];omega
  ·have i1:¬(i:Int)<(n:Int):=by omega
   have HQ:=aa (HR.o.congr (V:=fun i=>bhR n (U i) V n) fun x j hx hj=>by unfold inW;rw[if_pos (by omega)]);go_wp2;go_ret;exact⟨z,cap,cs,rfl,HQ.o,HW.o⟩
end Pt
end
section
open Go.RowKit
namespace Pt
theorem zeA(W:Nat->Nat->Nat)(k i:Nat):qY W k (i+1)=fun x=>if x=i/\bt (qY W k i i) k=true then nY (qY W k i i) (qY W k i k)else qY W k i x:=rfl
theorem zeB(n m:Nat)(C:Nat)(g:Nat)(gc:Nat)(bs:Nat->Nat)(U:Nat->Nat->Nat)(w:sD)(h1:1<=n)(hn:n<=100000)(hm:m=n / 64)(hg:Mt C w g n (m+1) bs U):
  sJ Tryz.prog 177 #[.slice (some ⟨g,0,none⟩) n gc] w (MtQ w n m (mrK n (fun i=>nY (nY (fun _=>0) (U i)) (stR (fun _=>0) i)) n)):=by
 have HN:=aa (oC n m w h1 hn hm);have HBO:=aa (fun(W:sD)(h:Nat)(hc:Nat)(ds:Nat->Nat)(D:Nat)(e1:Mt C W g n (m+1) bs U)(e2:Mt D W h n (m+1) ds fun i=>stR (fun _=>0) i)=>qL n m C D g h gc hc bs ds _ _ W h1 hn hm e1 e2);have HG:=aa hg;have HM:=aa hm;clear hm hg;obtain⟨Z,hZ⟩:∃Z:Nat->Nat->Nat,Z=fun i=>nY (nY (fun _=>0) (U i)) (stR (fun _=>0) i):=⟨_,rfl⟩;rw[<-hZ];have HZ:=aa hZ;clear hZ;go_enter Tryz.func177,Tryz.ntmps177;go_wp2_with fail;refine HN.o.mono ?_;rintro e w1 ⟨y,yc,ys,rfl,hM,hB⟩;have HT1:=aa hM;have HB1:=aa hB;clear hM hB HN;go_wp2_with fail;refine(HBO.o w1 y yc ys w.heap.size (HG.o.below HB1.o) HT1.o).mono ?_;rintro e w2 ⟨z,cap,cs,rfl,hM,hB⟩;rw[<-HZ.o]at hM;have HT:=aa (hM.lower HB1.o.size);have HB:=aa (HB1.o.trans (hB.mono HB1.o.size));clear hM hB HBO;go_wp2;go_loopw [5] (fun y wr=>∃k:Nat,y=.int .i64 k/\k<=n/\ae (Mt w.heap.size wr z n (m+1) cs (mrK n Z k))/\ae (sE w.heap.size w wr)) (fun y _=>n-(sL y).toNat)
 case atStart=>exact⟨0,rfl,sI _,HT,HB⟩
 case round=>
  obtain⟨k,rfl,hk,HR,HW⟩:=hrel;by_cases hkn:k<n
  ·have k0:(0:Int)<=(k:Int):=by omega
   have k1:(k:Int)<(n:Int):=by omega
   go_wp2;go_loopw [6] (fun y wr=>∃i:Nat,y=.int .i64 i/\i<=n/\ae (Mt w.heap.size wr z n (m+1) cs (qY (mrK n Z k) k i))/\ae (sE w.heap.size w wr)) (fun y _=>n-(sL y).toNat)
   case atStart=>exact⟨0,rfl,sI _,HR,HW⟩
   case round=>
    clear HR HW;obtain⟨i,rfl,hi,HR,HW⟩:=hrel;by_cases hlt:i<n
    ·have i0:(0:Int)<=(i:Int):=by omega
     have i1:(i:Int)<(n:Int):=by omega
     have c0:=HR.o.cell i hlt;have HS:=aa (oM (cs i) (m+1) k _ wr (HR.o.row i hlt) (by have:=HM.o;have:=sK (c:=64) (sU hkn);omega) (HR.o.bd i _ hlt (by have:=HM.o;have:=sK (c:=64) (sU hkn);omega)) (by omega));go_wp2_with fail;refine HS.o.mono ?_;rintro e w2 ⟨rfl,e2⟩;obtain rfl:=e2.symm;clear HS c0;by_cases hb:bt (qY (mrK n Z k) k i i) k=true
     ·rw[hb];have HBT:=aa hb;clear hb;have c1:=HR.o.cell i hlt;have c2:=HR.o.cell k hkn;have HA:=aa (fun(W:sD)(e1:Rw W (cs i) (m+1) (qY (mrK n Z k) k i i))(e2:Rw W (cs k) (m+1) (qY (mrK n Z k) k i k))=>oW (cs i) (cs k) (m+1) _ _ W e1 e2 (HR.o.bd i · hlt) (HR.o.bd k · hkn) (by have:=HM.o;omega));go_wp2_with fail;refine aw [(0,true),(1,true),(2,true),(3,true),(4,true),(5,true),(6,true),(7,true),(8,false)] (fun w'=>w'.cell? ⟨z,i,none⟩=some (.slice (some ⟨cs i,0,none⟩) (m+1) (m+1))/\w'.cell? ⟨z,k,none⟩=some (.slice (some ⟨cs k,0,none⟩) (m+1) (m+1))) (fun _=>false) (by kernel_rfl) (by kernel_rfl) (fun j hj=>by cases hj) rfl (by kernel_rfl) ⟨c1,c2⟩ ?_
      iterate 8 (refine aF ?_ rfl (by kernel_rfl) (fun w' hS=>?_) ?_;(rotate_left;(obtain⟨s1,s2⟩:=hS;go_simp;with_reducible rfl);rotate_left))
      refine au rfl (by kernel_rfl) fun KK hKK=>?_;go_simp;refine(HA.o wr.drew (HR.o.row i hlt) (HR.o.row k hkn)).mono ?_;rintro e w2 ⟨rfl,hr2,ho2⟩;have HR2:ae (Mt w.heap.size w2 z n (m+1) cs _):=aa (HR.o.set i hlt hr2 ((du.drew _ 1 wr).trans ho2) (pZ (HR.o.bd i · hlt) (HR.o.bd k · hkn)));have HO2:ae (du (cs i) wr w2):=aa ((du.drew _ 1 wr).trans ho2);have HW2:=aa (HW.o.trans (HO2.o.below (HR.o.low i hlt)));refine hKK _ _ (fun _=>⟨HR2.o.cell i hlt,HR2.o.cell k hkn⟩) ?_;refine ba (sN ?_);clear hr2 ho2 hKK c1 c2;go_wp2;go_roundw
      case rel=>
       refine⟨i+1,by go_num,by omega,aa (HR2.o.congr fun x j hx hj=>?_),HW2⟩;rw[zeA];by_cases e:x=i
       ·simp only[e,if_pos,HBT.o,and_self]
       ·simp only[e,false_and,if_false]
      case measure=>simp[sL];omega
     ·have hb':bt (qY (mrK n Z k) k i i) k=false:=by simpa using hb
      rw[hb'];have HBT:=aa hb;clear hb hb';go_wp2;go_roundw
      case rel=>refine⟨i+1,by go_num,by omega,aa (HR.o.congr fun x j hx hj=>?_),HW⟩;rw[zeA];show _=(if x=i/\_ then _ else _:Nat->Nat) j;rw[if_neg (fun h=>HBT.o h.2)]
      case measure=>simp[sL];omega
    ·have i1:¬(i:Int)<(n:Int):=by omega
     have e:i=n:=by omega
     have HR2:=aa (HR.o.congr (V:=mrK n Z (k+1)) fun x j hx hj=>by rw[e];rfl);clear e;go_wp2;go_roundw
     case rel=>exact⟨k+1,by go_num,by omega,HR2,HW⟩
     case measure=>simp[sL];omega
  ·have k1:¬(k:Int)<(n:Int):=by omega
   have HQ:=aa (HR.o.congr (V:=mrK n Z n) fun x j hx hj=>by rw[show k=n by omega]);go_wp2;go_ret;exact⟨z,cap,cs,rfl,HQ.o,HW.o⟩
end Pt
end
section
open Go.RowKit
namespace Pt
theorem add_blk(a:Addr)(k:Nat):(a.add k).block=a.block:=by unfold Addr.add;split<;>rfl
def eS(w:sD)(ao:Option Addr)(l:List Int):Prop:=
 ∀(k:Nat)(z:Int),l[k]?=some z->∃a:Addr,ao=some a/\a.block<w.heap.size/\w.cell? (a.add k)=some (.int .i64 z)
theorem eS.below{w w':sD}{ao:Option Addr}{l:List Int}(h:eS w ao l)(hb:sE w.heap.size w w'):eS w' ao l:=fun k z hk=>by obtain⟨a,h1,h2,h3⟩:=h k z hk;exact⟨a,h1,tf h2 hb.size,(hb.cell (p:=a.add k) (by rw[add_blk];exact h2)).trans h3⟩
theorem eS.at{w:sD}{ao:Option Addr}{l:List Int}{k:Nat}(h:eS w ao l)(hk:k<l.length):∃a:Addr,ao=some a/\a.block<w.heap.size/\w.cell? (a.add k)=some (.int .i64 l[k]):=h k l[k] (sH hk)
mutual
def cv(w:sD):aA->sM->sM->sM->Prop
 |.mk op cls kids,v0,v1,v2=>v0=.int .i64 op/\(∃co cc,v1=.slice co cls.length cc/\eS w co cls/\cls.length<=1000000)/\(∃ko kc,v2=.slice ko kids.length kc/\gA w kids ko 0/\kids.length<=1000000/\kids.length<=kc)
def gA(w:sD):List aA->Option Addr->Nat->Prop
 |[],_,_=>True
 |p::ps,ko,i=>(∃b o,ko=some ⟨b,o,none⟩/\b<w.heap.size/\∃v0 v1 v2,w.cell? ⟨b,o+i*3,none⟩=some v0/\w.cell? ⟨b,o+i*3+1,none⟩=some v1/\w.cell? ⟨b,o+i*3+2,none⟩=some v2/\cv w p v0 v1 v2)/\gA w ps ko (i+1)
end
mutual
theorem cv.below{w w':sD}(hb:sE w.heap.size w w'):∀(p:aA)(v0 v1 v2:sM),cv w p v0 v1 v2->cv w' p v0 v1 v2
 |.mk op cls kids,v0,v1,v2,h=>by unfold cv at h⊢;obtain⟨h1,⟨co,cc,h2,h3,h4⟩,ko,kc,h5,h6,h7⟩:=h;exact⟨h1,⟨co,cc,h2,h3.below hb,h4⟩,ko,kc,h5,gA.below hb kids ko 0 h6,h7⟩
theorem gA.below{w w':sD}(hb:sE w.heap.size w w'):∀(ps:List aA)(ko:Option Addr)(i:Nat),gA w ps ko i->gA w' ps ko i
 |[],_,_,_=>by unfold gA;trivial
 |p::ps,ko,i,h=>by unfold gA at h⊢;obtain⟨⟨b,o,h1,h2,v0,v1,v2,h3,h4,h5,h6⟩,h7⟩:=h;have hc:∀k v,w.cell? ⟨b,k,none⟩=some v->w'.cell? ⟨b,k,none⟩=some v:=fun k v hk=>(hb.cell (p:=⟨b,k,none⟩) h2).trans hk;exact⟨⟨b,o,h1,tf h2 hb.size,v0,v1,v2,hc _ _ h3,hc _ _ h4,hc _ _ h5,cv.below hb p _ _ _ h6⟩,gA.below hb ps ko (i+1) h7⟩
end
theorem gA.at{w:sD}:∀(ps:List aA)(ko:Option Addr)(i j:Nat)(p:aA),gA w ps ko i->ps[j]?=some p->∃b o,ko=some ⟨b,o,none⟩/\b<w.heap.size/\∃v0 v1 v2,w.cell? ⟨b,o+(i+j)*3,none⟩=some v0/\w.cell? ⟨b,o+(i+j)*3+1,none⟩=some v1/\w.cell? ⟨b,o+(i+j)*3+2,none⟩=some v2/\cv w p v0 v1 v2
 |[],_,_,j,p,_,h=>by simp at h
 |q::ps,ko,i,0,p,h,hj=>by unfold gA at h;simp at hj;subst hj;exact h.1
 |q::ps,ko,i,j+1,p,h,hj=>by unfold gA at h;have:=gA.at ps ko (i+1) j p h.2 (by simpa using hj);rw[show i+1+j=i+(j+1) by omega]at this;exact this
def kD(l:List Int)(c:Int):Bool:=l.any fun z=>z==c
theorem cG(l:List Int)(c:Int):kD l c=true ↔ c∈l:=by
 unfold kD;rw[List.any_eq_true];constructor
 ·rintro ⟨z,h1,h2⟩;rw[beq_iff_eq]at h2;exact h2 ▸ h1
 ·intro h;exact⟨c,h,by simp⟩
theorem zoc(lo:Option Addr)(n lc:Nat)(l:List Int)(c:Int)(w:sD)(hl:eS w lo l)(hn:n=l.length)(hm:n<=1000000):
  sJ Tryz.prog 170 #[.slice lo n lc,.int .i64 c] w fun e w'=>e=.returned (.bool (kD l c))/\w'=w:=by
 have HL:=aa hl;have HN:=aa hn;clear hl hn;go_enter Tryz.func170,Tryz.ntmps170;go_wp2;go_loopw [5] (fun y wr=>∃i:Nat,y=.int .i64 i/\i<=n/\wr=w/\ae (∀z∈l.take i,z≠c)) (fun y _=>n-(sL y).toNat)
 case atStart=>exact⟨0,rfl,sI _,rfl,aa (by simp)⟩
 case round=>
  obtain⟨i,rfl,hi,rfl,HT⟩:=hrel;by_cases hlt:i<n
  ·have i0:(0:Int)<=(i:Int):=by omega
   have i1:(i:Int)<(n:Int):=by omega
   have hil:i<l.length:=by have:=HN.o;omega
   obtain⟨a,rfl,ha,c1⟩:=HL.o.at hil;obtain⟨z,hz⟩:=aj (l[i]);rw[<-hz]at c1;have HZ:=aa hz;clear hz;by_cases e:z=c
   ·subst e;have b1:(z==z)=true:=by simp
    have HE:ae (kD l z=true):=aa ((cG l z).2 (by rw[HZ.o];exact sO _));go_wp2;go_ret;exact⟨by rw[HE.o];rfl,rfl⟩
   ·have b1:(z==c)=false:=by simpa using e
    have HE:=aa e;clear e;go_wp2;go_roundw
    case rel=>
     refine⟨i+1,by go_num,by omega,trivial,aa fun x hx=>?_⟩;rw[tp hil,t6]at hx;rcases hx with hx|hx
     ·exact HT.o x hx
     ·rw[tT]at hx;rw[hx,<-HZ.o];exact HE.o
    case measure=>simp[sL];omega
  ·have i1:¬(i:Int)<(n:Int):=by omega
   have HE:ae (kD l c=false):=aa (by
    cases h:kD l c with
    |false=>rfl
    |true=>exact absurd rfl (HT.o c (by rw[tK (by have:=HN.o;omega)];exact(cG l c).1 h)))
   go_wp2;go_ret;exact⟨by rw[HE.o];rfl,rfl⟩
end Pt
end
section
open Go.RowKit
namespace Pt
mutual
theorem aA.ind{M:aA->Prop}(h:∀op cls kids,(∀p∈kids,M p)->M (.mk op cls kids)):∀p,M p
 |.mk op cls kids=>h op cls kids (aA.indL h kids)
theorem aA.indL{M:aA->Prop}(h:∀op cls kids,(∀p∈kids,M p)->M (.mk op cls kids)):∀ps:List aA,∀p∈ps,M p
 |[],p,hp=>by cases hp
 |q::ps,p,hp=>by
  cases hp with
  |head=>exact aA.ind h _
  |tail _ hp=>exact aA.indL h ps p hp
end
mutual
def Wf:aA->Prop
 |.mk op _ kids=>((op=4\/op=5\/op=6)->kids≠ [])/\WfL kids
def WfL:List aA->Prop
 |[]=>True
 |p::ps=>Wf p/\WfL ps
end
theorem WfL.mem:∀{ps:List aA} {p:aA},WfL ps->p∈ps->Wf p
 |[],p,_,hp=>by cases hp
 |q::ps,p,h,hp=>by
  unfold WfL at h;cases hp with
  |head=>exact h.1
  |tail _ hp=>exact WfL.mem h.2 hp
def LdR(n m:Nat)(R:Nat->Nat->Prop)(w:sD)(e:tJ)(w':sD):Prop:=∃W,MtQ w n m W e w'/\qW n W R
theorem af{w:sD}{o:Obj}:sE w.heap.size w (w.alloc o):=(sT _ _).alloc (ti _) _
theorem MtQ.low{w w1:sD}{n m:Nat}{W:Nat->Nat->Nat}{e:tJ}{w':sD}(h:MtQ w1 n m W e w')(hb:sE w.heap.size w w1):MtQ w n m W e w':=by obtain⟨g,cap,bs,h1,h2,h3⟩:=h;exact⟨g,cap,bs,h1,h2.lower hb.size,hb.trans (h3.mono hb.size)⟩
section
variable (lo co:Option Addr) (ln lc b o kn kc cn cc m:Nat) (u0 u1 u2:sM) (R:Nat->Nat->Prop) (w:sD)
theorem zwO(hb:b<w.heap.size)(hkn:1<=kn)(hc:cn<=90000)(hm:m=(cn+1) / 64)(q0:w.cell? ⟨b,o,none⟩=some u0)(q1:w.cell? ⟨b,o+1,none⟩=some u1)(q2:w.cell? ⟨b,o+2,none⟩=some u2)
  (HL:ae (∀W,sE w.heap.size w W->sJ Tryz.prog 149 #[.agg #[u0,u1,u2],.slice co cn cc] W (LdR (cn+1) m R W))) (HK:ae (Kn (cn+1) R)):
  sJ Tryz.prog 149 #[.agg #[.int .i64 4,.slice lo ln lc,.slice (some ⟨b,o,none⟩) kn kc],.slice co cn cc] w (LdR (cn+1) m (cj R) w):=by
 have HMo:=aa (fun(C g gc:Nat)(bs:Nat->Nat)(U:Nat->Nat->Nat)(W:sD)(hg:Mt C W g (cn+1) (m+1) bs U)=>zeB (cn+1) m C g gc bs U W (by omega) (by omega) hm hg);have k1:(0:Int)<(kn:Int):=by omega
 clear hm;go_enter Tryz.func149,Tryz.ntmps149;go_wp2_with fail;refine(HL.o _ af).mono ?_;rintro e w2 ⟨W,⟨g,cap,bs,rfl,hM,hB⟩,hR⟩;have HM:=aa hM;have HB:=aa (af.trans (hB.mono (by simp)));have HR:=aa hR;clear hM hB hR;go_wp2_with fail;refine(HMo.o _ g cap bs W w2 HM.o).mono ?_;rintro e w3 ⟨z,cap2,cs,rfl,hM3,hB3⟩;have HQ:ae (LdR (cn+1) m (cj R) w (.returned (.slice (some ⟨z,0,none⟩) (cn+1) cap2)) w3):=aa ⟨_,⟨z,cap2,cs,rfl,hM3.lower HB.o.size,HB.o.trans (hB3.mono HB.o.size)⟩,zek HR.o (lk (cn+1)) HK.o⟩;clear hM3 hB3;go_wp2;go_ret;exact HQ.o
theorem zwN(hb:b<w.heap.size)(hkn:1<=kn)(hc:cn<=90000)(hm:m=(cn+1) / 64)(q0:w.cell? ⟨b,o,none⟩=some u0)(q1:w.cell? ⟨b,o+1,none⟩=some u1)(q2:w.cell? ⟨b,o+2,none⟩=some u2)
  (HL:ae (∀W,sE w.heap.size w W->sJ Tryz.prog 149 #[.agg #[u0,u1,u2],.slice co cn cc] W (LdR (cn+1) m R W))) (HK:ae (Kn (cn+1) R)):
  sJ Tryz.prog 149 #[.agg #[.int .i64 5,.slice lo ln lc,.slice (some ⟨b,o,none⟩) kn kc],.slice co cn cc] w (LdR (cn+1) m (Cmp R (cj R)) w):=by
 have HMo:=aa (fun(C g gc:Nat)(bs:Nat->Nat)(U:Nat->Nat->Nat)(W:sD)(hg:Mt C W g (cn+1) (m+1) bs U)=>zeB (cn+1) m C g gc bs U W (by omega) (by omega) hm hg);have HBe:=aa (fun(C D g gc h hc:Nat)(bs ds:Nat->Nat)(U V:Nat->Nat->Nat)(W:sD)(hg:Mt C W g (cn+1) (m+1) bs U)(hh:Mt D W h (cn+1) (m+1) ds V)=>qN (cn+1) m C D g h gc hc bs ds U V W (by omega) (by omega) hm hg hh);have k1:(0:Int)<(kn:Int):=by omega
 clear hm;go_enter Tryz.func149,Tryz.ntmps149;go_wp2_with fail;refine(HL.o _ af).mono ?_;rintro e w2 ⟨W,⟨g,cap,bs,rfl,hM,hB⟩,hR⟩;have HM:=aa hM;have HB:=aa (af.trans (hB.mono (by simp)));have HR:=aa hR;clear hM hB hR;go_wp2_with fail;refine(HMo.o _ g cap bs W w2 HM.o).mono ?_;rintro e w3 ⟨z,cap2,cs,rfl,hM3,hB3⟩;have HM3:=aa hM3;have HB3:=aa hB3;clear hM3 hB3;go_wp2_with fail;refine(HBe.o _ _ g cap z cap2 bs cs _ _ w3 (HM.o.below HB3.o) HM3.o).mono ?_;rintro e w4 ⟨y,cap3,ds,rfl,hM4,hB4⟩;have HB5:=aa (HB.o.trans (HB3.o.mono HB.o.size));have HQ:ae (LdR (cn+1) m (Cmp R (cj R)) w (.returned (.slice (some ⟨y,0,none⟩) (cn+1) cap3)) w4):=aa ⟨_,⟨y,cap3,ds,rfl,hM4.lower HB5.o.size,HB5.o.trans (hB4.mono HB5.o.size)⟩,pP HR.o (zek HR.o (lk (cn+1)) HK.o) HK.o⟩;clear hM4 hB4;go_wp2;go_ret;exact HQ.o
theorem zwM(hb:b<w.heap.size)(hkn:1<=kn)(hc:cn<=90000)(hm:m=(cn+1) / 64)(q0:w.cell? ⟨b,o,none⟩=some u0)(q1:w.cell? ⟨b,o+1,none⟩=some u1)(q2:w.cell? ⟨b,o+2,none⟩=some u2)
  (HL:ae (∀W,sE w.heap.size w W->sJ Tryz.prog 149 #[.agg #[u0,u1,u2],.slice co cn cc] W (LdR (cn+1) m R W))):
  sJ Tryz.prog 149 #[.agg #[.int .i64 6,.slice lo ln lc,.slice (some ⟨b,o,none⟩) kn kc],.slice co cn cc] w (LdR (cn+1) m (fun i k=>i=k\/R i k) w):=by
 have HOw:=aa (fun(W:sD)=>show sJ Tryz.prog 174 #[.int .i64 ((cn:Int)+1)] W _ from oC (cn+1) m W (by omega) (by omega) hm);have HBo:=aa (fun(C D g gc h hc:Nat)(bs ds:Nat->Nat)(U V:Nat->Nat->Nat)(W:sD)(hg:Mt C W g (cn+1) (m+1) bs U)(hh:Mt D W h (cn+1) (m+1) ds V)=>qL (cn+1) m C D g h gc hc bs ds U V W (by omega) (by omega) hm hg hh);have k1:(0:Int)<(kn:Int):=by omega
 have k2:0<kn:=hkn;clear hm;go_enter Tryz.func149,Tryz.ntmps149;go_wp2_with fail;obtain⟨w1,hw1⟩:=aj (w.alloc (.cells #[.int .i64 6,.slice lo ln lc,.slice (some ⟨b,o,none⟩) kn kc] 105));have hb1:sE w.heap.size w w1:=by rw[hw1];exact af
 have x2:w1.cell? ⟨w.heap.size,2,none⟩=some (.slice (some ⟨b,o,none⟩) kn kc):=by rw[hw1];simp[go_sem]
 have hs1:w.heap.size<w1.heap.size:=by rw[hw1];simp
 rw[<-hw1];clear hw1;have y0:w1.cell? ⟨b,o,none⟩=some u0:=(hb1.cell (p:=⟨b,o,none⟩) hb).trans q0;have y1:w1.cell? ⟨b,o+1,none⟩=some u1:=(hb1.cell (p:=⟨b,o+1,none⟩) hb).trans q1;have y2:w1.cell? ⟨b,o+2,none⟩=some u2:=(hb1.cell (p:=⟨b,o+2,none⟩) hb).trans q2;have HS:=aa (fun(W:sD)(h:sE w1.heap.size w1 W)=>show W.cell? ⟨w.heap.size,2,none⟩=some (.slice (some ⟨b,o,none⟩) kn kc)/\W.cell? ⟨b,o,none⟩=some u0/\W.cell? ⟨b,o+1,none⟩=some u1/\W.cell? ⟨b,o+2,none⟩=some u2 from
  ⟨(h.cell (p:=⟨w.heap.size,2,none⟩) hs1).trans x2,(h.cell (p:=⟨b,o,none⟩) (tV hb hs1)).trans y0,(h.cell (p:=⟨b,o+1,none⟩) (tV hb hs1)).trans y1,(h.cell (p:=⟨b,o+2,none⟩) (tV hb hs1)).trans y2⟩)
 have HB1:=aa hb1;clear x2 y0 y1 y2 hb1 q0 q1 q2;refine aw [(0,true),(2,true),(3,true),(4,true),(5,true),(6,true),(1,false),(7,false),(8,false),(9,false)] (fun W=>W.cell? ⟨w.heap.size,2,none⟩=some (.slice (some ⟨b,o,none⟩) kn kc)/\W.cell? ⟨b,o,none⟩=some u0/\W.cell? ⟨b,o+1,none⟩=some u1/\W.cell? ⟨b,o+2,none⟩=some u2) (fun _=>false) (by kernel_rfl) (by kernel_rfl) (fun j hj=>by cases hj) rfl (by kernel_rfl) (HS.o _ ⟨rfl,rfl,rfl,ti _,fun _ _=>rfl⟩) ?_
 iterate 6 (refine aF ?_ rfl (by kernel_rfl) (fun w' hS=>?_) ?_;(rotate_left;(obtain⟨s1,s2,s3,s4⟩:=hS;go_simp;with_reducible rfl);rotate_left))
 refine au rfl (by kernel_rfl) fun KK hKK=>?_;go_simp;refine(HOw.o w1.drew).mono ?_;rintro e w2 ⟨g,cap,bs,rfl,hM2,hB2⟩;have HM2:=aa hM2;have HB2:ae (sE w1.heap.size w1 w2):=aa ⟨hB2.os,hB2.tape,hB2.output,hB2.size,hB2.block⟩;clear hM2 hB2;refine hKK _ _ (fun _=>HS.o _ HB2.o) ?_;clear hKK;refine au rfl (by kernel_rfl) fun KK hKK=>?_;go_simp;refine(HL.o w2 (HB1.o.trans (HB2.o.mono HB1.o.size))).mono ?_;rintro e w3 ⟨W,⟨h,cap2,ds,rfl,hM3,hB3⟩,hR3⟩;have HM3:=aa hM3;have HB3:=aa hB3;have HR3:=aa hR3;clear hM3 hB3 hR3;refine hKK _ _ (fun _=>HS.o _ (HB2.o.trans (HB3.o.mono HB2.o.size))) ?_;clear hKK;refine au rfl (by kernel_rfl) fun KK hKK=>?_;go_simp;refine(HBo.o _ _ g cap h cap2 bs ds _ _ w3 (HM2.o.below HB3.o) HM3.o).mono ?_;rintro e w4 ⟨y,cap3,es,rfl,hM4,hB4⟩;have HB5:=aa (HB1.o.trans ((HB2.o.trans (HB3.o.mono HB2.o.size)).mono HB1.o.size));have HQ:ae (LdR (cn+1) m (fun i k=>i=k\/R i k) w (.returned (.slice (some ⟨y,0,none⟩) (cn+1) cap3)) w4):=aa ⟨_,⟨y,cap3,es,rfl,hM4.lower HB5.o.size,HB5.o.trans (hB4.mono HB5.o.size)⟩,pO (lk (cn+1)) HR3.o⟩;have HB4:=aa hB4;clear hM4 hB4;refine hKK _ _ (fun _=>HS.o _ ((HB2.o.trans (HB3.o.mono HB2.o.size)).trans (HB4.o.mono (sQ HB2.o.size HB3.o.size)))) ?_;clear hKK;refine au rfl (by kernel_rfl) fun KK hKK=>?_;go_simp;refine hKK _ _ (fun _=>HS.o _ ((HB2.o.trans (HB3.o.mono HB2.o.size)).trans (HB4.o.mono (sQ HB2.o.size HB3.o.size)))) ?_;refine ba (sN ?_);go_wp2;go_ret;exact HQ.o
theorem zwS(v1 v2:sM)(op:Int)(h1:op≠1)(h2:op≠2)(h3:op≠3)(h4:op≠4)(h5:op≠5)(h6:op≠6)(hc:cn<=90000)(hm:m=(cn+1) / 64):
  sJ Tryz.prog 149 #[.agg #[.int .i64 op,v1,v2],.slice co cn cc] w (LdR (cn+1) m (fun i k=>i=k) w):=by
 have HOw:=aa (fun(W:sD)=>show sJ Tryz.prog 174 #[.int .i64 ((cn:Int)+1)] W _ from oC (cn+1) m W (by omega) (by omega) hm);have e1:(op==1)=false:=by simpa using h1
 have e2:(op==2)=false:=by simpa using h2
 have e3:(op==3)=false:=by simpa using h3
 have e4:(op==4)=false:=by simpa using h4
 have e5:(op==5)=false:=by simpa using h5
 have e6:(op==6)=false:=by simpa using h6
 clear hm h1 h2 h3 h4 h5 h6;go_enter Tryz.func149,Tryz.ntmps149;go_wp2_with fail;refine(HOw.o _).mono ?_;rintro e w2 ⟨g,cap,bs,rfl,hM2,hB2⟩;have HQ:ae (LdR (cn+1) m (fun i k=>i=k) w (.returned (.slice (some ⟨g,0,none⟩) (cn+1) cap)) w2):=aa ⟨_,MtQ.low ⟨g,cap,bs,rfl,hM2,hB2⟩ af,lk (cn+1)⟩;clear hM2 hB2;go_wp2;go_ret;exact HQ.o
end
end Pt
end
section
open Go.RowKit
namespace Pt
section
variable (lo co:Option Addr) (ln lc b o kn kc cn cc m:Nat) (w:sD)
def KdA(w:sD)(ko:Option Addr)(kn:Nat)(co:Option Addr)(cn cc m:Nat)(R:Nat->Nat->Nat->Prop):Prop:=∀j,j<kn->∃b o u0 u1 u2,ko=some ⟨b,o,none⟩/\b<w.heap.size/\w.cell? ⟨b,o+j*3,none⟩=some u0/\w.cell? ⟨b,o+j*3+1,none⟩=some u1/\w.cell? ⟨b,o+j*3+2,none⟩=some u2∧
 (∀W,sE w.heap.size w W->sJ Tryz.prog 149 #[.agg #[u0,u1,u2],.slice co cn cc] W (LdR (cn+1) m (R j) W))/\Kn (cn+1) (R j)
theorem zwQ(ko:Option Addr)(R:Nat->Nat->Nat->Prop)(T:Nat->Nat->Nat->Prop)(hc:cn<=90000)(hk:kn<=1000000)(hm:m=(cn+1) / 64)(HA:ae (KdA w ko kn co cn cc m R))(HT0:ae (T 0=fun i k=>i=k))(HT:ae (∀j,j<kn->T (j+1)=Cmp (T j) (R j))):
  sJ Tryz.prog 149 #[.agg #[.int .i64 2,.slice lo ln lc,.slice ko kn kc],.slice co cn cc] w (LdR (cn+1) m (T kn) w):=by
 have HOw:=aa (fun(W:sD)=>show sJ Tryz.prog 174 #[.int .i64 ((cn:Int)+1)] W _ from oC (cn+1) m W (by omega) (by omega) hm);have HBe:=aa (fun(C D g gc h hc:Nat)(bs ds:Nat->Nat)(U V:Nat->Nat->Nat)(W:sD)(hg:Mt C W g (cn+1) (m+1) bs U)(hh:Mt D W h (cn+1) (m+1) ds V)=>qN (cn+1) m C D g h gc hc bs ds U V W (by omega) (by omega) hm hg hh);clear hm;go_enter Tryz.func149,Tryz.ntmps149;go_wp2_with fail;obtain⟨w1,hw1⟩:=aj (w.alloc (.cells #[.int .i64 2,.slice lo ln lc,.slice ko kn kc] 105));have hb1:sE w.heap.size w w1:=by rw[hw1];exact af
 have x2:w1.cell? ⟨w.heap.size,2,none⟩=some (.slice ko kn kc):=by rw[hw1];simp[go_sem]
 have hs1:w.heap.size<w1.heap.size:=by rw[hw1];simp
 rw[<-hw1];have HB1:=aa hb1;have HX2:=aa x2;clear hw1 hb1 x2;refine(HOw.o w1).mono ?_;rintro e w2 ⟨g,cap,bs,rfl,hM2,hB2⟩;have HM2:=aa (hM2.lower (sU hs1));have HB2:=aa hB2;clear hM2 hB2;go_wp2;go_loopw [8,9] (fun x y wr=>∃(j g cap:Nat)(bs:Nat->Nat)(W:Nat->Nat->Nat),x=.slice (some ⟨g,0,none⟩) (cn+1) cap/\y=.int .i64 j/\j<=kn/\ae (Mt w.heap.size wr g (cn+1) (m+1) bs W)/\ae (qW (cn+1) W (T j))/\ae (Kn (cn+1) (T j))/\ae (sE w1.heap.size w1 wr)) (fun _ y _=>kn-(sL y).toNat)
 case atStart=>exact⟨0,g,cap,bs,_,rfl,rfl,sI _,HM2,aa (by rw[HT0.o];exact lk (cn+1)),aa (by rw[HT0.o];exact fun i j hi e=>e ▸ hi),HB2⟩
 case round=>
  clear HM2 HB2;obtain⟨j,g,cap,bs,W,rfl,rfl,hj,HM,HR,HK,HB⟩:=hrel;have x2:wr.cell? ⟨w.heap.size,2,none⟩=some (.slice ko kn kc):=(HB.o.cell (p:=⟨w.heap.size,2,none⟩) hs1).trans HX2.o;have HBw:=aa (HB1.o.trans (HB.o.mono HB1.o.size));by_cases hlt:j<kn
  ·have j0:(0:Int)<=(j:Int):=by omega
   have j1:(j:Int)<(kn:Int):=by omega
   obtain⟨b,o,u0,u1,u2,rfl,hb,q0,q1,q2,hL,hKn⟩:=HA.o j hlt;have y0:wr.cell? ⟨b,o+j*3,none⟩=some u0:=(HBw.o.cell (p:=⟨b,o+j*3,none⟩) hb).trans q0;have y1:wr.cell? ⟨b,o+j*3+1,none⟩=some u1:=(HBw.o.cell (p:=⟨b,o+j*3+1,none⟩) hb).trans q1;have y2:wr.cell? ⟨b,o+j*3+2,none⟩=some u2:=(HBw.o.cell (p:=⟨b,o+j*3+2,none⟩) hb).trans q2;have HL:=aa hL;have HKn:=aa hKn;clear q0 q1 q2 hL hKn;go_wp2_with fail;refine(HL.o wr HBw.o).mono ?_;rintro e w3 ⟨V,⟨h,cap2,ds,rfl,hM3,hB3⟩,hR3⟩;have HM3:=aa hM3;have HB3:=aa hB3;have HR3:=aa hR3;clear hM3 hB3 hR3 y0 y1 y2 x2;go_wp2_with fail;refine(HBe.o _ _ g cap h cap2 bs ds _ _ w3 (HM.o.below HB3.o) HM3.o).mono ?_;rintro e w4 ⟨y,cap3,es,rfl,hM4,hB4⟩;have HB5:ae (sE wr.heap.size wr w4):=aa (HB3.o.trans (hB4.mono HB3.o.size));have HM4:=aa (hM4.lower (sQ HBw.o.size HB3.o.size));have HR4:ae (qW (cn+1) _ (T (j+1))):=aa (by rw[HT.o j hlt];exact pP HR.o HR3.o HK.o);have HK4:ae (Kn (cn+1) (T (j+1))):=aa (by rw[HT.o j hlt];exact zhk HK.o HKn.o);clear hM4 hB4;go_wp2;go_roundw
   case rel=>exact⟨j+1,y,cap3,es,_,rfl,by go_num,by omega,HM4,HR4,HK4,aa (HB.o.trans (HB5.o.mono HB.o.size))⟩
   case measure=>simp[sL];omega
  ·have j1:¬(j:Int)<(kn:Int):=by omega
   have HQ:ae (LdR (cn+1) m (T kn) w (.returned (.slice (some ⟨g,0,none⟩) (cn+1) cap)) wr):=aa ⟨W,⟨g,cap,bs,rfl,HM.o,HBw.o⟩,(show j=kn by omega) ▸ HR.o⟩;go_wp2;go_ret;exact HQ.o
theorem zwP(ko:Option Addr)(R:Nat->Nat->Nat->Prop)(T:Nat->Nat->Nat->Prop)(hc:cn<=90000)(hk:kn<=1000000)(hm:m=(cn+1) / 64)(HA:ae (KdA w ko kn co cn cc m R))(HT0:ae (T 0=fun _ _=>False))(HT:ae (∀j,j<kn->T (j+1)=fun i k=>T j i k\/R j i k)):
  sJ Tryz.prog 149 #[.agg #[.int .i64 3,.slice lo ln lc,.slice ko kn kc],.slice co cn cc] w (LdR (cn+1) m (T kn) w):=by
 have HOw:=aa (fun(W:sD)=>show sJ Tryz.prog 172 #[.int .i64 ((cn:Int)+1)] W _ from iG (cn+1) m W (by omega) (by omega) hm);have HBe:=aa (fun(C D g gc h hc:Nat)(bs ds:Nat->Nat)(U V:Nat->Nat->Nat)(W:sD)(hg:Mt C W g (cn+1) (m+1) bs U)(hh:Mt D W h (cn+1) (m+1) ds V)=>qL (cn+1) m C D g h gc hc bs ds U V W (by omega) (by omega) hm hg hh);clear hm;go_enter Tryz.func149,Tryz.ntmps149;go_wp2_with fail;obtain⟨w1,hw1⟩:=aj (w.alloc (.cells #[.int .i64 3,.slice lo ln lc,.slice ko kn kc] 105));have hb1:sE w.heap.size w w1:=by rw[hw1];exact af
 have x2:w1.cell? ⟨w.heap.size,2,none⟩=some (.slice ko kn kc):=by rw[hw1];simp[go_sem]
 have hs1:w.heap.size<w1.heap.size:=by rw[hw1];simp
 rw[<-hw1];have HB1:=aa hb1;have HX2:=aa x2;clear hw1 hb1 x2;refine(HOw.o w1).mono ?_;rintro e w2 ⟨g,cap,bs,rfl,hM2,hB2⟩;have HM2:=aa (hM2.lower (sU hs1));have HB2:=aa hB2;clear hM2 hB2;go_wp2;go_loopw [10,11] (fun x y wr=>∃(j g cap:Nat)(bs:Nat->Nat)(W:Nat->Nat->Nat),x=.slice (some ⟨g,0,none⟩) (cn+1) cap/\y=.int .i64 j/\j<=kn/\ae (Mt w.heap.size wr g (cn+1) (m+1) bs W)/\ae (qW (cn+1) W (T j))/\ae (sE w1.heap.size w1 wr)) (fun _ y _=>kn-(sL y).toNat)
 case atStart=>exact⟨0,g,cap,bs,_,rfl,rfl,sI _,HM2,aa (by rw[HT0.o];exact znm (cn+1)),HB2⟩
 case round=>
  clear HM2 HB2;obtain⟨j,g,cap,bs,W,rfl,rfl,hj,HM,HR,HB⟩:=hrel;have x2:wr.cell? ⟨w.heap.size,2,none⟩=some (.slice ko kn kc):=(HB.o.cell (p:=⟨w.heap.size,2,none⟩) hs1).trans HX2.o;have HBw:=aa (HB1.o.trans (HB.o.mono HB1.o.size));by_cases hlt:j<kn
  ·have j0:(0:Int)<=(j:Int):=by omega
   have j1:(j:Int)<(kn:Int):=by omega
   obtain⟨b,o,u0,u1,u2,rfl,hb,q0,q1,q2,hL,hKn⟩:=HA.o j hlt;have y0:wr.cell? ⟨b,o+j*3,none⟩=some u0:=(HBw.o.cell (p:=⟨b,o+j*3,none⟩) hb).trans q0;have y1:wr.cell? ⟨b,o+j*3+1,none⟩=some u1:=(HBw.o.cell (p:=⟨b,o+j*3+1,none⟩) hb).trans q1;have y2:wr.cell? ⟨b,o+j*3+2,none⟩=some u2:=(HBw.o.cell (p:=⟨b,o+j*3+2,none⟩) hb).trans q2;have HL:=aa hL;clear q0 q1 q2 hL hKn;go_wp2_with fail;refine(HL.o wr HBw.o).mono ?_;rintro e w3 ⟨V,⟨h,cap2,ds,rfl,hM3,hB3⟩,hR3⟩;have HM3:=aa hM3;have HB3:=aa hB3;have HR3:=aa hR3;clear hM3 hB3 hR3 y0 y1 y2 x2;go_wp2_with fail;refine(HBe.o _ _ g cap h cap2 bs ds _ _ w3 (HM.o.below HB3.o) HM3.o).mono ?_;rintro e w4 ⟨y,cap3,es,rfl,hM4,hB4⟩;have HB5:ae (sE wr.heap.size wr w4):=aa (HB3.o.trans (hB4.mono HB3.o.size));have HM4:=aa (hM4.lower (sQ HBw.o.size HB3.o.size));have HR4:ae (qW (cn+1) _ (T (j+1))):=aa (by rw[HT.o j hlt];exact pO HR.o HR3.o);clear hM4 hB4;go_wp2;go_roundw
   case rel=>exact⟨j+1,y,cap3,es,_,rfl,by go_num,by omega,HM4,HR4,aa (HB.o.trans (HB5.o.mono HB.o.size))⟩
   case measure=>simp[sL];omega
  ·have j1:¬(j:Int)<(kn:Int):=by omega
   have HQ:ae (LdR (cn+1) m (T kn) w (.returned (.slice (some ⟨g,0,none⟩) (cn+1) cap)) wr):=aa ⟨W,⟨g,cap,bs,rfl,HM.o,HBw.o⟩,(show j=kn by omega) ▸ HR.o⟩;go_wp2;go_ret;exact HQ.o
def stW(c cls:List Int)(i:Nat):Nat->Nat->Nat:=fun x=>if x<i/\kD cls (c.getD x 0)=true then stR (fun _=>0) (x+1)else fun _=>0
theorem zqI(c cls:List Int)(kids:List aA):qW (c.length+1) (stW c cls c.length) (aX c (.mk 1 cls kids)):=fun i k hi hk=>by
 unfold aX stW;rw[if_pos rfl];by_cases h:i<c.length
 ·have hg:c.getD i 0=c[i]:=by simp[tw,h]
  rw[hg];by_cases hb:kD cls c[i]=true
  ·rw[if_pos ⟨h,hb⟩,zsP];simp only[bt,tH,Bool.false_or,decide_eq_true_eq];exact⟨fun e=>⟨e,c[i],sH h,(cG _ _).1 hb⟩,fun e=>e.1⟩
  ·rw[if_neg (fun e=>hb e.2)];simp only[bt,tH,tB,false_iff];rintro ⟨_,z,hz,hm⟩;rw[sH h]at hz;cases hz;exact hb ((cG _ _).2 hm)
 ·rw[if_neg (fun e=>h e.1)];simp only[bt,tH,tB,false_iff];rintro ⟨_,z,hz,_⟩;exact h (sG.1 hz).1
theorem zdK(c cls:List Int)(i x:Nat):stW c cls (i+1) x=if x=i then (if kD cls (c.getD i 0)=true then stR (fun _=>0) (i+1)else fun _=>0)else stW c cls i x:=by
 unfold stW;by_cases e:x=i
 ·subst e;simp
 ·rw[if_neg e];by_cases h:x<i
  ·simp only[h,tn h,true_and]
  ·have h2:¬x<i+1:=by omega
   simp only[h,h2,false_and]
theorem zdL(c cls:List Int)(i:Nat):stW c cls i i=fun _=>0:=by unfold stW;simp
theorem zwR(v2:sM)(c cls:List Int)(hc:cn<=90000)(hcn:cn=c.length)(hln:ln=cls.length)(hl9:ln<=1000000)(hm:m=(cn+1) / 64)(hI:eS w co c)(hC:eS w lo cls):
  sJ Tryz.prog 149 #[.agg #[.int .i64 1,.slice lo ln lc,v2],.slice co cn cc] w (LdR (cn+1) m (aX c (.mk 1 cls [])) w):=by
 have HOw:=aa (fun(W:sD)=>show sJ Tryz.prog 172 #[.int .i64 ((cn:Int)+1)] W _ from iG (cn+1) m W (by omega) (by omega) hm);have HIn:=aa (fun(W:sD)(z:Int)(h:sE w.heap.size w W)=>zoc lo ln lc cls z W (hC.below h) hln hl9);have HI:=aa hI;have HCN:=aa hcn;have HMm:=aa hm;clear hm hI hC hcn hln;go_enter Tryz.func149,Tryz.ntmps149;go_wp2_with fail;obtain⟨w1,hw1⟩:=aj (w.alloc (.cells #[.int .i64 1,.slice lo ln lc,v2] 105));have hb1:sE w.heap.size w w1:=by rw[hw1];exact af
 have x2:w1.cell? ⟨w.heap.size,1,none⟩=some (.slice lo ln lc):=by rw[hw1];simp[go_sem]
 have hs1:w.heap.size<w1.heap.size:=by rw[hw1];simp
 rw[<-hw1];have HB1:=aa hb1;have HX2:=aa x2;clear hw1 hb1 x2;refine(HOw.o w1).mono ?_;rintro e w2 ⟨g,cap,bs,rfl,hM2,hB2⟩;have HM2:=aa (hM2.congr (V:=stW c cls 0) fun x j _ _=>by unfold stW;simp);have HB2:=aa hB2;clear hM2 hB2;go_wp2;go_loopw [7] (fun y wr=>∃(i:Nat),y=.int .i64 i/\i<=cn/\ae (Mt w1.heap.size wr g (cn+1) (m+1) bs (stW c cls i))/\ae (sE w1.heap.size w1 wr)) (fun y _=>cn-(sL y).toNat)
 case atStart=>exact⟨0,rfl,sI _,HM2,HB2⟩
 case round=>
  clear HM2 HB2;obtain⟨i,rfl,hi,HM,HB⟩:=hrel;have x2:wr.cell? ⟨w.heap.size,1,none⟩=some (.slice lo ln lc):=(HB.o.cell (p:=⟨w.heap.size,1,none⟩) hs1).trans HX2.o;have HBw:=aa (HB1.o.trans (HB.o.mono HB1.o.size));by_cases hlt:i<cn
  ·have i0:(0:Int)<=(i:Int):=by omega
   have i1:(i:Int)<(cn:Int):=by omega
   have hil:i<c.length:=by have:=HCN.o;omega
   obtain⟨a,rfl,ha,c1⟩:=HI.o.at hil;have c2:wr.cell? (a.add i)=some (.int .i64 c[i]):=(HBw.o.cell (p:=a.add i) (by rw[add_blk];exact ha)).trans c1;have HG:ae (c.getD i 0=c[i]):=aa (by simp[tw,hil]);obtain⟨z,hz⟩:=aj (c[i]);rw[<-hz]at c2 HG;clear c1 hz;go_wp2_with fail;refine aw [(0,true),(1,true),(2,true),(3,true),(4,true),(5,true),(6,false)] (fun W=>W.cell? ⟨w.heap.size,1,none⟩=some (.slice lo ln lc)/\W.cell? (a.add i)=some (.int .i64 z)) (fun _=>false) (by kernel_rfl) (by kernel_rfl) (fun j hj=>by cases hj) rfl (by kernel_rfl) ⟨x2,c2⟩ ?_
   iterate 6 (refine aF ?_ rfl (by kernel_rfl) (fun w' hS=>?_) ?_;(rotate_left;(obtain⟨s1,s2⟩:=hS;go_simp;with_reducible rfl);rotate_left))
   refine au rfl (by kernel_rfl) fun KK hKK=>?_;go_simp;refine(HIn.o wr.drew z ⟨HBw.o.os,HBw.o.tape,HBw.o.output,HBw.o.size,HBw.o.block⟩).mono ?_;rintro e w3 ⟨rfl,e3⟩;obtain rfl:=e3.symm;refine hKK _ _ (fun _=>⟨x2,c2⟩) ?_;refine ba (sN ?_);clear hKK x2 c2;have HMd:ae (Mt w1.heap.size wr.drew g (cn+1) (m+1) bs (stW c cls i)):=aa (HM.o.keep fun _ _=>rfl);have HBd:ae (sE w1.heap.size w1 wr.drew):=aa ⟨HB.o.os,HB.o.tape,HB.o.output,HB.o.size,HB.o.block⟩;by_cases hb:kD cls z=true
   ·rw[hb];have HBT:=aa hb;clear hb;have c3:=HMd.o.cell i (by omega);have hr:=HMd.o.row i (by omega);rw[zdL]at hr;have HSt:ae (sJ Tryz.prog 173 #[.slice (some ⟨bs i,0,none⟩) (m+1) (m+1),.int .i64 ((i:Int)+1)] wr.drew _):=aa (zig (bs i) (m+1) (i+1) _ wr.drew hr (by have:=HMm.o;have:=sK (c:=64) (show i+1<=cn+1 by omega);omega) (by decide) (by omega));clear hr;have i2:(i:Int)<(cn:Int)+1:=by omega
    have i3:i<cn+1:=by omega
    go_wp2_with fail;refine HSt.o.mono ?_;rintro e w4 ⟨rfl,hr4,ho4⟩;have HM4:=aa ((HMd.o.set i (by omega) hr4 ho4 (fun j hj=>by unfold stR;split;rw[Nat.zero_or];exact tq (by decide) (t8 _ (by decide));exact(by decide:(0:Nat)<18446744073709551616))).congr (V:=stW c cls (i+1)) fun x j _ _=>by rw[zdK,HG.o,if_pos HBT.o]);have HB4:=aa (HBd.o.trans (ho4.below (HM.o.low i (by omega))));clear hr4 ho4 c3;go_wp2;go_roundw
    case rel=>exact⟨i+1,by go_num,by omega,HM4,HB4⟩
    case measure=>simp[sL];omega
   ·have hb':kD cls z=false:=by simpa using hb
    rw[hb'];have HBT:=aa hb;clear hb hb';have HM4:=aa (HMd.o.congr (V:=stW c cls (i+1)) fun x j _ _=>by
     rw[zdK,HG.o,if_neg HBT.o];by_cases e:x=i
     ·subst e;rw[if_pos rfl,zdL]
     ·rw[if_neg e])
    go_wp2;go_roundw
    case rel=>exact⟨i+1,by go_num,by omega,HM4,HBd⟩
    case measure=>simp[sL];omega
  ·have i1:¬(i:Int)<(cn:Int):=by omega
   have HQ:ae (LdR (cn+1) m (aX c (.mk 1 cls [])) w (.returned (.slice (some ⟨g,0,none⟩) (cn+1) cap)) wr):=aa ⟨stW c cls i,⟨g,cap,bs,rfl,HM.o.lower (sU hs1),HBw.o⟩,by
    have e:i=c.length:=by have:=HCN.o;omega
    have h:=zqI c cls [];rw[e,HCN.o];exact h⟩
   go_wp2;go_ret;exact HQ.o
end
theorem zwK(c cls:List Int)(kids:List aA):aX c (.mk 1 cls kids)=aX c (.mk 1 cls []):=by funext i k;unfold aX;rw[if_pos rfl,if_pos rfl]
theorem zbU(c:List Int)(p0:aA)(ps:List aA):cP c (p0::ps)=aX c p0:=by rw[cP]
theorem zwJ(c cls:List Int)(p0:aA)(ps:List aA):aX c (.mk 4 cls (p0::ps))=cj (aX c p0):=by rw[aX];simp[zbU]
theorem zsB(c cls:List Int)(p0:aA)(ps:List aA):aX c (.mk 5 cls (p0::ps))=Cmp (aX c p0) (cj (aX c p0)):=by rw[aX];simp[zbU]
theorem zwI(c cls:List Int)(p0:aA)(ps:List aA):aX c (.mk 6 cls (p0::ps))=fun i k=>i=k\/aX c p0 i k:=by rw[aX];simp[zbU]
theorem ziL(c cls:List Int)(ks:List aA):aX c (.mk 2 cls ks)=cC c ks:=by rw[aX];simp
theorem zsC(c cls:List Int)(ks:List aA):aX c (.mk 3 cls ks)=cr c ks:=by rw[aX];simp
theorem zsA(c cls:List Int)(ks:List aA)(op:Int)(h1:op≠1)(h2:op≠2)(h3:op≠3)(h4:op≠4)(h5:op≠5)(h6:op≠6):aX c (.mk op cls ks)=fun i k=>i=k:=by rw[aX];simp[h1,h2,h3,h4,h5,h6]
theorem zas(c:List Int)(cn m:Nat)(hcn:cn=c.length)(hc:cn<=90000)(hm:m=(cn+1) / 64)(co:Option Addr)(cc:Nat):∀p:aA,Wf p->∀(v0 v1 v2:sM)(w:sD),cv w p v0 v1 v2->eS w co c->sJ Tryz.prog 149 #[.agg #[v0,v1,v2],.slice co cn cc] w (LdR (cn+1) m (aX c p) w):=by
 refine aA.ind fun op cls kids ih hW v0 v1 v2 w hP hI=>?_;unfold cv at hP;unfold Wf at hW;obtain⟨rfl,⟨lo,lc,rfl,hl1,hl2⟩,ko,kc,rfl,hk1,hk2,_⟩:=hP;have HA:KdA w ko kids.length co cn cc m (fun j=>aX c (kids.getD j (.mk 0 [] []))):=fun j hj=>by
  have hg:kids[j]?=some kids[j]:=sH hj;have hd:kids.getD j (.mk 0 [] [])=kids[j]:=by simp[tw,hj]
  obtain⟨b,o,h1,h2,u0,u1,u2,q0,q1,q2,hq⟩:=gA.at kids ko 0 j _ hk1 hg;rw[tL]at q0 q1 q2;refine⟨b,o,u0,u1,u2,h1,h2,q0,q1,q2,fun W hW2=>?_,?_⟩
  ·simp only[hd];exact ih _ (sO hj) (hW.2.mem (sO hj)) u0 u1 u2 W (cv.below hW2 _ _ _ _ hq) (hI.below hW2)
  ·simp only[hd,hcn];exact zbT c _
 by_cases h1:op=1
 ·subst h1;rw[zwK];exact zwR lo co cls.length lc cn cc m w _ c cls hc hcn rfl hl2 hm hI hl1
 by_cases h2:op=2
 ·subst h2;have:=zwQ lo co cls.length lc kids.length kc cn cc m w ko _ (fun j=>cC c (kids.take j)) hc hk2 hm (aa HA) (aa (by simp only[List.take_zero];exact cd c)) (aa fun j hj=>by
   have hd:kids.getD j (.mk 0 [] [])=kids[j]:=by simp[tw,hj]
   simp only[hd];exact zkN c kids j hj)
  simp only[tI]at this;rw[ziL];exact this
 by_cases h3:op=3
 ·subst h3;have:=zwP lo co cls.length lc kids.length kc cn cc m w ko _ (fun j=>cr c (kids.take j)) hc hk2 hm (aa HA) (aa (by funext i k;simp[cr])) (aa fun j hj=>by
   have hd:kids.getD j (.mk 0 [] [])=kids[j]:=by simp[tw,hj]
   simp only[hd];funext i k;exact propext (zkO c kids j hj i k))
  simp only[tI]at this;rw[zsC];exact this
 by_cases h456:op=4\/op=5\/op=6
 ·obtain⟨p0,ps,rfl⟩:∃p0 ps,kids=p0::ps:=by
   cases kids with
   |nil=>exact absurd rfl (hW.1 h456)
   |cons a b=>exact⟨a,b,rfl⟩
  obtain⟨b,o,u0,u1,u2,rfl,hb,q0,q1,q2,hL,hKn⟩:=HA 0 (by simp);simp only[uf,ug,List.getD_cons_zero]at q0 q1 q2 hL hKn;rcases h456 with rfl|rfl|rfl
  ·rw[zwJ];exact zwO lo co cls.length lc b o _ kc cn cc m u0 u1 u2 _ w hb (by simp) hc hm q0 q1 q2 (aa hL) (aa hKn)
  ·rw[zsB];exact zwN lo co cls.length lc b o _ kc cn cc m u0 u1 u2 _ w hb (by simp) hc hm q0 q1 q2 (aa hL) (aa hKn)
  ·rw[zwI];exact zwM lo co cls.length lc b o _ kc cn cc m u0 u1 u2 _ w hb (by simp) hc hm q0 q1 q2 (aa hL)
 ·have h4:op≠4:=fun e=>h456 (.inl e);have h5:op≠5:=fun e=>h456 (.inr (.inl e));have h6:op≠6:=fun e=>h456 (.inr (.inr e));rw[zsA c cls kids op h1 h2 h3 h4 h5 h6];exact zwS co cn cc m w _ _ op h1 h2 h3 h4 h5 h6 hc hm
end Pt
end
section
open Go.RowKit
namespace Pt
def Rs(cls:List Int):Prop:=∀(i:Nat)(z:Int),cls[i]?=some z->0<=z/\z<2147483647/\∀(y:Int),0<i->cls[i-1]?=some y->y<z
def OkN(op:Int)(cls:List Int)(kn:Nat):Prop:=(op=1/\kn=0/\Rs cls)\/cls=[]/\((op=0/\kn=0)\/(op=2/\2<=kn)\/(op=3/\2<=kn)\/(op=4/\kn=1)\/(op=5/\kn=1)\/(op=6/\kn=1))
section
variable (lo:Option Addr) (ln lc kn kc:Nat) (ko:Option Addr) (w:sD)
theorem zuJ(op:Int)(hk9:kn<=1000000)(h:(op=0/\kn=0)\/(op=2/\2<=kn)\/(op=3/\2<=kn)\/(op=4/\kn=1)\/(op=5/\kn=1)\/(op=6/\kn=1)):
  sJ Tryz.prog 186 #[.agg #[.int .i64 op,.slice lo 0 lc,.slice ko kn kc],.int .i64 2147483647] w fun e w'=>e=.returned (.int .i64 0)/\sE w.heap.size w w':=by
 have HB:=aa (fun(o:Obj)=>af (w:=w) (o:=o));rcases h with ⟨rfl,rfl⟩|⟨rfl,h2⟩|⟨rfl,h2⟩|⟨rfl,rfl⟩|⟨rfl,rfl⟩|⟨rfl,rfl⟩
 ·go_enter Tryz.func186,Tryz.ntmps186;go_wp2;go_loopw [7] (fun y wr=>y=.int .i64 0/\wr=w.alloc (.cells #[.int .i64 0,.slice lo 0 lc,.slice ko 0 kc] 105)) (fun y _=>0)
  case atStart=>exact⟨rfl,rfl⟩
  case round=>obtain⟨rfl,rfl⟩:=hrel;go_wp2;go_ret;exact⟨rfl,HB.o _⟩
 ·have k1:(2:Int)<=(kn:Int):=by omega
  have k3:((kn:Int)==1)=false:=by simp;omega
  go_enter Tryz.func186,Tryz.ntmps186;go_wp2;go_loopw [7] (fun y wr=>y=.int .i64 0/\wr=w.alloc (.cells #[.int .i64 2,.slice lo 0 lc,.slice ko kn kc] 105)) (fun y _=>0)
  case atStart=>exact⟨rfl,rfl⟩
  case round=>obtain⟨rfl,rfl⟩:=hrel;go_wp2;go_ret;exact⟨rfl,HB.o _⟩
 ·have k1:(2:Int)<=(kn:Int):=by omega
  have k3:((kn:Int)==1)=false:=by simp;omega
  go_enter Tryz.func186,Tryz.ntmps186;go_wp2;go_loopw [7] (fun y wr=>y=.int .i64 0/\wr=w.alloc (.cells #[.int .i64 3,.slice lo 0 lc,.slice ko kn kc] 105)) (fun y _=>0)
  case atStart=>exact⟨rfl,rfl⟩
  case round=>obtain⟨rfl,rfl⟩:=hrel;go_wp2;go_ret;exact⟨rfl,HB.o _⟩
 ·go_enter Tryz.func186,Tryz.ntmps186;go_wp2;go_loopw [7] (fun y wr=>y=.int .i64 0/\wr=w.alloc (.cells #[.int .i64 4,.slice lo 0 lc,.slice ko 1 kc] 105)) (fun y _=>0)
  case atStart=>exact⟨rfl,rfl⟩
  case round=>obtain⟨rfl,rfl⟩:=hrel;go_wp2;go_ret;exact⟨rfl,HB.o _⟩
 ·go_enter Tryz.func186,Tryz.ntmps186;go_wp2;go_loopw [7] (fun y wr=>y=.int .i64 0/\wr=w.alloc (.cells #[.int .i64 5,.slice lo 0 lc,.slice ko 1 kc] 105)) (fun y _=>0)
  case atStart=>exact⟨rfl,rfl⟩
  case round=>obtain⟨rfl,rfl⟩:=hrel;go_wp2;go_ret;exact⟨rfl,HB.o _⟩
 ·go_enter Tryz.func186,Tryz.ntmps186;go_wp2;go_loopw [7] (fun y wr=>y=.int .i64 0/\wr=w.alloc (.cells #[.int .i64 6,.slice lo 0 lc,.slice ko 1 kc] 105)) (fun y _=>0)
  case atStart=>exact⟨rfl,rfl⟩
  case round=>obtain⟨rfl,rfl⟩:=hrel;go_wp2;go_ret;exact⟨rfl,HB.o _⟩
theorem zuI(cls:List Int)(hln:ln=cls.length)(hl9:ln<=1000000)(hR:Rs cls)(hC:eS w lo cls):
  sJ Tryz.prog 186 #[.agg #[.int .i64 1,.slice lo ln lc,.slice ko 0 kc],.int .i64 2147483647] w fun e w'=>e=.returned (.int .i64 0)/\sE w.heap.size w w':=by
 have HR:=aa hR;have HC:=aa hC;have HLN:=aa hln;clear hR hC hln;go_enter Tryz.func186,Tryz.ntmps186;go_wp2;obtain⟨w1,hw1⟩:=aj (w.alloc (.cells #[.int .i64 1,.slice lo ln lc,.slice ko 0 kc] 105));have hb1:sE w.heap.size w w1:=by rw[hw1];exact af
 have x2:w1.cell? ⟨w.heap.size,1,none⟩=some (.slice lo ln lc):=by rw[hw1];simp[go_sem]
 have hs1:w.heap.size<w1.heap.size:=by rw[hw1];simp
 rw[<-hw1];have HB1:=aa hb1;have HX2:=aa x2;clear hw1 hb1 x2;go_loopw [7] (fun y wr=>∃i:Nat,y=.int .i64 i/\i<=ln/\ae (sE w1.heap.size w1 wr)) (fun y _=>ln-(sL y).toNat)
 case atStart=>exact⟨0,rfl,sI _,aa (sT _ _)⟩
 case round=>
  obtain⟨i,rfl,hi,HB⟩:=hrel;have x2:wr.cell? ⟨w.heap.size,1,none⟩=some (.slice lo ln lc):=(HB.o.cell (p:=⟨w.heap.size,1,none⟩) hs1).trans HX2.o;have HBw:=aa (HB1.o.trans (HB.o.mono HB1.o.size));by_cases hlt:i<ln
  ·have i0:(0:Int)<=(i:Int):=by omega
   have i1:(i:Int)<(ln:Int):=by omega
   have hil:i<cls.length:=by have:=HLN.o;omega
   obtain⟨a,ha1,ha,c1⟩:=HC.o.at hil;have c2:wr.cell? (a.add i)=some (.int .i64 cls[i]):=(HBw.o.cell (p:=a.add i) (by rw[add_blk];exact ha)).trans c1;obtain⟨z,hz⟩:=aj (cls[i]);have hgz:cls[i]?=some z:=by rw[hz];exact sH hil
   rw[<-hz]at c2;obtain⟨r1,r2,r3⟩:=HR.o i z hgz;clear c1 hz;have d1:decide (z<0)=false:=decide_eq_false (by omega);have d2:decide ((2147483647:Int)<=z)=false:=decide_eq_false (by omega);have n1:¬z<0:=by omega
   have n2:¬(2147483647:Int)<=z:=by omega
   by_cases hi0:i=0
   ·subst hi0;subst ha1;have c5:wr.cell? a=some (.int .i64 z):=by
     have e:a.add 0=a:=by unfold Addr.add;split<;>simp_all
     rw[e]at c2;exact c2
    have i5:(0:Int)<(ln:Int):=by omega
    clear hgz r3 c2 i1 i0;go_wp2_with fail;go_quiet (fail);have HBd:ae (sE w1.heap.size w1 (wr.drewN nq)):=aa ⟨HB.o.os,HB.o.tape,HB.o.output,HB.o.size,HB.o.block⟩;go_wp2;go_roundw
    case rel=>exact⟨1,by go_num,by omega,HBd⟩
    case measure=>simp[sL];omega
   ·have hj:i-1<cls.length:=by omega
    obtain⟨a2,ha2,hb2,c3⟩:=HC.o.at hj;rw[ha1]at ha2;cases ha2;have c4:wr.cell? (a.add (i-1))=some (.int .i64 cls[i-1]):=(HBw.o.cell (p:=a.add (i-1)) (by rw[add_blk];exact ha)).trans c3;obtain⟨y,hy⟩:=aj (cls[i-1]);have hgy:cls[i-1]?=some y:=by rw[hy];exact sH hj
    rw[<-hy]at c4;have r4:=r3 y (by omega) hgy;subst ha1;clear c3 hy hgz hgy r3;have d3:decide ((0:Int)<(i:Int))=true:=decide_eq_true (by omega);have n3:(0:Int)<(i:Int):=by omega
    have n3':0<i:=by omega
    have d4:decide (z<=y)=false:=decide_eq_false (by omega);have n4:¬z<=y:=by omega
    have e1:((i:Int)-1).toNat=i-1:=by omega
    have e2:(0:Int)<=(i:Int)-1:=by omega
    have e3:(i:Int)-1<(ln:Int):=by omega
    have e4:tg.wrap ((i:Int)-1)=(i:Int)-1:=by unfold sY sZ sR;simp;omega
    clear hi0;go_wp2_with fail;go_quiet (fail);have HBd:ae (sE w1.heap.size w1 (wr.drewN nq)):=aa ⟨HB.o.os,HB.o.tape,HB.o.output,HB.o.size,HB.o.block⟩;go_wp2;go_roundw
    case rel=>exact⟨i+1,by go_num,by omega,HBd⟩
    case measure=>simp[sL];omega
  ·have i1:¬(i:Int)<(ln:Int):=by omega
   go_wp2;go_ret;exact⟨rfl,HBw.o⟩
end
end Pt
end
section
open Go.RowKit
namespace Pt
mutual
def gw:aA->Nat
 |.mk _ _ kids=>kW kids+1
def kW:List aA->Nat
 |[]=>0
 |p::ps=>gw p+kW ps
end
mutual
def kg:aA->Prop
 |.mk op cls kids=>OkN op cls kids.length/\nS kids
def nS:List aA->Prop
 |[]=>True
 |p::ps=>kg p/\nS ps
end
theorem nS.mem:∀{ps:List aA} {p:aA},nS ps->p∈ps->kg p
 |[],p,_,hp=>by cases hp
 |q::ps,p,h,hp=>by
  unfold nS at h;cases hp with
  |head=>exact h.1
  |tail _ hp=>exact nS.mem h.2 hp
mutual
theorem kg.wf:∀{p:aA},kg p->Wf p
 |.mk op cls kids,h=>by unfold kg at h;unfold Wf;refine⟨fun h456 e=>?_,nS.wf h.2⟩;obtain⟨h1,_⟩:=h;subst e;unfold OkN at h1;simp only[List.length_nil]at h1;rcases h1 with ⟨h1,_⟩|⟨_,h1⟩<;>omega
theorem nS.wf:∀{ps:List aA},nS ps->WfL ps
 |[],_=>by unfold WfL;trivial
 |q::ps,h=>by unfold nS at h;unfold WfL;exact⟨kg.wf h.1,nS.wf h.2⟩
end
theorem eG:∀(ps:List aA)(j:Nat)(p:aA),ps[j]?=some p->kW (ps.take (j+1))=kW (ps.take j)+gw p
 |[],j,p,h=>by simp at h
 |q::ps,0,p,h=>by simp at h;subst h;simp[kW]
 |q::ps,j+1,p,h=>by have:=eG ps j p (by simpa using h);simp only[tQ,kW,this];omega
theorem fF:∀(ps:List aA)(j:Nat),kW (ps.take j)<=kW ps
 |[],j=>by simp[kW]
 |q::ps,0=>by simp[kW]
 |q::ps,j+1=>by have:=fF ps j;simp only[tQ,kW];omega
def CkQ(w:sD)(n:Nat)(e:tJ)(w':sD):Prop:=e=.returned (.tuple #[.int .i64 0,.int .i64 (n:Int)])/\sE w.heap.size w w'
set_option maxRecDepth 100000 in
theorem check_in(lo ko:Option Addr)(ln lc kn kc:Nat)(op:Int)(w:sD)(ahead:Nat)(S:Nat->Nat)(hk9:kn<=1000000)(h1:ahead<2048)(hS:∀j,j<=kn->S j<=3000)(HS0:ae (S 0=ahead+1))
  (HN:ae (∀W,sE w.heap.size w W->sJ Tryz.prog 186 #[.agg #[.int .i64 op,.slice lo ln lc,.slice ko kn kc],.int .i64 2147483647] W fun e w'=>e=.returned (.int .i64 0)/\sE W.heap.size W w'))
  (HK:ae (∀j,j<kn->∃b o u0 u1 u2,ko=some ⟨b,o,none⟩/\b<w.heap.size/\w.cell? ⟨b,o+j*3,none⟩=some u0/\w.cell? ⟨b,o+j*3+1,none⟩=some u1/\w.cell? ⟨b,o+j*3+2,none⟩=some u2/\∀W,sE w.heap.size w W->sJ Tryz.prog 171 #[.agg #[u0,u1,u2],.int .i64 2147483647,.int .i64 (S j)] W (CkQ W (S (j+1))))):
  sJ Tryz.prog 171 #[.agg #[.int .i64 op,.slice lo ln lc,.slice ko kn kc],.int .i64 2147483647,.int .i64 ahead] w (CkQ w (S kn)):=by
 have a1:(ahead:Int)<2048:=by omega
 have HS:=aa hS;clear hS;go_enter Tryz.func171,Tryz.ntmps171;go_wp2_with fail;obtain⟨w1,hw1⟩:=aj (w.alloc (.cells #[.int .i64 op,.slice lo ln lc,.slice ko kn kc] 105));have hb1:sE w.heap.size w w1:=by rw[hw1];exact af
 have x2:w1.cell? ⟨w.heap.size,2,none⟩=some (.slice ko kn kc):=by rw[hw1];simp[go_sem]
 have hs1:w.heap.size<w1.heap.size:=by rw[hw1];simp
 rw[<-hw1];have HB1:=aa hb1;have HX2:=aa x2;clear hw1 hb1 x2;refine(HN.o w1 HB1.o).mono ?_;rintro e w2 ⟨rfl,hB2⟩;have HB2:=aa hB2;clear hB2;go_wp2;go_loopw [8,9,10] (fun x y z wr=>∃(j s:Nat),x=.int .i64 0/\y=.int .i64 s/\z=.int .i64 j/\j<=kn/\s<=3000/\ae (s=S j)/\ae (sE w1.heap.size w1 wr)) (fun _ _ z _=>kn-(sL z).toNat)
 case atStart=>exact⟨0,ahead+1,rfl,by go_num,rfl,sI _,by omega,aa HS0.o.symm,HB2⟩
 case round=>
  clear HB2;obtain⟨j,s,rfl,rfl,rfl,hj,hs9,HSj,HB⟩:=hrel;have x2:wr.cell? ⟨w.heap.size,2,none⟩=some (.slice ko kn kc):=(HB.o.cell (p:=⟨w.heap.size,2,none⟩) hs1).trans HX2.o;have HBw:=aa (HB1.o.trans (HB.o.mono HB1.o.size));by_cases hlt:j<kn
  ·have j0:(0:Int)<=(j:Int):=by omega
   have j1:(j:Int)<(kn:Int):=by omega
   obtain⟨b,o,u0,u1,u2,rfl,hb,q0,q1,q2,hL⟩:=HK.o j hlt;have y0:wr.cell? ⟨b,o+j*3,none⟩=some u0:=(HBw.o.cell (p:=⟨b,o+j*3,none⟩) hb).trans q0;have y1:wr.cell? ⟨b,o+j*3+1,none⟩=some u1:=(HBw.o.cell (p:=⟨b,o+j*3+1,none⟩) hb).trans q1;have y2:wr.cell? ⟨b,o+j*3+2,none⟩=some u2:=(HBw.o.cell (p:=⟨b,o+j*3+2,none⟩) hb).trans q2;rw[<-HSj.o]at hL;have HL:=aa hL;clear q0 q1 q2 hL;go_wp2_with fail;refine(HL.o wr HBw.o).mono ?_;rintro e w3 ⟨rfl,hB3⟩;have HB3:=aa (HB.o.trans (hB3.mono HB.o.size));clear hB3 y0 y1 y2 x2;go_wp2;go_roundw
   case rel=>exact⟨j+1,S (j+1),rfl,rfl,by go_num,by omega,HS.o _ (by omega),aa rfl,HB3⟩
   case measure=>simp[sL];omega
  ·have j1:¬(j:Int)<(kn:Int):=by omega
   have HQ:ae (CkQ w (S kn) (.returned (.tuple #[.int .i64 0,.int .i64 s])) wr):=aa ⟨by rw[HSj.o,show j=kn by omega],HBw.o⟩;go_wp2;go_ret2;exact HQ.o
end Pt
end
section
open Go.RowKit
namespace Pt
theorem zli:∀p:aA,kg p->∀(v0 v1 v2:sM)(ahead:Nat)(w:sD),cv w p v0 v1 v2->ahead+gw p<=2048->sJ Tryz.prog 171 #[.agg #[v0,v1,v2],.int .i64 2147483647,.int .i64 ahead] w (CkQ w (ahead+gw p)):=by
 refine aA.ind fun op cls kids ih hO v0 v1 v2 ahead w hP hs=>?_;unfold cv at hP;unfold kg at hO;unfold gw at hs⊢;obtain⟨rfl,⟨lo,lc,rfl,hl1,hl2⟩,ko,kc,rfl,hk1,hk2,_⟩:=hP;have h:=check_in lo ko cls.length lc kids.length kc op w ahead (fun j=>ahead+1+kW (kids.take j)) hk2 (by omega) (fun j _=>by have:=fF kids j;omega) (aa (by simp[kW])) (aa fun W hW=>?_) (aa fun j hj=>?_)
 ·have e:ahead+1+kW (kids.take kids.length)=ahead+(kW kids+1):=by rw[tI];omega
  rw[e]at h;exact h
 ·obtain⟨h1,_⟩:=hO;rcases h1 with ⟨rfl,h2,h3⟩|⟨rfl,h2⟩
  ·rw[h2];exact zuI lo cls.length lc kc ko W cls rfl hl2 h3 (hl1.below hW)
  ·exact zuJ lo lc kids.length kc ko W op hk2 h2
 ·obtain⟨b,o,h1,h2,u0,u1,u2,q0,q1,q2,hq⟩:=gA.at kids ko 0 j _ hk1 (sH hj);rw[tL]at q0 q1 q2;refine⟨b,o,u0,u1,u2,h1,h2,q0,q1,q2,fun W hW=>?_⟩;have e:=eG kids j _ (sH hj);have e2:=fF kids (j+1);have:=ih _ (sO hj) (hO.2.mem (sO hj)) u0 u1 u2 (ahead+1+kW (kids.take j)) W (cv.below hW _ _ _ _ hq) (by omega);rw[show ahead+1+kW (kids.take j)+gw kids[j]=ahead+1+kW (kids.take (j+1)) by omega]at this;exact this
theorem zhm(p:aA)(hO:kg p)(hs:gw p<=2048)(v0 v1 v2:sM)(w:sD)(hP:cv w p v0 v1 v2):sJ Tryz.prog 148 #[.agg #[v0,v1,v2],.int .i64 2147483647] w fun e w'=>e=.returned (.int .i64 0)/\sE w.heap.size w w':=by have HC:=aa (fun(W:sD)(h:sE w.heap.size w W)=>zli p hO v0 v1 v2 0 W (cv.below h _ _ _ _ hP) (by omega));clear hP;go_enter Tryz.func148,Tryz.ntmps148;go_wp2_with fail;refine(HC.o _ af).mono ?_;rintro e w2 ⟨rfl,hB2⟩;have HB:=aa (af.trans (hB2.mono (by simp)));clear hB2;go_wp2;go_ret;exact⟨rfl,HB.o⟩
theorem f7(p:aA)(hO:kg p)(hs:gw p<=2048)(v0 v1 v2:sM)(w:sD)(hP:cv w p v0 v1 v2):sJ Tryz.prog 111 #[.agg #[v0,v1,v2]] w fun e w'=>e=.returned (.bool true)/\sE w.heap.size w w':=by have HC:=aa (fun(W:sD)(h:sE w.heap.size w W)=>zhm p hO hs v0 v1 v2 W (cv.below h _ _ _ _ hP));clear hP;go_enter Tryz.func111,Tryz.ntmps111;go_wp2_with fail;refine(HC.o _ af).mono ?_;rintro e w2 ⟨rfl,hB2⟩;have HB:=aa (af.trans (hB2.mono (by simp)));clear hB2;go_wp2;go_ret;exact⟨rfl,HB.o⟩
def kF(L:List Nat):List sM:=L.map fun(x:Nat)=>.int .i64 (x:Int)
open Classical in
noncomputable def ic(A:Nat->Prop)(n:Nat):List Nat:=(List.range n).filter fun i=>decide (A i)
theorem zsE(A:Nat->Prop):ic A 0=[]:=rfl
open Classical in
theorem lN(A:Nat->Prop)(n:Nat):ic A (n+1)=if A n then ic A n++[n]else ic A n:=by
 unfold ic;rw[List.range_succ,List.filter_append];by_cases h:A n
 ·simp[h]
 ·simp[h]
theorem zcd(A:Nat->Prop)(n:Nat):(ic A n).length<=n:=by unfold ic;exact sQ (List.length_filter_le _ _) (by simp)
theorem zcc(A:Nat->Prop)(n x:Nat):x∈ic A n ↔ x<n/\A x:=by simp[ic]
theorem zaB{A B:Nat->Prop}{n:Nat}(h:∀i,i<n->(A i ↔ B i)):ic A n=ic B n:=by unfold ic;apply List.filter_congr;intro i hi;rw[List.mem_range]at hi;simp[h i hi]
def LsQ(w:sD)(L:List Nat)(e:tJ)(w':sD):Prop:=∃(vo:Option Addr)(vc:Nat),e=.returned (.slice vo L.length vc)/\w'.ownsRow w.heap.size 3 1 (.slice vo L.length vc) L.length (kF L)/\sE w.heap.size w w'
theorem zeT(L:List Nat):∀v∈kF L,v.oneCell'=true:=fun v hv=>by unfold kF at hv;obtain⟨x,_,rfl⟩:=tu.1 hv;rfl
theorem znG(w:sD)(v:sM)(T:ue):∀j u,[v][j]?=some u->(w.alloc (.cells #[v] T)).cell? ((⟨w.heap.size,0,none⟩:Addr).add j)=some u:=tP (cs:=#[v]) (heap_alloc_new w _)
theorem Tryz.info3:(Tryz.prog.info? 3).map (fun i=>(i.zero,i.size,i.bytes))=some (some (.int .i64 0),1,8):=by kernel_rfl
theorem Tryz.underInts:Tryz.prog.underlying 23=some (.slice 3):=by kernel_rfl
theorem zan{w wr w8:sD}{v:sM}{o:Obj}{B n:Nat}{xs:List sM}(hB:sE w.heap.size w wr)(hB0:B=w.heap.size)(own:wr.ownsRow B 3 1 v n xs)(gr:ua (wr.alloc o) w8 v.ownBlock):sE w.heap.size w w8:=by
 subst hB0;have hs:=hB.size;have h1:sE w.heap.size w (wr.alloc o):=hB.alloc hs _;refine h1.grown gr (by simp;omega) fun k hk=>?_;rcases own.2 with ⟨rfl,_⟩|⟨g,cap,cur,rfl,h2,_⟩
 ·cases hk
 ·cases hk;exact h2
theorem zgl(p:aA)(hO:kg p)(hs:gw p<=2048)(v0 v1 v2:sM)(c:List Int)(co:Option Addr)(cn cc:Nat)(hcn:cn=c.length)(hc:cn<=90000)(w:sD)(hP:cv w p v0 v1 v2)(hI:eS w co c):
  sJ Tryz.prog 112 #[.agg #[v0,v1,v2],.slice co cn cc] w (LsQ w (ic (fun i=>aX c p i cn) (cn+1))):=by
 have HG:=aa (fun(W:sD)(h:sE w.heap.size w W)=>f7 p hO hs v0 v1 v2 W (cv.below h _ _ _ _ hP));have HL:=aa (fun(W:sD)(h:sE w.heap.size w W)=>zas c cn ((cn+1) / 64) hcn hc rfl co cc p hO.wf v0 v1 v2 W (cv.below h _ _ _ _ hP) (hI.below h));clear hP hI hcn;obtain⟨i0,hi3,hz0,hz1,hz2⟩:=tS Tryz.info3;have HI3:=aa (sS hi3 (sS hz0 (sS hz1 hz2)));clear hi3 hz0 hz1 hz2;obtain⟨m,hm⟩:=aj ((cn+1) / 64);rw[<-hm]at HL;have HMm:=aa hm;clear hm;go_enter Tryz.func112,Tryz.ntmps112;go_wp2_with fail;obtain⟨w1,hw1⟩:=aj (w.alloc (.cells #[v0,v1,v2] 105));have hb1:sE w.heap.size w w1:=by rw[hw1];exact af
 have x0:w1.cell? ⟨w.heap.size,0,none⟩=some v0:=by rw[hw1];simp[go_sem]
 have x1:w1.cell? ⟨w.heap.size,1,none⟩=some v1:=by rw[hw1];simp[go_sem]
 have x2:w1.cell? ⟨w.heap.size,2,none⟩=some v2:=by rw[hw1];simp[go_sem]
 have hs1:w.heap.size<w1.heap.size:=by rw[hw1];simp
 rw[<-hw1];have HB1:=aa hb1;clear hw1 hb1;refine(HG.o w1 HB1.o).mono ?_;rintro e w2 ⟨rfl,hB2⟩;have y0:=(hB2.cell (p:=⟨w.heap.size,0,none⟩) hs1).trans x0;have y1:=(hB2.cell (p:=⟨w.heap.size,1,none⟩) hs1).trans x1;have y2:=(hB2.cell (p:=⟨w.heap.size,2,none⟩) hs1).trans x2;have HB2:=aa (HB1.o.trans (hB2.mono HB1.o.size));clear hB2 x0 x1 x2;go_wp2_with fail;refine(HL.o w2 HB2.o).mono ?_;rintro e w3 ⟨W,⟨g,cap,bs,rfl,hM3,hB3⟩,hR3⟩;have HM3:=aa hM3;have HB3:=aa (HB2.o.trans (hB3.mono HB2.o.size));have HR3:=aa hR3;clear hM3 hB3 hR3 y0 y1 y2;go_wp2;go_loopw [6,7] (fun x y wr=>∃(i n:Nat)(vo:Option Addr)(vc:Nat),x=.slice vo n vc/\y=.int .i64 i/\i<=cn+1/\n<=i/\ae (n=(ic (fun i=>aX c p i cn) i).length)/\ae (wr.ownsRow w3.heap.size 3 1 (.slice vo n vc) n (kF (ic (fun i=>aX c p i cn) i)))/\ae (sE w3.heap.size w3 wr)) (fun _ y _=>cn+1-(sL y).toNat)
 case atStart=>exact⟨0,0,none,0,rfl,rfl,sI _,ti _,aa rfl,aa (by rw[zsE];exact tE _ _ _ _),aa (sT _ _)⟩
 case round=>
  obtain⟨i,n,vo,vc,rfl,rfl,hi,hni,HN,HO,HB⟩:=hrel;by_cases hlt:i<cn+1
  ·have i0':(0:Int)<=(i:Int):=by omega
   have i1:(i:Int)<=(cn:Int):=by omega
   have i2:(i:Int)<(cn:Int)+1:=by omega
   have HM:=aa (HM3.o.below HB.o);have c1:=HM.o.cell i hlt;have hq:cn / 64<m+1:=by have:=HMm.o;have:=sK (c:=64) (show cn<=cn+1 by omega);omega
   have HH:=aa (oM (bs i) (m+1) cn _ wr (HM.o.row i hlt) hq (HM.o.bd i _ hlt hq) (by omega));have HRi:=aa (HR3.o i cn hlt (by omega));clear hq;go_wp2_with fail;refine HH.o.mono ?_;rintro e w4 ⟨rfl,e4⟩;obtain rfl:=e4.symm;by_cases hb:bt (W i) cn=true
   ·rw[hb];have HF:ae (ic (fun i=>aX c p i cn) (i+1)=ic (fun i=>aX c p i cn) i++[i]):=aa (by rw[lN,if_pos (HRi.o.1 hb)]);clear hb c1 HH;go_wp2_with (at_builtin;refine tA _ rfl _ _ 23 rfl w3.heap.size 3 i0 (.int .i64 0) 1 8 Tryz.underInts HI3.o.1 HI3.o.2.1 HI3.o.2.2.1 HI3.o.2.2.2 rfl (by decide) (.slice vo n vc) n (kF (ic (fun i=>aX c p i cn) i)) rfl (HO.o.alloc _) ⟨wr.heap.size,0,none⟩ 1 1 [.int .i64 (i:Int)] rfl rfl (znG wr _ _) (zeT [i]) (by decide) (by unfold maxLen;omega) (by omega) (by have:=HB.o.size;simp;omega) (wr.heap.size+1) (by simp) ?_;intro g8 c8 w8 o8 gr8 hl8 hlt8;have HO8:=aa o8;have HB8:=aa (zan HB.o rfl HO.o gr8);clear o8 gr8 hl8 hlt8);go_roundw
    case rel=>exact⟨i+1,n+1,_,_,rfl,by go_num,by omega,by omega,aa (by rw[HF.o,tU,HN.o];rfl),aa (by rw[HF.o];unfold kF;rw[t7];exact HO8.o),HB8⟩
    case measure=>simp[sL];omega
   ·have hb':bt (W i) cn=false:=by simpa using hb
    rw[hb'];have HF:ae (ic (fun i=>aX c p i cn) (i+1)=ic (fun i=>aX c p i cn) i):=aa (by rw[lN,if_neg (fun h=>hb (HRi.o.2 h))]);clear hb hb' c1 HH;go_wp2;go_roundw
    case rel=>exact⟨i+1,n,vo,vc,rfl,by go_num,by omega,by omega,aa (by rw[HF.o];exact HN.o),aa (by rw[HF.o];exact HO.o),HB⟩
    case measure=>simp[sL];omega
  ·have i1:¬(i:Int)<=(cn:Int):=by omega
   have HQ:ae (LsQ w (ic (fun i=>aX c p i cn) (cn+1)) (.returned (.slice vo n vc)) wr):=aa (by
    have e:i=cn+1:=by omega
    have h1:=HN.o;have h2:=HO.o;rw[e]at h1 h2;refine⟨vo,vc,by rw[h1],?_,HB3.o.trans (HB.o.mono HB3.o.size)⟩;rw[h1]at h2;exact⟨h2.1,h2.2.imp (fun h=>h) fun⟨g,cap,cur,a1,a2,a3⟩=>⟨g,cap,cur,a1,sQ HB3.o.size a2,a3⟩⟩)
   go_wp2;go_ret;exact HQ.o
end Pt
end
section
open Go.RowKit
namespace Pt
theorem zfh(p:aA)(hO:kg p)(hs:gw p<=2048)(v0 v1 v2:sM)(c:List Int)(co:Option Addr)(cn cc:Nat)(hcn:cn=c.length)(hc:cn<=90000)(w:sD)(hP:cv w p v0 v1 v2)(hI:eS w co c):
  sJ Tryz.prog 113 #[.agg #[v0,v1,v2],.slice co cn cc] w (LsQ w (ic (fun i=>aX c p 0 i) (cn+1))):=by
 have HG:=aa (fun(W:sD)(h:sE w.heap.size w W)=>f7 p hO hs v0 v1 v2 W (cv.below h _ _ _ _ hP));have HL:=aa (fun(W:sD)(h:sE w.heap.size w W)=>zas c cn ((cn+1) / 64) hcn hc rfl co cc p hO.wf v0 v1 v2 W (cv.below h _ _ _ _ hP) (hI.below h));clear hP hI hcn;obtain⟨i0,hi3,hz0,hz1,hz2⟩:=tS Tryz.info3;have HI3:=aa (sS hi3 (sS hz0 (sS hz1 hz2)));clear hi3 hz0 hz1 hz2;obtain⟨m,hm⟩:=aj ((cn+1) / 64);rw[<-hm]at HL;have HMm:=aa hm;clear hm;go_enter Tryz.func113,Tryz.ntmps113;go_wp2_with fail;obtain⟨w1,hw1⟩:=aj (w.alloc (.cells #[v0,v1,v2] 105));have hb1:sE w.heap.size w w1:=by rw[hw1];exact af
 have x0:w1.cell? ⟨w.heap.size,0,none⟩=some v0:=by rw[hw1];simp[go_sem]
 have x1:w1.cell? ⟨w.heap.size,1,none⟩=some v1:=by rw[hw1];simp[go_sem]
 have x2:w1.cell? ⟨w.heap.size,2,none⟩=some v2:=by rw[hw1];simp[go_sem]
 have hs1:w.heap.size<w1.heap.size:=by rw[hw1];simp
 rw[<-hw1];have HB1:=aa hb1;clear hw1 hb1;refine(HG.o w1 HB1.o).mono ?_;rintro e w2 ⟨rfl,hB2⟩;have y0:=(hB2.cell (p:=⟨w.heap.size,0,none⟩) hs1).trans x0;have y1:=(hB2.cell (p:=⟨w.heap.size,1,none⟩) hs1).trans x1;have y2:=(hB2.cell (p:=⟨w.heap.size,2,none⟩) hs1).trans x2;have HB2:=aa (HB1.o.trans (hB2.mono HB1.o.size));clear hB2 x0 x1 x2;go_wp2_with fail;refine(HL.o w2 HB2.o).mono ?_;rintro e w3 ⟨W,⟨g,cap,bs,rfl,hM3,hB3⟩,hR3⟩;have HM3:=aa hM3;have z1:=hM3.cell 0 (by omega);have HB3:=aa (HB2.o.trans (hB3.mono HB2.o.size));have HR3:=aa hR3;clear hM3 hB3 hR3 y0 y1 y2;have z2:(0:Int)<(cn:Int)+1:=by omega
 have z3:0<cn+1:=by omega
 go_wp2;clear z1 z2 z3;go_loopw [6,7] (fun x y wr=>∃(i n:Nat)(vo:Option Addr)(vc:Nat),x=.slice vo n vc/\y=.int .i64 i/\i<=cn+1/\n<=i/\ae (n=(ic (fun i=>aX c p 0 i) i).length)/\ae (wr.ownsRow w3.heap.size 3 1 (.slice vo n vc) n (kF (ic (fun i=>aX c p 0 i) i)))/\ae (sE w3.heap.size w3 wr)) (fun _ y _=>cn+1-(sL y).toNat)
 case atStart=>exact⟨0,0,none,0,rfl,rfl,sI _,ti _,aa rfl,aa (by rw[zsE];exact tE _ _ _ _),aa (sT _ _)⟩
 case round=>
  obtain⟨i,n,vo,vc,rfl,rfl,hi,hni,HN,HO,HB⟩:=hrel;by_cases hlt:i<cn+1
  ·have i0':(0:Int)<=(i:Int):=by omega
   have i1:(i:Int)<=(cn:Int):=by omega
   have i2:(i:Int)<(cn:Int)+1:=by omega
   have HM:=aa (HM3.o.below HB.o);have hq:i / 64<m+1:=by have:=HMm.o;have:=sK (c:=64) (show i<=cn+1 by omega);omega
   have HH:=aa (oM (bs 0) (m+1) i _ wr (HM.o.row 0 (by omega)) hq (HM.o.bd 0 _ (by omega) hq) (by omega));have HRi:=aa (HR3.o 0 i (by omega) hlt);clear hq;go_wp2_with fail;refine HH.o.mono ?_;rintro e w4 ⟨rfl,e4⟩;obtain rfl:=e4.symm;by_cases hb:bt (W 0) i=true
   ·rw[hb];have HF:ae (ic (fun i=>aX c p 0 i) (i+1)=ic (fun i=>aX c p 0 i) i++[i]):=aa (by rw[lN,if_pos (HRi.o.1 hb)]);clear hb HH;go_wp2_with (at_builtin;refine tA _ rfl _ _ 23 rfl w3.heap.size 3 i0 (.int .i64 0) 1 8 Tryz.underInts HI3.o.1 HI3.o.2.1 HI3.o.2.2.1 HI3.o.2.2.2 rfl (by decide) (.slice vo n vc) n (kF (ic (fun i=>aX c p 0 i) i)) rfl (HO.o.alloc _) ⟨wr.heap.size,0,none⟩ 1 1 [.int .i64 (i:Int)] rfl rfl (znG wr _ _) (zeT [i]) (by decide) (by unfold maxLen;omega) (by omega) (by have:=HB.o.size;simp;omega) (wr.heap.size+1) (by simp) ?_;intro g8 c8 w8 o8 gr8 hl8 hlt8;have HO8:=aa o8;have HB8:=aa (zan HB.o rfl HO.o gr8);clear o8 gr8 hl8 hlt8);go_roundw
    case rel=>exact⟨i+1,n+1,_,_,rfl,by go_num,by omega,by omega,aa (by rw[HF.o,tU,HN.o];rfl),aa (by rw[HF.o];unfold kF;rw[t7];exact HO8.o),HB8⟩
    case measure=>simp[sL];omega
   ·have hb':bt (W 0) i=false:=by simpa using hb
    rw[hb'];have HF:ae (ic (fun i=>aX c p 0 i) (i+1)=ic (fun i=>aX c p 0 i) i):=aa (by rw[lN,if_neg (fun h=>hb (HRi.o.2 h))]);clear hb hb' HH;go_wp2;go_roundw
    case rel=>exact⟨i+1,n,vo,vc,rfl,by go_num,by omega,by omega,aa (by rw[HF.o];exact HN.o),aa (by rw[HF.o];exact HO.o),HB⟩
    case measure=>simp[sL];omega
  ·have i1:¬(i:Int)<=(cn:Int):=by omega
   have HQ:ae (LsQ w (ic (fun i=>aX c p 0 i) (cn+1)) (.returned (.slice vo n vc)) wr):=aa (by
    have e:i=cn+1:=by omega
    have h1:=HN.o;have h2:=HO.o;rw[e]at h1 h2;refine⟨vo,vc,by rw[h1],?_,HB3.o.trans (HB.o.mono HB3.o.size)⟩;rw[h1]at h2;exact⟨h2.1,h2.2.imp (fun h=>h) fun⟨g,cap,cur,a1,a2,a3⟩=>⟨g,cap,cur,a1,sQ HB3.o.size a2,a3⟩⟩)
   go_wp2;go_ret;exact HQ.o
theorem ziW(lo:Option Addr)(n lc:Nat)(l:List Int)(c:Int)(w:sD)(hl:eS w lo l)(hn:n=l.length)(hm:n<=1000000):
  sJ Tryz.prog 114 #[.slice lo n lc,.int .i64 c] w fun e w'=>e=.returned (.bool (kD l c))/\w'=w:=by
 have HL:=aa hl;have HN:=aa hn;clear hl hn;go_enter Tryz.func114,Tryz.ntmps114;go_wp2;go_loopw [5] (fun y wr=>∃i:Nat,y=.int .i64 i/\i<=n/\wr=w/\ae (∀z∈l.take i,z≠c)) (fun y _=>n-(sL y).toNat)
 case atStart=>exact⟨0,rfl,sI _,rfl,aa (by simp)⟩
 case round=>
  obtain⟨i,rfl,hi,rfl,HT⟩:=hrel;by_cases hlt:i<n
  ·have i0:(0:Int)<=(i:Int):=by omega
   have i1:(i:Int)<(n:Int):=by omega
   have hil:i<l.length:=by have:=HN.o;omega
   obtain⟨a,rfl,ha,c1⟩:=HL.o.at hil;obtain⟨z,hz⟩:=aj (l[i]);rw[<-hz]at c1;have HZ:=aa hz;clear hz;by_cases e:z=c
   ·subst e;have b1:(z==z)=true:=by simp
    have HE:ae (kD l z=true):=aa ((cG l z).2 (by rw[HZ.o];exact sO _));go_wp2;go_ret;exact⟨by rw[HE.o];rfl,rfl⟩
   ·have b1:(z==c)=false:=by simpa using e
    have HE:=aa e;clear e;go_wp2;go_roundw
    case rel=>
     refine⟨i+1,by go_num,by omega,trivial,aa fun x hx=>?_⟩;rw[tp hil,t6]at hx;rcases hx with hx|hx
     ·exact HT.o x hx
     ·rw[tT]at hx;rw[hx,<-HZ.o];exact HE.o
    case measure=>simp[sL];omega
  ·have i1:¬(i:Int)<(n:Int):=by omega
   have HE:ae (kD l c=false):=aa (by
    cases h:kD l c with
    |false=>rfl
    |true=>exact absurd rfl (HT.o c (by rw[tK (by have:=HN.o;omega)];exact(cG l c).1 h)))
   go_wp2;go_ret;exact⟨by rw[HE.o];rfl,rfl⟩
theorem ox{w:sD}{B:Nat}{vo:Option Addr}{vc n:Nat}{L:List Nat}(h:w.ownsRow B 3 1 (.slice vo n vc) n (kF L))(hn:n=L.length):eS w vo (L.map fun(x:Nat)=>(x:Int)):=fun k z hk=>by
 have hk1:=(sG.1 hk).1;rw[tM]at hk1;rcases h.2 with ⟨h1,h2⟩|⟨g,cap,cur,h1,h2,h3,h4,h5,h6,h7⟩
 ·omega
 ·cases h1;refine⟨⟨g,0,none⟩,rfl,ag h3,?_⟩;rw[Addr.add_lit,tL,tY w g k cur _ _ h3];have e:(kF L)[k]?=some (.int .i64 z):=by
   unfold kF;rw[List.getElem?_map]at hk⊢;cases hl:L[k]? with
   |none=>rw[hl]at hk;cases hk
   |some y=>rw[hl]at hk;simp at hk;simp[hk]
  rw[<-h7,td (by omega)]at e;simpa using e
end Pt
end
section
open Go.RowKit
namespace Pt
structure Rl where
 brk:Bool
 st:Bool
 en:Bool
 left:aA
 right:aA
def App(r:Rl)(c:List Int)(k:Nat):Prop:=(∃i,i<=k/\aX c r.left i k)/\(∃j,k<=j/\j<=c.length/\aX c r.right k j)/\(r.st=true->aX c r.left 0 k)/\(r.en=true->aX c r.right k c.length)
def zhD(r:Rl):Prop:=kg r.left/\kg r.right/\gw r.left<=2048/\gw r.right<=2048
def TlQ(w:sD)(A:Prop)(e:tJ)(w':sD):Prop:=∃b:Bool,e=.returned (.bool b)/\(b=true ↔ A)/\sE w.heap.size w w'
theorem pQ{w:sD}{g o n:Nat}{c:List Int}(h:eS w (some ⟨g,o,none⟩) c):eS w (some ⟨g,o,none⟩) (c.take n):=fun k z hk=>by have h1:=(sG.1 hk).1;rw[tW]at h1;rw[td (by omega)]at hk;exact h k z hk
theorem pR{w:sD}{g o n:Nat}{c:List Int}(h:eS w (some ⟨g,o,none⟩) c):eS w (some ⟨g,o+n,none⟩) (c.drop n):=fun k z hk=>by rw[List.getElem?_drop]at hk;obtain⟨a,h1,h2,h3⟩:=h (n+k) z hk;cases h1;refine⟨_,rfl,h2,?_⟩;rw[Addr.add_lit]at h3⊢;rw[<-h3];congr 2;omega
set_option maxRecDepth 100000 in
theorem zfA(r:Rl)(hr:zhD r)(l0 l1 l2 r0 r1 r2:sM)(c:List Int)(g o cn cc k:Nat)(hcn:cn=c.length)(hc:cn<=90000)(hcc:cn<=cc)(hk:k<=cn)(w:sD)(hL:cv w r.left l0 l1 l2)(hR:cv w r.right r0 r1 r2)(hI:eS w (some ⟨g,o,none⟩) c):
  sJ Tryz.prog 76 #[.agg #[.bool r.brk,.bool r.st,.bool r.en,l0,l1,l2,r0,r1,r2],.slice (some ⟨g,o,none⟩) cn cc,.int .i64 k] w (TlQ w (App r c k)):=by
 obtain⟨o1,o2,s1,s2⟩:=hr;have HG1:=aa (fun(W:sD)(h:sE w.heap.size w W)=>f7 r.left o1 s1 l0 l1 l2 W (cv.below h _ _ _ _ hL));have HG2:=aa (fun(W:sD)(h:sE w.heap.size w W)=>f7 r.right o2 s2 r0 r1 r2 W (cv.below h _ _ _ _ hR));have HS:=aa (fun(W:sD)(h:sE w.heap.size w W)=>zgl r.left o1 s1 l0 l1 l2 (c.take k) (some ⟨g,o,none⟩) k cc (by rw[tW];omega) (by omega) W (cv.below h _ _ _ _ hL) (pQ (hI.below h)));have HE:=aa (fun(W:sD)(h:sE w.heap.size w W)=>zfh r.right o2 s2 r0 r1 r2 (c.drop k) (if cc=k then some ⟨g,o,none⟩else some ⟨g,o+k,none⟩) (cn-k) (cc-k) (by rw[tX];omega) (by omega) W (cv.below h _ _ _ _ hR) (by
  split
  ·intro j z hj;have h1:=(sG.1 hj).1;rw[tX]at h1;omega
  ·exact pR (hI.below h)))
 have HSA:ae (ic (fun i=>aX (c.take k) r.left i k) (k+1)=ic (fun i=>aX c r.left i k) (k+1)):=aa (zaB fun i _=>znQ c r.left k i k (by omega) (ti _));have HEA:ae (ic (fun i=>aX (c.drop k) r.right 0 i) (cn-k+1)=ic (fun i=>aX c r.right k (k+i)) (cn-k+1)):=aa (zaB fun i hi=>by have:=znR c r.right k 0 i (by omega) (by omega);simpa using this);have HCN:=aa hcn;clear hL hR hI hcn o1 o2 s1 s2;have k0:(0:Int)<=(k:Int):=by omega
 have k1:(k:Int)<=(cn:Int):=by omega
 have k2:(k:Int)<=(cc:Int):=by omega
 have k3:(cn:Int)<=(cc:Int):=by omega
 have d1:decide ((k:Int)<0)=false:=decide_eq_false (by omega);have d2:decide ((cn:Int)<(k:Int))=false:=decide_eq_false (by omega);have d3:decide (cn<k)=false:=decide_eq_false (by omega);obtain⟨rb,rs,re,rl,rr⟩:=r;go_enter Tryz.func76,Tryz.ntmps76;go_wp2_with fail;obtain⟨w1,hw1⟩:=aj (w.alloc (.cells #[.bool rb,.bool rs,.bool re,l0,l1,l2,r0,r1,r2] 107));have hb1:sE w.heap.size w w1:=by rw[hw1];exact af
 have hs1:w.heap.size<w1.heap.size:=by rw[hw1];simp
 have HX1:=aa (fun(W:sD)(h:sE w1.heap.size w1 W)=>show W.cell? ⟨w.heap.size,3,none⟩=some l0/\W.cell? ⟨w.heap.size,4,none⟩=some l1/\W.cell? ⟨w.heap.size,5,none⟩=some l2 from
  ⟨(h.cell (p:=⟨w.heap.size,3,none⟩) hs1).trans (by rw[hw1];simp[go_sem]),(h.cell (p:=⟨w.heap.size,4,none⟩) hs1).trans (by rw[hw1];simp[go_sem]),(h.cell (p:=⟨w.heap.size,5,none⟩) hs1).trans (by rw[hw1];simp[go_sem])⟩)
 have HX2:=aa (fun(W:sD)(h:sE w1.heap.size w1 W)=>show W.cell? ⟨w.heap.size,6,none⟩=some r0/\W.cell? ⟨w.heap.size,7,none⟩=some r1/\W.cell? ⟨w.heap.size,8,none⟩=some r2 from
  ⟨(h.cell (p:=⟨w.heap.size,6,none⟩) hs1).trans (by rw[hw1];simp[go_sem]),(h.cell (p:=⟨w.heap.size,7,none⟩) hs1).trans (by rw[hw1];simp[go_sem]),(h.cell (p:=⟨w.heap.size,8,none⟩) hs1).trans (by rw[hw1];simp[go_sem])⟩)
 have HX3:=aa (fun(W:sD)(h:sE w1.heap.size w1 W)=>show W.cell? ⟨w.heap.size,1,none⟩=some (.bool rs)/\W.cell? ⟨w.heap.size,2,none⟩=some (.bool re)from
  ⟨(h.cell (p:=⟨w.heap.size,1,none⟩) hs1).trans (by rw[hw1];simp[go_sem]),(h.cell (p:=⟨w.heap.size,2,none⟩) hs1).trans (by rw[hw1];simp[go_sem])⟩)
 rw[<-hw1];have HB1:=aa hb1;clear hw1 hb1;refine(HG1.o w1 HB1.o).mono ?_;rintro e w2 ⟨rfl,hB2⟩;have HB2:=aa hB2;obtain⟨x6,x7,x8⟩:=HX2.o w2 hB2;clear hB2;go_wp2_with fail;refine(HG2.o w2 (HB1.o.trans (HB2.o.mono HB1.o.size))).mono ?_;rintro e w3 ⟨rfl,hB3⟩;have HB3:=aa (HB2.o.trans (hB3.mono HB2.o.size));clear hB3 x6 x7 x8;go_wp2_with fail;refine aw [(0,true),(1,true),(2,true),(3,true),(4,true),(5,false),(6,false)] (fun W=>W.cell? ⟨w.heap.size,3,none⟩=some l0/\W.cell? ⟨w.heap.size,4,none⟩=some l1/\W.cell? ⟨w.heap.size,5,none⟩=some l2) (fun _=>false) (by kernel_rfl) (by kernel_rfl) (fun j hj=>by cases hj) rfl (by kernel_rfl) (HX1.o _ (show sE w1.heap.size w1 w3.drew from⟨HB3.o.os,HB3.o.tape,HB3.o.output,HB3.o.size,HB3.o.block⟩)) ?_
 iterate 5 (refine aF ?_ rfl (by kernel_rfl) (fun w' hS=>?_) ?_;(rotate_left;(obtain⟨s1,s2,s3⟩:=hS;go_simp;with_reducible rfl);rotate_left))
 refine au rfl (by kernel_rfl) fun KK hKK=>?_;go_simp;have HB3d:ae (sE w1.heap.size w1 w3.drew):=aa ⟨HB3.o.os,HB3.o.tape,HB3.o.output,HB3.o.size,HB3.o.block⟩;refine(HS.o w3.drew (HB1.o.trans (HB3d.o.mono HB1.o.size))).mono ?_;rintro e w4 ⟨vo,vc,rfl,hO4,hB4⟩;have HB4:ae (sE w1.heap.size w1 w4):=aa (HB3d.o.trans (hB4.mono HB3d.o.size));rw[HSA.o]at hO4⊢;obtain⟨L1,hL1⟩:=aj (ic (fun i=>aX c rl i k) (k+1));rw[<-hL1]at hO4⊢;have HL1:=aa hL1;obtain⟨n1,hn1⟩:=aj L1.length;rw[<-hn1]at hO4⊢;have HN1:=aa hn1;have HR1:=aa (ox hO4 hn1);have q1:n1<=k+1:=by rw[hn1,hL1];exact zcd _ _
 clear hO4 hB4 hL1 hn1;refine hKK _ _ (fun _=>HX1.o _ HB4.o) ?_;clear hKK;refine au rfl (by kernel_rfl) fun KK hKK=>?_;go_simp;refine hKK _ _ (fun _=>HX1.o _ HB4.o) ?_;clear hKK;refine ba (sN ?_);go_wp2_with fail;refine aw [(0,true),(1,true),(2,true),(3,true),(4,true),(5,false),(6,false)] (fun W=>W.cell? ⟨w.heap.size,6,none⟩=some r0/\W.cell? ⟨w.heap.size,7,none⟩=some r1/\W.cell? ⟨w.heap.size,8,none⟩=some r2) (fun _=>false) (by kernel_rfl) (by kernel_rfl) (fun j hj=>by cases hj) rfl (by kernel_rfl) (HX2.o _ (show sE w1.heap.size w1 w4.drew from⟨HB4.o.os,HB4.o.tape,HB4.o.output,HB4.o.size,HB4.o.block⟩)) ?_
 iterate 5 (refine aF ?_ rfl (by kernel_rfl) (fun w' hS=>?_) ?_;(rotate_left;(obtain⟨s1,s2,s3⟩:=hS;go_simp;with_reducible rfl);rotate_left))
 refine au rfl (by kernel_rfl) fun KK hKK=>?_;go_simp;have HB4d:ae (sE w1.heap.size w1 w4.drew):=aa ⟨HB4.o.os,HB4.o.tape,HB4.o.output,HB4.o.size,HB4.o.block⟩;obtain⟨ao,hao⟩:=aj (if cc=k then some (⟨g,o,none⟩:Addr)else some ⟨g,o+k,none⟩);rw[<-hao]at HE⊢;clear hao;refine(HE.o w4.drew (HB1.o.trans (HB4d.o.mono HB1.o.size))).mono ?_;rintro e w5 ⟨uo,uc,rfl,hO5,hB5⟩;have HB5':ae (sE w4.heap.size w4 w5):=aa ⟨hB5.os,hB5.tape,hB5.output,hB5.size,hB5.block⟩;have HB5:ae (sE w1.heap.size w1 w5):=aa (HB4d.o.trans (hB5.mono HB4d.o.size));rw[HEA.o]at hO5⊢;obtain⟨L2,hL2⟩:=aj (ic (fun i=>aX c rr k (k+i)) (cn-k+1));rw[<-hL2]at hO5⊢;have HL2:=aa hL2;obtain⟨n2,hn2⟩:=aj L2.length;rw[<-hn2]at hO5⊢;have HN2:=aa hn2;have HR2:=aa (ox hO5 hn2);have q2:n2<=cn-k+1:=by rw[hn2,hL2];exact zcd _ _
 clear hO5 hB5 hL2 hn2;refine hKK _ _ (fun _=>HX2.o _ HB5.o) ?_;clear hKK;refine au rfl (by kernel_rfl) fun KK hKK=>?_;go_simp;refine hKK _ _ (fun _=>HX2.o _ HB5.o) ?_;clear hKK;refine ba (sN ?_);clear d1 d2 d3 HG1 HG2 HS HE HSA HEA HB2 HB3 HB3d HB4d;have HBw:=aa (HB1.o.trans (HB5.o.mono HB1.o.size));have HM1:=aa (fun(x:Nat)=>show x∈L1 ↔ x<k+1/\aX c rl x k by rw[HL1.o];exact zcc _ _ _);have HM2:=aa (fun(x:Nat)=>show x∈L2 ↔ x<cn-k+1/\aX c rr k (k+x) by rw[HL2.o];exact zcc _ _ _);clear HL1 HL2;obtain⟨y1,y2⟩:=HX3.o _ HB5.o;by_cases z1:n1=0
 ·have HA:ae (¬App ⟨rb,rs,re,rl,rr⟩ c k):=aa (fun⟨⟨i,h1,h2⟩,_⟩=>by have h3:=(HM1.o i).2 ⟨by omega,h2⟩;rw[tj.1 (HN1.o.symm.trans z1)]at h3;cases h3);subst z1;go_wp2;go_ret;exact⟨false,rfl,by simp[HA.o],HBw.o⟩
 have z1':((n1:Int)==0)=false:=by simpa using z1
 have HZ1:=aa z1;clear z1;by_cases z2:n2=0
 ·have HA:ae (¬App ⟨rb,rs,re,rl,rr⟩ c k):=aa (fun⟨_,⟨j,h1,h2,h3⟩,_⟩=>by have h4:=(HM2.o (j-k)).2 ⟨by have:=HCN.o;omega,by rw[tR h1];exact h3⟩;rw[tj.1 (HN2.o.symm.trans z2)]at h4;cases h4);subst z2;go_wp2;go_ret;exact⟨false,rfl,by simp[HA.o],HBw.o⟩
 have z2':((n2:Int)==0)=false:=by simpa using z2
 have HZ2:=aa z2;clear z2;have HC1:ae (∃i,i<=k/\aX c rl i k):=aa (by obtain⟨x,hx⟩:=tr (l:=L1) (by have:=HN1.o;have:=HZ1.o;omega);have:=(HM1.o x).1 hx;exact⟨x,by omega,this.2⟩);have HC2:ae (∃j,k<=j/\j<=c.length/\aX c rr k j):=aa (by obtain⟨x,hx⟩:=tr (l:=L2) (by have:=HN2.o;have:=HZ2.o;omega);have:=(HM2.o x).1 hx;exact⟨k+x,by omega,by have:=HCN.o;omega,this.2⟩);have HIn1:=aa (fun(W:sD)(h:sE w5.heap.size w5 W)=>ziW vo n1 vc _ 0 W ((HR1.o.below HB5'.o).below h) (by rw[tM];exact HN1.o) (by omega));have HIn2:=aa (fun(W:sD)(h:sE w5.heap.size w5 W)=>ziW uo n2 uc _ ((cn:Int)-(k:Int)) W (HR2.o.below h) (by rw[tM];exact HN2.o) (by omega));have HI1:ae (kD (L1.map fun(x:Nat)=>(x:Int)) 0=true ↔ aX c rl 0 k):=aa (by
  rw[cG];constructor
  ·intro h;obtain⟨x,h1,h2⟩:=tu.1 h;have e:x=0:=by omega
   exact e ▸ ((HM1.o x).1 h1).2
  ·intro h;exact tu.2 ⟨0,(HM1.o 0).2 ⟨by omega,h⟩,rfl⟩)
 have HI2:ae (kD (L2.map fun(x:Nat)=>(x:Int)) ((cn:Int)-(k:Int))=true ↔ aX c rr k c.length):=aa (by
  rw[cG];constructor
  ·intro h;obtain⟨x,h1,h2⟩:=tu.1 h;have e:k+x=c.length:=by have:=HCN.o;omega
   exact e ▸ ((HM2.o x).1 h1).2
  ·intro h;refine tu.2 ⟨cn-k,(HM2.o (cn-k)).2 ⟨by omega,?_⟩,by omega⟩;rw[tR hk,HCN.o];exact h)
 clear HM1 HM2 HR1 HR2 HN1 HN2 HX1 HX2;obtain⟨b1,hb1⟩:=aj (kD (L1.map fun(x:Nat)=>(x:Int)) 0);obtain⟨b2,hb2⟩:=aj (kD (L2.map fun(x:Nat)=>(x:Int)) ((cn:Int)-(k:Int)));rw[<-hb1]at HIn1 HI1;rw[<-hb2]at HIn2 HI2;clear hb1 hb2;have HQ:ae (App ⟨rb,rs,re,rl,rr⟩ c k ↔ ((rs=true->b1=true)/\(re=true->b2=true))):=aa (by unfold App;simp only[];rw[<-HI1.o,<-HI2.o];exact⟨fun h=>⟨h.2.2.1,h.2.2.2⟩,fun h=>⟨HC1.o,HC2.o,h.1,h.2⟩⟩);have e9:tg.wrap ((cn:Int)-(k:Int))=(cn:Int)-(k:Int):=by unfold sY sZ sR;simp;omega
 cases rs with
 |false=>
  cases re with
  |false=>go_wp2;go_ret;exact⟨true,rfl,by simp[HQ.o],HBw.o⟩
  |true=>go_wp2_with fail;refine(HIn2.o w5 (sT _ _)).mono ?_;rintro e w6 ⟨rfl,e6⟩;obtain rfl:=e6.symm;go_wp2;go_ret;exact⟨b2,rfl,by simp[HQ.o],HBw.o⟩
 |true=>
  go_wp2_with fail;refine(HIn1.o w5 (sT _ _)).mono ?_;rintro e w6 ⟨rfl,e6⟩;obtain rfl:=e6.symm;cases b1 with
  |false=>go_wp2;go_ret;exact⟨false,rfl,by simp[HQ.o],HBw.o⟩
  |true=>
   cases re with
   |false=>go_wp2;go_ret;exact⟨true,rfl,by simp[HQ.o],HBw.o⟩
   |true=>go_wp2_with fail;refine(HIn2.o w5 (sT _ _)).mono ?_;rintro e w6 ⟨rfl,e6⟩;obtain rfl:=e6.symm;go_wp2;go_ret;exact⟨b2,rfl,by simp[HQ.o],HBw.o⟩
end Pt
end
section
open Go.RowKit
namespace Pt
def zcN(w:sD)(ro:Option Addr)(rs:List Rl):Prop:=∀(j:Nat)(r:Rl),rs[j]?=some r->∃b o l0 l1 l2 r0 r1 r2,ro=some ⟨b,o,none⟩/\b<w.heap.size/\w.cell? ⟨b,o+j*9,none⟩=some (.bool r.brk)/\w.cell? ⟨b,o+j*9+1,none⟩=some (.bool r.st)/\w.cell? ⟨b,o+j*9+2,none⟩=some (.bool r.en)∧
 w.cell? ⟨b,o+j*9+3,none⟩=some l0/\w.cell? ⟨b,o+j*9+4,none⟩=some l1/\w.cell? ⟨b,o+j*9+5,none⟩=some l2/\w.cell? ⟨b,o+j*9+6,none⟩=some r0/\w.cell? ⟨b,o+j*9+7,none⟩=some r1/\w.cell? ⟨b,o+j*9+8,none⟩=some r2/\cv w r.left l0 l1 l2/\cv w r.right r0 r1 r2
theorem zcN.below{w w':sD}{ro:Option Addr}{rs:List Rl}(h:zcN w ro rs)(hb:sE w.heap.size w w'):zcN w' ro rs:=fun j r hj=>by obtain⟨b,o,l0,l1,l2,r0,r1,r2,h0,hl,a0,a1,a2,a3,a4,a5,a6,a7,a8,p1,p2⟩:=h j r hj;have hc:∀k v,w.cell? ⟨b,k,none⟩=some v->w'.cell? ⟨b,k,none⟩=some v:=fun k v hk=>(hb.cell (p:=⟨b,k,none⟩) hl).trans hk;exact⟨b,o,l0,l1,l2,r0,r1,r2,h0,tf hl hb.size,hc _ _ a0,hc _ _ a1,hc _ _ a2,hc _ _ a3,hc _ _ a4,hc _ _ a5,hc _ _ a6,hc _ _ a7,hc _ _ a8,cv.below hb _ _ _ _ p1,cv.below hb _ _ _ _ p2⟩
open Classical in
noncomputable def dcd(rest:Bool)(c:List Int)(k:Nat):List Rl->Bool
 |[]=>rest
 |r::rs=>if App r c k then r.brk else dcd rest c k rs
theorem zrz{rest:Bool}{c:List Int}{k i:Nat}{rs:List Rl}{r:Rl}(hr:rs[i]?=some r)(h:App r c k):dcd rest c k (rs.drop i)=r.brk:=by have hi:=(sG.1 hr).1;have he:rs[i]=r:=(sG.1 hr).2;rw[tc hi,he];unfold dcd;rw[if_pos h]
theorem zve{rest:Bool}{c:List Int}{k i:Nat}{rs:List Rl}{r:Rl}(hr:rs[i]?=some r)(h:¬App r c k):dcd rest c k (rs.drop i)=dcd rest c k (rs.drop (i+1)):=by
 have hi:=(sG.1 hr).1;have he:rs[i]=r:=(sG.1 hr).2;rw[tc hi,he]
 conv=>lhs;unfold dcd
 rw[if_neg h]
noncomputable def zfn(rest:Bool)(rs:List Rl)(c:List Int)(k:Nat):Bool:=if c=[]then false else if k=0\/k=c.length then true else dcd rest c k rs
end Pt
end
section
open Go.RowKit
namespace Pt
def En(c:List Int)(p:aA)(k:Nat):Prop:=∃i,i<=k/\aX c p i k
def Sw(c:List Int)(p:aA)(k:Nat):Prop:=∃j,k<=j/\j<=c.length/\aX c p k j
theorem zwL(c:List Int)(i k:Nat):aX c (.mk 0 [] []) i k ↔ i=k:=by unfold aX;simp
theorem rG(c cls:List Int)(kids:List aA)(i k:Nat):aX c (.mk 1 cls kids) i k ↔ k=i+1/\∃z,c[i]?=some z/\z∈cls:=by unfold aX;simp
theorem zkQ(c cls:List Int)(ks:List aA)(i k:Nat):aX c (.mk 2 cls ks) i k ↔ cC c ks i k:=by unfold aX;simp
theorem zkP(c cls:List Int)(p:aA)(ps:List aA)(i k:Nat):aX c (.mk 4 cls (p::ps)) i k ↔ cj (aX c p) i k:=by
 have h:cP c (p::ps)=aX c p:=by rw[cP]
 conv=>lhs;unfold aX
 simp[h]
theorem mK(c:List Int)(i k:Nat):cC c [] i k ↔ i=k:=by rw[cd]
theorem mJ(c:List Int)(p:aA)(ps:List aA)(i k:Nat):cC c (p::ps) i k ↔ ∃j,aX c p i j/\cC c ps j k:=by rw[bV];exact Iff.rfl
theorem zmN(c cls:List Int)(kids:List aA)(i k:Nat):cj (aX c (.mk 1 cls kids)) i k ↔ i<=k/\∀m,i<=m->m<k->∃z,c[m]?=some z/\z∈cls:=by
 constructor
 ·intro h
  induction h with
  |refl=>exact⟨ti _,fun m h1 h2=>by omega⟩
  |step h1 _ ih=>
   rw[rG]at h1;obtain⟨rfl,hz⟩:=h1;obtain⟨h2,h3⟩:=ih;refine⟨by omega,fun m k1 k2=>?_⟩;rcases sV k1 with e2|e2
   ·exact e2 ▸ hz
   ·exact h3 m e2 k2
 ·rintro ⟨h1,h2⟩;obtain⟨n,rfl⟩:∃n,k=i+n:=⟨k-i,by omega⟩;clear h1
  induction n generalizing i with
  |zero=>exact .refl _
  |succ n ih=>refine .step (j:=i+1) ((rG _ _ _ _ _).2 ⟨rfl,h2 i (ti _) (by omega)⟩) ?_;have:=ih (i+1) (fun m k1 k2=>h2 m (by omega) (by omega));rwa [show i+1+n=i+(n+1) by omega]at this
theorem aM(brk:Bool)(l r:aA)(c:List Int)(k:Nat):App ⟨brk,false,false,l,r⟩ c k ↔ En c l k/\Sw c r k:=by unfold App En Sw;simp
theorem zll(brk:Bool)(l r:aA)(c:List Int)(k:Nat):App ⟨brk,true,false,l,r⟩ c k ↔ aX c l 0 k/\Sw c r k:=by unfold App Sw;simp only[true_implies,tB,false_implies,and_true];exact⟨fun h=>⟨h.2.2,h.2.1⟩,fun h=>⟨⟨0,sI _,h.1⟩,h.2,h.1⟩⟩
theorem zrA(rest:Bool)(c:List Int)(k:Nat):dcd rest c k []=rest:=rfl
theorem aU{r:Rl}{c:List Int}{k:Nat}{d:Bool}(h:App r c k ↔ d=true)(rest:Bool)(rs:List Rl):dcd rest c k (r::rs)=bif d then r.brk else dcd rest c k rs:=by
 conv=>lhs;unfold dcd
 cases d with
 |true=>rw[if_pos (h.2 rfl)];rfl
 |false=>rw[if_neg (fun e=>by have:=h.1 e;cases this)];rfl
end Pt
end
section
namespace Pt
mutual
def pN:aA->aA
 |.mk op cls kids=>.mk op cls (if op=2 then (mC kids).reverse else mC kids)
def mC:List aA->List aA
 |[]=>[]
 |p::ps=>pN p::mC ps
end
theorem zei:∀ps:List aA,mC ps=ps.map pN
 |[]=>by unfold mC;rfl
 |p::ps=>by unfold mC;rw[zei ps];rfl
theorem zgt(op:Int)(cls:List Int)(kids:List aA):pN (.mk op cls kids)=.mk op cls (if op=2 then (kids.map pN).reverse else kids.map pN):=by unfold pN;rw[zei]
theorem zks{R:Nat->Nat->Prop}{i j k:Nat}(h:cj R i j)(h2:R j k):Cmp R (cj R) i k:=by
 induction h with
 |refl=>exact⟨k,h2,.refl _⟩
 |step a b ih=>obtain⟨m,h3,h4⟩:=ih h2;exact⟨_,a,.step h3 h4⟩
theorem sx{R S:Nat->Nat->Prop}{n:Nat}(hR:∀i k,R i k->i<=k)(h:∀i k,k<=n->R i k->S (n-k) (n-i)){i k:Nat}(hs:cj R i k):k<=n->cj S (n-k) (n-i):=by
 induction hs with
 |refl=>exact fun _=>.refl _
 |step a b ih=>intro hk;have h1:=dI hR b;exact(ih hk).trans (.step (h _ _ (by omega) a) (.refl _))
mutual
theorem oJ(c:List Int):∀(p:aA)(i k:Nat),k<=c.length->aX c p i k->aX c.reverse (pN p) (c.length-k) (c.length-i)
 |.mk op cls kids,i,k,hk,h=>by
  have H:=znS c kids;have HL:=gO c kids;unfold aX at h;rw[pN];unfold aX;split at h
  ·rename_i e;rw[if_pos e];obtain⟨h1,z,h2,h3⟩:=h;have hi:=(sG.1 h2).1;refine⟨by omega,z,?_,h3⟩;rw[List.getElem?_reverse (by omega),show c.length-1-(c.length-k)=i by omega];exact h2
  ·rename_i e;rw[if_neg e];split at h
   ·rename_i e;rw[if_pos e,if_pos e];exact zeG c kids i k hk h
   ·rename_i e;rw[if_neg e,if_neg e];split at h
    ·rename_i e;rw[if_pos e];exact zeI c kids i k hk h
    ·rename_i e;rw[if_neg e];split at h
     ·rename_i e;rw[if_pos e];exact sx HL H h hk
     ·rename_i e;rw[if_neg e];split at h
      ·rename_i e;rw[if_pos e];obtain⟨j,h1,h2⟩:=h;have h3:=dI HL h2;exact zks (sx HL H h2 hk) (H _ _ (by omega) h1)
      ·rename_i e;rw[if_neg e];split at h
       ·rename_i e;rw[if_pos e];rcases h with h|h
        ·exact .inl (by omega)
        ·exact .inr (H _ _ hk h)
       ·rename_i e;rw[if_neg e];omega
theorem zeG(c:List Int):∀(ps:List aA)(i k:Nat),k<=c.length->cC c ps i k->cC c.reverse (mC ps).reverse (c.length-k) (c.length-i)
 |[],i,k,hk,h=>by rw[cd]at h;rw[mC,List.reverse_nil,cd];omega
 |p::ps,i,k,hk,h=>by rw[bV]at h;obtain⟨j,h1,h2⟩:=h;have h3:=lG c ps _ _ h2;rw[mC,List.reverse_cons,lH,bV,cd,zjr];exact⟨c.length-j,zeG c ps j k hk h2,oJ c p i j (by omega) h1⟩
theorem zeI(c:List Int):∀(ps:List aA)(i k:Nat),k<=c.length->cr c ps i k->cr c.reverse (mC ps) (c.length-k) (c.length-i)
 |[],i,k,hk,h=>by unfold cr at h;exact h.elim
 |p::ps,i,k,hk,h=>by
  rw[mC];unfold cr at h⊢;rcases h with h|h
  ·exact .inl (oJ c p i k hk h)
  ·exact .inr (zeI c ps i k hk h)
theorem znS(c:List Int):∀(ps:List aA)(i k:Nat),k<=c.length->cP c ps i k->cP c.reverse (mC ps) (c.length-k) (c.length-i)
 |[],i,k,hk,h=>by unfold cP at h;exact h.elim
 |p::ps,i,k,hk,h=>by rw[mC];unfold cP at h⊢;exact oJ c p i k hk h
end
def dL(p:aA)(L:List Int):Prop:=∀(c:List Int)(i k:Nat),aX c p i k->i<k->∃z,c[i]?=some z/\z∈L
def Nil(p:aA):Prop:=∀(c:List Int)(i k:Nat),¬aX c p i k
def zcO(ps:List aA):Prop:=∀(c:List Int)(i k:Nat),¬cC c ps i k
def Ful(p:aA):Prop:=∀(c:List Int)(i:Nat),¬aX c p i i
theorem dL.mono{p:aA}{L M:List Int}(h:dL p L)(hm:∀z∈L,z∈M):dL p M:=fun c i k h1 h2=>by obtain⟨z,h3,h4⟩:=h c i k h1 h2;exact⟨z,h3,hm z h4⟩
theorem zva(cls:List Int)(kids:List aA):dL (.mk 1 cls kids) cls:=fun c i k h _=>by unfold aX at h;rw[if_pos rfl]at h;exact h.2
theorem zrl(op:Int)(cls:List Int)(kids:List aA)(h1:op≠1)(h2:op≠2)(h3:op≠3)(h4:op≠4)(h5:op≠5)(h6:op≠6):dL (.mk op cls kids) []:=fun c i k h hlt=>by rw[zsA c cls kids op h1 h2 h3 h4 h5 h6]at h;have h:i=k:=h;omega
theorem zie{R:Nat->Nat->Prop}{c L:List Int}(hR:∀i k,R i k->i<=k)(h:∀i k,R i k->i<k->∃z,c[i]?=some z/\z∈L){i k:Nat}(hs:cj R i k):i<k->∃z,c[i]?=some z/\z∈L:=by
 induction hs with
 |refl=>intro h;omega
 |step a b ih=>
  rename_i i j k;intro hlt;rcases sV (hR _ _ a)with e|e
  ·subst e;exact ih hlt
  ·exact h _ _ a e
theorem zrm(op:Int)(cls:List Int)(kids:List aA)(L:List Int)(h1:op≠1)(h2:op≠2)(h:∀p∈kids,dL p L):dL (.mk op cls kids) L:=fun c i k hl hlt=>by
 have hO:∀ps:List aA,(∀p∈ps,dL p L)->∀i k,cr c ps i k->i<k->∃z,c[i]?=some z/\z∈L:=by
  intro ps
  induction ps with
  |nil=>intro _ i k h;unfold cr at h;exact h.elim
  |cons p ps ih=>
   intro hp i k h hlt;unfold cr at h;rcases h with h|h
   ·exact hp p (tC ..) c i k h hlt
   ·exact ih (fun q hq=>hp q (tO _ hq)) i k h hlt
 have hH:∀i k,cP c kids i k->i<k->∃z,c[i]?=some z/\z∈L:=by
  intro i k h2 hlt;cases kids with
  |nil=>unfold cP at h2;exact h2.elim
  |cons p ps=>rw[zbU]at h2;exact h p (tC ..) c i k h2 hlt
 unfold aX at hl;rw[if_neg h1,if_neg h2]at hl;split at hl
 ·exact hO kids h i k hl hlt
 ·split at hl
  ·exact zie (gO c kids) hH hl hlt
  ·split at hl
   ·obtain⟨j,h3,h4⟩:=hl;rcases sV (gO c kids _ _ h3)with e|e
    ·subst e;exact zie (gO c kids) hH h4 hlt
    ·exact hH _ _ h3 e
   ·split at hl
    ·rcases hl with hl|hl
     ·omega
     ·exact hH _ _ hl hlt
    ·omega
def FsT(kids:List aA)(j:Nat)(L:List Int):Prop:=∀(c:List Int)(i k:Nat),cC c kids i k->i<k->(∃z,c[i]?=some z/\z∈L)\/cC c (kids.drop j) i k
theorem zwV(kids:List aA):FsT kids 0 []:=fun _ _ _ h _=>.inr h
theorem zhb{kids:List aA}{j:Nat}{c:List Int}{i k:Nat}(hj:j<kids.length)(h:cC c (kids.drop j) i k):∃m,aX c kids[j] i m/\cC c (kids.drop (j+1)) m k:=by rw[tc hj,bV]at h;exact h
theorem qu{kids:List aA}{j:Nat}{L M:List Int}(hj:j<kids.length)(h:FsT kids j L)(hL:∀z∈L,z∈M)(h1:dL kids[j] M\/Nil kids[j]\/zcO (kids.drop (j+1))):FsT kids (j+1) M:=fun c i k hl hlt=>by
 rcases h c i k hl hlt with ⟨z,h2,h3⟩|h2
 ·exact .inl ⟨z,h2,hL z h3⟩
 ·obtain⟨m,h3,h4⟩:=zhb hj h2;rcases sV (kC c _ _ _ h3)with e|e
  ·subst e;exact .inr h4
  ·rcases h1 with h1|h1|h1
   ·exact .inl (h1 c i m h3 e)
   ·exact absurd h3 (h1 _ _ _)
   ·exact absurd h4 (h1 _ _ _)
theorem qt{kids:List aA}{j:Nat}{L M:List Int}(hj:j<kids.length)(h:FsT kids j L)(hL:∀z∈L,z∈M)(h1:dL kids[j] M\/Nil kids[j]\/zcO (kids.drop (j+1)))(h0:Ful kids[j])(op:Int)(cls:List Int)(ho:op=2):dL (.mk op cls kids) M:=fun c i k hl hlt=>by
 subst ho;rw[ziL]at hl;rcases h c i k hl hlt with ⟨z,h2,h3⟩|h2
 ·exact⟨z,h2,hL z h3⟩
 ·obtain⟨m,h3,h4⟩:=zhb hj h2;rcases sV (kC c _ _ _ h3)with e|e
  ·subst e;exact absurd h3 (h0 _ _)
  ·rcases h1 with h1|h1|h1
   ·exact h1 c i m h3 e
   ·exact absurd h3 (h1 _ _ _)
   ·exact absurd h4 (h1 _ _ _)
theorem zrk{kids:List aA}{L:List Int}(h:FsT kids kids.length L)(op:Int)(cls:List Int)(ho:op=2):dL (.mk op cls kids) L:=fun c i k hl hlt=>by
 subst ho;rw[ziL]at hl;rcases h c i k hl hlt with h2|h2
 ·exact h2
 ·rw[List.drop_length,cd]at h2;omega
theorem ziC{ps:List aA}{j:Nat}(hj:j<ps.length)(h:Nil ps[j]):zcO ps:=fun c i k hl=>by rw[<-List.take_append_drop j ps,lH]at hl;obtain⟨m,_,h2⟩:=hl;obtain⟨q,h3,_⟩:=zhb hj h2;exact h _ _ _ h3
theorem zqO(kids:List aA):Nil (.mk 1 [] kids):=fun c i k h=>by unfold aX at h;rw[if_pos rfl]at h;obtain⟨_,z,_,h2⟩:=h;cases h2
theorem znC{cls:List Int}{kids:List aA}(h:zcO kids):Nil (.mk 2 cls kids):=fun c i k hl=>by rw[ziL]at hl;exact h _ _ _ hl
theorem zuK{cls:List Int}{kids:List aA}(h:∀p∈kids,Nil p):Nil (.mk 3 cls kids):=fun c i k hl=>by
 rw[zsC]at hl;revert i k
 induction kids with
 |nil=>intro i k h;unfold cr at h;exact h
 |cons p ps ih=>
  intro i k h2;unfold cr at h2;rcases h2 with h2|h2
  ·exact h p (tC ..) _ _ _ h2
  ·exact ih (fun q hq=>h q (tO _ hq)) i k h2
theorem znD{cls:List Int}{p:aA}{ps:List aA}(h:Nil p):Nil (.mk 5 cls (p::ps)):=fun c i k hl=>by rw[zsB]at hl;obtain⟨_,h1,_⟩:=hl;exact h _ _ _ h1
mutual
theorem oK(c:List Int):∀(p:aA)(i:Nat),aX c p i i->aX [] p 0 0
 |.mk op cls kids,i,h=>by
  have H:=znT c kids;have HL:=gO c kids;unfold aX at h⊢;split at h
  ·omega
  ·rename_i e;rw[if_neg e];split at h
   ·rename_i e;rw[if_pos e];exact zeH c kids i h
   ·rename_i e;rw[if_neg e];split at h
    ·rename_i e;rw[if_pos e];exact zeJ c kids i h
    ·rename_i e;rw[if_neg e];split at h
     ·rename_i e;rw[if_pos e];exact .refl _
     ·rename_i e;rw[if_neg e];split at h
      ·rename_i e;rw[if_pos e];obtain⟨j,h1,h2⟩:=h;have h3:=HL _ _ h1;have h4:=dI HL h2;obtain rfl:j=i:=by omega
       exact⟨0,H _ h1,.refl _⟩
      ·rename_i e;rw[if_neg e];split at h
       ·rename_i e;rw[if_pos e];exact .inl rfl
       ·rename_i e;rw[if_neg e]
theorem zeH(c:List Int):∀(ps:List aA)(i:Nat),cC c ps i i->cC [] ps 0 0
 |[],i,h=>by rw[cd]
 |p::ps,i,h=>by
  rw[bV]at h⊢;obtain⟨j,h1,h2⟩:=h;have h3:=kC c p _ _ h1;have h4:=lG c ps _ _ h2;obtain rfl:j=i:=by omega
  exact⟨0,oK c p _ h1,zeH c ps _ h2⟩
theorem zeJ(c:List Int):∀(ps:List aA)(i:Nat),cr c ps i i->cr [] ps 0 0
 |[],i,h=>by unfold cr at h;exact h.elim
 |p::ps,i,h=>by
  unfold cr at h⊢;rcases h with h|h
  ·exact .inl (oK c p i h)
  ·exact .inr (zeJ c ps i h)
theorem znT(c:List Int):∀(ps:List aA)(i:Nat),cP c ps i i->cP [] ps 0 0
 |[],i,h=>by unfold cP at h;exact h.elim
 |p::ps,i,h=>by unfold cP at h⊢;exact oK c p i h
end
theorem zuZ{p:aA}(h:¬aX [] p 0 0):Ful p:=fun c i hl=>h (oK c p i hl)
end Pt
end
section
open Go.RowKit
namespace Pt
def BlQ(w:sD)(A:Prop)(e:tJ)(w':sD):Prop:=∃b:Bool,e=.returned (.bool b)/\(b=false->A)/\sE w.heap.size w w'
def KdQ(w:sD)(ko:Option Addr)(kn:Nat)(f:FuncId)(Q:Nat->sD->tJ->sD->Prop):Prop:=∀j,j<kn->∃b o u0 u1 u2,ko=some ⟨b,o,none⟩/\b<w.heap.size/\w.cell? ⟨b,o+j*3,none⟩=some u0/\w.cell? ⟨b,o+j*3+1,none⟩=some u1/\w.cell? ⟨b,o+j*3+2,none⟩=some u2/\∀W,sE w.heap.size w W->sJ Tryz.prog f #[.agg #[u0,u1,u2]] W (Q j W)
theorem KdQ.below{w w':sD}{ko:Option Addr}{kn:Nat}{f:FuncId}{Q:Nat->sD->tJ->sD->Prop}(h:KdQ w ko kn f Q)(hb:sE w.heap.size w w'):KdQ w' ko kn f Q:=fun j hj=>by obtain⟨b,o,u0,u1,u2,h1,h2,q0,q1,q2,hq⟩:=h j hj;have hc:∀k v,w.cell? ⟨b,k,none⟩=some v->w'.cell? ⟨b,k,none⟩=some v:=fun k v hk=>(hb.cell (p:=⟨b,k,none⟩) h2).trans hk;exact⟨b,o,u0,u1,u2,h1,tf h2 hb.size,hc _ _ q0,hc _ _ q1,hc _ _ q2,fun W hW=>hq W (hb.trans (hW.mono hb.size))⟩
set_option maxRecDepth 100000 in
theorem ziv(ko:Option Addr)(kn kc:Nat)(M:Nat->Prop)(w:sD)(hk9:kn<=1000000)(HK:ae (KdQ w ko kn 168 fun j W=>BlQ W (M j))):
  sJ Tryz.prog 169 #[.slice ko kn kc] w (BlQ w (∃j,j<kn/\M j)):=by
 go_enter Tryz.func169,Tryz.ntmps169;go_wp2;go_loopw [3] (fun y wr=>∃i:Nat,y=.int .i64 i/\i<=kn/\ae (sE w.heap.size w wr)) (fun y _=>kn-(sL y).toNat)
 case atStart=>exact⟨0,rfl,sI _,aa (sT _ _)⟩
 case round=>
  obtain⟨i,rfl,hi,HB⟩:=hrel;by_cases hlt:i<kn
  ·have i0:(0:Int)<=(i:Int):=by omega
   have i1:(i:Int)<(kn:Int):=by omega
   obtain⟨b,o,u0,u1,u2,rfl,hb,q0,q1,q2,hL⟩:=HK.o i hlt;have y0:wr.cell? ⟨b,o+i*3,none⟩=some u0:=(HB.o.cell (p:=⟨b,o+i*3,none⟩) hb).trans q0;have y1:wr.cell? ⟨b,o+i*3+1,none⟩=some u1:=(HB.o.cell (p:=⟨b,o+i*3+1,none⟩) hb).trans q1;have y2:wr.cell? ⟨b,o+i*3+2,none⟩=some u2:=(HB.o.cell (p:=⟨b,o+i*3+2,none⟩) hb).trans q2;have HL:=aa (hL wr HB.o);clear q0 q1 q2 hL;go_wp2_with fail;refine HL.o.mono ?_;rintro e w3 ⟨v,rfl,hv,hB3⟩;have HB3:=aa (HB.o.trans (hB3.mono HB.o.size));have HV:=aa hv;clear hB3 hv y0 y1 y2;cases v with
   |true=>
    go_wp2;go_roundw
    case rel=>exact⟨i+1,by go_num,by omega,HB3⟩
    case measure=>simp[sL];omega
   |false=>have HM:ae (∃j,j<kn/\M j):=aa ⟨i,hlt,HV.o rfl⟩;go_wp2;go_ret;exact⟨false,rfl,fun _=>HM.o,HB3.o⟩
  ·have i1:¬(i:Int)<(kn:Int):=by omega
   go_wp2;go_ret;exact⟨true,rfl,nofun,HB.o⟩
section
variable (lo ko:Option Addr) (ln lc kn kc:Nat) (w:sD)
theorem zuo(v2:sM)(cls:List Int)(kids:List aA)(hln:ln=cls.length):sJ Tryz.prog 168 #[.agg #[.int .i64 1,.slice lo ln lc,v2]] w (BlQ w (Nil (.mk 1 cls kids))):=by
 have HB:=aa (fun(o:Obj)=>af (w:=w) (o:=o));by_cases h:ln=0
 ·have HN:ae (Nil (.mk 1 cls kids)):=aa (by rw[tj.1 (hln.symm.trans h)];exact zqO _);subst h;clear hln;go_enter Tryz.func168,Tryz.ntmps168;go_wp2;go_ret;exact⟨_,rfl,fun _=>HN.o,HB.o _⟩
 ·have h1:(0:Int)<(ln:Int):=by omega
  clear hln;go_enter Tryz.func168,Tryz.ntmps168;go_wp2;go_ret;exact⟨_,rfl,fun h2=>absurd (of_decide_eq_false h2) (by omega),HB.o _⟩
theorem zun(M:Nat->Prop)(hk9:kn<=1000000)(HK:ae (KdQ w ko kn 168 fun j W=>BlQ W (M j))):sJ Tryz.prog 168 #[.agg #[.int .i64 2,.slice lo ln lc,.slice ko kn kc]] w (BlQ w (∃j,j<kn/\M j)):=by have HB:=aa (fun(o:Obj)=>af (w:=w) (o:=o));have HR:=aa (fun(o:Obj)=>ziv ko kn kc M (w.alloc o) hk9 (aa (HK.o.below (af (o:=o)))));clear hk9;go_enter Tryz.func168,Tryz.ntmps168;go_wp2_with fail;refine(HR.o _).mono ?_;rintro e w3 ⟨v,rfl,hv,hB3⟩;have HV:=aa hv;have HB3:=aa ((HB.o _).trans (hB3.mono (by simp)));clear hv hB3;go_wp2;go_ret;exact⟨v,rfl,HV.o,HB3.o⟩
theorem zum(M:Nat->Prop)(hk9:kn<=1000000)(HK:ae (KdQ w ko kn 168 fun j W=>BlQ W (M j))):sJ Tryz.prog 168 #[.agg #[.int .i64 3,.slice lo ln lc,.slice ko kn kc]] w (BlQ w (∀j,j<kn->M j)):=by
 go_enter Tryz.func168,Tryz.ntmps168;go_wp2;obtain⟨w1,hw1⟩:=aj (w.alloc (.cells #[.int .i64 3,.slice lo ln lc,.slice ko kn kc] 105));have hb1:sE w.heap.size w w1:=by rw[hw1];exact af
 have x2:w1.cell? ⟨w.heap.size,2,none⟩=some (.slice ko kn kc):=by rw[hw1];simp[go_sem]
 have hs1:w.heap.size<w1.heap.size:=by rw[hw1];simp
 rw[<-hw1];have HB1:=aa hb1;have HX2:=aa x2;clear hw1 hb1 x2;go_loopw [3] (fun y wr=>∃i:Nat,y=.int .i64 i/\i<=kn/\ae (∀j,j<i->M j)/\ae (sE w1.heap.size w1 wr)) (fun y _=>kn-(sL y).toNat)
 case atStart=>exact⟨0,rfl,sI _,aa (fun j h=>by omega),aa (sT _ _)⟩
 case round=>
  obtain⟨i,rfl,hi,HM,HB⟩:=hrel;have x2:wr.cell? ⟨w.heap.size,2,none⟩=some (.slice ko kn kc):=(HB.o.cell (p:=⟨w.heap.size,2,none⟩) hs1).trans HX2.o;have HBw:=aa (HB1.o.trans (HB.o.mono HB1.o.size));by_cases hlt:i<kn
  ·have i0:(0:Int)<=(i:Int):=by omega
   have i1:(i:Int)<(kn:Int):=by omega
   obtain⟨b,o,u0,u1,u2,rfl,hb,q0,q1,q2,hL⟩:=HK.o i hlt;have y0:wr.cell? ⟨b,o+i*3,none⟩=some u0:=(HBw.o.cell (p:=⟨b,o+i*3,none⟩) hb).trans q0;have y1:wr.cell? ⟨b,o+i*3+1,none⟩=some u1:=(HBw.o.cell (p:=⟨b,o+i*3+1,none⟩) hb).trans q1;have y2:wr.cell? ⟨b,o+i*3+2,none⟩=some u2:=(HBw.o.cell (p:=⟨b,o+i*3+2,none⟩) hb).trans q2;have HL:=aa (hL wr HBw.o);clear q0 q1 q2 hL;go_wp2_with fail;refine HL.o.mono ?_;rintro e w3 ⟨v,rfl,hv,hB3⟩;have HB3:=aa (HB.o.trans (hB3.mono HB.o.size));have HBw3:=aa (HB1.o.trans (HB3.o.mono HB1.o.size));have HV:=aa hv;clear hB3 hv y0 y1 y2 x2;cases v with
   |true=>go_wp2;go_ret;exact⟨true,rfl,nofun,HBw3.o⟩
   |false=>
    have HM2:ae (∀j,j<i+1->M j):=aa (fun j hj=>by
     rcases Nat.lt_or_ge j i with h|h
     ·exact HM.o j h
     ·obtain rfl:j=i:=by omega
      exact HV.o rfl)
    go_wp2;go_roundw
    case rel=>exact⟨i+1,by go_num,by omega,HM2,HB3⟩
    case measure=>simp[sL];omega
  ·have i1:¬(i:Int)<(kn:Int):=by omega
   have HQ:ae (∀j,j<kn->M j):=aa (fun j hj=>HM.o j (by omega));go_wp2;go_ret;exact⟨false,rfl,fun _=>HQ.o,HBw.o⟩
theorem zul(M:Nat->Prop)(hk0:0<kn)(HK:ae (KdQ w ko kn 168 fun j W=>BlQ W (M j))):sJ Tryz.prog 168 #[.agg #[.int .i64 5,.slice lo ln lc,.slice ko kn kc]] w (BlQ w (M 0)):=by
 have k0:(0:Int)<(kn:Int):=by omega
 obtain⟨b,o,u0,u1,u2,rfl,hb,q0,q1,q2,hL⟩:=HK.o 0 hk0;rw[uf,ug]at q0 q1 q2;have HB1:=aa (fun(o:Obj)=>af (w:=w) (o:=o));have y0:=fun(o1:Obj)=>((HB1.o o1).cell (p:=⟨b,o,none⟩) hb).trans q0;have y1:=fun(o1:Obj)=>((HB1.o o1).cell (p:=⟨b,o+1,none⟩) hb).trans q1;have y2:=fun(o1:Obj)=>((HB1.o o1).cell (p:=⟨b,o+2,none⟩) hb).trans q2;have HL:=aa (fun(o1:Obj)=>hL (w.alloc o1) (HB1.o o1));clear q0 q1 q2 hL HK;go_enter Tryz.func168,Tryz.ntmps168;go_wp2_with fail;refine(HL.o _).mono ?_;rintro e w3 ⟨v,rfl,hv,hB3⟩;have HV:=aa hv;have HB3:=aa ((HB1.o _).trans (hB3.mono (by simp)));clear hv hB3 y0 y1 y2;go_wp2;go_ret;exact⟨v,rfl,HV.o,HB3.o⟩
theorem zuk(v1 v2:sM)(op:Int)(A:Prop)(h1:op≠1)(h2:op≠2)(h3:op≠3)(h5:op≠5):sJ Tryz.prog 168 #[.agg #[.int .i64 op,v1,v2]] w (BlQ w A):=by have HB:=aa (fun(o:Obj)=>af (w:=w) (o:=o));have e1:(op==1)=false:=beq_eq_false_iff_ne.2 h1;have e2:(op==2)=false:=beq_eq_false_iff_ne.2 h2;have e3:(op==3)=false:=beq_eq_false_iff_ne.2 h3;have e5:(op==5)=false:=beq_eq_false_iff_ne.2 h5;clear h1 h2 h3 h5;go_enter Tryz.func168,Tryz.ntmps168;go_wp2;go_ret;exact⟨true,rfl,nofun,HB.o _⟩
end
theorem zgW{w:sD}{kids:List aA}{ko:Option Addr}{f:FuncId}{Q:aA->sD->tJ->sD->Prop}(hk:gA w kids ko 0)(h:∀p∈kids,∀(v0 v1 v2:sM)(W:sD),cv W p v0 v1 v2->sJ Tryz.prog f #[.agg #[v0,v1,v2]] W (Q p W)):KdQ w ko kids.length f fun j W=>Q (kids.getD j (.mk 0 [] [])) W:=fun j hj=>by
 obtain⟨b,o,h1,h2,u0,u1,u2,q0,q1,q2,hq⟩:=gA.at kids ko 0 j _ hk (sH hj);rw[tL]at q0 q1 q2;have e:kids.getD j (.mk 0 [] [])=kids[j]:=by simp[tw,hj]
 refine⟨b,o,u0,u1,u2,h1,h2,q0,q1,q2,fun W hW=>?_⟩;simp only[e];exact h _ (sO hj) u0 u1 u2 W (cv.below hW _ _ _ _ hq)
theorem lM{kids:List aA}{j:Nat}(hj:j<kids.length):kids.getD j (.mk 0 [] [])=kids[j]:=by simp[tw,hj]
theorem pE:∀p:aA,kg p->∀(v0 v1 v2:sM)(w:sD),cv w p v0 v1 v2->sJ Tryz.prog 168 #[.agg #[v0,v1,v2]] w (BlQ w (Nil p)):=by
 refine aA.ind fun op cls kids ih hO v0 v1 v2 w hP=>?_;unfold cv at hP;unfold kg at hO;obtain⟨rfl,⟨lo,lc,rfl,hl1,hl2⟩,ko,kc,rfl,hk1,hk2,_⟩:=hP;obtain⟨h1,hOK⟩:=hO;have HK:=aa (zgW hk1 (fun p hp u0 u1 u2 W hW=>ih p hp (hOK.mem hp) u0 u1 u2 W hW));have hm:∀{A B:Prop} {f:FuncId} {args:Array sM},(A->B)->sJ Tryz.prog f args w (BlQ w A)->sJ Tryz.prog f args w (BlQ w B):=fun hab hc=>hc.mono fun e w' ⟨b,h1,h2,h3⟩=>⟨b,h1,fun h=>hab (h2 h),h3⟩;by_cases o1:op=1
 ·subst o1;exact zuo lo cls.length lc w _ cls kids rfl
 by_cases o2:op=2
 ·subst o2;refine hm ?_ (zun lo ko cls.length lc kids.length kc w _ hk2 HK);rintro ⟨j,hj,h⟩;simp only[lM hj]at h;exact znC (ziC hj h)
 by_cases o3:op=3
 ·subst o3;refine hm ?_ (zum lo ko cls.length lc kids.length kc w _ hk2 HK);intro h;refine zuK fun p hp=>?_;obtain⟨j,hj,rfl⟩:=List.getElem_of_mem hp;have:=h j hj;simp only[lM hj]at this;exact this
 by_cases o5:op=5
 ·subst o5;have hk0:0<kids.length:=by unfold OkN at h1;rcases h1 with ⟨h1,_⟩|⟨_,h1⟩<;>omega
  refine hm ?_ (zul lo ko cls.length lc kids.length kc w _ hk0 HK);intro h;cases kids with
  |nil=>simp at hk0
  |cons p ps=>exact znD h
 ·exact zuk w _ _ op _ o1 o2 o3 o5
theorem znk(ps:List aA)(hO:nS ps)(ko:Option Addr)(kc:Nat)(w:sD)(hk:gA w ps ko 0)(h9:ps.length<=1000000):sJ Tryz.prog 169 #[.slice ko ps.length kc] w (BlQ w (zcO ps)):=by have HK:=aa (zgW hk (fun p hp u0 u1 u2 W hW=>pE p (hO.mem hp) u0 u1 u2 W hW));refine(ziv ko ps.length kc _ w h9 HK).mono ?_;rintro e w' ⟨b,h1,h2,h3⟩;refine⟨b,h1,fun h=>?_,h3⟩;obtain⟨j,hj,h4⟩:=h2 h;simp only[lM hj]at h4;exact ziC hj h4
end Pt
end
section
namespace Pt
def znh:List Int->Int->Bool
 |[],_=>true
 |x::l,b=>decide (b<x)&&(decide (x<2147483647)&&znh l x)
theorem ou:∀(l:List Int)(b:Int),znh l b=true->∀(k:Nat)(z:Int),l[k]?=some z->b<z/\z<2147483647/\∀(y:Int),l[k+1]?=some y->z<y
 |[],_,_,k,z,hk=>by simp at hk
 |x::l,b,h,k,z,hk=>by
  simp only[znh,ta,decide_eq_true_eq]at h;obtain⟨h1,h2,h3⟩:=h;cases k with
  |zero=>cases hk;refine⟨h1,h2,fun y hy=>?_⟩;rw[tk]at hy;exact(ou l x h3 0 y hy).1
  |succ k=>rw[tk]at hk;obtain⟨q1,q2,q3⟩:=ou l x h3 k z hk;refine⟨by omega,q2,fun y hy=>q3 y ?_⟩;rwa [tk]at hy
def okN(op:Int)(cls:List Int)(n:Nat):Bool:=
 (decide (op=1)&&(uj n 0&&znh cls (-1)))||(cls.isEmpty&&((decide (op=0)&&uj n 0)||((decide (op=2)||decide (op=3))&&uk 2 n)||((decide (op=4)||decide (op=5)||decide (op=6))&&uj n 1)))
mutual
def okP:aA->Bool
 |.mk op cls kids=>okN op cls kids.length&&okL kids
def okL:List aA->Bool
 |[]=>true
 |p::ps=>okP p&&okL ps
end
theorem zqG{cls:List Int}(h:znh cls (-1)=true):Rs cls:=fun i z hz=>by obtain⟨h1,h2,_⟩:=ou cls (-1) h i z hz;refine⟨by omega,h2,fun y hi hy=>?_⟩;obtain⟨_,_,h3⟩:=ou cls (-1) h (i-1) y hy;exact h3 z (by rwa [Nat.sub_add_cancel hi])
theorem zkI{op:Int}{cls:List Int}{n:Nat}(h:okN op cls n=true):OkN op cls n:=by
 unfold okN at h;simp only[Bool.or_eq_true,ta,decide_eq_true_eq,Nat.ble_eq,List.isEmpty_iff]at h;rcases h with ⟨h1,h2,h3⟩|⟨h1,h2⟩
 ·exact .inl ⟨h1,sP h2,zqG h3⟩
 ·refine .inr ⟨h1,?_⟩;rcases h2 with (⟨h2,h3⟩|⟨h2|h2,h3⟩)|⟨(h2|h2)|h2,h3⟩
  ·exact .inl ⟨h2,sP h3⟩
  ·exact .inr (.inl ⟨h2,h3⟩)
  ·exact .inr (.inr (.inl ⟨h2,h3⟩))
  ·exact .inr (.inr (.inr (.inl ⟨h2,sP h3⟩)))
  ·exact .inr (.inr (.inr (.inr (.inl ⟨h2,sP h3⟩))))
  ·exact .inr (.inr (.inr (.inr (.inr ⟨h2,sP h3⟩))))
mutual
theorem mF:∀p:aA,okP p=true->kg p
 |.mk op cls kids,h=>by unfold okP at h;rw[ta]at h;unfold kg;exact⟨zkI h.1,zap kids h.2⟩
theorem zap:∀ps:List aA,okL ps=true->nS ps
 |[],_=>by unfold nS;trivial
 |p::ps,h=>by unfold okL at h;rw[ta]at h;unfold nS;exact⟨mF p h.1,zap ps h.2⟩
end
def okR(r:Rl):Bool:=okP r.left&&(okP r.right&&(uk (gw r.left) 2048&&uk (gw r.right) 2048))
theorem zkH{rs:List Rl}(h:(rs.all okR)=true):∀r∈rs,zhD r:=fun r hr=>by have h1:=List.all_eq_true.1 h r hr;unfold okR at h1;simp only[ta,Nat.ble_eq]at h1;exact⟨mF _ h1.1,mF _ h1.2.1,h1.2.2.1,h1.2.2.2⟩
end Pt
end
end Go.Proofs.YtbbapnpdfcgjnaaGreatDoor
