/- PtFun1, PtNone, PtBoth, PtBeh, PtMore, PtRd, PtLead, PtLead2, SdMath, PtGood, PtChk, PtSE, PtEn, PtAp: parts of the proof, joined. -/
import Derived.Deep.AppendLies
import Derived.WalkSpells
import Derived.WalkLawsBesides
import Derived.BigQuiet
import Derived.Test.YtbbapnpdfcgjnaaGreatDoorEZz
import Derived.Test.YtbbapnpdfcgjnaaGreatDoorEPtMath
import Derived.Test.YtbbapnpdfcgjnaaGreatDoorEMix
open Go renaming World->sR, Calls->sX, Value->ta, wpList_append_lies->tE, info_parts->tW, cell_of_row->ue, Ending->uj, TypeId->um
open Go.RowKit renaming Below->sS, intOf->sW
open List renaming getElem?_eq_getElem->sT, getElem?_eq_some_iff->sY, getElem_mem->tf, getElem?_take_of_lt->tp, take_succ_eq_append_getElem->tz, exists_mem_of_length_pos->tB, mem_map->tC, mem_cons_self->tF, ext_getElem?->tG, getElem?_replicate->tJ, take_length->tM, length_eq_zero_iff->tN, take_of_length_le->tO, length_map->tP, mem_cons_of_mem->tR, getD->tS, take_succ_cons->tU, mem_singleton->tY, length_append->t6, length_take->ua, length_drop->ud, mem_append->ug, map_append->uh
open Nat renaming zero_le->sU, div_le_div_right->sV, le_trans->tc, le_of_lt->tg, lt_irrefl->tq, eq_or_lt_of_le->tt, lt_succ_of_lt->tw, pow_lt_pow_right->tA, le_refl->tI, zero_testBit->tL, add_sub_cancel'->tV, lt_of_lt_of_le->tX, lt_trans->t7, zero_add->t8, mod_lt->ui
open Go.NoPanic renaming normal->sZ
open Go.IntKind renaming signed->td, wrap->tk, bits->tn, i64->tu, u64->tQ
open And renaming intro->te
open Int renaming tdiv_eq_ediv_of_nonneg->ti, tmod_eq_emod_of_nonneg->tD
open Go.World renaming cell?_of_block->tj, ownsRow_nil->tH, news_of_block->tT, grownBy->uk
open Go.RowKit.Below renaming refl->tr, heap_alloc->tK
set_option maxHeartbeats 64000000
namespace Go.Proofs.YtbbapnpdfcgjnaaGreatDoor
section
open Go.RowKit
namespace Pt
def us(m:Nat)(r:Nat->Nat):List ta:=(List.range m).map fun j=>.int .u64 (r j)
theorem fy(m:Nat)(r:Nat->Nat)(j:Nat)(h:j<m):(us m r)[j]?=some (.int .u64 (r j)):=by simp[us,h]
theorem zsC(m:Nat)(r:Nat->Nat)(j z:Nat):(us m r).set j (.int .u64 z)=us m (fun x=>if x=j then z else r x):=by
 apply tG
 intro i;rw[List.getElem?_set]
 by_cases h:j=i
 ·subst h
  by_cases hj:j<m
  ·simp[us,hj]
  ·simp[us,hj]
 ·rw[if_neg h]
  by_cases hi:i<m
  ·rw[fy m r i hi,fy m _ i hi,if_neg (fun e=>h e.symm)]
  ·simp[us,hi]
theorem kE{m:Nat}{r s:Nat->Nat}(h:∀j,j<m->r j=s j):us m r=us m s:=by
 apply tG
 intro i
 by_cases hi:i<m
 ·rw[fy m r i hi,fy m s i hi,h i hi]
 ·simp[us,hi]
theorem cell_row(w:sR)(b j:Nat)(l:List ta)(t:um)(v:ta)(h:w.heap[b]?=some (.cells l.toArray t (0,0)))(hv:l[j]?=some v):w.cell? ⟨b,j,none⟩=some v:=by
 rw[ue w b j l.toArray t (0,0) h]
 simpa using hv
theorem set_row(w:sR)(b j:Nat)(l:List ta)(t:um)(u:ta)(h:w.heap[b]?=some (.cells l.toArray t (0,0))):(w.setCell ⟨b,j,none⟩ u).heap[b]?=some (.cells (l.set j u).toArray t (0,0)):=by
 rw[heap_setCell_same w b j _ t u h]
 simp
theorem frozen_row{w:sR}{b:Nat}{l:Array ta}{t:um}(h:w.heap[b]?=some (.cells l t (0,0)))(j:Nat):w.frozen? ⟨b,j,none⟩=false:=by
 unfold sR.frozen?
 simp only[h]
 simp
def Rw(w:sR)(b m:Nat)(r:Nat->Nat):Prop:=w.heap[b]?=some (.cells (us m r).toArray 159 (0,0))
theorem zvZ(x j:Nat)(hx:x<18446744073709551616):(bits BinOp.and tQ ((x:Int) / 2 ^ j) 1==1)=x.testBit j:=by
 have e:((x:Int) / 2 ^ j)=((x / 2 ^ j:Nat):Int):=by simp
 have h:=u64_and_nat (x / 2 ^ j) 1 (Nat.lt_of_le_of_lt (Nat.div_le_self _ _) hx) (by decide)
 rw[e];rw[show(1:Int)=((1:Nat):Int)from rfl,h]
 rw[Nat.testBit_eq_decide_div_mod_eq,Nat.and_one_is_mod]
 by_cases hh:x / 2 ^ j%2=1
 ·rw[hh];rfl
 ·have:x / 2 ^ j%2=0:=by omega
  rw[this];rfl
theorem oh(b m k:Nat)(r:Nat->Nat)(w:sR)(hc:Rw w b m r)(hk:k / 64<m)(hb:r (k / 64)<18446744073709551616)(hm:k<1000000):
  sX Tryz.prog 150 #[.slice (some ⟨b,0,none⟩) m m,.int .i64 k] w fun e w'=>e=.returned (.bool (bt r k))/\w'=w:=by
 have c1:=cell_row w b (k / 64) _ _ _ hc (fy m r _ hk);have e1:(k:Int).tdiv 64=((k / 64:Nat):Int):=by rw[ti (by omega)];omega
 have e2:tu.wrap ((k / 64:Nat):Int)=((k / 64:Nat):Int):=by unfold tk tn td;simp;omega
 have e3:(k:Int).tmod 64=((k%64:Nat):Int):=by rw[tD (by omega)];omega
 have e4:tu.wrap ((k%64:Nat):Int)=((k%64:Nat):Int):=by unfold tk tn td;simp;omega
 have i1:(0:Int)<=((k / 64:Nat):Int):=by omega
 have i2:((k / 64:Nat):Int)<(m:Int):=by omega
 have HB:=aa (zvZ (r (k / 64)) (k%64) hb);clear hc hb;go_enter Tryz.func150,Tryz.ntmps150;go_wp2;go_ret;exact⟨by rw[HB.o];rfl,rfl⟩
structure dm(b:Nat)(w w':sR):Prop where
 os:w'.os=w.os
 tape:w'.tape=w.tape
 output:w'.output=w.output
 size:w'.heap.size=w.heap.size
 block:∀k,k≠b->w'.heap[k]?=w.heap[k]?
theorem dm.refl(b:Nat)(w:sR):dm b w w:=⟨rfl,rfl,rfl,rfl,fun _ _=>rfl⟩
theorem dm.trans{b:Nat}{w v u:sR}(h:dm b w v)(k:dm b v u):dm b w u:=⟨k.os.trans h.os,k.tape.trans h.tape,k.output.trans h.output,k.size.trans h.size,fun i hi=>(k.block i hi).trans (h.block i hi)⟩
theorem dm.set(b j:Nat)(w:sR)(v:ta):dm b w (w.setCell ⟨b,j,none⟩ v):=⟨rfl,rfl,rfl,by simp,fun k hk=>heap_setCell_other w _ k v hk⟩
theorem dm.drew(b k:Nat)(w:sR):dm b w (w.drewN k):=⟨rfl,rfl,rfl,rfl,fun _ _=>rfl⟩
theorem dm.below{b B:Nat}{w w':sR}(h:dm b w w')(hb:B<=b):sS B w w':=⟨h.os,h.tape,h.output,Nat.le_of_eq h.size.symm,fun k hk=>h.block k (by omega)⟩
theorem Rw.set{w:sR}{b m:Nat}{r:Nat->Nat}(h:Rw w b m r)(j z:Nat):Rw (w.setCell ⟨b,j,none⟩ (.int .u64 z)) b m (fun x=>if x=j then z else r x):=by
 unfold Rw at h⊢;rw[set_row w b j _ _ _ h,zsC]
theorem zwr(x j:Nat)(hx:x<18446744073709551616)(hj:j<64):bits BinOp.or tQ (x:Int) (tQ.wrap (2 ^ j))=((x|||2 ^ j:Nat):Int):=by
 have h1:2 ^ j<18446744073709551616:=tA (by decide) hj
 have e:tQ.wrap (2 ^ j)=((2 ^ j:Nat):Int):=by
  have:(2:Int) ^ j=((2 ^ j:Nat):Int):=by simp
  rw[this];rw[IntKind.wrap_u64]
  generalize 2 ^ j=y at h1⊢
  omega
 rw[e,u64_or_nat x (2 ^ j) hx h1]
theorem zho(b m k:Nat)(r:Nat->Nat)(w:sR)(hc:Rw w b m r)(hk:k / 64<m)(hb:r (k / 64)<18446744073709551616)(hm:k<1000000):
  sX Tryz.prog 173 #[.slice (some ⟨b,0,none⟩) m m,.int .i64 k] w fun e w'=>e=.returned (.tuple #[])/\Rw w' b m (stR r k)/\dm b w w':=by
 have c1:=cell_row w b (k / 64) _ _ _ hc (fy m r _ hk);have f1:=frozen_row hc (k / 64);have e1:(k:Int).tdiv 64=((k / 64:Nat):Int):=by rw[ti (by omega)];omega
 have e2:tu.wrap ((k / 64:Nat):Int)=((k / 64:Nat):Int):=by unfold tk tn td;simp;omega
 have e3:(k:Int).tmod 64=((k%64:Nat):Int):=by rw[tD (by omega)];omega
 have e4:tu.wrap ((k%64:Nat):Int)=((k%64:Nat):Int):=by unfold tk tn td;simp;omega
 have i1:(0:Int)<=((k / 64:Nat):Int):=by omega
 have i2:((k / 64:Nat):Int)<(m:Int):=by omega
 have HO:=aa (zwr (r (k / 64)) (k%64) hb (ui _ (by decide)))
 have HC:=aa hc;clear hb hc;go_enter Tryz.func173,Tryz.ntmps173;go_wp2;refine bodyPost_end (results_none rfl _ _ _) rfl ?_;refine⟨rfl,?_,dm.set _ _ _ _⟩;rw[HO.o];have:=HC.o.set (k / 64) (r (k / 64)|||2 ^ (k%64))
 refine Eq.trans this ?_;rw[kE (s:=stR r k)];intro j _;unfold stR
 by_cases h:j=k / 64
 ·rw[if_pos h,if_pos h,h]
 ·rw[if_neg h,if_neg h]
theorem oB(b d m:Nat)(r o:Nat->Nat)(w:sR)(hc:Rw w b m r)(hd:Rw w d m o)(hb:∀j,j<m->r j<18446744073709551616)(ho:∀j,j<m->o j<18446744073709551616)(hm:m<1000000):
  sX Tryz.prog 187 #[.slice (some ⟨b,0,none⟩) m m,.slice (some ⟨d,0,none⟩) m m] w fun e w'=>e=.returned (.tuple #[])/\Rw w' b m (nD r o)/\dm b w w':=by
 have HB:=aa hb;have HO:=aa ho;have HC:=aa hc;have HD:=aa hd;clear hb ho hc hd;go_enter Tryz.func187,Tryz.ntmps187;go_wp2;go_loopw [4] (fun y wr=>∃j:Nat,y=.int .i64 j/\j<=m/\ae (Rw wr b m (fun x=>if x<j then r x|||o x else r x))/\ae (dm b w wr)) (fun y _=>m-(sW y).toNat)
 case atStart=>exact⟨0,rfl,sU _,by simpa using HC,aa (dm.refl _ _)⟩
 case round=>
  obtain⟨j,rfl,hj,HR,HW⟩:=hrel
  by_cases hlt:j<m
  ·have c1:wr.cell? ⟨b,j,none⟩=some (.int .u64 (r j)):=by
    have:=cell_row wr b j _ _ _ HR.o (fy m _ _ hlt)
    simpa using this
   have f1:=frozen_row HR.o j;have c2:wr.cell? ⟨d,j,none⟩=some (.int .u64 (o j)):=by
    by_cases e:d=b
    ·subst e
     have h1:=cell_row w d j _ _ _ HC.o (fy m _ _ hlt);have h2:=cell_row w d j _ _ _ HD.o (fy m _ _ hlt);rw[c1,<- h1,h2]
    ·have:=HW.o.block d e
     exact cell_row wr d j _ _ _ (this.trans HD.o) (fy m _ _ hlt)
   have i0:(0:Int)<=(j:Int):=by omega
   have i1:(j:Int)<(m:Int):=by omega
   have HE:=aa (u64_or_nat (r j) (o j) (HB.o j hlt) (HO.o j hlt));go_wp2_with fail;refine au [(0,true),(1,true),(2,true),(3,true),(4,true),(5,true),(6,true),(7,true),(8,true),(9,true),(10,true),(11,true),(12,false)] (fun w'=>w'.cell? ⟨b,j,none⟩=some (.int .u64 (r j))/\w'.cell? ⟨d,j,none⟩=some (.int .u64 (o j))) (fun j=>j==12) (by kernel_rfl) (by kernel_rfl) (fun j hj=>by have:=beq_iff_eq.1 hj;subst this;decide) rfl (by kernel_rfl) ⟨c1,c2⟩ ?_
   iterate 12 (refine ax ?_ rfl (by kernel_rfl) (fun w' hS=>?_) ?_;(rotate_left;(obtain⟨s1,s2⟩:=hS;go_simp;with_reducible rfl);rotate_left))
   refine av rfl (by kernel_rfl) fun KK hKK=>?_
   go_simp;refine hKK _ _ (fun h=>by cases h) ?_
   refine aS (sZ ?_);go_wp2;go_roundw
   case rel=>
    refine⟨j+1,by go_num,by omega,aa ?_,aa ?_⟩
    ·rw[HE.o]
     have:=HR.o.set j (r j|||o j)
     refine Eq.trans this ?_;rw[kE (s:=fun x=>if x<j+1 then r x|||o x else r x)]
     intro x _
     by_cases h:x=j
     ·subst h;simp
     ·by_cases h2:x<j
      ·simp[h,h2,tw h2]
      ·have:¬x<j+1:=by omega
       simp[h,h2,this]
    ·exact HW.o.trans ((dm.set b j wr _).trans (dm.drew b 1 _))
   case measure=>simp[sW];omega
  ·have i1:¬(j:Int)<(m:Int):=by omega
   go_wp2;refine bodyPost_end (results_none rfl _ _ _) rfl ?_;refine⟨rfl,?_,HW.o⟩;refine Eq.trans HR.o ?_;rw[kE (s:=nD r o)];intro x hx;rw[if_pos (by omega)]
   rfl
end Pt
end
section
open Go.RowKit
namespace Pt
theorem Tryz.infoRow:(Tryz.prog.info? 144).map (fun i=>(i.zero,i.size,i.bytes))=some (some (.slice none 0 0),1,24):=by kernel_rfl
theorem Tryz.infoU64:(Tryz.prog.info? 159).map (fun i=>(i.zero,i.size,i.bytes))=some (some (.int .u64 0),1,8):=by kernel_rfl
theorem Tryz.underRows:Tryz.prog.underlying 141=some (.slice 144):=by kernel_rfl
theorem Tryz.underRow:Tryz.prog.underlying 144=some (.slice 159):=by kernel_rfl
theorem zps(m:Nat):(madeCells (ta.int .u64 0).cells m)=(us m fun _=>0).toArray:=by
 apply Array.toList_inj.1
 rw[show(ta.int .u64 0).cells=#[ta.int .u64 0]from rfl,toList_madeCells_one]
 apply tG
 intro i
 by_cases hi:i<m
 ·rw[tJ];simp[us,hi]
 ·rw[tJ];simp[us,hi]
theorem zmm(n:Nat)(hn:n<=1000000)(W:sR):
  (Instr.makeSlice 144 (.int .i64 (n:Int)) (.int .i64 (n:Int))).run Tryz.prog W=.ok (.slice (some ⟨W.heap.size,0,none⟩) n n) (W.alloc (.cells (us n fun _=>0).toArray 159)):=by
 obtain⟨i,hi,hz,h1,h2⟩:=tW Tryz.infoU64;have h:=run_make (P:=Tryz.prog) W 144 159 i _ Tryz.underRow hi hz .i64 .i64 (n:Int) (n:Int) (by omega) (Int.le_refl _) (by rw[h2];omega) (by omega)
 rw[h1,Nat.mul_one]at h;rw[<- zps]
 simpa using h
structure Mt(B:Nat)(w:sR)(g n m:Nat)(bs:Nat->Nat)(W:Nat->Nat->Nat):Prop where
 o:∃cur,w.heap[g]?=some (.cells cur 144 (0,0))/\∀i,i<n->cur[i]?=some (.slice (some ⟨bs i,0,none⟩) m m)
 row:∀i,i<n->Rw w (bs i) m (W i)
 inj:∀i j,i<n->j<n->bs i=bs j->i=j
 low:∀i,i<n->B<=bs i
 lg:B<=g
 bd:∀i j,i<n->j<m->W i j<18446744073709551616
theorem Mt.cell{B:Nat}{w:sR}{g n m:Nat}{bs:Nat->Nat}{W:Nat->Nat->Nat}(h:Mt B w g n m bs W)(i:Nat)(hi:i<n):w.cell? ⟨g,i,none⟩=some (.slice (some ⟨bs i,0,none⟩) m m):=by
 obtain⟨cur,h1,h2⟩:=h.o;rw[ue w g i cur _ _ h1];exact h2 i hi
theorem Mt.keep{B:Nat}{w w':sR}{g n m:Nat}{bs:Nat->Nat}{W:Nat->Nat->Nat}(h:Mt B w g n m bs W)(e:∀b,(b=g\/∃i,i<n/\b=bs i)->w'.heap[b]?=w.heap[b]?):Mt B w' g n m bs W:=by
 obtain⟨cur,h1,h2⟩:=h.o;exact⟨⟨cur,(e g (.inl rfl)).trans h1,h2⟩,fun i hi=>(e _ (.inr ⟨i,hi,rfl⟩)).trans (h.row i hi),h.inj,h.low,h.lg,h.bd⟩
theorem ag{w:sR}{b:Nat}{o:Obj}(h:w.heap[b]?=some o):b<w.heap.size:=(Array.getElem?_eq_some_iff.1 h).1
theorem Mt.below{B:Nat}{w w':sR}{g n m:Nat}{bs:Nat->Nat}{W:Nat->Nat->Nat}(h:Mt B w g n m bs W)(hb:sS w.heap.size w w'):Mt B w' g n m bs W:=by
 refine h.keep fun b hx=>hb.block b ?_
 rcases hx with rfl|⟨i,hi,rfl⟩
 ·obtain⟨cur,h1,h2⟩:=h.o
  exact ag h1
 ·exact ag (h.row i hi)
theorem Mt.gne{B:Nat}{w:sR}{g n m:Nat}{bs:Nat->Nat}{W:Nat->Nat->Nat}(h:Mt B w g n m bs W)(i:Nat)(hi:i<n):bs i≠g:=fun e=>by
 obtain⟨cur,h1,h2⟩:=h.o;have h3:=h.row i hi;unfold Rw at h3;rw[e,h1]at h3
 cases h3
theorem Mt.set{B:Nat}{w w':sR}{g n m:Nat}{bs:Nat->Nat}{W:Nat->Nat->Nat}(h:Mt B w g n m bs W)(i:Nat)(hi:i<n){r:Nat->Nat}(hr:Rw w' (bs i) m r)(ho:dm (bs i) w w')(hb:∀j,j<m->r j<18446744073709551616):Mt B w' g n m bs (fun x=>if x=i then r else W x):=by
 obtain⟨cur,h1,h2⟩:=h.o;refine⟨⟨cur,(ho.block g (fun e=>h.gne i hi e.symm)).trans h1,h2⟩,fun k hk=>?_,h.inj,h.low,h.lg,fun k j hk hj=>?_⟩
 ·by_cases e:k=i
  ·subst e;rw[if_pos rfl];exact hr
  ·rw[if_neg e];exact(ho.block _ (fun e2=>e (h.inj k i hk hi e2))).trans (h.row k hk)
 ·by_cases e:k=i
  ·simp only[if_pos e];exact hb j hj
  ·simp only[if_neg e];exact h.bd k j hk hj
theorem Mt.congr{B:Nat}{w:sR}{g n m:Nat}{bs:Nat->Nat}{W V:Nat->Nat->Nat}(h:Mt B w g n m bs W)(e:∀i j,i<n->j<m->W i j=V i j):Mt B w g n m bs V:=⟨h.o,fun i hi=>by
 have:=h.row i hi;unfold Rw at this⊢;rw[this,kE (e i · hi)],h.inj,h.low,h.lg,fun i j hi hj=>by rw[<- e i j hi hj];exact h.bd i j hi hj⟩
theorem Mt.lower{B C:Nat}{w:sR}{g n m:Nat}{bs:Nat->Nat}{W:Nat->Nat->Nat}(h:Mt B w g n m bs W)(hc:C<=B):Mt C w g n m bs W:=⟨h.o,h.row,h.inj,fun i hi=>tc hc (h.low i hi),tc hc h.lg,h.bd⟩
structure Nn(w wr:sR)(v:ta)(i m:Nat)(bs:Nat->Nat)(xs:List ta):Prop where
 own:wr.ownsRow w.heap.size 144 1 v i xs
 get:∀k,k<i->xs[k]?=some (.slice (some ⟨bs k,0,none⟩) m m)
 row:∀k,k<i->Rw wr (bs k) m fun _=>0
 inj:∀k j,k<i->j<i->bs k=bs j->k=j
 low:∀k,k<i->w.heap.size<=bs k
 bl:sS w.heap.size w wr
theorem zww(w:sR)(o:Obj)(v:ta)(T:um):∀j u,[v][j]?=some u->((w.alloc o).alloc (.cells #[v] T)).cell? ((⟨w.heap.size+1,0,none⟩:Addr).add j)=some u:=by
 have h:=tT (cs:=#[v]) (heap_alloc_new (w.alloc o) (.cells #[v] T))
 simpa using h
theorem Nn.step{w wr w8:sR}{v:ta}{i m g8 c8:Nat}{bs:Nat->Nat}{xs:List ta}(h:Nn w wr v i m bs xs)
  (o8:w8.ownsRow w.heap.size 144 1 (.slice (some ⟨g8,0,none⟩) (i+1) c8) (i+1) (xs++[.slice (some ⟨wr.heap.size,0,none⟩) m m]))
  (gr:uk ((wr.alloc (.cells (us m fun _=>0).toArray 159)).alloc (.cells #[.slice (some ⟨wr.heap.size,0,none⟩) m m] 144)) w8 v.ownBlock):
  Nn w w8 (.slice (some ⟨g8,0,none⟩) (i+1) c8) (i+1) m (fun k=>if k=i then wr.heap.size else bs k) (xs++[.slice (some ⟨wr.heap.size,0,none⟩) m m]):=by
 have hs:=h.bl.size;have hx:xs.length=i:=by have:=h.own.1;omega
 have hv:∀b,v.ownBlock=some b->w.heap.size<=b/\b<wr.heap.size/\∃cur,wr.heap[b]?=some (.cells cur 144 (0,0)):=fun b hb=>by
  rcases h.own.2 with ⟨rfl,_⟩|⟨g,cap,cur,rfl,h2,h3,_⟩
  ·cases hb
  ·cases hb;exact⟨h2,ag h3,cur,h3⟩
 have old:∀b,b<wr.heap.size->v.ownBlock≠some b->w8.heap[b]?=wr.heap[b]? :=fun b hb hne=>by
  rw[gr.block b (by simp;omega) (fun e=>hne e.symm),tK _ _ b (by simp;omega),tK _ _ b hb]
 have new:w8.heap[wr.heap.size]?=some (.cells (us m fun _=>0).toArray 159 (0,0)):=by
  rw[gr.block wr.heap.size (by simp;omega) (fun e=>by have:=(hv _ e.symm).2.1;omega),tK _ _ wr.heap.size (by simp)]
  exact heap_alloc_new _ _
 have rows:∀k,k<i->v.ownBlock≠some (bs k):=fun k hk e=>by
  obtain⟨_,_,cur,h3⟩:=hv _ e;have h4:=h.row k hk;unfold Rw at h4;rw[h3]at h4
  cases h4
 have blt:∀k,k<i->bs k<wr.heap.size:=fun k hk=>ag (h.row k hk)
 refine⟨o8,fun k hk=>?_,fun k hk=>?_,fun k j hk hj=>?_,fun k hk=>?_,?_⟩
 ·by_cases e:k=i
  ·subst e;rw[if_pos rfl,List.getElem?_append_right (by omega),hx];simp
  ·rw[if_neg e,List.getElem?_append_left (by omega)];exact h.get k (by omega)
 ·by_cases e:k=i
  ·subst e;rw[if_pos rfl];exact new
  ·rw[if_neg e];exact(old _ (blt k (by omega)) (rows k (by omega))).trans (h.row k (by omega))
 ·by_cases e:k=i<;>by_cases e2:j=i
  ·omega
  ·rw[if_pos e,if_neg e2];intro e3;have:=blt j (by omega);omega
  ·rw[if_neg e,if_pos e2];intro e3;have:=blt k (by omega);omega
  ·rw[if_neg e,if_neg e2];exact h.inj k j (by omega) (by omega)
 ·by_cases e:k=i
  ·rw[if_pos e];exact hs
  ·rw[if_neg e];exact h.low k (by omega)
 ·refine h.bl.trans ⟨gr.os,gr.tape,gr.output,?_,fun b hb=>old b (by omega) (fun e=>by have:=(hv b e).1;omega)⟩
  have:=gr.size
  simp at this
  omega
theorem Nn.done{w wr:sR}{v:ta}{n m:Nat}{bs:Nat->Nat}{xs:List ta}(h:Nn w wr v n m bs xs)(hn:1<=n):∃g cap,v=.slice (some ⟨g,0,none⟩) n cap/\Mt w.heap.size wr g n m bs (fun _ _=>0):=by
 rcases h.own.2 with ⟨rfl,h1⟩|⟨g,cap,cur,rfl,h2,h3,h4,h5,h6,h7⟩
 ·omega
 ·refine⟨g,cap,rfl,⟨cur,h3,fun i hi=>?_⟩,h.row,h.inj,h.low,h2,fun _ _ _ _=>by omega⟩
  have h8:=h.get i hi;rw[<- h7,tp (by omega)]at h8
  simpa using h8
def MtQ(w:sR)(n m:Nat)(W:Nat->Nat->Nat)(e:uj)(w':sR):Prop:=∃g cap bs,e=.returned (.slice (some ⟨g,0,none⟩) n cap)/\Mt w.heap.size w' g n (m+1) bs W/\sS w.heap.size w w'
theorem ir(n m:Nat)(w:sR)(h1:1<=n)(hn:n<=100000)(hm:m=n / 64):sX Tryz.prog 172 #[.int .i64 n] w (MtQ w n m fun _ _=>0):=by
 have e1:(n:Int).tdiv 64=((n / 64:Nat):Int):=by rw[ti (by omega)];omega
 have e2:tu.wrap ((n / 64:Nat):Int)=((n / 64:Nat):Int):=by unfold tk tn td;simp;omega
 rw[<- hm]at e1 e2;have hml:m<=100000:=by omega
 clear hm;have M1:∀W:sR,(Instr.makeSlice 144 (.int .i64 ((m:Int)+1)) (.int .i64 ((m:Int)+1))).run Tryz.prog W=.ok (.slice (some ⟨W.heap.size,0,none⟩) (m+1) (m+1)) (W.alloc (.cells (us (m+1) fun _=>0).toArray 159)):=fun W=>zmm (m+1) (by omega) W
 obtain⟨i0,hi0,hz0,hz1,hz2⟩:=tW Tryz.infoRow;have HI:=aa (te hi0 (te hz0 (te hz1 hz2)));clear hi0 hz0 hz1 hz2;go_enter Tryz.func172,Tryz.ntmps172;go_wp2;go_loopw [3,4] (fun x y wr=>∃(i:Nat)(bs:Nat->Nat)(xs:List ta)(vo:Option Addr)(vc:Nat),x=.slice vo i vc/\y=.int .i64 i/\i<=n/\ae (Nn w wr (.slice vo i vc) i (m+1) bs xs)) (fun _ y _=>n-(sW y).toNat)
 case atStart=>exact⟨0,fun _=>0,[],none,0,rfl,rfl,sU _,aa ⟨tH _ _ _ _,fun k hk=>by omega,fun k hk=>by omega,fun k j hk=>by omega,fun k hk=>by omega,tr _ _⟩⟩
 case round=>
  obtain⟨i,bs,xs,vo,vc,rfl,rfl,hi,HN⟩:=hrel
  by_cases hlt:i<n
  ·have i1:(i:Int)<(n:Int):=by omega
   go_wp2_with (at_builtin;refine tE _ rfl _ _ 141 rfl w.heap.size 144 i0 (.slice none 0 0) 1 24 Tryz.underRows HI.o.1 HI.o.2.1 HI.o.2.2.1 HI.o.2.2.2 rfl (by decide) (.slice vo i vc) i xs rfl ((HN.o.own.alloc _).alloc _) ⟨wr.heap.size+1,0,none⟩ 1 1 [.slice (some ⟨wr.heap.size,0,none⟩) (m+1) (m+1)] rfl rfl (zww wr _ _ _) (fun u hu=>by simp at hu;rw[hu];rfl) (by decide) (by unfold maxLen;omega) (by omega) (by have:=HN.o.bl.size;simp;omega) (wr.heap.size+2) (by simp) ?_;intro g8 c8 w8 o8 gr8 hl8 hlt8;have HO8:=aa (HN.o.step o8 gr8);clear o8 gr8 hl8 hlt8)
   go_roundw
   case rel=>exact⟨i+1,_,_,_,_,rfl,by go_num,by omega,HO8⟩
   case measure=>simp[sW];omega
  ·have e:i=n:=by omega
   subst e;have i1:¬(i:Int)<(i:Int):=by omega
   obtain⟨g,cap,hv,hM⟩:=HN.o.done h1;have HM:=aa hM
   cases hv
   clear hM;go_wp2;go_ret;exact⟨g,_,bs,rfl,HM.o,HN.o.bl⟩
theorem nT(n m:Nat)(w:sR)(h1:1<=n)(hn:n<=100000)(hm:m=n / 64):sX Tryz.prog 174 #[.int .i64 n] w (MtQ w n m fun i=>stR (fun _=>0) i):=by
 have HN:=aa (ir n m w h1 hn hm);have HM:=aa hm;clear hm;go_enter Tryz.func174,Tryz.ntmps174;go_wp2_with fail;refine HN.o.mono ?_;rintro e w1 ⟨g,cap,bs,rfl,hM,hB⟩;have HT:=aa hM;have HB:=aa hB;clear hM hB HN;go_wp2;go_loopw [4] (fun y wr=>∃i:Nat,y=.int .i64 i/\i<=n/\ae (Mt w.heap.size wr g n (m+1) bs fun x=>if x<i then stR (fun _=>0) x else fun _=>0)/\ae (sS w.heap.size w wr)) (fun y _=>n-(sW y).toNat)
 case atStart=>exact⟨0,rfl,sU _,by simpa using HT,HB⟩
 case round=>
  obtain⟨i,rfl,hi,HR,HW⟩:=hrel
  by_cases hlt:i<n
  ·have i0:(0:Int)<=(i:Int):=by omega
   have i1:(i:Int)<(n:Int):=by omega
   have c1:=HR.o.cell i hlt;have hr:=HR.o.row i hlt
   simp only[tq,if_false]at hr
   have HS:=aa (zho (bs i) (m+1) i _ wr hr (by have:=HM.o;have:=sV (c:=64) (tg hlt);omega) (by decide) (by omega))
   clear hr;go_wp2_with fail;refine HS.o.mono ?_;rintro e w2 ⟨rfl,hr2,ho2⟩;have HR2:=aa (HR.o.set i hlt hr2 ho2 (fun j hj=>by unfold stR;split;rw[Nat.zero_or];exact tA (by decide) (ui _ (by decide));exact(by decide:(0:Nat)<18446744073709551616)))
   have HW2:=aa (HW.o.trans (ho2.below (HR.o.low i hlt)));clear hr2 ho2 HS;go_wp2;go_roundw
   case rel=>
    refine⟨i+1,by go_num,by omega,aa (HR2.o.congr fun x j hx hj=>?_),HW2⟩
    by_cases e:x=i
    ·subst e;simp
    ·by_cases e2:x<i
     ·simp[e,e2,tw e2]
     ·have:¬x<i+1:=by omega
      simp[e,e2,this]
   case measure=>simp[sW];omega
  ·have i1:¬(i:Int)<(n:Int):=by omega
   have HQ:=aa (HR.o.congr (V:=fun i=>stR (fun _=>0) i) fun x j hx hj=>by rw[if_pos (by omega)])
   go_wp2;go_ret;exact⟨g,cap,bs,rfl,HQ.o,HW.o⟩
end Pt
end
section
open Go.RowKit
namespace Pt
theorem pf{r o:Nat->Nat}{m:Nat}(h1:∀j,j<m->r j<18446744073709551616)(h2:∀j,j<m->o j<18446744073709551616)(j:Nat)(hj:j<m):nD r o j<18446744073709551616:=Nat.or_lt_two_pow (n:=64) (h1 j hj) (h2 j hj)
theorem qg(n m:Nat)(C D:Nat)(g h:Nat)(gc hc:Nat)(bs ds:Nat->Nat)(U V:Nat->Nat->Nat)(w:sR)(h1:1<=n)(hn:n<=100000)(hm:m=n / 64)(hg:Mt C w g n (m+1) bs U)(hh:Mt D w h n (m+1) ds V):
  sX Tryz.prog 176 #[.slice (some ⟨g,0,none⟩) n gc,.slice (some ⟨h,0,none⟩) n hc] w (MtQ w n m fun i=>nD (nD (fun _=>0) (U i)) (V i)):=by
 have HN:=aa (ir n m w h1 hn hm);have HG:=aa hg;have HH:=aa hh;have HM:=aa hm;clear hm hg hh;go_enter Tryz.func176,Tryz.ntmps176;go_wp2_with fail;refine HN.o.mono ?_;rintro e w1 ⟨k,cap,cs,rfl,hM,hB⟩;have HT:=aa hM;have HB:=aa hB;clear hM hB HN;go_wp2;go_loopw [6] (fun y wr=>∃i:Nat,y=.int .i64 i/\i<=n/\ae (Mt w.heap.size wr k n (m+1) cs fun x=>if x<i then nD (nD (fun _=>0) (U x)) (V x)else fun _=>0)/\ae (sS w.heap.size w wr)) (fun y _=>n-(sW y).toNat)
 case atStart=>exact⟨0,rfl,sU _,by simpa using HT,HB⟩
 case round=>
  obtain⟨i,rfl,hi,HR,HW⟩:=hrel
  by_cases hlt:i<n
  ·have i0:(0:Int)<=(i:Int):=by omega
   have i1:(i:Int)<(n:Int):=by omega
   have c1:=HR.o.cell i hlt;have HGr:=aa (HG.o.below HW.o);have HHr:=aa (HH.o.below HW.o);have c2:=HGr.o.cell i hlt;have hr:=HR.o.row i hlt
   simp only[tq,if_false]at hr
   have HA:=aa (fun(W:sR)(e1:Rw W (cs i) (m+1) fun _=>0)(e2:Rw W (bs i) (m+1) (U i))=>oB (cs i) (bs i) (m+1) _ _ W e1 e2 (fun _ _=>by decide) (HGr.o.bd i · hlt) (by have:=HM.o;omega))
   have HRr:=aa hr;clear hr;have n1:g≠cs i:=fun e=>by
    obtain⟨cur,h3,_⟩:=HG.o.o;have:=ag h3;have:=HR.o.low i hlt;omega
   have n2:h≠cs i:=fun e=>by
    obtain⟨cur,h3,_⟩:=HH.o.o;have:=ag h3;have:=HR.o.low i hlt;omega
   have n3:k≠cs i:=fun e=>HR.o.gne i hlt e.symm
   have n4:ds i≠cs i:=fun e=>by
    have:=ag (HH.o.row i hlt);have:=HR.o.low i hlt;omega
   have HX:=aa (te n1 (te n2 (te n3 n4)));clear n1 n2 n3 n4;go_wp2_with fail;refine au [(0,true),(1,true),(2,true),(3,true),(4,true),(5,true),(6,true),(7,true),(8,false)] (fun w'=>w'.cell? ⟨k,i,none⟩=some (.slice (some ⟨cs i,0,none⟩) (m+1) (m+1))/\w'.cell? ⟨g,i,none⟩=some (.slice (some ⟨bs i,0,none⟩) (m+1) (m+1))) (fun _=>false) (by kernel_rfl) (by kernel_rfl) (fun j hj=>by cases hj) rfl (by kernel_rfl) ⟨c1,c2⟩ ?_
   iterate 8 (refine ax ?_ rfl (by kernel_rfl) (fun w' hS=>?_) ?_;(rotate_left;(obtain⟨s1,s2⟩:=hS;go_simp;with_reducible rfl);rotate_left))
   refine av rfl (by kernel_rfl) fun KK hKK=>?_
   go_simp;refine(HA.o wr.drew HRr.o (HGr.o.row i hlt)).mono ?_;rintro e w2 ⟨rfl,hr2,ho2⟩;have HR2:ae (Mt w.heap.size w2 k n (m+1) cs _):=aa (HR.o.set i hlt hr2 ((dm.drew _ 1 wr).trans ho2) (pf (fun _ _=>by decide) (HGr.o.bd i · hlt)))
   have HO2:ae (dm (cs i) wr w2):=aa ((dm.drew _ 1 wr).trans ho2);have HW2:=aa (HW.o.trans (HO2.o.below (HR.o.low i hlt)));have HH2:ae (Rw w2 (ds i) (m+1) (V i)):=aa ((HO2.o.block _ HX.o.2.2.2).trans (HHr.o.row i hlt));have HR2r:ae (Rw w2 (cs i) (m+1) _):=aa hr2;refine hKK _ _ (fun _=>⟨HR2.o.cell i hlt,(tj (HO2.o.block g HX.o.1)).trans c2⟩) ?_
   refine aS (sZ ?_);have d1:=HR2.o.cell i hlt;have d2:w2.cell? ⟨h,i,none⟩=some (.slice (some ⟨ds i,0,none⟩) (m+1) (m+1)):=(tj (HO2.o.block h HX.o.2.1)).trans (HHr.o.cell i hlt);clear hr2 ho2 hKK c1 c2 HA;have HA:=aa (fun(W:sR)(e1:Rw W (cs i) (m+1) (nD (fun _=>0) (U i)))(e2:Rw W (ds i) (m+1) (V i))=>oB (cs i) (ds i) (m+1) _ _ W e1 e2 (pf (fun _ _=>by decide) (HGr.o.bd i · hlt)) (HHr.o.bd i · hlt) (by have:=HM.o;omega))
   go_wp2_with fail;refine au [(0,true),(1,true),(2,true),(3,true),(4,true),(5,true),(6,true),(7,true),(8,false)] (fun w'=>w'.cell? ⟨k,i,none⟩=some (.slice (some ⟨cs i,0,none⟩) (m+1) (m+1))/\w'.cell? ⟨h,i,none⟩=some (.slice (some ⟨ds i,0,none⟩) (m+1) (m+1))) (fun _=>false) (by kernel_rfl) (by kernel_rfl) (fun j hj=>by cases hj) rfl (by kernel_rfl) ⟨d1,d2⟩ ?_
   iterate 8 (refine ax ?_ rfl (by kernel_rfl) (fun w' hS=>?_) ?_;(rotate_left;(obtain⟨s1,s2⟩:=hS;go_simp;with_reducible rfl);rotate_left))
   refine av rfl (by kernel_rfl) fun KK hKK=>?_
   go_simp;refine(HA.o w2.drew HR2r.o HH2.o).mono ?_;rintro e w3 ⟨rfl,hr3,ho3⟩;have HR3:ae (Mt w.heap.size w3 k n (m+1) cs _):=aa (HR2.o.set i hlt hr3 ((dm.drew _ 1 w2).trans ho3) (pf (pf (fun _ _=>by decide) (HGr.o.bd i · hlt)) (HHr.o.bd i · hlt)))
   have HO3:ae (dm (cs i) w2 w3):=aa ((dm.drew _ 1 w2).trans ho3);have HW3:=aa (HW2.o.trans (HO3.o.below (HR.o.low i hlt)));refine hKK _ _ (fun _=>⟨HR3.o.cell i hlt,(tj (HO3.o.block h HX.o.2.1)).trans d2⟩) ?_
   refine aS (sZ ?_);clear hr3 ho3 hKK d1 d2;go_wp2;go_roundw
   case rel=>
    refine⟨i+1,by go_num,by omega,aa (HR3.o.congr fun x j hx hj=>?_),HW3⟩
    by_cases e:x=i
    ·subst e;simp
    ·by_cases e2:x<i
     ·simp[e,e2,tw e2]
     ·have:¬x<i+1:=by omega
      simp[e,e2,this]
   case measure=>simp[sW];omega
  ·have i1:¬(i:Int)<(n:Int):=by omega
   have HQ:=aa (HR.o.congr (V:=fun i=>nD (nD (fun _=>0) (U i)) (V i)) fun x j hx hj=>by rw[if_pos (by omega)])
   go_wp2;go_ret;exact⟨k,cap,cs,rfl,HQ.o,HW.o⟩
end Pt
end
section
open Go.RowKit
namespace Pt
theorem zoV{n m:Nat}{a:Nat->Nat}{B:Nat->Nat->Nat}(h:∀i j,i<n->j<m->B i j<18446744073709551616):∀k,k<=n->∀j,j<m->bhR n a B k j<18446744073709551616
 |0,_,j,_=>(by decide:(0:Nat)<18446744073709551616)
 |k+1,hk,j,hj=>by
  unfold bhR
  split
  ·exact pf (fun j hj=>zoV h k (by omega) j hj) (fun j hj=>h k j (by omega) hj) j hj
  ·exact zoV h k (by omega) j hj
def inW(n:Nat)(U V:Nat->Nat->Nat)(i k:Nat):Nat->Nat->Nat:=fun x=>if x<i then bhR n (U x) V n else if x=i then bhR n (U x) V k else fun _=>0
theorem qi(n m:Nat)(C D:Nat)(g h:Nat)(gc hc:Nat)(bs ds:Nat->Nat)(U V:Nat->Nat->Nat)(w:sR)(h1:1<=n)(hn:n<=100000)(hm:m=n / 64)(hg:Mt C w g n (m+1) bs U)(hh:Mt D w h n (m+1) ds V):
  sX Tryz.prog 175 #[.slice (some ⟨g,0,none⟩) n gc,.slice (some ⟨h,0,none⟩) n hc] w (MtQ w n m fun i=>bhR n (U i) V n):=by
 have HN:=aa (ir n m w h1 hn hm);have HG:=aa hg;have HH:=aa hh;have HM:=aa hm;clear hm hg hh;go_enter Tryz.func175,Tryz.ntmps175;go_wp2_with fail;refine HN.o.mono ?_;rintro e w1 ⟨z,cap,cs,rfl,hM,hB⟩;have HT:=aa hM;have HB:=aa hB;clear hM hB HN;go_wp2;go_loopw [7] (fun y wr=>∃i:Nat,y=.int .i64 i/\i<=n/\ae (Mt w.heap.size wr z n (m+1) cs (inW n U V i 0))/\ae (sS w.heap.size w wr)) (fun y _=>n-(sW y).toNat)
 case atStart=>exact⟨0,rfl,sU _,aa (HT.o.congr fun x j _ _=>by unfold inW;split;omega;split<;>simp[bhR]),HB⟩
 case round=>
  obtain⟨i,rfl,hi,HR,HW⟩:=hrel
  by_cases hlt:i<n
  ·have i0:(0:Int)<=(i:Int):=by omega
   have i1:(i:Int)<(n:Int):=by omega
   have HI:=aa hlt;go_wp2;go_loopw [8] (fun y wr=>∃k:Nat,y=.int .i64 k/\k<=n/\ae (Mt w.heap.size wr z n (m+1) cs (inW n U V i k))/\ae (sS w.heap.size w wr)) (fun y _=>n-(sW y).toNat)
   case atStart=>exact⟨0,rfl,sU _,HR,HW⟩
   case round=>
    clear HR HW;obtain⟨k,rfl,hk,HR,HW⟩:=hrel
    by_cases hkn:k<n
    ·have k0:(0:Int)<=(k:Int):=by omega
     have k1:(k:Int)<(n:Int):=by omega
     have HGr:=aa (HG.o.below HW.o);have HHr:=aa (HH.o.below HW.o);have c0:=HGr.o.cell i hlt;have HS:=aa (oh (bs i) (m+1) k (U i) wr (HGr.o.row i hlt) (by have:=HM.o;have:=sV (c:=64) (tg hkn);omega) (HGr.o.bd i _ hlt (by have:=HM.o;have:=sV (c:=64) (tg hkn);omega)) (by omega))
     go_wp2_with fail;refine HS.o.mono ?_;rintro e w2 ⟨rfl,e2⟩;obtain rfl:=e2.symm;clear HS c0
     by_cases hb:bt (U i) k=true
     ·rw[hb]
      have HBT:=aa hb;clear hb;have c1:=HR.o.cell i hlt;have c2:=HHr.o.cell k hkn;have n2:h≠cs i:=fun e=>by
       obtain⟨cur,h3,_⟩:=HH.o.o;have:=ag h3;have:=HR.o.low i hlt;omega
      have hr:=HR.o.row i hlt;rw[show inW n U V i k i=bhR n (U i) V k from by unfold inW;rw[if_neg (tq i),if_pos rfl]]at hr
      have HX:=aa n2;have HRr:=aa hr;have HBD:=aa (fun(j:Nat)(hj:j<m+1)=>zoV (a:=U i) HHr.o.bd k (by omega) j hj)
      clear n2 hr;have HA:=aa (fun(W:sR)(e1:Rw W (cs i) (m+1) (bhR n (U i) V k))(e2:Rw W (ds k) (m+1) (V k))=>oB (cs i) (ds k) (m+1) _ _ W e1 e2 HBD.o (HHr.o.bd k · hkn) (by have:=HM.o;omega))
      go_wp2_with fail;refine au [(0,true),(1,true),(2,true),(3,true),(4,true),(5,true),(6,true),(7,true),(8,false)] (fun w'=>w'.cell? ⟨z,i,none⟩=some (.slice (some ⟨cs i,0,none⟩) (m+1) (m+1))/\w'.cell? ⟨h,k,none⟩=some (.slice (some ⟨ds k,0,none⟩) (m+1) (m+1))) (fun _=>false) (by kernel_rfl) (by kernel_rfl) (fun j hj=>by cases hj) rfl (by kernel_rfl) ⟨c1,c2⟩ ?_
      iterate 8 (refine ax ?_ rfl (by kernel_rfl) (fun w' hS=>?_) ?_;(rotate_left;(obtain⟨s1,s2⟩:=hS;go_simp;with_reducible rfl);rotate_left))
      refine av rfl (by kernel_rfl) fun KK hKK=>?_
      go_simp;refine(HA.o wr.drew HRr.o (HHr.o.row k hkn)).mono ?_;rintro e w2 ⟨rfl,hr2,ho2⟩;have HR2:ae (Mt w.heap.size w2 z n (m+1) cs _):=aa (HR.o.set i hlt hr2 ((dm.drew _ 1 wr).trans ho2) (pf HBD.o (HHr.o.bd k · hkn)))
      have HO2:ae (dm (cs i) wr w2):=aa ((dm.drew _ 1 wr).trans ho2);have HW2:=aa (HW.o.trans (HO2.o.below (HR.o.low i hlt)));refine hKK _ _ (fun _=>⟨HR2.o.cell i hlt,(tj (HO2.o.block h HX.o)).trans c2⟩) ?_
      refine aS (sZ ?_);clear hr2 ho2 hKK c1 c2;go_wp2;go_roundw
      case rel=>
       refine⟨k+1,by go_num,by omega,aa (HR2.o.congr fun x j hx hj=>?_),HW2⟩
       by_cases e:x=i
       ·subst e
        rw[if_pos rfl];unfold inW;rw[if_neg (tq x),if_pos rfl]
        conv=>rhs;unfold bhR
        rw[if_pos HBT.o]
       ·rw[if_neg e]
        unfold inW;rw[if_neg e,if_neg e]
      case measure=>simp[sW];omega
     ·have hb':bt (U i) k=false:=by simpa using hb
      rw[hb'];have HBT:=aa hb;clear hb hb';go_wp2;go_roundw
      case rel=>
       refine⟨k+1,by go_num,by omega,aa (HR.o.congr fun x j hx hj=>?_),HW⟩
       unfold inW
       by_cases e:x=i
       ·subst e
        rw[if_neg (tq x),if_neg (tq x),if_pos rfl,if_pos rfl]
        conv=>rhs;unfold bhR
        rw[if_neg HBT.o]
       ·rw[if_neg e,if_neg e]
      case measure=>simp[sW];omega
    ·have k1:¬(k:Int)<(n:Int):=by omega
     have e:k=n:=by omega
     have HR2:=aa (HR.o.congr (V:=inW n U V (i+1) 0) fun x j hx hj=>by
      unfold inW
      by_cases e1:x<i
      ·rw[if_pos e1,if_pos (by omega)]
      ·rw[if_neg e1]
       by_cases e2:x=i
       ·rw[if_pos e2,if_pos (by omega),e]
       ·rw[if_neg e2,if_neg (by omega)]
        split<;>rfl)
     clear e;go_wp2;go_roundw
     case rel=>exact⟨i+1,by go_num,by omega,HR2,HW⟩
     case measure=>simp[sW];omega
  ·have i1:¬(i:Int)<(n:Int):=by omega
   have HQ:=aa (HR.o.congr (V:=fun i=>bhR n (U i) V n) fun x j hx hj=>by unfold inW;rw[if_pos (by omega)])
   go_wp2;go_ret;exact⟨z,cap,cs,rfl,HQ.o,HW.o⟩
end Pt
end
section
open Go.RowKit
namespace Pt
theorem zcL(W:Nat->Nat->Nat)(k i:Nat):qu W k (i+1)=fun x=>if x=i/\bt (qu W k i i) k=true then nD (qu W k i i) (qu W k i k)else qu W k i x:=rfl
theorem zcM(n m:Nat)(C:Nat)(g:Nat)(gc:Nat)(bs:Nat->Nat)(U:Nat->Nat->Nat)(w:sR)(h1:1<=n)(hn:n<=100000)(hm:m=n / 64)(hg:Mt C w g n (m+1) bs U):
  sX Tryz.prog 177 #[.slice (some ⟨g,0,none⟩) n gc] w (MtQ w n m (mrK n (fun i=>nD (nD (fun _=>0) (U i)) (stR (fun _=>0) i)) n)):=by
 have HN:=aa (nT n m w h1 hn hm);have HBO:=aa (fun(W:sR)(h:Nat)(hc:Nat)(ds:Nat->Nat)(D:Nat)(e1:Mt C W g n (m+1) bs U)(e2:Mt D W h n (m+1) ds fun i=>stR (fun _=>0) i)=>qg n m C D g h gc hc bs ds _ _ W h1 hn hm e1 e2)
 have HG:=aa hg;have HM:=aa hm;clear hm hg;obtain⟨Z,hZ⟩:∃Z:Nat->Nat->Nat,Z=fun i=>nD (nD (fun _=>0) (U i)) (stR (fun _=>0) i):=⟨_,rfl⟩
 rw[<- hZ];have HZ:=aa hZ;clear hZ;go_enter Tryz.func177,Tryz.ntmps177;go_wp2_with fail;refine HN.o.mono ?_;rintro e w1 ⟨y,yc,ys,rfl,hM,hB⟩;have HT1:=aa hM;have HB1:=aa hB;clear hM hB HN;go_wp2_with fail;refine(HBO.o w1 y yc ys w.heap.size (HG.o.below HB1.o) HT1.o).mono ?_;rintro e w2 ⟨z,cap,cs,rfl,hM,hB⟩;rw[<- HZ.o]at hM;have HT:=aa (hM.lower HB1.o.size);have HB:=aa (HB1.o.trans (hB.mono HB1.o.size));clear hM hB HBO;go_wp2;go_loopw [5] (fun y wr=>∃k:Nat,y=.int .i64 k/\k<=n/\ae (Mt w.heap.size wr z n (m+1) cs (mrK n Z k))/\ae (sS w.heap.size w wr)) (fun y _=>n-(sW y).toNat)
 case atStart=>exact⟨0,rfl,sU _,HT,HB⟩
 case round=>
  obtain⟨k,rfl,hk,HR,HW⟩:=hrel
  by_cases hkn:k<n
  ·have k0:(0:Int)<=(k:Int):=by omega
   have k1:(k:Int)<(n:Int):=by omega
   go_wp2;go_loopw [6] (fun y wr=>∃i:Nat,y=.int .i64 i/\i<=n/\ae (Mt w.heap.size wr z n (m+1) cs (qu (mrK n Z k) k i))/\ae (sS w.heap.size w wr)) (fun y _=>n-(sW y).toNat)
   case atStart=>exact⟨0,rfl,sU _,HR,HW⟩
   case round=>
    clear HR HW;obtain⟨i,rfl,hi,HR,HW⟩:=hrel
    by_cases hlt:i<n
    ·have i0:(0:Int)<=(i:Int):=by omega
     have i1:(i:Int)<(n:Int):=by omega
     have c0:=HR.o.cell i hlt;have HS:=aa (oh (cs i) (m+1) k _ wr (HR.o.row i hlt) (by have:=HM.o;have:=sV (c:=64) (tg hkn);omega) (HR.o.bd i _ hlt (by have:=HM.o;have:=sV (c:=64) (tg hkn);omega)) (by omega))
     go_wp2_with fail;refine HS.o.mono ?_;rintro e w2 ⟨rfl,e2⟩;obtain rfl:=e2.symm;clear HS c0
     by_cases hb:bt (qu (mrK n Z k) k i i) k=true
     ·rw[hb]
      have HBT:=aa hb;clear hb;have c1:=HR.o.cell i hlt;have c2:=HR.o.cell k hkn;have HA:=aa (fun(W:sR)(e1:Rw W (cs i) (m+1) (qu (mrK n Z k) k i i))(e2:Rw W (cs k) (m+1) (qu (mrK n Z k) k i k))=>oB (cs i) (cs k) (m+1) _ _ W e1 e2 (HR.o.bd i · hlt) (HR.o.bd k · hkn) (by have:=HM.o;omega))
      go_wp2_with fail;refine au [(0,true),(1,true),(2,true),(3,true),(4,true),(5,true),(6,true),(7,true),(8,false)] (fun w'=>w'.cell? ⟨z,i,none⟩=some (.slice (some ⟨cs i,0,none⟩) (m+1) (m+1))/\w'.cell? ⟨z,k,none⟩=some (.slice (some ⟨cs k,0,none⟩) (m+1) (m+1))) (fun _=>false) (by kernel_rfl) (by kernel_rfl) (fun j hj=>by cases hj) rfl (by kernel_rfl) ⟨c1,c2⟩ ?_
      iterate 8 (refine ax ?_ rfl (by kernel_rfl) (fun w' hS=>?_) ?_;(rotate_left;(obtain⟨s1,s2⟩:=hS;go_simp;with_reducible rfl);rotate_left))
      refine av rfl (by kernel_rfl) fun KK hKK=>?_
      go_simp;refine(HA.o wr.drew (HR.o.row i hlt) (HR.o.row k hkn)).mono ?_;rintro e w2 ⟨rfl,hr2,ho2⟩;have HR2:ae (Mt w.heap.size w2 z n (m+1) cs _):=aa (HR.o.set i hlt hr2 ((dm.drew _ 1 wr).trans ho2) (pf (HR.o.bd i · hlt) (HR.o.bd k · hkn)))
      have HO2:ae (dm (cs i) wr w2):=aa ((dm.drew _ 1 wr).trans ho2);have HW2:=aa (HW.o.trans (HO2.o.below (HR.o.low i hlt)));refine hKK _ _ (fun _=>⟨HR2.o.cell i hlt,HR2.o.cell k hkn⟩) ?_
      refine aS (sZ ?_);clear hr2 ho2 hKK c1 c2;go_wp2;go_roundw
      case rel=>
       refine⟨i+1,by go_num,by omega,aa (HR2.o.congr fun x j hx hj=>?_),HW2⟩
       rw[zcL]
       by_cases e:x=i
       ·simp only[e,if_pos,HBT.o,and_self]
       ·simp only[e,false_and,if_false]
      case measure=>simp[sW];omega
     ·have hb':bt (qu (mrK n Z k) k i i) k=false:=by simpa using hb
      rw[hb'];have HBT:=aa hb;clear hb hb';go_wp2;go_roundw
      case rel=>
       refine⟨i+1,by go_num,by omega,aa (HR.o.congr fun x j hx hj=>?_),HW⟩
       rw[zcL]
       show _=(if x=i/\_ then _ else _:Nat->Nat) j
       rw[if_neg (fun h=>HBT.o h.2)]
      case measure=>simp[sW];omega
    ·have i1:¬(i:Int)<(n:Int):=by omega
     have e:i=n:=by omega
     have HR2:=aa (HR.o.congr (V:=mrK n Z (k+1)) fun x j hx hj=>by rw[e];rfl)
     clear e;go_wp2;go_roundw
     case rel=>exact⟨k+1,by go_num,by omega,HR2,HW⟩
     case measure=>simp[sW];omega
  ·have k1:¬(k:Int)<(n:Int):=by omega
   have HQ:=aa (HR.o.congr (V:=mrK n Z n) fun x j hx hj=>by rw[show k=n by omega])
   go_wp2;go_ret;exact⟨z,cap,cs,rfl,HQ.o,HW.o⟩
end Pt
end
section
open Go.RowKit
namespace Pt
theorem add_blk(a:Addr)(k:Nat):(a.add k).block=a.block:=by unfold Addr.add;split<;>rfl
def RdI(w:sR)(ao:Option Addr)(l:List Int):Prop:=
 ∀(k:Nat)(z:Int),l[k]?=some z->∃a:Addr,ao=some a/\a.block<w.heap.size/\w.cell? (a.add k)=some (.int .i64 z)
theorem RdI.below{w w':sR}{ao:Option Addr}{l:List Int}(h:RdI w ao l)(hb:sS w.heap.size w w'):RdI w' ao l:=fun k z hk=>by
 obtain⟨a,h1,h2,h3⟩:=h k z hk;exact⟨a,h1,tX h2 hb.size,(hb.cell (p:=a.add k) (by rw[add_blk];exact h2)).trans h3⟩
theorem RdI.at{w:sR}{ao:Option Addr}{l:List Int}{k:Nat}(h:RdI w ao l)(hk:k<l.length):∃a:Addr,ao=some a/\a.block<w.heap.size/\w.cell? (a.add k)=some (.int .i64 l[k]):=h k l[k] (sT hk)
mutual
def cC(w:sR):az->ta->ta->ta->Prop
 | .mk op cls kids,v0,v1,v2=>v0=.int .i64 op/\(∃co cc,v1=.slice co cls.length cc/\RdI w co cls/\cls.length<=1000000)/\(∃ko kc,v2=.slice ko kids.length kc/\gz w kids ko 0/\kids.length<=1000000/\kids.length<=kc)
def gz(w:sR):List az->Option Addr->Nat->Prop
 |[],_,_=>True
 |p::ps,ko,i=>(∃b o,ko=some ⟨b,o,none⟩/\b<w.heap.size/\∃v0 v1 v2,w.cell? ⟨b,o+i*3,none⟩=some v0/\w.cell? ⟨b,o+i*3+1,none⟩=some v1/\w.cell? ⟨b,o+i*3+2,none⟩=some v2/\cC w p v0 v1 v2)/\gz w ps ko (i+1)
end
mutual
theorem cC.below{w w':sR}(hb:sS w.heap.size w w'):∀(p:az)(v0 v1 v2:ta),cC w p v0 v1 v2->cC w' p v0 v1 v2
 | .mk op cls kids,v0,v1,v2,h=>by
  unfold cC at h⊢;obtain⟨h1,⟨co,cc,h2,h3,h4⟩,ko,kc,h5,h6,h7⟩:=h;exact⟨h1,⟨co,cc,h2,h3.below hb,h4⟩,ko,kc,h5,gz.below hb kids ko 0 h6,h7⟩
theorem gz.below{w w':sR}(hb:sS w.heap.size w w'):∀(ps:List az)(ko:Option Addr)(i:Nat),gz w ps ko i->gz w' ps ko i
 |[],_,_,_=>by unfold gz;trivial
 |p::ps,ko,i,h=>by
  unfold gz at h⊢;obtain⟨⟨b,o,h1,h2,v0,v1,v2,h3,h4,h5,h6⟩,h7⟩:=h;have hc:∀k v,w.cell? ⟨b,k,none⟩=some v->w'.cell? ⟨b,k,none⟩=some v:=fun k v hk=>(hb.cell (p:=⟨b,k,none⟩) h2).trans hk
  exact⟨⟨b,o,h1,tX h2 hb.size,v0,v1,v2,hc _ _ h3,hc _ _ h4,hc _ _ h5,cC.below hb p _ _ _ h6⟩,gz.below hb ps ko (i+1) h7⟩
end
theorem gz.at{w:sR}:∀(ps:List az)(ko:Option Addr)(i j:Nat)(p:az),gz w ps ko i->ps[j]?=some p->∃b o,ko=some ⟨b,o,none⟩/\b<w.heap.size/\∃v0 v1 v2,w.cell? ⟨b,o+(i+j)*3,none⟩=some v0/\w.cell? ⟨b,o+(i+j)*3+1,none⟩=some v1/\w.cell? ⟨b,o+(i+j)*3+2,none⟩=some v2/\cC w p v0 v1 v2
 |[],_,_,j,p,_,h=>by simp at h
 |q::ps,ko,i,0,p,h,hj=>by
  unfold gz at h
  simp at hj
  subst hj;exact h.1
 |q::ps,ko,i,j+1,p,h,hj=>by
  unfold gz at h;have:=gz.at ps ko (i+1) j p h.2 (by simpa using hj)
  rw[show i+1+j=i+(j+1) by omega]at this
  exact this
def kk(l:List Int)(c:Int):Bool:=l.any fun z=>z==c
theorem cO(l:List Int)(c:Int):kk l c=true ↔ c∈l:=by
 unfold kk;rw[List.any_eq_true]
 constructor
 ·rintro ⟨z,h1,h2⟩;rw[beq_iff_eq]at h2;exact h2 ▸ h1
 ·intro h;exact⟨c,h,by simp⟩
theorem znI(lo:Option Addr)(n lc:Nat)(l:List Int)(c:Int)(w:sR)(hl:RdI w lo l)(hn:n=l.length)(hm:n<=1000000):
  sX Tryz.prog 170 #[.slice lo n lc,.int .i64 c] w fun e w'=>e=.returned (.bool (kk l c))/\w'=w:=by
 have HL:=aa hl;have HN:=aa hn;clear hl hn;go_enter Tryz.func170,Tryz.ntmps170;go_wp2;go_loopw [5] (fun y wr=>∃i:Nat,y=.int .i64 i/\i<=n/\wr=w/\ae (∀z∈l.take i,z≠c)) (fun y _=>n-(sW y).toNat)
 case atStart=>exact⟨0,rfl,sU _,rfl,aa (by simp)⟩
 case round=>
  obtain⟨i,rfl,hi,rfl,HT⟩:=hrel
  by_cases hlt:i<n
  ·have i0:(0:Int)<=(i:Int):=by omega
   have i1:(i:Int)<(n:Int):=by omega
   have hil:i<l.length:=by have:=HN.o;omega
   obtain⟨a,rfl,ha,c1⟩:=HL.o.at hil;obtain⟨z,hz⟩:=am (l[i]);rw[<- hz]at c1;have HZ:=aa hz;clear hz
   by_cases e:z=c
   ·subst e
    have b1:(z==z)=true:=by simp
    have HE:ae (kk l z=true):=aa ((cO l z).2 (by rw[HZ.o];exact tf _))
    go_wp2;go_ret;exact⟨by rw[HE.o];rfl,rfl⟩
   ·have b1:(z==c)=false:=by simpa using e
    have HE:=aa e;clear e;go_wp2;go_roundw
    case rel=>
     refine⟨i+1,by go_num,by omega,trivial,aa fun x hx=>?_⟩
     rw[tz hil,ug]at hx
     rcases hx with hx|hx
     ·exact HT.o x hx
     ·rw[tY]at hx
      rw[hx,<- HZ.o];exact HE.o
    case measure=>simp[sW];omega
  ·have i1:¬(i:Int)<(n:Int):=by omega
   have HE:ae (kk l c=false):=aa (by
    cases h:kk l c with
    |false=>rfl
    |true=>exact absurd rfl (HT.o c (by rw[tO (by have:=HN.o;omega)];exact(cO l c).1 h)))
   go_wp2;go_ret;exact⟨by rw[HE.o];rfl,rfl⟩
end Pt
end
section
open Go.RowKit
namespace Pt
mutual
theorem az.ind{M:az->Prop}(h:∀op cls kids,(∀p∈kids,M p)->M (.mk op cls kids)):∀p,M p
 | .mk op cls kids=>h op cls kids (az.indL h kids)
theorem az.indL{M:az->Prop}(h:∀op cls kids,(∀p∈kids,M p)->M (.mk op cls kids)):∀ps:List az,∀p∈ps,M p
 |[],p,hp=>by cases hp
 |q::ps,p,hp=>by
  cases hp with
  |head=>exact az.ind h _
  |tail _ hp=>exact az.indL h ps p hp
end
mutual
def Wf:az->Prop
 | .mk op _ kids=>((op=4\/op=5\/op=6)->kids≠ [])/\WfL kids
def WfL:List az->Prop
 |[]=>True
 |p::ps=>Wf p/\WfL ps
end
theorem WfL.mem:∀{ps:List az} {p:az},WfL ps->p∈ps->Wf p
 |[],p,_,hp=>by cases hp
 |q::ps,p,h,hp=>by
  unfold WfL at h
  cases hp with
  |head=>exact h.1
  |tail _ hp=>exact WfL.mem h.2 hp
def LdR(n m:Nat)(R:Nat->Nat->Prop)(w:sR)(e:uj)(w':sR):Prop:=∃W,MtQ w n m W e w'/\qq n W R
theorem below_box{w:sR}{o:Obj}:sS w.heap.size w (w.alloc o):=(tr _ _).alloc (tI _) _
theorem MtQ.low{w w1:sR}{n m:Nat}{W:Nat->Nat->Nat}{e:uj}{w':sR}(h:MtQ w1 n m W e w')(hb:sS w.heap.size w w1):MtQ w n m W e w':=by
 obtain⟨g,cap,bs,h1,h2,h3⟩:=h;exact⟨g,cap,bs,h1,h2.lower hb.size,hb.trans (h3.mono hb.size)⟩
section
variable (lo co:Option Addr) (ln lc b o kn kc cn cc m:Nat) (u0 u1 u2:ta) (R:Nat->Nat->Prop) (w:sR)
theorem zxx(hb:b<w.heap.size)(hkn:1<=kn)(hc:cn<=90000)(hm:m=(cn+1) / 64)(q0:w.cell? ⟨b,o,none⟩=some u0)(q1:w.cell? ⟨b,o+1,none⟩=some u1)(q2:w.cell? ⟨b,o+2,none⟩=some u2)
  (HL:ae (∀W,sS w.heap.size w W->sX Tryz.prog 149 #[.agg #[u0,u1,u2],.slice co cn cc] W (LdR (cn+1) m R W))) (HK:ae (Kn (cn+1) R)):
  sX Tryz.prog 149 #[.agg #[.int .i64 4,.slice lo ln lc,.slice (some ⟨b,o,none⟩) kn kc],.slice co cn cc] w (LdR (cn+1) m (cr R) w):=by
 have HMo:=aa (fun(C g gc:Nat)(bs:Nat->Nat)(U:Nat->Nat->Nat)(W:sR)(hg:Mt C W g (cn+1) (m+1) bs U)=>zcM (cn+1) m C g gc bs U W (by omega) (by omega) hm hg)
 have k1:(0:Int)<(kn:Int):=by omega
 clear hm;go_enter Tryz.func149,Tryz.ntmps149;go_wp2_with fail;refine(HL.o _ below_box).mono ?_;rintro e w2 ⟨W,⟨g,cap,bs,rfl,hM,hB⟩,hR⟩;have HM:=aa hM;have HB:=aa (below_box.trans (hB.mono (by simp)))
 have HR:=aa hR;clear hM hB hR;go_wp2_with fail;refine(HMo.o _ g cap bs W w2 HM.o).mono ?_;rintro e w3 ⟨z,cap2,cs,rfl,hM3,hB3⟩;have HQ:ae (LdR (cn+1) m (cr R) w (.returned (.slice (some ⟨z,0,none⟩) (cn+1) cap2)) w3):=aa ⟨_,⟨z,cap2,cs,rfl,hM3.lower HB.o.size,HB.o.trans (hB3.mono HB.o.size)⟩,zcz HR.o (kL (cn+1)) HK.o⟩;clear hM3 hB3;go_wp2;go_ret;exact HQ.o
theorem zxw(hb:b<w.heap.size)(hkn:1<=kn)(hc:cn<=90000)(hm:m=(cn+1) / 64)(q0:w.cell? ⟨b,o,none⟩=some u0)(q1:w.cell? ⟨b,o+1,none⟩=some u1)(q2:w.cell? ⟨b,o+2,none⟩=some u2)
  (HL:ae (∀W,sS w.heap.size w W->sX Tryz.prog 149 #[.agg #[u0,u1,u2],.slice co cn cc] W (LdR (cn+1) m R W))) (HK:ae (Kn (cn+1) R)):
  sX Tryz.prog 149 #[.agg #[.int .i64 5,.slice lo ln lc,.slice (some ⟨b,o,none⟩) kn kc],.slice co cn cc] w (LdR (cn+1) m (Cmp R (cr R)) w):=by
 have HMo:=aa (fun(C g gc:Nat)(bs:Nat->Nat)(U:Nat->Nat->Nat)(W:sR)(hg:Mt C W g (cn+1) (m+1) bs U)=>zcM (cn+1) m C g gc bs U W (by omega) (by omega) hm hg)
 have HBe:=aa (fun(C D g gc h hc:Nat)(bs ds:Nat->Nat)(U V:Nat->Nat->Nat)(W:sR)(hg:Mt C W g (cn+1) (m+1) bs U)(hh:Mt D W h (cn+1) (m+1) ds V)=>qi (cn+1) m C D g h gc hc bs ds U V W (by omega) (by omega) hm hg hh)
 have k1:(0:Int)<(kn:Int):=by omega
 clear hm;go_enter Tryz.func149,Tryz.ntmps149;go_wp2_with fail;refine(HL.o _ below_box).mono ?_;rintro e w2 ⟨W,⟨g,cap,bs,rfl,hM,hB⟩,hR⟩;have HM:=aa hM;have HB:=aa (below_box.trans (hB.mono (by simp)))
 have HR:=aa hR;clear hM hB hR;go_wp2_with fail;refine(HMo.o _ g cap bs W w2 HM.o).mono ?_;rintro e w3 ⟨z,cap2,cs,rfl,hM3,hB3⟩;have HM3:=aa hM3;have HB3:=aa hB3;clear hM3 hB3;go_wp2_with fail;refine(HBe.o _ _ g cap z cap2 bs cs _ _ w3 (HM.o.below HB3.o) HM3.o).mono ?_;rintro e w4 ⟨y,cap3,ds,rfl,hM4,hB4⟩;have HB5:=aa (HB.o.trans (HB3.o.mono HB.o.size));have HQ:ae (LdR (cn+1) m (Cmp R (cr R)) w (.returned (.slice (some ⟨y,0,none⟩) (cn+1) cap3)) w4):=aa ⟨_,⟨y,cap3,ds,rfl,hM4.lower HB5.o.size,HB5.o.trans (hB4.mono HB5.o.size)⟩,oW HR.o (zcz HR.o (kL (cn+1)) HK.o) HK.o⟩;clear hM4 hB4;go_wp2;go_ret;exact HQ.o
theorem zxv(hb:b<w.heap.size)(hkn:1<=kn)(hc:cn<=90000)(hm:m=(cn+1) / 64)(q0:w.cell? ⟨b,o,none⟩=some u0)(q1:w.cell? ⟨b,o+1,none⟩=some u1)(q2:w.cell? ⟨b,o+2,none⟩=some u2)
  (HL:ae (∀W,sS w.heap.size w W->sX Tryz.prog 149 #[.agg #[u0,u1,u2],.slice co cn cc] W (LdR (cn+1) m R W))):
  sX Tryz.prog 149 #[.agg #[.int .i64 6,.slice lo ln lc,.slice (some ⟨b,o,none⟩) kn kc],.slice co cn cc] w (LdR (cn+1) m (fun i k=>i=k\/R i k) w):=by
 have HOw:=aa (fun(W:sR)=>show sX Tryz.prog 174 #[.int .i64 ((cn:Int)+1)] W _ from nT (cn+1) m W (by omega) (by omega) hm)
 have HBo:=aa (fun(C D g gc h hc:Nat)(bs ds:Nat->Nat)(U V:Nat->Nat->Nat)(W:sR)(hg:Mt C W g (cn+1) (m+1) bs U)(hh:Mt D W h (cn+1) (m+1) ds V)=>qg (cn+1) m C D g h gc hc bs ds U V W (by omega) (by omega) hm hg hh)
 have k1:(0:Int)<(kn:Int):=by omega
 have k2:0<kn:=hkn;clear hm;go_enter Tryz.func149,Tryz.ntmps149;go_wp2_with fail;obtain⟨w1,hw1⟩:=am (w.alloc (.cells #[.int .i64 6,.slice lo ln lc,.slice (some ⟨b,o,none⟩) kn kc] 105));have hb1:sS w.heap.size w w1:=by rw[hw1];exact below_box
 have x2:w1.cell? ⟨w.heap.size,2,none⟩=some (.slice (some ⟨b,o,none⟩) kn kc):=by rw[hw1];simp[go_sem]
 have hs1:w.heap.size<w1.heap.size:=by rw[hw1];simp
 rw[<- hw1];clear hw1;have y0:w1.cell? ⟨b,o,none⟩=some u0:=(hb1.cell (p:=⟨b,o,none⟩) hb).trans q0;have y1:w1.cell? ⟨b,o+1,none⟩=some u1:=(hb1.cell (p:=⟨b,o+1,none⟩) hb).trans q1;have y2:w1.cell? ⟨b,o+2,none⟩=some u2:=(hb1.cell (p:=⟨b,o+2,none⟩) hb).trans q2;have HS:=aa (fun(W:sR)(h:sS w1.heap.size w1 W)=>show W.cell? ⟨w.heap.size,2,none⟩=some (.slice (some ⟨b,o,none⟩) kn kc)/\W.cell? ⟨b,o,none⟩=some u0/\W.cell? ⟨b,o+1,none⟩=some u1/\W.cell? ⟨b,o+2,none⟩=some u2 from
  ⟨(h.cell (p:=⟨w.heap.size,2,none⟩) hs1).trans x2,(h.cell (p:=⟨b,o,none⟩) (t7 hb hs1)).trans y0,(h.cell (p:=⟨b,o+1,none⟩) (t7 hb hs1)).trans y1,(h.cell (p:=⟨b,o+2,none⟩) (t7 hb hs1)).trans y2⟩)
 have HB1:=aa hb1;clear x2 y0 y1 y2 hb1 q0 q1 q2;refine au [(0,true),(2,true),(3,true),(4,true),(5,true),(6,true),(1,false),(7,false),(8,false),(9,false)] (fun W=>W.cell? ⟨w.heap.size,2,none⟩=some (.slice (some ⟨b,o,none⟩) kn kc)/\W.cell? ⟨b,o,none⟩=some u0/\W.cell? ⟨b,o+1,none⟩=some u1/\W.cell? ⟨b,o+2,none⟩=some u2) (fun _=>false) (by kernel_rfl) (by kernel_rfl) (fun j hj=>by cases hj) rfl (by kernel_rfl) (HS.o _ ⟨rfl,rfl,rfl,tI _,fun _ _=>rfl⟩) ?_
 iterate 6 (refine ax ?_ rfl (by kernel_rfl) (fun w' hS=>?_) ?_;(rotate_left;(obtain⟨s1,s2,s3,s4⟩:=hS;go_simp;with_reducible rfl);rotate_left))
 refine av rfl (by kernel_rfl) fun KK hKK=>?_
 go_simp;refine(HOw.o w1.drew).mono ?_;rintro e w2 ⟨g,cap,bs,rfl,hM2,hB2⟩;have HM2:=aa hM2;have HB2:ae (sS w1.heap.size w1 w2):=aa ⟨hB2.os,hB2.tape,hB2.output,hB2.size,hB2.block⟩;clear hM2 hB2;refine hKK _ _ (fun _=>HS.o _ HB2.o) ?_
 clear hKK;refine av rfl (by kernel_rfl) fun KK hKK=>?_
 go_simp;refine(HL.o w2 (HB1.o.trans (HB2.o.mono HB1.o.size))).mono ?_;rintro e w3 ⟨W,⟨h,cap2,ds,rfl,hM3,hB3⟩,hR3⟩;have HM3:=aa hM3;have HB3:=aa hB3;have HR3:=aa hR3;clear hM3 hB3 hR3;refine hKK _ _ (fun _=>HS.o _ (HB2.o.trans (HB3.o.mono HB2.o.size))) ?_
 clear hKK;refine av rfl (by kernel_rfl) fun KK hKK=>?_
 go_simp;refine(HBo.o _ _ g cap h cap2 bs ds _ _ w3 (HM2.o.below HB3.o) HM3.o).mono ?_;rintro e w4 ⟨y,cap3,es,rfl,hM4,hB4⟩;have HB5:=aa (HB1.o.trans ((HB2.o.trans (HB3.o.mono HB2.o.size)).mono HB1.o.size));have HQ:ae (LdR (cn+1) m (fun i k=>i=k\/R i k) w (.returned (.slice (some ⟨y,0,none⟩) (cn+1) cap3)) w4):=aa ⟨_,⟨y,cap3,es,rfl,hM4.lower HB5.o.size,HB5.o.trans (hB4.mono HB5.o.size)⟩,oV (kL (cn+1)) HR3.o⟩
 have HB4:=aa hB4;clear hM4 hB4;refine hKK _ _ (fun _=>HS.o _ ((HB2.o.trans (HB3.o.mono HB2.o.size)).trans (HB4.o.mono (tc HB2.o.size HB3.o.size)))) ?_
 clear hKK;refine av rfl (by kernel_rfl) fun KK hKK=>?_
 go_simp;refine hKK _ _ (fun _=>HS.o _ ((HB2.o.trans (HB3.o.mono HB2.o.size)).trans (HB4.o.mono (tc HB2.o.size HB3.o.size)))) ?_
 refine aS (sZ ?_);go_wp2;go_ret;exact HQ.o
theorem zxB(v1 v2:ta)(op:Int)(h1:op≠1)(h2:op≠2)(h3:op≠3)(h4:op≠4)(h5:op≠5)(h6:op≠6)(hc:cn<=90000)(hm:m=(cn+1) / 64):
  sX Tryz.prog 149 #[.agg #[.int .i64 op,v1,v2],.slice co cn cc] w (LdR (cn+1) m (fun i k=>i=k) w):=by
 have HOw:=aa (fun(W:sR)=>show sX Tryz.prog 174 #[.int .i64 ((cn:Int)+1)] W _ from nT (cn+1) m W (by omega) (by omega) hm)
 have e1:(op==1)=false:=by simpa using h1
 have e2:(op==2)=false:=by simpa using h2
 have e3:(op==3)=false:=by simpa using h3
 have e4:(op==4)=false:=by simpa using h4
 have e5:(op==5)=false:=by simpa using h5
 have e6:(op==6)=false:=by simpa using h6
 clear hm h1 h2 h3 h4 h5 h6;go_enter Tryz.func149,Tryz.ntmps149;go_wp2_with fail;refine(HOw.o _).mono ?_;rintro e w2 ⟨g,cap,bs,rfl,hM2,hB2⟩;have HQ:ae (LdR (cn+1) m (fun i k=>i=k) w (.returned (.slice (some ⟨g,0,none⟩) (cn+1) cap)) w2):=aa ⟨_,MtQ.low ⟨g,cap,bs,rfl,hM2,hB2⟩ below_box,kL (cn+1)⟩
 clear hM2 hB2;go_wp2;go_ret;exact HQ.o
end
end Pt
end
section
open Go.RowKit
namespace Pt
section
variable (lo co:Option Addr) (ln lc b o kn kc cn cc m:Nat) (w:sR)
def KdA(w:sR)(ko:Option Addr)(kn:Nat)(co:Option Addr)(cn cc m:Nat)(R:Nat->Nat->Nat->Prop):Prop:=∀j,j<kn->∃b o u0 u1 u2,ko=some ⟨b,o,none⟩/\b<w.heap.size/\w.cell? ⟨b,o+j*3,none⟩=some u0/\w.cell? ⟨b,o+j*3+1,none⟩=some u1/\w.cell? ⟨b,o+j*3+2,none⟩=some u2∧
 (∀W,sS w.heap.size w W->sX Tryz.prog 149 #[.agg #[u0,u1,u2],.slice co cn cc] W (LdR (cn+1) m (R j) W))/\Kn (cn+1) (R j)
theorem zxz(ko:Option Addr)(R:Nat->Nat->Nat->Prop)(T:Nat->Nat->Nat->Prop)(hc:cn<=90000)(hk:kn<=1000000)(hm:m=(cn+1) / 64)(HA:ae (KdA w ko kn co cn cc m R))(HT0:ae (T 0=fun i k=>i=k))(HT:ae (∀j,j<kn->T (j+1)=Cmp (T j) (R j))):
  sX Tryz.prog 149 #[.agg #[.int .i64 2,.slice lo ln lc,.slice ko kn kc],.slice co cn cc] w (LdR (cn+1) m (T kn) w):=by
 have HOw:=aa (fun(W:sR)=>show sX Tryz.prog 174 #[.int .i64 ((cn:Int)+1)] W _ from nT (cn+1) m W (by omega) (by omega) hm)
 have HBe:=aa (fun(C D g gc h hc:Nat)(bs ds:Nat->Nat)(U V:Nat->Nat->Nat)(W:sR)(hg:Mt C W g (cn+1) (m+1) bs U)(hh:Mt D W h (cn+1) (m+1) ds V)=>qi (cn+1) m C D g h gc hc bs ds U V W (by omega) (by omega) hm hg hh)
 clear hm;go_enter Tryz.func149,Tryz.ntmps149;go_wp2_with fail;obtain⟨w1,hw1⟩:=am (w.alloc (.cells #[.int .i64 2,.slice lo ln lc,.slice ko kn kc] 105));have hb1:sS w.heap.size w w1:=by rw[hw1];exact below_box
 have x2:w1.cell? ⟨w.heap.size,2,none⟩=some (.slice ko kn kc):=by rw[hw1];simp[go_sem]
 have hs1:w.heap.size<w1.heap.size:=by rw[hw1];simp
 rw[<- hw1];have HB1:=aa hb1;have HX2:=aa x2;clear hw1 hb1 x2;refine(HOw.o w1).mono ?_;rintro e w2 ⟨g,cap,bs,rfl,hM2,hB2⟩;have HM2:=aa (hM2.lower (tg hs1));have HB2:=aa hB2;clear hM2 hB2;go_wp2;go_loopw [8,9] (fun x y wr=>∃(j g cap:Nat)(bs:Nat->Nat)(W:Nat->Nat->Nat),x=.slice (some ⟨g,0,none⟩) (cn+1) cap/\y=.int .i64 j/\j<=kn/\ae (Mt w.heap.size wr g (cn+1) (m+1) bs W)/\ae (qq (cn+1) W (T j))/\ae (Kn (cn+1) (T j))/\ae (sS w1.heap.size w1 wr)) (fun _ y _=>kn-(sW y).toNat)
 case atStart=>exact⟨0,g,cap,bs,_,rfl,rfl,sU _,HM2,aa (by rw[HT0.o];exact kL (cn+1)),aa (by rw[HT0.o];exact fun i j hi e=>e ▸ hi),HB2⟩
 case round=>
  clear HM2 HB2;obtain⟨j,g,cap,bs,W,rfl,rfl,hj,HM,HR,HK,HB⟩:=hrel;have x2:wr.cell? ⟨w.heap.size,2,none⟩=some (.slice ko kn kc):=(HB.o.cell (p:=⟨w.heap.size,2,none⟩) hs1).trans HX2.o;have HBw:=aa (HB1.o.trans (HB.o.mono HB1.o.size))
  by_cases hlt:j<kn
  ·have j0:(0:Int)<=(j:Int):=by omega
   have j1:(j:Int)<(kn:Int):=by omega
   obtain⟨b,o,u0,u1,u2,rfl,hb,q0,q1,q2,hL,hKn⟩:=HA.o j hlt;have y0:wr.cell? ⟨b,o+j*3,none⟩=some u0:=(HBw.o.cell (p:=⟨b,o+j*3,none⟩) hb).trans q0;have y1:wr.cell? ⟨b,o+j*3+1,none⟩=some u1:=(HBw.o.cell (p:=⟨b,o+j*3+1,none⟩) hb).trans q1;have y2:wr.cell? ⟨b,o+j*3+2,none⟩=some u2:=(HBw.o.cell (p:=⟨b,o+j*3+2,none⟩) hb).trans q2;have HL:=aa hL;have HKn:=aa hKn;clear q0 q1 q2 hL hKn;go_wp2_with fail;refine(HL.o wr HBw.o).mono ?_;rintro e w3 ⟨V,⟨h,cap2,ds,rfl,hM3,hB3⟩,hR3⟩;have HM3:=aa hM3;have HB3:=aa hB3;have HR3:=aa hR3;clear hM3 hB3 hR3 y0 y1 y2 x2;go_wp2_with fail;refine(HBe.o _ _ g cap h cap2 bs ds _ _ w3 (HM.o.below HB3.o) HM3.o).mono ?_;rintro e w4 ⟨y,cap3,es,rfl,hM4,hB4⟩;have HB5:ae (sS wr.heap.size wr w4):=aa (HB3.o.trans (hB4.mono HB3.o.size));have HM4:=aa (hM4.lower (tc HBw.o.size HB3.o.size));have HR4:ae (qq (cn+1) _ (T (j+1))):=aa (by rw[HT.o j hlt];exact oW HR.o HR3.o HK.o)
   have HK4:ae (Kn (cn+1) (T (j+1))):=aa (by rw[HT.o j hlt];exact zgE HK.o HKn.o)
   clear hM4 hB4;go_wp2;go_roundw
   case rel=>exact⟨j+1,y,cap3,es,_,rfl,by go_num,by omega,HM4,HR4,HK4,aa (HB.o.trans (HB5.o.mono HB.o.size))⟩
   case measure=>simp[sW];omega
  ·have j1:¬(j:Int)<(kn:Int):=by omega
   have HQ:ae (LdR (cn+1) m (T kn) w (.returned (.slice (some ⟨g,0,none⟩) (cn+1) cap)) wr):=aa ⟨W,⟨g,cap,bs,rfl,HM.o,HBw.o⟩,(show j=kn by omega) ▸ HR.o⟩
   go_wp2;go_ret;exact HQ.o
theorem zxy(ko:Option Addr)(R:Nat->Nat->Nat->Prop)(T:Nat->Nat->Nat->Prop)(hc:cn<=90000)(hk:kn<=1000000)(hm:m=(cn+1) / 64)(HA:ae (KdA w ko kn co cn cc m R))(HT0:ae (T 0=fun _ _=>False))(HT:ae (∀j,j<kn->T (j+1)=fun i k=>T j i k\/R j i k)):
  sX Tryz.prog 149 #[.agg #[.int .i64 3,.slice lo ln lc,.slice ko kn kc],.slice co cn cc] w (LdR (cn+1) m (T kn) w):=by
 have HOw:=aa (fun(W:sR)=>show sX Tryz.prog 172 #[.int .i64 ((cn:Int)+1)] W _ from ir (cn+1) m W (by omega) (by omega) hm)
 have HBe:=aa (fun(C D g gc h hc:Nat)(bs ds:Nat->Nat)(U V:Nat->Nat->Nat)(W:sR)(hg:Mt C W g (cn+1) (m+1) bs U)(hh:Mt D W h (cn+1) (m+1) ds V)=>qg (cn+1) m C D g h gc hc bs ds U V W (by omega) (by omega) hm hg hh)
 clear hm;go_enter Tryz.func149,Tryz.ntmps149;go_wp2_with fail;obtain⟨w1,hw1⟩:=am (w.alloc (.cells #[.int .i64 3,.slice lo ln lc,.slice ko kn kc] 105));have hb1:sS w.heap.size w w1:=by rw[hw1];exact below_box
 have x2:w1.cell? ⟨w.heap.size,2,none⟩=some (.slice ko kn kc):=by rw[hw1];simp[go_sem]
 have hs1:w.heap.size<w1.heap.size:=by rw[hw1];simp
 rw[<- hw1];have HB1:=aa hb1;have HX2:=aa x2;clear hw1 hb1 x2;refine(HOw.o w1).mono ?_;rintro e w2 ⟨g,cap,bs,rfl,hM2,hB2⟩;have HM2:=aa (hM2.lower (tg hs1));have HB2:=aa hB2;clear hM2 hB2;go_wp2;go_loopw [10,11] (fun x y wr=>∃(j g cap:Nat)(bs:Nat->Nat)(W:Nat->Nat->Nat),x=.slice (some ⟨g,0,none⟩) (cn+1) cap/\y=.int .i64 j/\j<=kn/\ae (Mt w.heap.size wr g (cn+1) (m+1) bs W)/\ae (qq (cn+1) W (T j))/\ae (sS w1.heap.size w1 wr)) (fun _ y _=>kn-(sW y).toNat)
 case atStart=>exact⟨0,g,cap,bs,_,rfl,rfl,sU _,HM2,aa (by rw[HT0.o];exact zlL (cn+1)),HB2⟩
 case round=>
  clear HM2 HB2;obtain⟨j,g,cap,bs,W,rfl,rfl,hj,HM,HR,HB⟩:=hrel;have x2:wr.cell? ⟨w.heap.size,2,none⟩=some (.slice ko kn kc):=(HB.o.cell (p:=⟨w.heap.size,2,none⟩) hs1).trans HX2.o;have HBw:=aa (HB1.o.trans (HB.o.mono HB1.o.size))
  by_cases hlt:j<kn
  ·have j0:(0:Int)<=(j:Int):=by omega
   have j1:(j:Int)<(kn:Int):=by omega
   obtain⟨b,o,u0,u1,u2,rfl,hb,q0,q1,q2,hL,hKn⟩:=HA.o j hlt;have y0:wr.cell? ⟨b,o+j*3,none⟩=some u0:=(HBw.o.cell (p:=⟨b,o+j*3,none⟩) hb).trans q0;have y1:wr.cell? ⟨b,o+j*3+1,none⟩=some u1:=(HBw.o.cell (p:=⟨b,o+j*3+1,none⟩) hb).trans q1;have y2:wr.cell? ⟨b,o+j*3+2,none⟩=some u2:=(HBw.o.cell (p:=⟨b,o+j*3+2,none⟩) hb).trans q2;have HL:=aa hL;clear q0 q1 q2 hL hKn;go_wp2_with fail;refine(HL.o wr HBw.o).mono ?_;rintro e w3 ⟨V,⟨h,cap2,ds,rfl,hM3,hB3⟩,hR3⟩;have HM3:=aa hM3;have HB3:=aa hB3;have HR3:=aa hR3;clear hM3 hB3 hR3 y0 y1 y2 x2;go_wp2_with fail;refine(HBe.o _ _ g cap h cap2 bs ds _ _ w3 (HM.o.below HB3.o) HM3.o).mono ?_;rintro e w4 ⟨y,cap3,es,rfl,hM4,hB4⟩;have HB5:ae (sS wr.heap.size wr w4):=aa (HB3.o.trans (hB4.mono HB3.o.size));have HM4:=aa (hM4.lower (tc HBw.o.size HB3.o.size));have HR4:ae (qq (cn+1) _ (T (j+1))):=aa (by rw[HT.o j hlt];exact oV HR.o HR3.o)
   clear hM4 hB4;go_wp2;go_roundw
   case rel=>exact⟨j+1,y,cap3,es,_,rfl,by go_num,by omega,HM4,HR4,aa (HB.o.trans (HB5.o.mono HB.o.size))⟩
   case measure=>simp[sW];omega
  ·have j1:¬(j:Int)<(kn:Int):=by omega
   have HQ:ae (LdR (cn+1) m (T kn) w (.returned (.slice (some ⟨g,0,none⟩) (cn+1) cap)) wr):=aa ⟨W,⟨g,cap,bs,rfl,HM.o,HBw.o⟩,(show j=kn by omega) ▸ HR.o⟩
   go_wp2;go_ret;exact HQ.o
def stW(c cls:List Int)(i:Nat):Nat->Nat->Nat:=fun x=>if x<i/\kk cls (c.getD x 0)=true then stR (fun _=>0) (x+1)else fun _=>0
theorem zqm(c cls:List Int)(kids:List az):qq (c.length+1) (stW c cls c.length) (aQ c (.mk 1 cls kids)):=fun i k hi hk=>by
 unfold aQ stW;rw[if_pos rfl]
 by_cases h:i<c.length
 ·have hg:c.getD i 0=c[i]:=by simp[tS,h]
  rw[hg]
  by_cases hb:kk cls c[i]=true
  ·rw[if_pos ⟨h,hb⟩,zsy]
   simp only[bt,tL,Bool.false_or,decide_eq_true_eq]
   exact⟨fun e=>⟨e,c[i],sT h,(cO _ _).1 hb⟩,fun e=>e.1⟩
  ·rw[if_neg (fun e=>hb e.2)]
   simp only[bt,tL,Bool.false_eq_true,false_iff]
   rintro ⟨_,z,hz,hm⟩;rw[sT h]at hz
   cases hz
   exact hb ((cO _ _).2 hm)
 ·rw[if_neg (fun e=>h e.1)]
  simp only[bt,tL,Bool.false_eq_true,false_iff]
  rintro ⟨_,z,hz,_⟩;exact h (sY.1 hz).1
theorem zca(c cls:List Int)(i x:Nat):stW c cls (i+1) x=if x=i then (if kk cls (c.getD i 0)=true then stR (fun _=>0) (i+1)else fun _=>0)else stW c cls i x:=by
 unfold stW
 by_cases e:x=i
 ·subst e;simp
 ·rw[if_neg e]
  by_cases h:x<i
  ·simp only[h,tw h,true_and]
  ·have h2:¬x<i+1:=by omega
   simp only[h,h2,false_and]
theorem zcb(c cls:List Int)(i:Nat):stW c cls i i=fun _=>0:=by unfold stW;simp
theorem zxA(v2:ta)(c cls:List Int)(hc:cn<=90000)(hcn:cn=c.length)(hln:ln=cls.length)(hl9:ln<=1000000)(hm:m=(cn+1) / 64)(hI:RdI w co c)(hC:RdI w lo cls):
  sX Tryz.prog 149 #[.agg #[.int .i64 1,.slice lo ln lc,v2],.slice co cn cc] w (LdR (cn+1) m (aQ c (.mk 1 cls [])) w):=by
 have HOw:=aa (fun(W:sR)=>show sX Tryz.prog 172 #[.int .i64 ((cn:Int)+1)] W _ from ir (cn+1) m W (by omega) (by omega) hm)
 have HIn:=aa (fun(W:sR)(z:Int)(h:sS w.heap.size w W)=>znI lo ln lc cls z W (hC.below h) hln hl9)
 have HI:=aa hI;have HCN:=aa hcn;have HMm:=aa hm;clear hm hI hC hcn hln;go_enter Tryz.func149,Tryz.ntmps149;go_wp2_with fail;obtain⟨w1,hw1⟩:=am (w.alloc (.cells #[.int .i64 1,.slice lo ln lc,v2] 105));have hb1:sS w.heap.size w w1:=by rw[hw1];exact below_box
 have x2:w1.cell? ⟨w.heap.size,1,none⟩=some (.slice lo ln lc):=by rw[hw1];simp[go_sem]
 have hs1:w.heap.size<w1.heap.size:=by rw[hw1];simp
 rw[<- hw1];have HB1:=aa hb1;have HX2:=aa x2;clear hw1 hb1 x2;refine(HOw.o w1).mono ?_;rintro e w2 ⟨g,cap,bs,rfl,hM2,hB2⟩;have HM2:=aa (hM2.congr (V:=stW c cls 0) fun x j _ _=>by unfold stW;simp)
 have HB2:=aa hB2;clear hM2 hB2;go_wp2;go_loopw [7] (fun y wr=>∃(i:Nat),y=.int .i64 i/\i<=cn/\ae (Mt w1.heap.size wr g (cn+1) (m+1) bs (stW c cls i))/\ae (sS w1.heap.size w1 wr)) (fun y _=>cn-(sW y).toNat)
 case atStart=>exact⟨0,rfl,sU _,HM2,HB2⟩
 case round=>
  clear HM2 HB2;obtain⟨i,rfl,hi,HM,HB⟩:=hrel;have x2:wr.cell? ⟨w.heap.size,1,none⟩=some (.slice lo ln lc):=(HB.o.cell (p:=⟨w.heap.size,1,none⟩) hs1).trans HX2.o;have HBw:=aa (HB1.o.trans (HB.o.mono HB1.o.size))
  by_cases hlt:i<cn
  ·have i0:(0:Int)<=(i:Int):=by omega
   have i1:(i:Int)<(cn:Int):=by omega
   have hil:i<c.length:=by have:=HCN.o;omega
   obtain⟨a,rfl,ha,c1⟩:=HI.o.at hil;have c2:wr.cell? (a.add i)=some (.int .i64 c[i]):=(HBw.o.cell (p:=a.add i) (by rw[add_blk];exact ha)).trans c1
   have HG:ae (c.getD i 0=c[i]):=aa (by simp[tS,hil])
   obtain⟨z,hz⟩:=am (c[i]);rw[<- hz]at c2 HG;clear c1 hz;go_wp2_with fail;refine au [(0,true),(1,true),(2,true),(3,true),(4,true),(5,true),(6,false)] (fun W=>W.cell? ⟨w.heap.size,1,none⟩=some (.slice lo ln lc)/\W.cell? (a.add i)=some (.int .i64 z)) (fun _=>false) (by kernel_rfl) (by kernel_rfl) (fun j hj=>by cases hj) rfl (by kernel_rfl) ⟨x2,c2⟩ ?_
   iterate 6 (refine ax ?_ rfl (by kernel_rfl) (fun w' hS=>?_) ?_;(rotate_left;(obtain⟨s1,s2⟩:=hS;go_simp;with_reducible rfl);rotate_left))
   refine av rfl (by kernel_rfl) fun KK hKK=>?_
   go_simp;refine(HIn.o wr.drew z ⟨HBw.o.os,HBw.o.tape,HBw.o.output,HBw.o.size,HBw.o.block⟩).mono ?_;rintro e w3 ⟨rfl,e3⟩;obtain rfl:=e3.symm;refine hKK _ _ (fun _=>⟨x2,c2⟩) ?_
   refine aS (sZ ?_);clear hKK x2 c2;have HMd:ae (Mt w1.heap.size wr.drew g (cn+1) (m+1) bs (stW c cls i)):=aa (HM.o.keep fun _ _=>rfl)
   have HBd:ae (sS w1.heap.size w1 wr.drew):=aa ⟨HB.o.os,HB.o.tape,HB.o.output,HB.o.size,HB.o.block⟩
   by_cases hb:kk cls z=true
   ·rw[hb]
    have HBT:=aa hb;clear hb;have c3:=HMd.o.cell i (by omega)
    have hr:=HMd.o.row i (by omega)
    rw[zcb]at hr;have HSt:ae (sX Tryz.prog 173 #[.slice (some ⟨bs i,0,none⟩) (m+1) (m+1),.int .i64 ((i:Int)+1)] wr.drew _):=aa (zho (bs i) (m+1) (i+1) _ wr.drew hr (by have:=HMm.o;have:=sV (c:=64) (show i+1<=cn+1 by omega);omega) (by decide) (by omega))
    clear hr;have i2:(i:Int)<(cn:Int)+1:=by omega
    have i3:i<cn+1:=by omega
    go_wp2_with fail;refine HSt.o.mono ?_;rintro e w4 ⟨rfl,hr4,ho4⟩;have HM4:=aa ((HMd.o.set i (by omega) hr4 ho4 (fun j hj=>by unfold stR;split;rw[Nat.zero_or];exact tA (by decide) (ui _ (by decide));exact(by decide:(0:Nat)<18446744073709551616))).congr (V:=stW c cls (i+1)) fun x j _ _=>by
     rw[zca,HG.o,if_pos HBT.o])
    have HB4:=aa (HBd.o.trans (ho4.below (HM.o.low i (by omega))))
    clear hr4 ho4 c3;go_wp2;go_roundw
    case rel=>exact⟨i+1,by go_num,by omega,HM4,HB4⟩
    case measure=>simp[sW];omega
   ·have hb':kk cls z=false:=by simpa using hb
    rw[hb'];have HBT:=aa hb;clear hb hb';have HM4:=aa (HMd.o.congr (V:=stW c cls (i+1)) fun x j _ _=>by
     rw[zca,HG.o,if_neg HBT.o]
     by_cases e:x=i
     ·subst e;rw[if_pos rfl,zcb]
     ·rw[if_neg e])
    go_wp2;go_roundw
    case rel=>exact⟨i+1,by go_num,by omega,HM4,HBd⟩
    case measure=>simp[sW];omega
  ·have i1:¬(i:Int)<(cn:Int):=by omega
   have HQ:ae (LdR (cn+1) m (aQ c (.mk 1 cls [])) w (.returned (.slice (some ⟨g,0,none⟩) (cn+1) cap)) wr):=aa ⟨stW c cls i,⟨g,cap,bs,rfl,HM.o.lower (tg hs1),HBw.o⟩,by
    have e:i=c.length:=by have:=HCN.o;omega
    have h:=zqm c cls [];rw[e,HCN.o];exact h⟩
   go_wp2;go_ret;exact HQ.o
end
theorem zxs(c cls:List Int)(kids:List az):aQ c (.mk 1 cls kids)=aQ c (.mk 1 cls []):=by
 funext i k
 unfold aQ;rw[if_pos rfl,if_pos rfl]
theorem zaP(c:List Int)(p0:az)(ps:List az):cM c (p0::ps)=aQ c p0:=by rw[cM]
theorem zxr(c cls:List Int)(p0:az)(ps:List az):aQ c (.mk 4 cls (p0::ps))=cr (aQ c p0):=by
 rw[aQ]
 simp[zaP]
theorem zsj(c cls:List Int)(p0:az)(ps:List az):aQ c (.mk 5 cls (p0::ps))=Cmp (aQ c p0) (cr (aQ c p0)):=by
 rw[aQ]
 simp[zaP]
theorem zxq(c cls:List Int)(p0:az)(ps:List az):aQ c (.mk 6 cls (p0::ps))=fun i k=>i=k\/aQ c p0 i k:=by
 rw[aQ]
 simp[zaP]
theorem zhU(c cls:List Int)(ks:List az):aQ c (.mk 2 cls ks)=cF c ks:=by
 rw[aQ]
 simp
theorem zsk(c cls:List Int)(ks:List az):aQ c (.mk 3 cls ks)=bU c ks:=by
 rw[aQ]
 simp
theorem zsi(c cls:List Int)(ks:List az)(op:Int)(h1:op≠1)(h2:op≠2)(h3:op≠3)(h4:op≠4)(h5:op≠5)(h6:op≠6):aQ c (.mk op cls ks)=fun i k=>i=k:=by
 rw[aQ]
 simp[h1,h2,h3,h4,h5,h6]
theorem rN(c:List Int)(cn m:Nat)(hcn:cn=c.length)(hc:cn<=90000)(hm:m=(cn+1) / 64)(co:Option Addr)(cc:Nat):∀p:az,Wf p->∀(v0 v1 v2:ta)(w:sR),cC w p v0 v1 v2->RdI w co c->sX Tryz.prog 149 #[.agg #[v0,v1,v2],.slice co cn cc] w (LdR (cn+1) m (aQ c p) w):=by
 refine az.ind fun op cls kids ih hW v0 v1 v2 w hP hI=>?_
 unfold cC at hP;unfold Wf at hW;obtain⟨rfl,⟨lo,lc,rfl,hl1,hl2⟩,ko,kc,rfl,hk1,hk2,_⟩:=hP;have HA:KdA w ko kids.length co cn cc m (fun j=>aQ c (kids.getD j (.mk 0 [] []))):=fun j hj=>by
  have hg:kids[j]?=some kids[j]:=sT hj;have hd:kids.getD j (.mk 0 [] [])=kids[j]:=by simp[tS,hj]
  obtain⟨b,o,h1,h2,u0,u1,u2,q0,q1,q2,hq⟩:=gz.at kids ko 0 j _ hk1 hg;rw[t8]at q0 q1 q2;refine⟨b,o,u0,u1,u2,h1,h2,q0,q1,q2,fun W hW2=>?_,?_⟩
  ·simp only[hd]
   exact ih _ (tf hj) (hW.2.mem (tf hj)) u0 u1 u2 W (cC.below hW2 _ _ _ _ hq) (hI.below hW2)
  ·simp only[hd,hcn]
   exact zaO c _
 by_cases h1:op=1
 ·subst h1
  rw[zxs];exact zxA lo co cls.length lc cn cc m w _ c cls hc hcn rfl hl2 hm hI hl1
 by_cases h2:op=2
 ·subst h2
  have:=zxz lo co cls.length lc kids.length kc cn cc m w ko _ (fun j=>cF c (kids.take j)) hc hk2 hm (aa HA) (aa (by simp only[List.take_zero];exact ci c)) (aa fun j hj=>by
   have hd:kids.getD j (.mk 0 [] [])=kids[j]:=by simp[tS,hj]
   simp only[hd]
   exact zkg c kids j hj)
  simp only[tM]at this
  rw[zhU];exact this
 by_cases h3:op=3
 ·subst h3
  have:=zxy lo co cls.length lc kids.length kc cn cc m w ko _ (fun j=>bU c (kids.take j)) hc hk2 hm (aa HA) (aa (by funext i k;simp[bU])) (aa fun j hj=>by
   have hd:kids.getD j (.mk 0 [] [])=kids[j]:=by simp[tS,hj]
   simp only[hd]
   funext i k
   exact propext (zkh c kids j hj i k))
  simp only[tM]at this
  rw[zsk];exact this
 by_cases h456:op=4\/op=5\/op=6
 ·obtain⟨p0,ps,rfl⟩:∃p0 ps,kids=p0::ps:=by
   cases kids with
   |nil=>exact absurd rfl (hW.1 h456)
   |cons a b=>exact⟨a,b,rfl⟩
  obtain⟨b,o,u0,u1,u2,rfl,hb,q0,q1,q2,hL,hKn⟩:=HA 0 (by simp)
  simp only[Nat.zero_mul,Nat.add_zero,List.getD_cons_zero]at q0 q1 q2 hL hKn
  rcases h456 with rfl|rfl|rfl
  ·rw[zxr]
   exact zxx lo co cls.length lc b o _ kc cn cc m u0 u1 u2 _ w hb (by simp) hc hm q0 q1 q2 (aa hL) (aa hKn)
  ·rw[zsj]
   exact zxw lo co cls.length lc b o _ kc cn cc m u0 u1 u2 _ w hb (by simp) hc hm q0 q1 q2 (aa hL) (aa hKn)
  ·rw[zxq]
   exact zxv lo co cls.length lc b o _ kc cn cc m u0 u1 u2 _ w hb (by simp) hc hm q0 q1 q2 (aa hL)
 ·have h4:op≠4:=fun e=>h456 (.inl e)
  have h5:op≠5:=fun e=>h456 (.inr (.inl e))
  have h6:op≠6:=fun e=>h456 (.inr (.inr e))
  rw[zsi c cls kids op h1 h2 h3 h4 h5 h6];exact zxB co cn cc m w _ _ op h1 h2 h3 h4 h5 h6 hc hm
end Pt
end
section
namespace Pt
mutual
def oU:az->az
 | .mk op cls kids=>.mk op cls (if op=2 then (lZ kids).reverse else lZ kids)
def lZ:List az->List az
 |[]=>[]
 |p::ps=>oU p::lZ ps
end
theorem zcx:∀ps:List az,lZ ps=ps.map oU
 |[]=>by unfold lZ;rfl
 |p::ps=>by unfold lZ;rw[zcx ps];rfl
theorem zfx(op:Int)(cls:List Int)(kids:List az):oU (.mk op cls kids)=.mk op cls (if op=2 then (kids.map oU).reverse else kids.map oU):=by
 unfold oU;rw[zcx]
theorem ziY{R:Nat->Nat->Prop}{i j k:Nat}(h:cr R i j)(h2:R j k):Cmp R (cr R) i k:=by
 induction h with
 |refl=>exact⟨k,h2,.refl _⟩
 |step a b ih=>
  obtain⟨m,h3,h4⟩:=ih h2;exact⟨_,a,.step h3 h4⟩
theorem qV{R S:Nat->Nat->Prop}{n:Nat}(hR:∀i k,R i k->i<=k)(h:∀i k,k<=n->R i k->S (n-k) (n-i)){i k:Nat}(hs:cr R i k):k<=n->cr S (n-k) (n-i):=by
 induction hs with
 |refl=>exact fun _=>.refl _
 |step a b ih=>
  intro hk;have h1:=dD hR b;exact(ih hk).trans (.step (h _ _ (by omega) a) (.refl _))
mutual
theorem oa(c:List Int):∀(p:az)(i k:Nat),k<=c.length->aQ c p i k->aQ c.reverse (oU p) (c.length-k) (c.length-i)
 | .mk op cls kids,i,k,hk,h=>by
  have H:=znD c kids;have HL:=gK c kids;unfold aQ at h;rw[oU];unfold aQ
  split at h
  ·rename_i e
   rw[if_pos e];obtain⟨h1,z,h2,h3⟩:=h;have hi:=(sY.1 h2).1;refine⟨by omega,z,?_,h3⟩
   rw[List.getElem?_reverse (by omega),show c.length-1-(c.length-k)=i by omega]
   exact h2
  ·rename_i e
   rw[if_neg e]
   split at h
   ·rename_i e
    rw[if_pos e,if_pos e];exact zej c kids i k hk h
   ·rename_i e
    rw[if_neg e,if_neg e]
    split at h
    ·rename_i e
     rw[if_pos e];exact zel c kids i k hk h
    ·rename_i e
     rw[if_neg e]
     split at h
     ·rename_i e
      rw[if_pos e];exact qV HL H h hk
     ·rename_i e
      rw[if_neg e]
      split at h
      ·rename_i e
       rw[if_pos e];obtain⟨j,h1,h2⟩:=h;have h3:=dD HL h2;exact ziY (qV HL H h2 hk) (H _ _ (by omega) h1)
      ·rename_i e
       rw[if_neg e]
       split at h
       ·rename_i e
        rw[if_pos e]
        rcases h with h|h
        ·exact .inl (by omega)
        ·exact .inr (H _ _ hk h)
       ·rename_i e
        rw[if_neg e];omega
theorem zej(c:List Int):∀(ps:List az)(i k:Nat),k<=c.length->cF c ps i k->cF c.reverse (lZ ps).reverse (c.length-k) (c.length-i)
 |[],i,k,hk,h=>by
  rw[ci]at h;rw[lZ,List.reverse_nil,ci];omega
 |p::ps,i,k,hk,h=>by
  rw[bY]at h;obtain⟨j,h1,h2⟩:=h;have h3:=lh c ps _ _ h2;rw[lZ,List.reverse_cons,lk,bY,ci,ziC];exact⟨c.length-j,zej c ps j k hk h2,oa c p i j (by omega) h1⟩
theorem zel(c:List Int):∀(ps:List az)(i k:Nat),k<=c.length->bU c ps i k->bU c.reverse (lZ ps) (c.length-k) (c.length-i)
 |[],i,k,hk,h=>by unfold bU at h;exact h.elim
 |p::ps,i,k,hk,h=>by
  rw[lZ];unfold bU at h⊢
  rcases h with h|h
  ·exact .inl (oa c p i k hk h)
  ·exact .inr (zel c ps i k hk h)
theorem znD(c:List Int):∀(ps:List az)(i k:Nat),k<=c.length->cM c ps i k->cM c.reverse (lZ ps) (c.length-k) (c.length-i)
 |[],i,k,hk,h=>by unfold cM at h;exact h.elim
 |p::ps,i,k,hk,h=>by
  rw[lZ];unfold cM at h⊢;exact oa c p i k hk h
end
def dG(p:az)(L:List Int):Prop:=∀(c:List Int)(i k:Nat),aQ c p i k->i<k->∃z,c[i]?=some z/\z∈L
def Nil(p:az):Prop:=∀(c:List Int)(i k:Nat),¬aQ c p i k
def zbK(ps:List az):Prop:=∀(c:List Int)(i k:Nat),¬cF c ps i k
def Ful(p:az):Prop:=∀(c:List Int)(i:Nat),¬aQ c p i i
theorem dG.mono{p:az}{L M:List Int}(h:dG p L)(hm:∀z∈L,z∈M):dG p M:=fun c i k h1 h2=>by
 obtain⟨z,h3,h4⟩:=h c i k h1 h2;exact⟨z,h3,hm z h4⟩
theorem zvI(cls:List Int)(kids:List az):dG (.mk 1 cls kids) cls:=fun c i k h _=>by
 unfold aQ at h;rw[if_pos rfl]at h;exact h.2
theorem zqW(op:Int)(cls:List Int)(kids:List az)(h1:op≠1)(h2:op≠2)(h3:op≠3)(h4:op≠4)(h5:op≠5)(h6:op≠6):dG (.mk op cls kids) []:=fun c i k h hlt=>by
 rw[zsi c cls kids op h1 h2 h3 h4 h5 h6]at h;have h:i=k:=h;omega
theorem zhm{R:Nat->Nat->Prop}{c L:List Int}(hR:∀i k,R i k->i<=k)(h:∀i k,R i k->i<k->∃z,c[i]?=some z/\z∈L){i k:Nat}(hs:cr R i k):i<k->∃z,c[i]?=some z/\z∈L:=by
 induction hs with
 |refl=>intro h;omega
 |step a b ih=>
  rename_i i j k
  intro hlt
  rcases tt (hR _ _ a)with e|e
  ·subst e;exact ih hlt
  ·exact h _ _ a e
theorem zqX(op:Int)(cls:List Int)(kids:List az)(L:List Int)(h1:op≠1)(h2:op≠2)(h:∀p∈kids,dG p L):dG (.mk op cls kids) L:=fun c i k hl hlt=>by
 have hO:∀ps:List az,(∀p∈ps,dG p L)->∀i k,bU c ps i k->i<k->∃z,c[i]?=some z/\z∈L:=by
  intro ps
  induction ps with
  |nil=>intro _ i k h;unfold bU at h;exact h.elim
  |cons p ps ih=>
   intro hp i k h hlt;unfold bU at h
   rcases h with h|h
   ·exact hp p (tF ..) c i k h hlt
   ·exact ih (fun q hq=>hp q (tR _ hq)) i k h hlt
 have hH:∀i k,cM c kids i k->i<k->∃z,c[i]?=some z/\z∈L:=by
  intro i k h2 hlt
  cases kids with
  |nil=>unfold cM at h2;exact h2.elim
  |cons p ps=>
   rw[zaP]at h2;exact h p (tF ..) c i k h2 hlt
 unfold aQ at hl;rw[if_neg h1,if_neg h2]at hl
 split at hl
 ·exact hO kids h i k hl hlt
 ·split at hl
  ·exact zhm (gK c kids) hH hl hlt
  ·split at hl
   ·obtain⟨j,h3,h4⟩:=hl
    rcases tt (gK c kids _ _ h3)with e|e
    ·subst e;exact zhm (gK c kids) hH h4 hlt
    ·exact hH _ _ h3 e
   ·split at hl
    ·rcases hl with hl|hl
     ·omega
     ·exact hH _ _ hl hlt
    ·omega
def FsT(kids:List az)(j:Nat)(L:List Int):Prop:=∀(c:List Int)(i k:Nat),cF c kids i k->i<k->(∃z,c[i]?=some z/\z∈L)\/cF c (kids.drop j) i k
theorem zxF(kids:List az):FsT kids 0 []:=fun _ _ _ h _=>.inr h
theorem zgs{kids:List az}{j:Nat}{c:List Int}{i k:Nat}(hj:j<kids.length)(h:cF c (kids.drop j) i k):∃m,aQ c kids[j] i m/\cF c (kids.drop (j+1)) m k:=by
 rw[List.drop_eq_getElem_cons hj,bY]at h;exact h
theorem pU{kids:List az}{j:Nat}{L M:List Int}(hj:j<kids.length)(h:FsT kids j L)(hL:∀z∈L,z∈M)(h1:dG kids[j] M\/Nil kids[j]\/zbK (kids.drop (j+1))):FsT kids (j+1) M:=fun c i k hl hlt=>by
 rcases h c i k hl hlt with ⟨z,h2,h3⟩|h2
 ·exact .inl ⟨z,h2,hL z h3⟩
 ·obtain⟨m,h3,h4⟩:=zgs hj h2
  rcases tt (kh c _ _ _ h3)with e|e
  ·subst e;exact .inr h4
  ·rcases h1 with h1|h1|h1
   ·exact .inl (h1 c i m h3 e)
   ·exact absurd h3 (h1 _ _ _)
   ·exact absurd h4 (h1 _ _ _)
theorem pT{kids:List az}{j:Nat}{L M:List Int}(hj:j<kids.length)(h:FsT kids j L)(hL:∀z∈L,z∈M)(h1:dG kids[j] M\/Nil kids[j]\/zbK (kids.drop (j+1)))(h0:Ful kids[j])(op:Int)(cls:List Int)(ho:op=2):dG (.mk op cls kids) M:=fun c i k hl hlt=>by
 subst ho;rw[zhU]at hl
 rcases h c i k hl hlt with ⟨z,h2,h3⟩|h2
 ·exact⟨z,h2,hL z h3⟩
 ·obtain⟨m,h3,h4⟩:=zgs hj h2
  rcases tt (kh c _ _ _ h3)with e|e
  ·subst e;exact absurd h3 (h0 _ _)
  ·rcases h1 with h1|h1|h1
   ·exact h1 c i m h3 e
   ·exact absurd h3 (h1 _ _ _)
   ·exact absurd h4 (h1 _ _ _)
theorem zqV{kids:List az}{L:List Int}(h:FsT kids kids.length L)(op:Int)(cls:List Int)(ho:op=2):dG (.mk op cls kids) L:=fun c i k hl hlt=>by
 subst ho;rw[zhU]at hl
 rcases h c i k hl hlt with h2|h2
 ·exact h2
 ·rw[List.drop_length,ci]at h2
  omega
theorem zhK{ps:List az}{j:Nat}(hj:j<ps.length)(h:Nil ps[j]):zbK ps:=fun c i k hl=>by
 rw[<- List.take_append_drop j ps,lk]at hl;obtain⟨m,_,h2⟩:=hl;obtain⟨q,h3,_⟩:=zgs hj h2;exact h _ _ _ h3
theorem zqt(kids:List az):Nil (.mk 1 [] kids):=fun c i k h=>by
 unfold aQ at h;rw[if_pos rfl]at h;obtain⟨_,z,_,h2⟩:=h
 cases h2
theorem zmd{cls:List Int}{kids:List az}(h:zbK kids):Nil (.mk 2 cls kids):=fun c i k hl=>by
 rw[zhU]at hl;exact h _ _ _ hl
theorem ztj{cls:List Int}{kids:List az}(h:∀p∈kids,Nil p):Nil (.mk 3 cls kids):=fun c i k hl=>by
 rw[zsk]at hl
 revert i k
 induction kids with
 |nil=>intro i k h;unfold bU at h;exact h
 |cons p ps ih=>
  intro i k h2;unfold bU at h2
  rcases h2 with h2|h2
  ·exact h p (tF ..) _ _ _ h2
  ·exact ih (fun q hq=>h q (tR _ hq)) i k h2
theorem zme{cls:List Int}{p:az}{ps:List az}(h:Nil p):Nil (.mk 5 cls (p::ps)):=fun c i k hl=>by
 rw[zsj]at hl;obtain⟨_,h1,_⟩:=hl;exact h _ _ _ h1
mutual
theorem oe(c:List Int):∀(p:az)(i:Nat),aQ c p i i->aQ [] p 0 0
 | .mk op cls kids,i,h=>by
  have H:=znE c kids;have HL:=gK c kids;unfold aQ at h⊢
  split at h
  ·omega
  ·rename_i e
   rw[if_neg e]
   split at h
   ·rename_i e
    rw[if_pos e];exact zek c kids i h
   ·rename_i e
    rw[if_neg e]
    split at h
    ·rename_i e
     rw[if_pos e];exact zem c kids i h
    ·rename_i e
     rw[if_neg e]
     split at h
     ·rename_i e
      rw[if_pos e];exact .refl _
     ·rename_i e
      rw[if_neg e]
      split at h
      ·rename_i e
       rw[if_pos e];obtain⟨j,h1,h2⟩:=h;have h3:=HL _ _ h1;have h4:=dD HL h2;obtain rfl:j=i:=by omega
       exact⟨0,H _ h1,.refl _⟩
      ·rename_i e
       rw[if_neg e]
       split at h
       ·rename_i e
        rw[if_pos e];exact .inl rfl
       ·rename_i e
        rw[if_neg e]
theorem zek(c:List Int):∀(ps:List az)(i:Nat),cF c ps i i->cF [] ps 0 0
 |[],i,h=>by rw[ci]
 |p::ps,i,h=>by
  rw[bY]at h⊢;obtain⟨j,h1,h2⟩:=h;have h3:=kh c p _ _ h1;have h4:=lh c ps _ _ h2;obtain rfl:j=i:=by omega
  exact⟨0,oe c p _ h1,zek c ps _ h2⟩
theorem zem(c:List Int):∀(ps:List az)(i:Nat),bU c ps i i->bU [] ps 0 0
 |[],i,h=>by unfold bU at h;exact h.elim
 |p::ps,i,h=>by
  unfold bU at h⊢
  rcases h with h|h
  ·exact .inl (oe c p i h)
  ·exact .inr (zem c ps i h)
theorem znE(c:List Int):∀(ps:List az)(i:Nat),cM c ps i i->cM [] ps 0 0
 |[],i,h=>by unfold cM at h;exact h.elim
 |p::ps,i,h=>by unfold cM at h⊢;exact oe c p i h
end
theorem zvH{p:az}(h:¬aQ [] p 0 0):Ful p:=fun c i hl=>h (oe c p i hl)
end Pt
end
section
open Go.RowKit
namespace Pt
def Rs(cls:List Int):Prop:=∀(i:Nat)(z:Int),cls[i]?=some z->0<=z/\z<2147483647/\∀(y:Int),0<i->cls[i-1]?=some y->y<z
def OkN(op:Int)(cls:List Int)(kn:Nat):Prop:=(op=1/\kn=0/\Rs cls)\/cls=[]/\((op=0/\kn=0)\/(op=2/\2<=kn)\/(op=3/\2<=kn)\/(op=4/\kn=1)\/(op=5/\kn=1)\/(op=6/\kn=1))
section
variable (lo:Option Addr) (ln lc kn kc:Nat) (ko:Option Addr) (w:sR)
theorem zti(op:Int)(hk9:kn<=1000000)(h:(op=0/\kn=0)\/(op=2/\2<=kn)\/(op=3/\2<=kn)\/(op=4/\kn=1)\/(op=5/\kn=1)\/(op=6/\kn=1)):
  sX Tryz.prog 186 #[.agg #[.int .i64 op,.slice lo 0 lc,.slice ko kn kc],.int .i64 2147483647] w fun e w'=>e=.returned (.int .i64 0)/\sS w.heap.size w w':=by
 have HB:=aa (fun(o:Obj)=>below_box (w:=w) (o:=o))
 rcases h with ⟨rfl,rfl⟩|⟨rfl,h2⟩|⟨rfl,h2⟩|⟨rfl,rfl⟩|⟨rfl,rfl⟩|⟨rfl,rfl⟩
 ·go_enter Tryz.func186,Tryz.ntmps186
  go_wp2;go_loopw [7] (fun y wr=>y=.int .i64 0/\wr=w.alloc (.cells #[.int .i64 0,.slice lo 0 lc,.slice ko 0 kc] 105)) (fun y _=>0)
  case atStart=>exact⟨rfl,rfl⟩
  case round=>
   obtain⟨rfl,rfl⟩:=hrel;go_wp2;go_ret;exact⟨rfl,HB.o _⟩
 ·have k1:(2:Int)<=(kn:Int):=by omega
  have k3:((kn:Int)==1)=false:=by simp;omega
  go_enter Tryz.func186,Tryz.ntmps186;go_wp2;go_loopw [7] (fun y wr=>y=.int .i64 0/\wr=w.alloc (.cells #[.int .i64 2,.slice lo 0 lc,.slice ko kn kc] 105)) (fun y _=>0)
  case atStart=>exact⟨rfl,rfl⟩
  case round=>
   obtain⟨rfl,rfl⟩:=hrel;go_wp2;go_ret;exact⟨rfl,HB.o _⟩
 ·have k1:(2:Int)<=(kn:Int):=by omega
  have k3:((kn:Int)==1)=false:=by simp;omega
  go_enter Tryz.func186,Tryz.ntmps186;go_wp2;go_loopw [7] (fun y wr=>y=.int .i64 0/\wr=w.alloc (.cells #[.int .i64 3,.slice lo 0 lc,.slice ko kn kc] 105)) (fun y _=>0)
  case atStart=>exact⟨rfl,rfl⟩
  case round=>
   obtain⟨rfl,rfl⟩:=hrel;go_wp2;go_ret;exact⟨rfl,HB.o _⟩
 ·go_enter Tryz.func186,Tryz.ntmps186
  go_wp2;go_loopw [7] (fun y wr=>y=.int .i64 0/\wr=w.alloc (.cells #[.int .i64 4,.slice lo 0 lc,.slice ko 1 kc] 105)) (fun y _=>0)
  case atStart=>exact⟨rfl,rfl⟩
  case round=>
   obtain⟨rfl,rfl⟩:=hrel;go_wp2;go_ret;exact⟨rfl,HB.o _⟩
 ·go_enter Tryz.func186,Tryz.ntmps186
  go_wp2;go_loopw [7] (fun y wr=>y=.int .i64 0/\wr=w.alloc (.cells #[.int .i64 5,.slice lo 0 lc,.slice ko 1 kc] 105)) (fun y _=>0)
  case atStart=>exact⟨rfl,rfl⟩
  case round=>
   obtain⟨rfl,rfl⟩:=hrel;go_wp2;go_ret;exact⟨rfl,HB.o _⟩
 ·go_enter Tryz.func186,Tryz.ntmps186
  go_wp2;go_loopw [7] (fun y wr=>y=.int .i64 0/\wr=w.alloc (.cells #[.int .i64 6,.slice lo 0 lc,.slice ko 1 kc] 105)) (fun y _=>0)
  case atStart=>exact⟨rfl,rfl⟩
  case round=>
   obtain⟨rfl,rfl⟩:=hrel;go_wp2;go_ret;exact⟨rfl,HB.o _⟩
theorem zth(cls:List Int)(hln:ln=cls.length)(hl9:ln<=1000000)(hR:Rs cls)(hC:RdI w lo cls):
  sX Tryz.prog 186 #[.agg #[.int .i64 1,.slice lo ln lc,.slice ko 0 kc],.int .i64 2147483647] w fun e w'=>e=.returned (.int .i64 0)/\sS w.heap.size w w':=by
 have HR:=aa hR;have HC:=aa hC;have HLN:=aa hln;clear hR hC hln;go_enter Tryz.func186,Tryz.ntmps186;go_wp2;obtain⟨w1,hw1⟩:=am (w.alloc (.cells #[.int .i64 1,.slice lo ln lc,.slice ko 0 kc] 105));have hb1:sS w.heap.size w w1:=by rw[hw1];exact below_box
 have x2:w1.cell? ⟨w.heap.size,1,none⟩=some (.slice lo ln lc):=by rw[hw1];simp[go_sem]
 have hs1:w.heap.size<w1.heap.size:=by rw[hw1];simp
 rw[<- hw1];have HB1:=aa hb1;have HX2:=aa x2;clear hw1 hb1 x2;go_loopw [7] (fun y wr=>∃i:Nat,y=.int .i64 i/\i<=ln/\ae (sS w1.heap.size w1 wr)) (fun y _=>ln-(sW y).toNat)
 case atStart=>exact⟨0,rfl,sU _,aa (tr _ _)⟩
 case round=>
  obtain⟨i,rfl,hi,HB⟩:=hrel;have x2:wr.cell? ⟨w.heap.size,1,none⟩=some (.slice lo ln lc):=(HB.o.cell (p:=⟨w.heap.size,1,none⟩) hs1).trans HX2.o;have HBw:=aa (HB1.o.trans (HB.o.mono HB1.o.size))
  by_cases hlt:i<ln
  ·have i0:(0:Int)<=(i:Int):=by omega
   have i1:(i:Int)<(ln:Int):=by omega
   have hil:i<cls.length:=by have:=HLN.o;omega
   obtain⟨a,ha1,ha,c1⟩:=HC.o.at hil;have c2:wr.cell? (a.add i)=some (.int .i64 cls[i]):=(HBw.o.cell (p:=a.add i) (by rw[add_blk];exact ha)).trans c1
   obtain⟨z,hz⟩:=am (cls[i]);have hgz:cls[i]?=some z:=by rw[hz];exact sT hil
   rw[<- hz]at c2;obtain⟨r1,r2,r3⟩:=HR.o i z hgz;clear c1 hz;have d1:decide (z<0)=false:=decide_eq_false (by omega)
   have d2:decide ((2147483647:Int)<=z)=false:=decide_eq_false (by omega)
   have n1:¬z<0:=by omega
   have n2:¬(2147483647:Int)<=z:=by omega
   by_cases hi0:i=0
   ·subst hi0
    subst ha1;have c5:wr.cell? a=some (.int .i64 z):=by
     have e:a.add 0=a:=by unfold Addr.add;split<;>simp_all
     rw[e]at c2;exact c2
    have i5:(0:Int)<(ln:Int):=by omega
    clear hgz r3 c2 i1 i0;go_wp2_with fail;go_quiet (fail);have HBd:ae (sS w1.heap.size w1 (wr.drewN nq)):=aa ⟨HB.o.os,HB.o.tape,HB.o.output,HB.o.size,HB.o.block⟩;go_wp2;go_roundw
    case rel=>exact⟨1,by go_num,by omega,HBd⟩
    case measure=>simp[sW];omega
   ·have hj:i-1<cls.length:=by omega
    obtain⟨a2,ha2,hb2,c3⟩:=HC.o.at hj;rw[ha1]at ha2
    cases ha2
    have c4:wr.cell? (a.add (i-1))=some (.int .i64 cls[i-1]):=(HBw.o.cell (p:=a.add (i-1)) (by rw[add_blk];exact ha)).trans c3
    obtain⟨y,hy⟩:=am (cls[i-1]);have hgy:cls[i-1]?=some y:=by rw[hy];exact sT hj
    rw[<- hy]at c4;have r4:=r3 y (by omega) hgy
    subst ha1;clear c3 hy hgz hgy r3;have d3:decide ((0:Int)<(i:Int))=true:=decide_eq_true (by omega)
    have n3:(0:Int)<(i:Int):=by omega
    have n3':0<i:=by omega
    have d4:decide (z<=y)=false:=decide_eq_false (by omega)
    have n4:¬z<=y:=by omega
    have e1:((i:Int)-1).toNat=i-1:=by omega
    have e2:(0:Int)<=(i:Int)-1:=by omega
    have e3:(i:Int)-1<(ln:Int):=by omega
    have e4:tu.wrap ((i:Int)-1)=(i:Int)-1:=by unfold tk tn td;simp;omega
    clear hi0;go_wp2_with fail;go_quiet (fail);have HBd:ae (sS w1.heap.size w1 (wr.drewN nq)):=aa ⟨HB.o.os,HB.o.tape,HB.o.output,HB.o.size,HB.o.block⟩;go_wp2;go_roundw
    case rel=>exact⟨i+1,by go_num,by omega,HBd⟩
    case measure=>simp[sW];omega
  ·have i1:¬(i:Int)<(ln:Int):=by omega
   go_wp2;go_ret;exact⟨rfl,HBw.o⟩
end
end Pt
end
section
open Go.RowKit
namespace Pt
mutual
def gu:az->Nat
 | .mk _ _ kids=>kG kids+1
def kG:List az->Nat
 |[]=>0
 |p::ps=>gu p+kG ps
end
mutual
def jX:az->Prop
 | .mk op cls kids=>OkN op cls kids.length/\nB kids
def nB:List az->Prop
 |[]=>True
 |p::ps=>jX p/\nB ps
end
theorem nB.mem:∀{ps:List az} {p:az},nB ps->p∈ps->jX p
 |[],p,_,hp=>by cases hp
 |q::ps,p,h,hp=>by
  unfold nB at h
  cases hp with
  |head=>exact h.1
  |tail _ hp=>exact nB.mem h.2 hp
mutual
theorem jX.wf:∀{p:az},jX p->Wf p
 | .mk op cls kids,h=>by
  unfold jX at h;unfold Wf;refine⟨fun h456 e=>?_,nB.wf h.2⟩
  obtain⟨h1,_⟩:=h;subst e;unfold OkN at h1
  simp only[List.length_nil]at h1
  rcases h1 with ⟨h1,_⟩|⟨_,h1⟩<;>omega
theorem nB.wf:∀{ps:List az},nB ps->WfL ps
 |[],_=>by unfold WfL;trivial
 |q::ps,h=>by
  unfold nB at h;unfold WfL;exact⟨jX.wf h.1,nB.wf h.2⟩
end
theorem eH:∀(ps:List az)(j:Nat)(p:az),ps[j]?=some p->kG (ps.take (j+1))=kG (ps.take j)+gu p
 |[],j,p,h=>by simp at h
 |q::ps,0,p,h=>by simp at h;subst h;simp[kG]
 |q::ps,j+1,p,h=>by
  have:=eH ps j p (by simpa using h)
  simp only[tU,kG,this]
  omega
theorem fC:∀(ps:List az)(j:Nat),kG (ps.take j)<=kG ps
 |[],j=>by simp[kG]
 |q::ps,0=>by simp[kG]
 |q::ps,j+1=>by
  have:=fC ps j
  simp only[tU,kG]
  omega
def CkQ(w:sR)(n:Nat)(e:uj)(w':sR):Prop:=e=.returned (.tuple #[.int .i64 0,.int .i64 (n:Int)])/\sS w.heap.size w w'
set_option maxRecDepth 100000 in
theorem check_in(lo ko:Option Addr)(ln lc kn kc:Nat)(op:Int)(w:sR)(ahead:Nat)(S:Nat->Nat)(hk9:kn<=1000000)(h1:ahead<2048)(hS:∀j,j<=kn->S j<=3000)(HS0:ae (S 0=ahead+1))
  (HN:ae (∀W,sS w.heap.size w W->sX Tryz.prog 186 #[.agg #[.int .i64 op,.slice lo ln lc,.slice ko kn kc],.int .i64 2147483647] W fun e w'=>e=.returned (.int .i64 0)/\sS W.heap.size W w'))
  (HK:ae (∀j,j<kn->∃b o u0 u1 u2,ko=some ⟨b,o,none⟩/\b<w.heap.size/\w.cell? ⟨b,o+j*3,none⟩=some u0/\w.cell? ⟨b,o+j*3+1,none⟩=some u1/\w.cell? ⟨b,o+j*3+2,none⟩=some u2/\∀W,sS w.heap.size w W->sX Tryz.prog 171 #[.agg #[u0,u1,u2],.int .i64 2147483647,.int .i64 (S j)] W (CkQ W (S (j+1))))):
  sX Tryz.prog 171 #[.agg #[.int .i64 op,.slice lo ln lc,.slice ko kn kc],.int .i64 2147483647,.int .i64 ahead] w (CkQ w (S kn)):=by
 have a1:(ahead:Int)<2048:=by omega
 have HS:=aa hS;clear hS;go_enter Tryz.func171,Tryz.ntmps171;go_wp2_with fail;obtain⟨w1,hw1⟩:=am (w.alloc (.cells #[.int .i64 op,.slice lo ln lc,.slice ko kn kc] 105));have hb1:sS w.heap.size w w1:=by rw[hw1];exact below_box
 have x2:w1.cell? ⟨w.heap.size,2,none⟩=some (.slice ko kn kc):=by rw[hw1];simp[go_sem]
 have hs1:w.heap.size<w1.heap.size:=by rw[hw1];simp
 rw[<- hw1];have HB1:=aa hb1;have HX2:=aa x2;clear hw1 hb1 x2;refine(HN.o w1 HB1.o).mono ?_;rintro e w2 ⟨rfl,hB2⟩;have HB2:=aa hB2;clear hB2;go_wp2;go_loopw [8,9,10] (fun x y z wr=>∃(j s:Nat),x=.int .i64 0/\y=.int .i64 s/\z=.int .i64 j/\j<=kn/\s<=3000/\ae (s=S j)/\ae (sS w1.heap.size w1 wr)) (fun _ _ z _=>kn-(sW z).toNat)
 case atStart=>exact⟨0,ahead+1,rfl,by go_num,rfl,sU _,by omega,aa HS0.o.symm,HB2⟩
 case round=>
  clear HB2;obtain⟨j,s,rfl,rfl,rfl,hj,hs9,HSj,HB⟩:=hrel;have x2:wr.cell? ⟨w.heap.size,2,none⟩=some (.slice ko kn kc):=(HB.o.cell (p:=⟨w.heap.size,2,none⟩) hs1).trans HX2.o;have HBw:=aa (HB1.o.trans (HB.o.mono HB1.o.size))
  by_cases hlt:j<kn
  ·have j0:(0:Int)<=(j:Int):=by omega
   have j1:(j:Int)<(kn:Int):=by omega
   obtain⟨b,o,u0,u1,u2,rfl,hb,q0,q1,q2,hL⟩:=HK.o j hlt;have y0:wr.cell? ⟨b,o+j*3,none⟩=some u0:=(HBw.o.cell (p:=⟨b,o+j*3,none⟩) hb).trans q0;have y1:wr.cell? ⟨b,o+j*3+1,none⟩=some u1:=(HBw.o.cell (p:=⟨b,o+j*3+1,none⟩) hb).trans q1;have y2:wr.cell? ⟨b,o+j*3+2,none⟩=some u2:=(HBw.o.cell (p:=⟨b,o+j*3+2,none⟩) hb).trans q2;rw[<- HSj.o]at hL;have HL:=aa hL;clear q0 q1 q2 hL;go_wp2_with fail;refine(HL.o wr HBw.o).mono ?_;rintro e w3 ⟨rfl,hB3⟩;have HB3:=aa (HB.o.trans (hB3.mono HB.o.size));clear hB3 y0 y1 y2 x2;go_wp2;go_roundw
   case rel=>exact⟨j+1,S (j+1),rfl,rfl,by go_num,by omega,HS.o _ (by omega),aa rfl,HB3⟩
   case measure=>simp[sW];omega
  ·have j1:¬(j:Int)<(kn:Int):=by omega
   have HQ:ae (CkQ w (S kn) (.returned (.tuple #[.int .i64 0,.int .i64 s])) wr):=aa ⟨by rw[HSj.o,show j=kn by omega],HBw.o⟩
   go_wp2;go_ret2;exact HQ.o
end Pt
end
section
open Go.RowKit
namespace Pt
theorem zkz:∀p:az,jX p->∀(v0 v1 v2:ta)(ahead:Nat)(w:sR),cC w p v0 v1 v2->ahead+gu p<=2048->sX Tryz.prog 171 #[.agg #[v0,v1,v2],.int .i64 2147483647,.int .i64 ahead] w (CkQ w (ahead+gu p)):=by
 refine az.ind fun op cls kids ih hO v0 v1 v2 ahead w hP hs=>?_
 unfold cC at hP;unfold jX at hO;unfold gu at hs⊢;obtain⟨rfl,⟨lo,lc,rfl,hl1,hl2⟩,ko,kc,rfl,hk1,hk2,_⟩:=hP;have h:=check_in lo ko cls.length lc kids.length kc op w ahead (fun j=>ahead+1+kG (kids.take j)) hk2 (by omega) (fun j _=>by have:=fC kids j;omega) (aa (by simp[kG])) (aa fun W hW=>?_) (aa fun j hj=>?_)
 ·have e:ahead+1+kG (kids.take kids.length)=ahead+(kG kids+1):=by rw[tM];omega
  rw[e]at h;exact h
 ·obtain⟨h1,_⟩:=hO
  rcases h1 with ⟨rfl,h2,h3⟩|⟨rfl,h2⟩
  ·rw[h2]
   exact zth lo cls.length lc kc ko W cls rfl hl2 h3 (hl1.below hW)
  ·exact zti lo lc kids.length kc ko W op hk2 h2
 ·obtain⟨b,o,h1,h2,u0,u1,u2,q0,q1,q2,hq⟩:=gz.at kids ko 0 j _ hk1 (sT hj)
  rw[t8]at q0 q1 q2;refine⟨b,o,u0,u1,u2,h1,h2,q0,q1,q2,fun W hW=>?_⟩
  have e:=eH kids j _ (sT hj);have e2:=fC kids (j+1);have:=ih _ (tf hj) (hO.2.mem (tf hj)) u0 u1 u2 (ahead+1+kG (kids.take j)) W (cC.below hW _ _ _ _ hq) (by omega)
  rw[show ahead+1+kG (kids.take j)+gu kids[j]=ahead+1+kG (kids.take (j+1)) by omega]at this
  exact this
theorem zgH(p:az)(hO:jX p)(hs:gu p<=2048)(v0 v1 v2:ta)(w:sR)(hP:cC w p v0 v1 v2):sX Tryz.prog 148 #[.agg #[v0,v1,v2],.int .i64 2147483647] w fun e w'=>e=.returned (.int .i64 0)/\sS w.heap.size w w':=by
 have HC:=aa (fun(W:sR)(h:sS w.heap.size w W)=>zkz p hO v0 v1 v2 0 W (cC.below h _ _ _ _ hP) (by omega))
 clear hP;go_enter Tryz.func148,Tryz.ntmps148;go_wp2_with fail;refine(HC.o _ below_box).mono ?_;rintro e w2 ⟨rfl,hB2⟩;have HB:=aa (below_box.trans (hB2.mono (by simp)))
 clear hB2;go_wp2;go_ret;exact⟨rfl,HB.o⟩
theorem fT(p:az)(hO:jX p)(hs:gu p<=2048)(v0 v1 v2:ta)(w:sR)(hP:cC w p v0 v1 v2):sX Tryz.prog 111 #[.agg #[v0,v1,v2]] w fun e w'=>e=.returned (.bool true)/\sS w.heap.size w w':=by
 have HC:=aa (fun(W:sR)(h:sS w.heap.size w W)=>zgH p hO hs v0 v1 v2 W (cC.below h _ _ _ _ hP))
 clear hP;go_enter Tryz.func111,Tryz.ntmps111;go_wp2_with fail;refine(HC.o _ below_box).mono ?_;rintro e w2 ⟨rfl,hB2⟩;have HB:=aa (below_box.trans (hB2.mono (by simp)))
 clear hB2;go_wp2;go_ret;exact⟨rfl,HB.o⟩
def kp(L:List Nat):List ta:=L.map fun(x:Nat)=>.int .i64 (x:Int)
open Classical in
noncomputable def gU(A:Nat->Prop)(n:Nat):List Nat:=(List.range n).filter fun i=>decide (A i)
theorem zsm(A:Nat->Prop):gU A 0=[]:=rfl
open Classical in
theorem ly(A:Nat->Prop)(n:Nat):gU A (n+1)=if A n then gU A n++[n]else gU A n:=by
 unfold gU;rw[List.range_succ,List.filter_append]
 by_cases h:A n
 ·simp[h]
 ·simp[h]
theorem zaZ(A:Nat->Prop)(n:Nat):(gU A n).length<=n:=by
 unfold gU;exact tc (List.length_filter_le _ _) (by simp)
theorem zaY(A:Nat->Prop)(n x:Nat):x∈gU A n ↔ x<n/\A x:=by simp[gU]
theorem se{A B:Nat->Prop}{n:Nat}(h:∀i,i<n->(A i ↔ B i)):gU A n=gU B n:=by
 unfold gU
 apply List.filter_congr
 intro i hi;rw[List.mem_range]at hi
 simp[h i hi]
def LsQ(w:sR)(L:List Nat)(e:uj)(w':sR):Prop:=∃(vo:Option Addr)(vc:Nat),e=.returned (.slice vo L.length vc)/\w'.ownsRow w.heap.size 3 1 (.slice vo L.length vc) L.length (kp L)/\sS w.heap.size w w'
theorem zey(L:List Nat):∀v∈kp L,v.oneCell'=true:=fun v hv=>by
 unfold kp at hv;obtain⟨x,_,rfl⟩:=tC.1 hv
 rfl
theorem zmh(w:sR)(v:ta)(T:um):∀j u,[v][j]?=some u->(w.alloc (.cells #[v] T)).cell? ((⟨w.heap.size,0,none⟩:Addr).add j)=some u:=tT (cs:=#[v]) (heap_alloc_new w _)
theorem Tryz.info3:(Tryz.prog.info? 3).map (fun i=>(i.zero,i.size,i.bytes))=some (some (.int .i64 0),1,8):=by kernel_rfl
theorem Tryz.underInts:Tryz.prog.underlying 23=some (.slice 3):=by kernel_rfl
theorem rC{w wr w8:sR}{v:ta}{o:Obj}{B n:Nat}{xs:List ta}(hB:sS w.heap.size w wr)(hB0:B=w.heap.size)(own:wr.ownsRow B 3 1 v n xs)(gr:uk (wr.alloc o) w8 v.ownBlock):sS w.heap.size w w8:=by
 subst hB0;have hs:=hB.size;have h1:sS w.heap.size w (wr.alloc o):=hB.alloc hs _;refine h1.grown gr (by simp;omega) fun k hk=>?_
 rcases own.2 with ⟨rfl,_⟩|⟨g,cap,cur,rfl,h2,_⟩
 ·cases hk
 ·cases hk;exact h2
theorem zfp(p:az)(hO:jX p)(hs:gu p<=2048)(v0 v1 v2:ta)(c:List Int)(co:Option Addr)(cn cc:Nat)(hcn:cn=c.length)(hc:cn<=90000)(w:sR)(hP:cC w p v0 v1 v2)(hI:RdI w co c):
  sX Tryz.prog 112 #[.agg #[v0,v1,v2],.slice co cn cc] w (LsQ w (gU (fun i=>aQ c p i cn) (cn+1))):=by
 have HG:=aa (fun(W:sR)(h:sS w.heap.size w W)=>fT p hO hs v0 v1 v2 W (cC.below h _ _ _ _ hP))
 have HL:=aa (fun(W:sR)(h:sS w.heap.size w W)=>rN c cn ((cn+1) / 64) hcn hc rfl co cc p hO.wf v0 v1 v2 W (cC.below h _ _ _ _ hP) (hI.below h))
 clear hP hI hcn;obtain⟨i0,hi3,hz0,hz1,hz2⟩:=tW Tryz.info3;have HI3:=aa (te hi3 (te hz0 (te hz1 hz2)));clear hi3 hz0 hz1 hz2;obtain⟨m,hm⟩:=am ((cn+1) / 64);rw[<- hm]at HL;have HMm:=aa hm;clear hm;go_enter Tryz.func112,Tryz.ntmps112;go_wp2_with fail;obtain⟨w1,hw1⟩:=am (w.alloc (.cells #[v0,v1,v2] 105));have hb1:sS w.heap.size w w1:=by rw[hw1];exact below_box
 have x0:w1.cell? ⟨w.heap.size,0,none⟩=some v0:=by rw[hw1];simp[go_sem]
 have x1:w1.cell? ⟨w.heap.size,1,none⟩=some v1:=by rw[hw1];simp[go_sem]
 have x2:w1.cell? ⟨w.heap.size,2,none⟩=some v2:=by rw[hw1];simp[go_sem]
 have hs1:w.heap.size<w1.heap.size:=by rw[hw1];simp
 rw[<- hw1];have HB1:=aa hb1;clear hw1 hb1;refine(HG.o w1 HB1.o).mono ?_;rintro e w2 ⟨rfl,hB2⟩;have y0:=(hB2.cell (p:=⟨w.heap.size,0,none⟩) hs1).trans x0;have y1:=(hB2.cell (p:=⟨w.heap.size,1,none⟩) hs1).trans x1;have y2:=(hB2.cell (p:=⟨w.heap.size,2,none⟩) hs1).trans x2;have HB2:=aa (HB1.o.trans (hB2.mono HB1.o.size));clear hB2 x0 x1 x2;go_wp2_with fail;refine(HL.o w2 HB2.o).mono ?_;rintro e w3 ⟨W,⟨g,cap,bs,rfl,hM3,hB3⟩,hR3⟩;have HM3:=aa hM3;have HB3:=aa (HB2.o.trans (hB3.mono HB2.o.size));have HR3:=aa hR3;clear hM3 hB3 hR3 y0 y1 y2;go_wp2;go_loopw [6,7] (fun x y wr=>∃(i n:Nat)(vo:Option Addr)(vc:Nat),x=.slice vo n vc/\y=.int .i64 i/\i<=cn+1/\n<=i/\ae (n=(gU (fun i=>aQ c p i cn) i).length)/\ae (wr.ownsRow w3.heap.size 3 1 (.slice vo n vc) n (kp (gU (fun i=>aQ c p i cn) i)))/\ae (sS w3.heap.size w3 wr)) (fun _ y _=>cn+1-(sW y).toNat)
 case atStart=>exact⟨0,0,none,0,rfl,rfl,sU _,tI _,aa rfl,aa (by rw[zsm];exact tH _ _ _ _),aa (tr _ _)⟩
 case round=>
  obtain⟨i,n,vo,vc,rfl,rfl,hi,hni,HN,HO,HB⟩:=hrel
  by_cases hlt:i<cn+1
  ·have i0':(0:Int)<=(i:Int):=by omega
   have i1:(i:Int)<=(cn:Int):=by omega
   have i2:(i:Int)<(cn:Int)+1:=by omega
   have HM:=aa (HM3.o.below HB.o);have c1:=HM.o.cell i hlt;have hq:cn / 64<m+1:=by have:=HMm.o;have:=sV (c:=64) (show cn<=cn+1 by omega);omega
   have HH:=aa (oh (bs i) (m+1) cn _ wr (HM.o.row i hlt) hq (HM.o.bd i _ hlt hq) (by omega))
   have HRi:=aa (HR3.o i cn hlt (by omega))
   clear hq;go_wp2_with fail;refine HH.o.mono ?_;rintro e w4 ⟨rfl,e4⟩;obtain rfl:=e4.symm
   by_cases hb:bt (W i) cn=true
   ·rw[hb]
    have HF:ae (gU (fun i=>aQ c p i cn) (i+1)=gU (fun i=>aQ c p i cn) i++[i]):=aa (by rw[ly,if_pos (HRi.o.1 hb)])
    clear hb c1 HH;go_wp2_with (at_builtin;refine tE _ rfl _ _ 23 rfl w3.heap.size 3 i0 (.int .i64 0) 1 8 Tryz.underInts HI3.o.1 HI3.o.2.1 HI3.o.2.2.1 HI3.o.2.2.2 rfl (by decide) (.slice vo n vc) n (kp (gU (fun i=>aQ c p i cn) i)) rfl (HO.o.alloc _) ⟨wr.heap.size,0,none⟩ 1 1 [.int .i64 (i:Int)] rfl rfl (zmh wr _ _) (zey [i]) (by decide) (by unfold maxLen;omega) (by omega) (by have:=HB.o.size;simp;omega) (wr.heap.size+1) (by simp) ?_;intro g8 c8 w8 o8 gr8 hl8 hlt8;have HO8:=aa o8;have HB8:=aa (rC HB.o rfl HO.o gr8);clear o8 gr8 hl8 hlt8)
    go_roundw
    case rel=>exact⟨i+1,n+1,_,_,rfl,by go_num,by omega,by omega,aa (by rw[HF.o,t6,HN.o];rfl),aa (by rw[HF.o];unfold kp;rw[uh];exact HO8.o),HB8⟩
    case measure=>simp[sW];omega
   ·have hb':bt (W i) cn=false:=by simpa using hb
    rw[hb'];have HF:ae (gU (fun i=>aQ c p i cn) (i+1)=gU (fun i=>aQ c p i cn) i):=aa (by rw[ly,if_neg (fun h=>hb (HRi.o.2 h))])
    clear hb hb' c1 HH;go_wp2;go_roundw
    case rel=>exact⟨i+1,n,vo,vc,rfl,by go_num,by omega,by omega,aa (by rw[HF.o];exact HN.o),aa (by rw[HF.o];exact HO.o),HB⟩
    case measure=>simp[sW];omega
  ·have i1:¬(i:Int)<=(cn:Int):=by omega
   have HQ:ae (LsQ w (gU (fun i=>aQ c p i cn) (cn+1)) (.returned (.slice vo n vc)) wr):=aa (by
    have e:i=cn+1:=by omega
    have h1:=HN.o;have h2:=HO.o;rw[e]at h1 h2;refine⟨vo,vc,by rw[h1],?_,HB3.o.trans (HB.o.mono HB3.o.size)⟩
    rw[h1]at h2;exact⟨h2.1,h2.2.imp (fun h=>h) fun⟨g,cap,cur,a1,a2,a3⟩=>⟨g,cap,cur,a1,tc HB3.o.size a2,a3⟩⟩)
   go_wp2;go_ret;exact HQ.o
end Pt
end
section
open Go.RowKit
namespace Pt
theorem zeM(p:az)(hO:jX p)(hs:gu p<=2048)(v0 v1 v2:ta)(c:List Int)(co:Option Addr)(cn cc:Nat)(hcn:cn=c.length)(hc:cn<=90000)(w:sR)(hP:cC w p v0 v1 v2)(hI:RdI w co c):
  sX Tryz.prog 113 #[.agg #[v0,v1,v2],.slice co cn cc] w (LsQ w (gU (fun i=>aQ c p 0 i) (cn+1))):=by
 have HG:=aa (fun(W:sR)(h:sS w.heap.size w W)=>fT p hO hs v0 v1 v2 W (cC.below h _ _ _ _ hP))
 have HL:=aa (fun(W:sR)(h:sS w.heap.size w W)=>rN c cn ((cn+1) / 64) hcn hc rfl co cc p hO.wf v0 v1 v2 W (cC.below h _ _ _ _ hP) (hI.below h))
 clear hP hI hcn;obtain⟨i0,hi3,hz0,hz1,hz2⟩:=tW Tryz.info3;have HI3:=aa (te hi3 (te hz0 (te hz1 hz2)));clear hi3 hz0 hz1 hz2;obtain⟨m,hm⟩:=am ((cn+1) / 64);rw[<- hm]at HL;have HMm:=aa hm;clear hm;go_enter Tryz.func113,Tryz.ntmps113;go_wp2_with fail;obtain⟨w1,hw1⟩:=am (w.alloc (.cells #[v0,v1,v2] 105));have hb1:sS w.heap.size w w1:=by rw[hw1];exact below_box
 have x0:w1.cell? ⟨w.heap.size,0,none⟩=some v0:=by rw[hw1];simp[go_sem]
 have x1:w1.cell? ⟨w.heap.size,1,none⟩=some v1:=by rw[hw1];simp[go_sem]
 have x2:w1.cell? ⟨w.heap.size,2,none⟩=some v2:=by rw[hw1];simp[go_sem]
 have hs1:w.heap.size<w1.heap.size:=by rw[hw1];simp
 rw[<- hw1];have HB1:=aa hb1;clear hw1 hb1;refine(HG.o w1 HB1.o).mono ?_;rintro e w2 ⟨rfl,hB2⟩;have y0:=(hB2.cell (p:=⟨w.heap.size,0,none⟩) hs1).trans x0;have y1:=(hB2.cell (p:=⟨w.heap.size,1,none⟩) hs1).trans x1;have y2:=(hB2.cell (p:=⟨w.heap.size,2,none⟩) hs1).trans x2;have HB2:=aa (HB1.o.trans (hB2.mono HB1.o.size));clear hB2 x0 x1 x2;go_wp2_with fail;refine(HL.o w2 HB2.o).mono ?_;rintro e w3 ⟨W,⟨g,cap,bs,rfl,hM3,hB3⟩,hR3⟩;have HM3:=aa hM3;have z1:=hM3.cell 0 (by omega)
 have HB3:=aa (HB2.o.trans (hB3.mono HB2.o.size));have HR3:=aa hR3;clear hM3 hB3 hR3 y0 y1 y2;have z2:(0:Int)<(cn:Int)+1:=by omega
 have z3:0<cn+1:=by omega
 go_wp2;clear z1 z2 z3;go_loopw [6,7] (fun x y wr=>∃(i n:Nat)(vo:Option Addr)(vc:Nat),x=.slice vo n vc/\y=.int .i64 i/\i<=cn+1/\n<=i/\ae (n=(gU (fun i=>aQ c p 0 i) i).length)/\ae (wr.ownsRow w3.heap.size 3 1 (.slice vo n vc) n (kp (gU (fun i=>aQ c p 0 i) i)))/\ae (sS w3.heap.size w3 wr)) (fun _ y _=>cn+1-(sW y).toNat)
 case atStart=>exact⟨0,0,none,0,rfl,rfl,sU _,tI _,aa rfl,aa (by rw[zsm];exact tH _ _ _ _),aa (tr _ _)⟩
 case round=>
  obtain⟨i,n,vo,vc,rfl,rfl,hi,hni,HN,HO,HB⟩:=hrel
  by_cases hlt:i<cn+1
  ·have i0':(0:Int)<=(i:Int):=by omega
   have i1:(i:Int)<=(cn:Int):=by omega
   have i2:(i:Int)<(cn:Int)+1:=by omega
   have HM:=aa (HM3.o.below HB.o);have hq:i / 64<m+1:=by have:=HMm.o;have:=sV (c:=64) (show i<=cn+1 by omega);omega
   have HH:=aa (oh (bs 0) (m+1) i _ wr (HM.o.row 0 (by omega)) hq (HM.o.bd 0 _ (by omega) hq) (by omega))
   have HRi:=aa (HR3.o 0 i (by omega) hlt)
   clear hq;go_wp2_with fail;refine HH.o.mono ?_;rintro e w4 ⟨rfl,e4⟩;obtain rfl:=e4.symm
   by_cases hb:bt (W 0) i=true
   ·rw[hb]
    have HF:ae (gU (fun i=>aQ c p 0 i) (i+1)=gU (fun i=>aQ c p 0 i) i++[i]):=aa (by rw[ly,if_pos (HRi.o.1 hb)])
    clear hb HH;go_wp2_with (at_builtin;refine tE _ rfl _ _ 23 rfl w3.heap.size 3 i0 (.int .i64 0) 1 8 Tryz.underInts HI3.o.1 HI3.o.2.1 HI3.o.2.2.1 HI3.o.2.2.2 rfl (by decide) (.slice vo n vc) n (kp (gU (fun i=>aQ c p 0 i) i)) rfl (HO.o.alloc _) ⟨wr.heap.size,0,none⟩ 1 1 [.int .i64 (i:Int)] rfl rfl (zmh wr _ _) (zey [i]) (by decide) (by unfold maxLen;omega) (by omega) (by have:=HB.o.size;simp;omega) (wr.heap.size+1) (by simp) ?_;intro g8 c8 w8 o8 gr8 hl8 hlt8;have HO8:=aa o8;have HB8:=aa (rC HB.o rfl HO.o gr8);clear o8 gr8 hl8 hlt8)
    go_roundw
    case rel=>exact⟨i+1,n+1,_,_,rfl,by go_num,by omega,by omega,aa (by rw[HF.o,t6,HN.o];rfl),aa (by rw[HF.o];unfold kp;rw[uh];exact HO8.o),HB8⟩
    case measure=>simp[sW];omega
   ·have hb':bt (W 0) i=false:=by simpa using hb
    rw[hb'];have HF:ae (gU (fun i=>aQ c p 0 i) (i+1)=gU (fun i=>aQ c p 0 i) i):=aa (by rw[ly,if_neg (fun h=>hb (HRi.o.2 h))])
    clear hb hb' HH;go_wp2;go_roundw
    case rel=>exact⟨i+1,n,vo,vc,rfl,by go_num,by omega,by omega,aa (by rw[HF.o];exact HN.o),aa (by rw[HF.o];exact HO.o),HB⟩
    case measure=>simp[sW];omega
  ·have i1:¬(i:Int)<=(cn:Int):=by omega
   have HQ:ae (LsQ w (gU (fun i=>aQ c p 0 i) (cn+1)) (.returned (.slice vo n vc)) wr):=aa (by
    have e:i=cn+1:=by omega
    have h1:=HN.o;have h2:=HO.o;rw[e]at h1 h2;refine⟨vo,vc,by rw[h1],?_,HB3.o.trans (HB.o.mono HB3.o.size)⟩
    rw[h1]at h2;exact⟨h2.1,h2.2.imp (fun h=>h) fun⟨g,cap,cur,a1,a2,a3⟩=>⟨g,cap,cur,a1,tc HB3.o.size a2,a3⟩⟩)
   go_wp2;go_ret;exact HQ.o
theorem zif(lo:Option Addr)(n lc:Nat)(l:List Int)(c:Int)(w:sR)(hl:RdI w lo l)(hn:n=l.length)(hm:n<=1000000):
  sX Tryz.prog 114 #[.slice lo n lc,.int .i64 c] w fun e w'=>e=.returned (.bool (kk l c))/\w'=w:=by
 have HL:=aa hl;have HN:=aa hn;clear hl hn;go_enter Tryz.func114,Tryz.ntmps114;go_wp2;go_loopw [5] (fun y wr=>∃i:Nat,y=.int .i64 i/\i<=n/\wr=w/\ae (∀z∈l.take i,z≠c)) (fun y _=>n-(sW y).toNat)
 case atStart=>exact⟨0,rfl,sU _,rfl,aa (by simp)⟩
 case round=>
  obtain⟨i,rfl,hi,rfl,HT⟩:=hrel
  by_cases hlt:i<n
  ·have i0:(0:Int)<=(i:Int):=by omega
   have i1:(i:Int)<(n:Int):=by omega
   have hil:i<l.length:=by have:=HN.o;omega
   obtain⟨a,rfl,ha,c1⟩:=HL.o.at hil;obtain⟨z,hz⟩:=am (l[i]);rw[<- hz]at c1;have HZ:=aa hz;clear hz
   by_cases e:z=c
   ·subst e
    have b1:(z==z)=true:=by simp
    have HE:ae (kk l z=true):=aa ((cO l z).2 (by rw[HZ.o];exact tf _))
    go_wp2;go_ret;exact⟨by rw[HE.o];rfl,rfl⟩
   ·have b1:(z==c)=false:=by simpa using e
    have HE:=aa e;clear e;go_wp2;go_roundw
    case rel=>
     refine⟨i+1,by go_num,by omega,trivial,aa fun x hx=>?_⟩
     rw[tz hil,ug]at hx
     rcases hx with hx|hx
     ·exact HT.o x hx
     ·rw[tY]at hx
      rw[hx,<- HZ.o];exact HE.o
    case measure=>simp[sW];omega
  ·have i1:¬(i:Int)<(n:Int):=by omega
   have HE:ae (kk l c=false):=aa (by
    cases h:kk l c with
    |false=>rfl
    |true=>exact absurd rfl (HT.o c (by rw[tO (by have:=HN.o;omega)];exact(cO l c).1 h)))
   go_wp2;go_ret;exact⟨by rw[HE.o];rfl,rfl⟩
theorem nO{w:sR}{B:Nat}{vo:Option Addr}{vc n:Nat}{L:List Nat}(h:w.ownsRow B 3 1 (.slice vo n vc) n (kp L))(hn:n=L.length):RdI w vo (L.map fun(x:Nat)=>(x:Int)):=fun k z hk=>by
 have hk1:=(sY.1 hk).1;rw[tP]at hk1
 rcases h.2 with ⟨h1,h2⟩|⟨g,cap,cur,h1,h2,h3,h4,h5,h6,h7⟩
 ·omega
 ·cases h1
  refine⟨⟨g,0,none⟩,rfl,ag h3,?_⟩;rw[Addr.add_lit,t8,ue w g k cur _ _ h3];have e:(kp L)[k]?=some (.int .i64 z):=by
   unfold kp;rw[List.getElem?_map]at hk⊢
   cases hl:L[k]? with
   |none=>rw[hl]at hk;cases hk
   |some y=>rw[hl]at hk;simp at hk;simp[hk]
  rw[<- h7,tp (by omega)]at e
  simpa using e
end Pt
end
section
open Go.RowKit
namespace Pt
structure Rl where
 brk:Bool
 st:Bool
 en:Bool
 left:az
 right:az
def App(r:Rl)(c:List Int)(k:Nat):Prop:=(∃i,i<=k/\aQ c r.left i k)/\(∃j,k<=j/\j<=c.length/\aQ c r.right k j)/\(r.st=true->aQ c r.left 0 k)/\(r.en=true->aQ c r.right k c.length)
def zgV(r:Rl):Prop:=jX r.left/\jX r.right/\gu r.left<=2048/\gu r.right<=2048
def TlQ(w:sR)(A:Prop)(e:uj)(w':sR):Prop:=∃b:Bool,e=.returned (.bool b)/\(b=true ↔ A)/\sS w.heap.size w w'
theorem oX{w:sR}{g o n:Nat}{c:List Int}(h:RdI w (some ⟨g,o,none⟩) c):RdI w (some ⟨g,o,none⟩) (c.take n):=fun k z hk=>by
 have h1:=(sY.1 hk).1;rw[ua]at h1;rw[tp (by omega)]at hk
 exact h k z hk
theorem oY{w:sR}{g o n:Nat}{c:List Int}(h:RdI w (some ⟨g,o,none⟩) c):RdI w (some ⟨g,o+n,none⟩) (c.drop n):=fun k z hk=>by
 rw[List.getElem?_drop]at hk;obtain⟨a,h1,h2,h3⟩:=h (n+k) z hk
 cases h1
 refine⟨_,rfl,h2,?_⟩;rw[Addr.add_lit]at h3⊢;rw[<- h3]
 congr 2
 omega
set_option maxRecDepth 100000 in
theorem zfc(r:Rl)(hr:zgV r)(l0 l1 l2 r0 r1 r2:ta)(c:List Int)(g o cn cc k:Nat)(hcn:cn=c.length)(hc:cn<=90000)(hcc:cn<=cc)(hk:k<=cn)(w:sR)(hL:cC w r.left l0 l1 l2)(hR:cC w r.right r0 r1 r2)(hI:RdI w (some ⟨g,o,none⟩) c):
  sX Tryz.prog 76 #[.agg #[.bool r.brk,.bool r.st,.bool r.en,l0,l1,l2,r0,r1,r2],.slice (some ⟨g,o,none⟩) cn cc,.int .i64 k] w (TlQ w (App r c k)):=by
 obtain⟨o1,o2,s1,s2⟩:=hr;have HG1:=aa (fun(W:sR)(h:sS w.heap.size w W)=>fT r.left o1 s1 l0 l1 l2 W (cC.below h _ _ _ _ hL))
 have HG2:=aa (fun(W:sR)(h:sS w.heap.size w W)=>fT r.right o2 s2 r0 r1 r2 W (cC.below h _ _ _ _ hR))
 have HS:=aa (fun(W:sR)(h:sS w.heap.size w W)=>zfp r.left o1 s1 l0 l1 l2 (c.take k) (some ⟨g,o,none⟩) k cc (by rw[ua];omega) (by omega) W (cC.below h _ _ _ _ hL) (oX (hI.below h)))
 have HE:=aa (fun(W:sR)(h:sS w.heap.size w W)=>zeM r.right o2 s2 r0 r1 r2 (c.drop k) (if cc=k then some ⟨g,o,none⟩else some ⟨g,o+k,none⟩) (cn-k) (cc-k) (by rw[ud];omega) (by omega) W (cC.below h _ _ _ _ hR) (by
  split
  ·intro j z hj
   have h1:=(sY.1 hj).1;rw[ud]at h1;omega
  ·exact oY (hI.below h)))
 have HSA:ae (gU (fun i=>aQ (c.take k) r.left i k) (k+1)=gU (fun i=>aQ c r.left i k) (k+1)):=aa (se fun i _=>znB c r.left k i k (by omega) (tI _))
 have HEA:ae (gU (fun i=>aQ (c.drop k) r.right 0 i) (cn-k+1)=gU (fun i=>aQ c r.right k (k+i)) (cn-k+1)):=aa (se fun i hi=>by have:=znC c r.right k 0 i (by omega) (by omega);simpa using this)
 have HCN:=aa hcn;clear hL hR hI hcn o1 o2 s1 s2;have k0:(0:Int)<=(k:Int):=by omega
 have k1:(k:Int)<=(cn:Int):=by omega
 have k2:(k:Int)<=(cc:Int):=by omega
 have k3:(cn:Int)<=(cc:Int):=by omega
 have d1:decide ((k:Int)<0)=false:=decide_eq_false (by omega)
 have d2:decide ((cn:Int)<(k:Int))=false:=decide_eq_false (by omega)
 have d3:decide (cn<k)=false:=decide_eq_false (by omega)
 obtain⟨rb,rs,re,rl,rr⟩:=r;go_enter Tryz.func76,Tryz.ntmps76;go_wp2_with fail;obtain⟨w1,hw1⟩:=am (w.alloc (.cells #[.bool rb,.bool rs,.bool re,l0,l1,l2,r0,r1,r2] 107));have hb1:sS w.heap.size w w1:=by rw[hw1];exact below_box
 have hs1:w.heap.size<w1.heap.size:=by rw[hw1];simp
 have HX1:=aa (fun(W:sR)(h:sS w1.heap.size w1 W)=>show W.cell? ⟨w.heap.size,3,none⟩=some l0/\W.cell? ⟨w.heap.size,4,none⟩=some l1/\W.cell? ⟨w.heap.size,5,none⟩=some l2 from
  ⟨(h.cell (p:=⟨w.heap.size,3,none⟩) hs1).trans (by rw[hw1];simp[go_sem]),(h.cell (p:=⟨w.heap.size,4,none⟩) hs1).trans (by rw[hw1];simp[go_sem]),(h.cell (p:=⟨w.heap.size,5,none⟩) hs1).trans (by rw[hw1];simp[go_sem])⟩)
 have HX2:=aa (fun(W:sR)(h:sS w1.heap.size w1 W)=>show W.cell? ⟨w.heap.size,6,none⟩=some r0/\W.cell? ⟨w.heap.size,7,none⟩=some r1/\W.cell? ⟨w.heap.size,8,none⟩=some r2 from
  ⟨(h.cell (p:=⟨w.heap.size,6,none⟩) hs1).trans (by rw[hw1];simp[go_sem]),(h.cell (p:=⟨w.heap.size,7,none⟩) hs1).trans (by rw[hw1];simp[go_sem]),(h.cell (p:=⟨w.heap.size,8,none⟩) hs1).trans (by rw[hw1];simp[go_sem])⟩)
 have HX3:=aa (fun(W:sR)(h:sS w1.heap.size w1 W)=>show W.cell? ⟨w.heap.size,1,none⟩=some (.bool rs)/\W.cell? ⟨w.heap.size,2,none⟩=some (.bool re)from
  ⟨(h.cell (p:=⟨w.heap.size,1,none⟩) hs1).trans (by rw[hw1];simp[go_sem]),(h.cell (p:=⟨w.heap.size,2,none⟩) hs1).trans (by rw[hw1];simp[go_sem])⟩)
 rw[<- hw1];have HB1:=aa hb1;clear hw1 hb1;refine(HG1.o w1 HB1.o).mono ?_;rintro e w2 ⟨rfl,hB2⟩;have HB2:=aa hB2;obtain⟨x6,x7,x8⟩:=HX2.o w2 hB2;clear hB2;go_wp2_with fail;refine(HG2.o w2 (HB1.o.trans (HB2.o.mono HB1.o.size))).mono ?_;rintro e w3 ⟨rfl,hB3⟩;have HB3:=aa (HB2.o.trans (hB3.mono HB2.o.size));clear hB3 x6 x7 x8;go_wp2_with fail;refine au [(0,true),(1,true),(2,true),(3,true),(4,true),(5,false),(6,false)] (fun W=>W.cell? ⟨w.heap.size,3,none⟩=some l0/\W.cell? ⟨w.heap.size,4,none⟩=some l1/\W.cell? ⟨w.heap.size,5,none⟩=some l2) (fun _=>false) (by kernel_rfl) (by kernel_rfl) (fun j hj=>by cases hj) rfl (by kernel_rfl) (HX1.o _ (show sS w1.heap.size w1 w3.drew from⟨HB3.o.os,HB3.o.tape,HB3.o.output,HB3.o.size,HB3.o.block⟩)) ?_
 iterate 5 (refine ax ?_ rfl (by kernel_rfl) (fun w' hS=>?_) ?_;(rotate_left;(obtain⟨s1,s2,s3⟩:=hS;go_simp;with_reducible rfl);rotate_left))
 refine av rfl (by kernel_rfl) fun KK hKK=>?_
 go_simp;have HB3d:ae (sS w1.heap.size w1 w3.drew):=aa ⟨HB3.o.os,HB3.o.tape,HB3.o.output,HB3.o.size,HB3.o.block⟩;refine(HS.o w3.drew (HB1.o.trans (HB3d.o.mono HB1.o.size))).mono ?_;rintro e w4 ⟨vo,vc,rfl,hO4,hB4⟩;have HB4:ae (sS w1.heap.size w1 w4):=aa (HB3d.o.trans (hB4.mono HB3d.o.size));rw[HSA.o]at hO4⊢;obtain⟨L1,hL1⟩:=am (gU (fun i=>aQ c rl i k) (k+1))
 rw[<- hL1]at hO4⊢;have HL1:=aa hL1;obtain⟨n1,hn1⟩:=am L1.length;rw[<- hn1]at hO4⊢;have HN1:=aa hn1;have HR1:=aa (nO hO4 hn1);have q1:n1<=k+1:=by rw[hn1,hL1];exact zaZ _ _
 clear hO4 hB4 hL1 hn1;refine hKK _ _ (fun _=>HX1.o _ HB4.o) ?_
 clear hKK;refine av rfl (by kernel_rfl) fun KK hKK=>?_
 go_simp;refine hKK _ _ (fun _=>HX1.o _ HB4.o) ?_
 clear hKK;refine aS (sZ ?_);go_wp2_with fail;refine au [(0,true),(1,true),(2,true),(3,true),(4,true),(5,false),(6,false)] (fun W=>W.cell? ⟨w.heap.size,6,none⟩=some r0/\W.cell? ⟨w.heap.size,7,none⟩=some r1/\W.cell? ⟨w.heap.size,8,none⟩=some r2) (fun _=>false) (by kernel_rfl) (by kernel_rfl) (fun j hj=>by cases hj) rfl (by kernel_rfl) (HX2.o _ (show sS w1.heap.size w1 w4.drew from⟨HB4.o.os,HB4.o.tape,HB4.o.output,HB4.o.size,HB4.o.block⟩)) ?_
 iterate 5 (refine ax ?_ rfl (by kernel_rfl) (fun w' hS=>?_) ?_;(rotate_left;(obtain⟨s1,s2,s3⟩:=hS;go_simp;with_reducible rfl);rotate_left))
 refine av rfl (by kernel_rfl) fun KK hKK=>?_
 go_simp;have HB4d:ae (sS w1.heap.size w1 w4.drew):=aa ⟨HB4.o.os,HB4.o.tape,HB4.o.output,HB4.o.size,HB4.o.block⟩;obtain⟨ao,hao⟩:=am (if cc=k then some (⟨g,o,none⟩:Addr)else some ⟨g,o+k,none⟩);rw[<- hao]at HE⊢;clear hao;refine(HE.o w4.drew (HB1.o.trans (HB4d.o.mono HB1.o.size))).mono ?_;rintro e w5 ⟨uo,uc,rfl,hO5,hB5⟩;have HB5':ae (sS w4.heap.size w4 w5):=aa ⟨hB5.os,hB5.tape,hB5.output,hB5.size,hB5.block⟩;have HB5:ae (sS w1.heap.size w1 w5):=aa (HB4d.o.trans (hB5.mono HB4d.o.size));rw[HEA.o]at hO5⊢;obtain⟨L2,hL2⟩:=am (gU (fun i=>aQ c rr k (k+i)) (cn-k+1))
 rw[<- hL2]at hO5⊢;have HL2:=aa hL2;obtain⟨n2,hn2⟩:=am L2.length;rw[<- hn2]at hO5⊢;have HN2:=aa hn2;have HR2:=aa (nO hO5 hn2);have q2:n2<=cn-k+1:=by rw[hn2,hL2];exact zaZ _ _
 clear hO5 hB5 hL2 hn2;refine hKK _ _ (fun _=>HX2.o _ HB5.o) ?_
 clear hKK;refine av rfl (by kernel_rfl) fun KK hKK=>?_
 go_simp;refine hKK _ _ (fun _=>HX2.o _ HB5.o) ?_
 clear hKK;refine aS (sZ ?_);clear d1 d2 d3 HG1 HG2 HS HE HSA HEA HB2 HB3 HB3d HB4d;have HBw:=aa (HB1.o.trans (HB5.o.mono HB1.o.size));have HM1:=aa (fun(x:Nat)=>show x∈L1 ↔ x<k+1/\aQ c rl x k by rw[HL1.o];exact zaY _ _ _)
 have HM2:=aa (fun(x:Nat)=>show x∈L2 ↔ x<cn-k+1/\aQ c rr k (k+x) by rw[HL2.o];exact zaY _ _ _)
 clear HL1 HL2;obtain⟨y1,y2⟩:=HX3.o _ HB5.o
 by_cases z1:n1=0
 ·have HA:ae (¬App ⟨rb,rs,re,rl,rr⟩ c k):=aa (fun⟨⟨i,h1,h2⟩,_⟩=>by
   have h3:=(HM1.o i).2 ⟨by omega,h2⟩
   rw[tN.1 (HN1.o.symm.trans z1)]at h3
   cases h3)
  subst z1;go_wp2;go_ret;exact⟨false,rfl,by simp[HA.o],HBw.o⟩
 have z1':((n1:Int)==0)=false:=by simpa using z1
 have HZ1:=aa z1;clear z1
 by_cases z2:n2=0
 ·have HA:ae (¬App ⟨rb,rs,re,rl,rr⟩ c k):=aa (fun⟨_,⟨j,h1,h2,h3⟩,_⟩=>by
   have h4:=(HM2.o (j-k)).2 ⟨by have:=HCN.o;omega,by rw[tV h1];exact h3⟩
   rw[tN.1 (HN2.o.symm.trans z2)]at h4
   cases h4)
  subst z2;go_wp2;go_ret;exact⟨false,rfl,by simp[HA.o],HBw.o⟩
 have z2':((n2:Int)==0)=false:=by simpa using z2
 have HZ2:=aa z2;clear z2;have HC1:ae (∃i,i<=k/\aQ c rl i k):=aa (by
  obtain⟨x,hx⟩:=tB (l:=L1) (by have:=HN1.o;have:=HZ1.o;omega)
  have:=(HM1.o x).1 hx;exact⟨x,by omega,this.2⟩)
 have HC2:ae (∃j,k<=j/\j<=c.length/\aQ c rr k j):=aa (by
  obtain⟨x,hx⟩:=tB (l:=L2) (by have:=HN2.o;have:=HZ2.o;omega)
  have:=(HM2.o x).1 hx;exact⟨k+x,by omega,by have:=HCN.o;omega,this.2⟩)
 have HIn1:=aa (fun(W:sR)(h:sS w5.heap.size w5 W)=>zif vo n1 vc _ 0 W ((HR1.o.below HB5'.o).below h) (by rw[tP];exact HN1.o) (by omega))
 have HIn2:=aa (fun(W:sR)(h:sS w5.heap.size w5 W)=>zif uo n2 uc _ ((cn:Int)-(k:Int)) W (HR2.o.below h) (by rw[tP];exact HN2.o) (by omega))
 have HI1:ae (kk (L1.map fun(x:Nat)=>(x:Int)) 0=true ↔ aQ c rl 0 k):=aa (by
  rw[cO]
  constructor
  ·intro h
   obtain⟨x,h1,h2⟩:=tC.1 h;have e:x=0:=by omega
   exact e ▸ ((HM1.o x).1 h1).2
  ·intro h
   exact tC.2 ⟨0,(HM1.o 0).2 ⟨by omega,h⟩,rfl⟩)
 have HI2:ae (kk (L2.map fun(x:Nat)=>(x:Int)) ((cn:Int)-(k:Int))=true ↔ aQ c rr k c.length):=aa (by
  rw[cO]
  constructor
  ·intro h
   obtain⟨x,h1,h2⟩:=tC.1 h;have e:k+x=c.length:=by have:=HCN.o;omega
   exact e ▸ ((HM2.o x).1 h1).2
  ·intro h
   refine tC.2 ⟨cn-k,(HM2.o (cn-k)).2 ⟨by omega,?_⟩,by omega⟩
   rw[tV hk,HCN.o];exact h)
 clear HM1 HM2 HR1 HR2 HN1 HN2 HX1 HX2;obtain⟨b1,hb1⟩:=am (kk (L1.map fun(x:Nat)=>(x:Int)) 0)
 obtain⟨b2,hb2⟩:=am (kk (L2.map fun(x:Nat)=>(x:Int)) ((cn:Int)-(k:Int)))
 rw[<- hb1]at HIn1 HI1;rw[<- hb2]at HIn2 HI2;clear hb1 hb2;have HQ:ae (App ⟨rb,rs,re,rl,rr⟩ c k ↔ ((rs=true->b1=true)/\(re=true->b2=true))):=aa (by
  unfold App
  simp only[]
  rw[<- HI1.o,<- HI2.o];exact⟨fun h=>⟨h.2.2.1,h.2.2.2⟩,fun h=>⟨HC1.o,HC2.o,h.1,h.2⟩⟩)
 have e9:tu.wrap ((cn:Int)-(k:Int))=(cn:Int)-(k:Int):=by unfold tk tn td;simp;omega
 cases rs with
 |false=>
  cases re with
  |false=>
   go_wp2;go_ret;exact⟨true,rfl,by simp[HQ.o],HBw.o⟩
  |true=>
   go_wp2_with fail;refine(HIn2.o w5 (tr _ _)).mono ?_;rintro e w6 ⟨rfl,e6⟩;obtain rfl:=e6.symm;go_wp2;go_ret;exact⟨b2,rfl,by simp[HQ.o],HBw.o⟩
 |true=>
  go_wp2_with fail;refine(HIn1.o w5 (tr _ _)).mono ?_;rintro e w6 ⟨rfl,e6⟩;obtain rfl:=e6.symm
  cases b1 with
  |false=>
   go_wp2;go_ret;exact⟨false,rfl,by simp[HQ.o],HBw.o⟩
  |true=>
   cases re with
   |false=>
    go_wp2;go_ret;exact⟨true,rfl,by simp[HQ.o],HBw.o⟩
   |true=>
    go_wp2_with fail;refine(HIn2.o w5 (tr _ _)).mono ?_;rintro e w6 ⟨rfl,e6⟩;obtain rfl:=e6.symm;go_wp2;go_ret;exact⟨b2,rfl,by simp[HQ.o],HBw.o⟩
end Pt
end
end Go.Proofs.YtbbapnpdfcgjnaaGreatDoor
