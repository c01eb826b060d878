/- WdLaid: parts of the proof, joined. -/
import Derived.ProofKit
import Derived.LaidMore
import Derived.HandedShaped
import Derived.Stop.Joined
import Derived.OpenShut
import Derived.Lay
import Derived.Test.YtbbapnpdfcgjnaaGreatDoorRows
import Derived.Test.YtbbapnpdfcgjnaaGreatDoorWWdLv
open Go renaming World->sJ, Value->sK
set_option maxHeartbeats 64000000
namespace Go.Proofs.YtbbapnpdfcgjnaaGreatDoor
section
open Go.ChangeShapes Go.WideShapes Go.ChangeAt Go.RowKit Go.Shelf
def zat:List (String×DataW Unit):=Rows.wordBoundsRow.laid
def rho:Ren:=⟨fun x=>x,fun
 |119=>161
 |138=>163
 |139=>164
 |x=>x,fun
 |3=>0
 |4=>1
 |x=>x⟩
theorem tU8:U8Types Tryz.prog rho:=by constructor<;>kernel_rfl
theorem xU8:U8Extra Tryz.prog rho:=by constructor<;>kernel_rfl
set_option maxRecDepth 100000 in
theorem zoE:Rows.laid_unicode_utf8_first=Lib.firstData:=by kernel_rfl
theorem zln:(Rows.laid_unicode_utf8_acceptRanges:DataW Unit)=Lib.acceptData:=by kernel_rfl
theorem znd{g t n:Nat}(h:((((begin Tryz.prog (fun _ _=>0) default).world.heap[g]?).bind Obj.row?).map fun x=>(x.1.size,x.2))=some (n,t)):∃zero,(((begin Tryz.prog (fun _ _=>0) default).world.heap[g]?).bind Obj.row?)=some (zero,t)/\zero.size=n:=by
 cases hb:((begin Tryz.prog (fun _ _=>0) default).world.heap[g]?).bind Obj.row? with
 |none=>rw[hb]at h;cases h
 |some x=>rw[hb]at h;obtain⟨z,u⟩:=x;have ht:(z.size,u)=(n,t):=Option.some.inj h;obtain⟨h1,h2⟩:=Prod.mk.inj ht;exact⟨z,by rw[h2],h1⟩
theorem row0:((((begin Tryz.prog (fun _ _=>0) default).world.heap[0]?).bind Obj.row?).map fun x=>(x.1.size,x.2))=some (256,161):=by kernel_rfl
theorem row1:((((begin Tryz.prog (fun _ _=>0) default).world.heap[1]?).bind Obj.row?).map fun x=>(x.1.size,x.2))=some (32,164):=by kernel_rfl
theorem j8{W:sJ}{g t:Nat}{cs:Array sK}{L:List sK}(h1:W.heap[g]?=some (.cells cs t))(hsz:cs.size=L.length)(h:∀j,j<L.length->W.cell? ⟨g,j,none⟩=L[j]?):cs.toList=L:=by
 apply List.ext_getElem?;intro j;rcases Nat.lt_or_ge j L.length with hj|hj
 ·have h2:=h j hj;rw[<-h2];simp[sJ.cell?,h1]
 ·rw[List.getElem?_eq_none hj,List.getElem?_eq_none (by rw[Array.length_toList];omega)]
theorem kT{W:sJ}(h:laidMetH Tryz.prog zat W):Lib.Utf8Tabs 0 1 W:=by rw[MakeChecks.laidMetH_plain _ _ _ (by kernel_rfl)]at h;have h4:=Lib.laidMet.reads h (.head _);have h3:=Lib.laidMet.reads h (.tail _ (.head _));rw[zoE]at h3;rw[zln]at h4;exact utf8Tabs_of_readsT tU8 xU8 h3 h4
theorem zbg{W:sJ}(h:laidMetH Tryz.prog zat W)(hs:W.ShapedOpen Tryz.prog):Ev.q9 tabs W:=by
 have hT:=kT h;have hg:∀g,g<2->g<Tryz.prog.globals.size:=fun g hg=>Nat.lt_of_lt_of_le hg (Nat.le_of_ble_eq_true (show Nat.ble 2 Tryz.prog.globals.size=true by kernel_rfl));intro x hx;simp only[tabs,List.mem_cons,List.mem_nil_iff,or_false]at hx;rcases hx with rfl|rfl
 ·obtain⟨z,hz,hzs⟩:=znd row0;obtain⟨cs,h1,h2,_⟩:=hs.1 0 z 161 (hg 0 (by omega)) hz;refine⟨cs,h1,j8 h1 (by simp[zce,h2,hzs]) fun j hj=>?_⟩;have hj':j<256:=by simpa[zce]using hj
  rw[hT.1 j hj'];simp[zce,hj']
 ·obtain⟨z,hz,hzs⟩:=znd row1;obtain⟨cs,h1,h2,_⟩:=hs.1 1 z 164 (hg 1 (by omega)) hz;refine⟨cs,h1,j8 h1 (by simp[l9,h2,hzs]) fun j hj=>?_⟩;have hj':j<32:=by simpa[l9]using hj
  obtain⟨ha,hb⟩:=hT.2 (j / 2) (by omega);by_cases e:j%2=0
  ·have e2:2*(j / 2)=j:=by omega
   rw[e2]at ha;rw[ha];simp[l9,hj',e]
  ·have e1:j%2=1:=by omega
   have e2:2*(j / 2)+1=j:=by omega
   rw[e2]at hb;rw[hb];simp[l9,hj',e1]
theorem ownk:ownKnob Tryz.prog.godebug=none:=by kernel_rfl
theorem zvz{H:Type}{enc:TypeId×sK->H}{a:Assume}{C:Checked}{os:Os}{f:FuncId}{fn:Func}{s:ChangeSpec}{conds:List PathCond}{apart fresh handsOn again:Bool}{X:sJ->Array sK->Prop}
  (hX:∀(w w':sJ)(args:Array sK),w.heap=w'.heap->X w args->X w' args)
  (own:ownKnob C.prog.godebug=none) (started:os.Started) (noInit:C.prog.inits.idxOf? f=none) (hfn:C.prog.funcs[f]?=some fn)
  (witness:∃(w:sJ)(tape:Tape)(i:Input),w.os=os/\(w.forCall tape i).Shaped C.prog/\i.vars=[]/\Input.okWide C.prog (w.forCall tape i) .any w.heap.size f i∧
   ((s.pre enc C.prog fn conds apart (w.forCall tape i).memory i.args/\X (w.forCall tape i).memory i.args)/\sizedMet enc C.prog fn (OpenSpec.ofChange s) apart (w.forCall tape i).memory i.args)/\a.holds C.prog (lone (Frame.enter C.prog f i.args .normal) [] (w.forCall tape i)))
  (contract:∀(W:sJ)(base:Nat)(args:Array sK)(ds gs:List (DataW H))(before:List MemPlace),
   (∀(j:Nat) t v,fn.params[j]?=some t->args[j]?=some v->sK.okWide C.prog W .any base t v)->
   DataW.Whole enc C.prog fn.params.toList s.vars apart W args.toList ds gs before->W.ShapedOpen C.prog->(DataW.weightsEach C.prog (fn.params.toList++s.plain.varTypes C.prog) (ds++gs)).all (·<=reachBytes)=true->X W args->
   Calls C.prog f args W fun e W'=>∃v,e=.returned v/\s.post enc C.prog fn apart fresh handsOn again W args v W'):
  ReturnsInHanded a C os f .any (fun w args=>(s.pre enc C.prog fn conds apart w args/\X w args)/\sizedMet enc C.prog fn (OpenSpec.ofChange s) apart w args) (s.post enc C.prog fn apart fresh handsOn again):=by
 refine returnsInHanded_of_calls own started noInit witness fun w tape i _ hsh _ hok hpre hholds=>?_;obtain⟨_,_,_,fn',hfn',_,_,_,_,hval⟩:=hok;obtain rfl:fn'=fn:=Option.some.inj (hfn'.symm.trans hfn);obtain⟨⟨⟨ds,gs,before,hw,_⟩,hx⟩,hz⟩:=hpre;refine(contract (w.forCall tape i) w.heap.size i.args ds gs before hval (DataW.Whole.of_heap (w':=w.forCall tape i) (by rfl) hw) hsh (hz.weights hw) (hX _ _ _ (by rfl) hx)).mono fun e W' ⟨v,he,hp⟩=>?_;subst he;exact ChangeSpec.post_blind hp
end
end Go.Proofs.YtbbapnpdfcgjnaaGreatDoor
