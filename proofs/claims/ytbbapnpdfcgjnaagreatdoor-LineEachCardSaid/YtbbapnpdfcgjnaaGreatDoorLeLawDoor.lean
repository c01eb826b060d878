/- Proved:LineEach answers true for every text and every number:the chances that Each hands on are,one behind the other,those that the document finds by its rules,a range within a range begins anew and may be left,and the lines that Lines hands on are those between the chances at which a line must end (texts of more than sixty bytes are only looked at by the closing check);and the arguments read behind the call as they did. Condition:the listed package-level variables of Go's library (the two tables of package unicode/utf8) begin as the program's text lays them (the card ties them). -/
import Derived.ShutString
import Derived.Test.YtbbapnpdfcgjnaaGreatDoorTie
import Derived.Test.YtbbapnpdfcgjnaaGreatDoorCards
import Derived.Test.YtbbapnpdfcgjnaaGreatDoorELeW
import Derived.Test.YtbbapnpdfcgjnaaGreatDoorEWdLaid
namespace Go.Proofs.YtbbapnpdfcgjnaaGreatDoor
open Go.ChangeShapes Go.WideShapes Go.ChangeAt Go.RowKit
open Go.ChangeMaps (open_string shut_string)
theorem rP:laidOutB Tryz.prog=true:=by kernel_rfl
set_option maxHeartbeats 2000000 in
set_option maxRecDepth 100000 in
theorem nH (os:Os) (started:os.Started) (H:Type) (enc:TypeId×Value->H):
  ReturnsInHanded {} Tryz.checked os 9 .any (fun w args=>(Rows.lineEachSpec.pre enc Tryz.prog Tryz.f9 [] false w args/\laidMetH Tryz.prog rQ w)/\sizedMet enc Tryz.prog Tryz.f9 (OpenSpec.ofChange Rows.lineEachSpec) false w args)
   (Rows.lineEachSpec.post enc Tryz.prog Tryz.f9 false true false false):=by
 refine zwf (C:=Tryz.checked) (X:=fun w _=>laidMetH Tryz.prog rQ w) (fun _ _ _ hh h=>h.of_heap hh) ownk started (by kernel_rfl) Tryz.func9
  (ChangeSpec.witness_shaped (enc:=enc) (C:=Tryz.checked) (os:=os) (X:=fun w _=>laidMetH Tryz.prog rQ w) false (World.laidAll Tryz.prog os rQ) #[.string ⟨#[]⟩,.int .i64 0] 8 (World.laidAll_os _ _ _)
   (World.shaped_of_ZipB (by kernel_rfl) (by kernel_rfl)) (by kernel_rfl) (by kernel_rfl) (by kernel_rfl)
   (by rw[MakeChecks.laidMetH_plain _ _ _ (by kernel_rfl)];exact laidMet_laidAll _ (by kernel_rfl) (by kernel_rfl))) ?_
 intro W base args ds gs before hval0 hW hsh hsz0 hL;have hval:∀(j:Nat) t v,Tryz.f9.params[j]?=some t->args[j]?=some v->Value.okWide Tryz.prog W .any base t v:=hval0;have hW':=hW;obtain⟨p,q,hA0,hV,rfl,hfz,hnd⟩:=hW;have hA:DataW.TrodAll enc Tryz.prog W 0 (fun _=>true) true Tryz.f9.params.toList args.toList ds p:=hA0
 rw[Tryz.params9]at hA hval;obtain⟨v0,v1,d0,d1,p0,p1,rfl,rfl,rfl,h0,h1⟩:=trodAll_two hA;obtain⟨rfl,rfl⟩:=trodVars_none hV;have hsz:(DataW.weightsEach Tryz.prog [9,3] [d0,d1]).all (·<=reachBytes)=true:=hsz0
 have k0:=h0;have k1:=h1;have lt0:∀x∈p0,x.block<W.heap.size:=by obtain⟨m,hm⟩:=k0;exact DataW.trod_lt m _ _ _ hm
 have lt1:∀x∈p1,x.block<W.heap.size:=by obtain⟨m,hm⟩:=k1;exact DataW.trod_lt m _ _ _ hm
 have htb:=sP hL hsh;have ht2:Ln.Tb W:=⟨kD hL,by
  obtain⟨c,h1,_⟩:=htb _ (List.mem_cons_of_mem _ (List.mem_cons_self ..));exact(Array.getElem?_eq_some_iff.1 h1).1⟩
 obtain⟨s,rfl,rfl,rfl,ws⟩:=open_string Tryz.underlying9 (hval 0 9 v0 rfl rfl) h0;obtain⟨l,rfl⟩:∃l:List UInt8,s=⟨l.toArray⟩:=⟨s.data.toList,by simp⟩
 obtain⟨st,rfl,_,wz1⟩:=open_int Tryz.underlying3 (hval 1 3 v1 rfl rfl) h1;clear hA0 hval0;refine(Ln.zqK l st W ht2 htb).mono fun e W' ⟨he,bel⟩=>?_
 subst he;exact⟨_,rfl,_,_,_,[],_,[],hW',trodAll_mk1 (shut_bool Tryz.underlying4 _),trodAll_mk2 (Below.trod rP (by kernel_rfl) (of_decide_eq_true (by kernel_rfl)) k0 bel lt0) (Below.trod rP (by kernel_rfl) (of_decide_eq_true (by kernel_rfl)) k1 bel lt1),rfl,bel.frame _,fun h=>by cases h⟩
theorem pH:Rows.LineEachSaid:=
 OpenClaim.holds_of_wide 9 Tryz.f9 rfl rfl rfl rfl rfl rfl rfl ⟨rfl,rfl,rfl,rfl,rfl⟩ rfl rfl rfl rfl rfl (by kernel_rfl) Tryz.func9 (by kernel_rfl)
  (of_decide_eq_true (by kernel_rfl)) (by unfold Func.isWrapper;first|(rw[if_pos (by decide+kernel)];kernel_rfl)|(rw[if_neg (by decide+kernel)];exact⟨rfl,rfl⟩))
  (fun os started H enc _=>nH os started H enc)
theorem lineEach_proved:Rows.LineEachCardSaid:=
 Claim7.holds_tied_plain_at .later [] [.data,.pinned] true Rows.lineEachCard.stood.harness false
  pH (fun _ h=>by cases h) (by kernel_rfl) (fun _ h=>by cases h) lineEach_row_tie rfl ⟨rfl,rfl⟩ (by kernel_rfl) rfl
  (fun f fn hf hfn=>by
   obtain rfl:f=9:=Option.some.inj ((show Tryz.prog.funcNamed Rows.lineEachRow.func=some 9 by kernel_rfl).symm.trans hf) |>.symm
   obtain rfl:fn=Tryz.f9:=(Option.some.inj (Tryz.func9.symm.trans hfn)).symm;exact⟨by kernel_rfl,fun j t ht=>by
    rw[Tryz.params9]at ht;have hm:t∈ [9,3]:=by simpa using Array.mem_of_getElem? ht
    have hall:([9,3].all fun u=> !Tryz.prog.wantsStandIn u)=true:=by kernel_rfl
    exact(show Tryz.prog.wantsStandIn t=false by simpa using List.all_eq_true.1 hall t hm)⟩)
  (by kernel_rfl)
#print axioms lineEach_proved
end Go.Proofs.YtbbapnpdfcgjnaaGreatDoor
