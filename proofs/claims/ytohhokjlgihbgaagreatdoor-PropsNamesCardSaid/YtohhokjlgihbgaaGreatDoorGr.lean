/- The contract of Of (package props). -/
import Derived.RegionIn
import Derived.Test.YtohhokjlgihbgaaGreatDoorGl
import Derived.Test.YtohhokjlgihbgaaGreatDoorGp
import Derived.Lib.SliceRun
import Derived.Test.YtohhokjlgihbgaaGreatDoorGb
import Derived.Test.YtohhokjlgihbgaaGreatDoorGq
import Derived.Test.YtohhokjlgihbgaaGreatDoorGi
import Derived.Lib.LaidU8
import Derived.ProofKit
import Derived.LaidMore
import Derived.HandedShaped
import Derived.Stop.Joined
import Derived.ChangeSlices
import Derived.ChangeArms
import Derived.OpenShut
import Derived.Lay
import Derived.Test.YtohhokjlgihbgaaGreatDoorRows
namespace Go.Proofs.YtohhokjlgihbgaaGreatDoor
open Go.RowKit Go.Shelf
attribute [local go_sem] Oper.semAt_some

/-- The classes that have come, as values. -/
def cl64 (xs : List (Nat × Nat)) : List Value := xs.map fun x => Value.int .i64 (x.2 : Int)
theorem cl64_snoc (xs : List (Nat × Nat)) (x : Nat × Nat) : cl64 (xs ++ [x]) = cl64 xs ++ [.int .i64 (x.2 : Int)] := by simp [cl64]
theorem evs_len (A : List Tr) (l : List UInt8) : (evs A l 0).length ≤ l.length := by
  have h5 := plr_len l l.length 0 (by omega)
  unfold evs
  rw [List.length_map]; omega
theorem Tryz.info3 : (Tryz.prog.info? 3).map (fun i => (i.zero, i.size, i.bytes)) = some (some (.int .i64 0), 1, 8) := by kernel_rfl
def frE (a : Act) (ps : Array Tmp) (d : Nat) (x : Nat × Nat) : Act := { tmps := ((ps.zip (encE x)).foldl (fun t (p, v) => t.setIfInBounds p v) a.tmps).setIfInBounds d (.int .i64 (x.2 : Int)), defers := [] }

/-- The law for a range over a list of pairs, of which the second is kept in slot d. -/
theorem rfE {F : Fence} {n : Nat} {P : Program} {g : Operand} {ps : Array Tmp} {assign body : Code} {Q : Exit → Act → World → Prop} {a : Act} {w : World}
    (hro : F.round = none) (h1 : 1 ≤ n) {gf : Nat} {lb : Array Value} (hg : a.eval g = .func (.func gf) #[] lb) (hFg : F.fn gf) (eg : ∀ args w, (callFunc gf args).run P w = .ok (.enter gf args) w)
    {Z : World → Prop} {K : Nat → Prop} {L : List (Nat × Nat)} (hseq : CaughtStops F (n - 1) P gf lb encE none Z (Kr K) L w) (hZ : ∀ W l o', w.heap.size ≤ l → Z W → Z (W.putObj l o')) (hK : ∀ k, K k → k < w.heap.size) (hps : 2 = ps.size) (d : Nat)
    (I Ix : List (Nat × Nat) → World → Prop) (hI : OwnFrom w.heap.size I) (hIx : OwnFrom w.heap.size Ix) (h0 : I [] w)
    (hassign : ∀ (l : Nat) (x : Nat × Nat) (W : World) (K : Act → World → Prop), K (frE a ps d x) W → assign.wpIn (F.inRound l) (n - 1 - 1) P (Exit.then K (fun _ _ _ => False)) { tmps := (ps.zip (encE x)).foldl (fun t (p, v) => t.setIfInBounds p v) a.tmps, defers := [] } W)
    (hbody : ∀ (l : Nat) (pre : List (Nat × Nat)) (x : Nat × Nat) (W : World), w.heap.size ≤ l → pre ++ [x] <+: L → Z W → I pre W → body.wpIn (F.inRound l) (n - 1 - 1) P (caughtPost w.heap.size (Kr K) I Ix (pre ++ [x]) W) (frE a ps d x) W)
    (hdone : ∀ (D : Nat) (W : World), w.heap.size ≤ D → I L W → W.heap[D]? = some (.deferred (some [])) → Q .normal { a with defers := { target := .collected D, args := #[] } :: a.defers } W)
    (hstop : ∀ (D : Nat) (pre : List (Nat × Nat)) (W : World), w.heap.size ≤ D → pre <+: L → Ix pre W → W.heap[D]? = some (.deferred (some [])) → Code.ret.wpIn F n P Q { a with defers := { target := .collected D, args := #[] } :: a.defers } W) :
    (Code.rangeFunc g ps assign body).wpIn F n P Q a w :=
  rf_caught hro h1 hg hFg eg hseq (fun r e => by cases e) hZ Kr_t (fun W lp o o' hl h hc hk => Kr_b hK W lp o o' hl h hc hk) (fun _ => hps) I Ix hI hIx (fun s A C r e => by cases e) (fun s A C r e => by cases e) h0 (frE a ps d) hassign hbody hdone hstop

set_option maxRecDepth 100000 in
set_option maxHeartbeats 1000000 in
theorem of_in (B P : Nat) (x y : Value) (po : Option Addr) (pc : Nat) (A : List Tr) (l : List UInt8) (w : World) (hP : w.heap[P]? = some (.cells #[x, y, .slice po A.length pc] 76 (0, 0))) (hR : w.ownsRow B 86 3 (.slice po A.length pc) A.length (rks A)) (hA : A.length ≤ 10000000) (hp : A.Pairwise fun x y => x.2.1 < y.2.1) (he : ∃ g ∈ A, g.2.1 = 1114111) (hl : l.length ≤ 1000000000) :
    CallsIn Fence.wide 9 Tryz.prog 15 #[.pointer (some ⟨P, 0, none⟩), .string ⟨l.toArray⟩] w fun e w' => ∃ v, e = .returned v ∧ w'.ownsRow w.heap.size 3 1 v (evs A l 0).length (cl64 (evs A l 0)) ∧ Below w.heap.size w w' := by
  obtain ⟨i0, hi, hz0, hz1, hz2⟩ := info_parts Tryz.info3
  have HP := hid hP
  have HR := hid hR
  have HPW := hid hp
  have HE := hid he
  have hPl := lt_of_heap hP
  have HRL := hid (show ∀ a : Addr, po = some a → a.block < w.heap.size from fun a e => by
    rcases hR.2 with ⟨h5, _⟩ | ⟨q, cap, cur, h5, _, h6, _⟩
    · rw [e] at h5; cases h5
    · rw [e] at h5; cases h5; exact lt_of_heap h6)
  have hlen := evs_len A l
  clear hP hR hp he
  refine callsIn_of_wp_marks Tryz.func15 rfl trivial ?_ rfl
  simp only [Tryz.ntmps15, List.size_toArray, List.length_cons, List.length_nil, Nat.reduceAdd, Nat.reduceSub, Array.replicate_succ, Array.replicate_zero, List.push_toArray, List.append_toArray, List.nil_append, List.cons_append]
  gi_wp2_with (first | (refine ⟨trivial, ?_⟩; gi_at_call 46; refine (callsIn_wide.2 (ucount_any l _ (by omega))).mono ?_; rintro e w1 ⟨⟨kc, hkc, rfl⟩, hb1⟩) | (gi_at_make; refine wpListIn_make_own _ rfl _ _ 34 rfl w.heap.size 3 i0 (.int .i64 0) 1 Tryz.underlying34 hi hz0 hz1 .i64 .i64 _ kc rfl rfl rfl (by rw [hz2]; omega) (by unfold maxLen; omega) hb1.size ?_; intro w2 hown2 hgrow2) | (refine ⟨trivial, ?_⟩; gi_at_call 17; refine (callsIn_wide.2 (each_any P l _)).mono ?_; rintro e w4 ⟨rfl, hw4⟩))
  have hB2 : Below w.heap.size w w2 := hb1.grown hgrow2 hb1.size (fun k e => by cases e)
  have hs2 := hB2.size
  rw [← hw4]
  obtain ⟨M, hM⟩ : ∃ M, M = w2.heap.size := ⟨_, rfl⟩
  have bL : Boxed w4 M 34 (.slice (some ⟨w1.heap.size, 0, none⟩) 0 kc) := by rw [hw4, hM]; exact ((Boxed.new w2 34 _).alloc _).alloc _
  have bD : Boxed w4 (M + 1) 24 (.pointer (some ⟨P, 0, none⟩)) := by
    have h5 := Boxed.new (w2.alloc (.cells #[.slice (some ⟨w1.heap.size, 0, none⟩) 0 kc] 34)) 24 (.pointer (some ⟨P, 0, none⟩))
    rw [World.size_alloc] at h5
    rw [hw4, hM]; exact h5.alloc _
  have bS : Boxed w4 (M + 2) 9 (.string ⟨l.toArray⟩) := by
    have h5 := Boxed.new ((w2.alloc (.cells #[.slice (some ⟨w1.heap.size, 0, none⟩) 0 kc] 34)).alloc (.cells #[.pointer (some ⟨P, 0, none⟩)] 24)) 9 (.string ⟨l.toArray⟩)
    rw [World.size_alloc, World.size_alloc] at h5
    rw [hw4, hM]; exact h5
  have hB4 : Below w.heap.size w w4 := by rw [hw4]; exact ((hB2.alloc hs2 _).alloc (by simp; omega) _).alloc (by simp; omega) _
  have hs4 : w4.heap.size = M + 3 := by rw [hw4, hM]; simp
  have hown4 : w4.ownsRow w.heap.size 3 1 (.slice (some ⟨w1.heap.size, 0, none⟩) 0 kc) 0 [] := by rw [hw4]; exact ((hown2.alloc _).alloc _).alloc _
  have hEA : EachAt (M + 1) (M + 2) P x y po pc A l w4 := ⟨bD, bS, (hB4.block P hPl).trans HP.out, fun a e => by
    obtain ⟨cs, hcs⟩ := row_blk HR.out (x := a.block) (by rw [e]; exact (by
      rcases HR.out.2 with ⟨h5, _⟩ | ⟨q, cap, cur, h5, _⟩
      · rw [e] at h5; cases h5
      · rw [e] at h5; cases h5; rfl))
    exact ⟨cs, (0, 0), (hB4.block a.block (HRL.out a e)).trans hcs⟩, (rd_own HR.out).below hB4⟩
  have HEA := hid hEA
  have hKE := hEA.lt
  have HKE := hid hKE
  have hwM : w.heap.size ≤ M := by omega
  rw [← hM]
  clear hw4 hb1 hown2 hgrow2 hB2 hM hs2
  refine rfE (L := evs A l 0) rfl (by omega) (gf := 47) (lb := #[.pointer (some ⟨M + 1, 0, none⟩), .pointer (some ⟨M + 1 + 1, 0, none⟩)]) rfl trivial (enters_of Tryz.func47 (by kernel_rfl) rfl)
    (each_stops _ (by omega) (M + 1) (M + 2) P x y po pc A l w4 HEA.out hA HPW.out HE.out)
    (fun W lp o' hlp hz => hz.keeps (grownBy_putObj' W lp o').size (fun k hk => World.putObj_heap_other (by have h5 := HKE.out k hk; omega))) HKE.out rfl 7
    (fun pre W => (∃ v, Boxed W M 34 v ∧ W.ownsRow w.heap.size 3 1 v pre.length (cl64 pre) ∧ True) ∧ Below w.heap.size w W) (fun _ _ => False)
    (OwnFrom.and (Own.from (holdsRow_own w.heap.size M 34 3 1 (fun pre => pre.length) (fun pre => cl64 pre) (fun _ _ => True)) _) (ownFrom_below (Nat.le_refl _) (by omega)))
    (fun _ _ _ _ h _ _ => h) ⟨⟨_, bL, hown4, trivial⟩, hB4⟩ ?assign ?body ?done ?stop
  case assign =>
    intro lp z W K hK
    dsimp only [encE]
    gi_wp2
    simpa [frE, encE] using hK
  case body =>
    rintro lp pre z W hlp hpre hZ ⟨⟨v, hv, hrow, _⟩, hB⟩
    have hpl : pre.length < l.length := by
      obtain ⟨r, hr⟩ := hpre
      have h5 := congrArg List.length hr
      simp at h5; omega
    have hc := hv.cell
    have HZ := hid hZ
    have hWs := hB.size
    dsimp only [frE, encE]
    obtain ⟨z1, z2⟩ := z
    clear hZ hpre
    gi_wp2_with (gi_at_builtin; refine wpListIn_append_own _ rfl _ _ 34 rfl w.heap.size 3 i0 (.int .i64 0) 1 8 Tryz.underlying34 hi hz0 hz1 hz2 rfl (by decide) _ _ _ rfl (hrow.alloc _) ⟨W.heap.size, 0, none⟩ 1 1 [.int .i64 (z2 : Int)] rfl rfl (cell_one_new _ _ _) (by simp [Value.oneCell']) (by unfold maxLen; omega) (by omega) (by have := hB.size; simp; omega) ?_; intro v' w3 hown' hgrow _; obtain ⟨g', cap', rfl⟩ := ownsRow_succ hown'; obtain ⟨hv1, hv2, hr2, hk2, hb2⟩ := hv.appended (by decide) hrow hB.size (by omega) hown' hgrow; have hc1 := hv1.cell; have hf1 := hv1.frozen)
    refine ⟨hk2.from _, ⟨⟨hk2.size, fun k o h hw => hk2.same k o h (Obj.not_cells_of_walk hw)⟩, fun k hk => ?_⟩, ⟨_, hv2, by rw [cl64_snoc, List.length_append]; exact hr2, trivial⟩, hB.trans hb2⟩
    have hkW := HZ.out.lt k hk
    have hkM : k ≠ M := fun e => by
      subst e
      rcases hk with h5 | h5 | h5 | ⟨a, h5, h6⟩
      · omega
      · omega
      · omega
      · have h7 := HRL.out a h5; omega
    have hkv : some k ≠ v.ownBlock := fun e => by
      obtain ⟨cs, hcs⟩ := row_blk hrow e.symm
      rcases hk with h5 | h5 | h5 | ⟨a, h5, h6⟩
      · subst h5; have h7 := HZ.out.bd; unfold Boxed at h7; rw [h7] at hcs; cases hcs
      · subst h5; have h7 := HZ.out.bl; unfold Boxed at h7; rw [h7] at hcs; cases hcs
      · subst h5; rw [HZ.out.hP] at hcs; cases hcs
      · obtain ⟨c, fz, h7⟩ := HZ.out.row a h5
        rw [h6, hcs] at h7; cases h7
    exact (Below.heap_setCell w3 ⟨M, 0, none⟩ _ k hkM).trans ((hgrow.block k (by simp; omega) hkv).trans (heap_alloc_old W _ k hkW))
  case done =>
    rintro D W hD ⟨⟨v, hv, hrow, _⟩, hB⟩ hK
    have hc := hv.cell
    gi_wp2
    refine ⟨by simp, .inl ⟨_, _, rfl, run_takeDeferred hK, ?_⟩⟩
    exact ⟨_, results_tmp rfl _ _ _, v, rfl, ownsRow_putObj hrow _ hK rfl, hB.trans (belowK_b (w := w) (Nat.le_refl _) W D _ _ (by omega) hK rfl rfl)⟩
  case stop =>
    rintro D pre W _ _ h _
    exact h.elim
theorem of_any (B P : Nat) (x y : Value) (po : Option Addr) (pc : Nat) (A : List Tr) (l : List UInt8) (w : World) (hP : w.heap[P]? = some (.cells #[x, y, .slice po A.length pc] 76 (0, 0))) (hR : w.ownsRow B 86 3 (.slice po A.length pc) A.length (rks A)) (hA : A.length ≤ 10000000) (hp : A.Pairwise fun x y => x.2.1 < y.2.1) (he : ∃ g ∈ A, g.2.1 = 1114111) (hl : l.length ≤ 1000000000) :
    Calls Tryz.prog 15 #[.pointer (some ⟨P, 0, none⟩), .string ⟨l.toArray⟩] w fun e w' => ∃ v, e = .returned v ∧ w'.ownsRow w.heap.size 3 1 v (evs A l 0).length (cl64 (evs A l 0)) ∧ Below w.heap.size w w' :=
  callsIn_wide.1 (of_in B P x y po pc A l w hP hR hA hp he hl)
end Go.Proofs.YtohhokjlgihbgaaGreatDoor
/- The contracts of slices.Clone of texts and of Names (package props). -/
namespace Go.Proofs.YtohhokjlgihbgaaGreatDoor
open Go.RowKit

theorem row_e9 (w : World) : (w.alloc (.cells #[] 9)).ownsRow w.heap.size 9 1 (.slice (some ⟨w.heap.size, 0, none⟩) 0 0) 0 [] :=
  ⟨by simp, .inr ⟨w.heap.size, 0, #[], rfl, Nat.le_refl _, heap_alloc_new w _, Nat.le_refl _, by simp [maxLen], by simp, by simp⟩⟩
theorem nms_one (U : List (List UInt8)) : ∀ u ∈ nms U, u.oneCell' = true := by
  intro u hu
  obtain ⟨c, _, rfl⟩ := List.mem_map.1 hu
  rfl
set_option maxHeartbeats 1000000 in
set_option maxRecDepth 100000 in
theorem clone_any (B g cap n : Nat) (U : List (List UInt8)) (w : World) (h : w.ownsRow B 9 1 (.slice (some ⟨g, 0, none⟩) n cap) n (nms U)) (hn : n ≤ 1000000) :
    Calls Tryz.prog 48 #[.slice (some ⟨g, 0, none⟩) n cap] w fun e w' => ∃ v', e = .returned v' ∧ w'.ownsRow w.heap.size 9 1 v' n (nms U) ∧ Below w.heap.size w w' := by
  obtain ⟨i0, hi9, hz0, hz1, hz2⟩ := info_parts Tryz.info9
  have q45 : ∀ (w : World) (a : Option Addr) (n c n' c' : Nat), (binOp .eql 45 (.slice a n c) (.slice none n' c')).run Tryz.prog w = .ok (.bool a.isNone) w := fun w a n c n' c' => Lib.run_eql_slice_nil w _ _ a n c n' c' Tryz.underlying45
  have HO := hid (row_e9 w)
  have HR := hid (h.alloc (.cells #[] 9))
  have HB0 := hid ((Below.refl w.heap.size w).alloc (Nat.le_refl _) (.cells #[] 9))
  have hul : (nms U).length = n * 1 := h.1
  have HNW := hid (show ∀ j u, (nms U)[j]? = some u → (w.alloc (.cells #[] 9)).cell? ((⟨g, 0, none⟩ : Addr).add j) = some u from fun j u hj => by
    have hjl := (List.getElem?_eq_some_iff.1 hj).1
    rw [Addr.add_lit, Nat.zero_add, HR.out.cellAt _ (by omega)]
    exact hj)
  clear h
  go_enter Tryz.func48, Tryz.ntmps48
  go_wp2_with (at_builtin; refine wpList_append_own _ rfl _ _ 45 rfl w.heap.size 9 i0 (.string ⟨#[]⟩) 1 16 Tryz.underlying45 hi9 hz0 hz1 hz2 rfl (by decide) _ 0 [] rfl HO.out ⟨g, 0, none⟩ n cap (nms U) rfl hul HNW.out (nms_one U) (by unfold maxLen; omega) (by omega) (by simp) ?_; intro v2 w2 o2 gr2 _)
  have ho2 : w2.ownsRow w.heap.size 9 1 v2 n (nms U) := by simpa using o2
  have HB2 := hid (HB0.out.grown gr2 (by simp) (fun k hk => (HO.out.lt k hk).1))
  have HO2 := hid ho2
  clear o2 gr2 ho2
  go_ret
  exact ⟨_, rfl, HO2.out, HB2.out⟩
set_option maxRecDepth 100000 in
theorem names_any (B P K : Nat) (U : List (List UInt8)) (nv pv : Value) (w : World) (h : DbAt B P K U nv pv w) (hU : 0 < U.length) (hl : U.length ≤ 1000000) :
    Calls Tryz.prog 19 #[.pointer (some ⟨P, 0, none⟩)] w fun e w' => ∃ v', e = .returned v' ∧ w'.ownsRow w.heap.size 9 1 v' U.length (nms U) ∧ Below w.heap.size w w' := by
  have c0 := h.c0
  obtain ⟨g, cap, rfl⟩ : ∃ g cap, nv = .slice (some ⟨g, 0, none⟩) U.length cap := by
    rcases h.hR.2 with ⟨_, h6⟩ | ⟨q, qc, _, h5, _⟩
    · omega
    · exact ⟨_, _, h5⟩
  have HC := hid (clone_any B g cap U.length U w h.hR hl)
  obtain ⟨n, hn⟩ : ∃ n, n = U.length := ⟨_, rfl⟩
  rw [← hn] at c0 HC ⊢
  clear h hn hU hl
  go_enter Tryz.func19, Tryz.ntmps19
  go_wp2_with fail
  refine HC.out.mono ?_
  rintro e w1 ⟨v1, rfl, o1, b1⟩
  have HO := hid o1
  have HB := hid b1
  clear o1 b1 HC
  go_wp2
  go_ret
  exact ⟨_, rfl, HO.out, HB.out⟩
end Go.Proofs.YtohhokjlgihbgaaGreatDoor
/- The contract of live (package kerflaw04): it answers true. -/
namespace Go.Proofs.YtohhokjlgihbgaaGreatDoor
open Go.RowKit

/-- What the tables of the library hold. -/
structure Tbs (m : Int) (w : World) : Prop where
  t : Lib.Utf8Tabs 0 1 w
  m : w.cell? ⟨2, 0, none⟩ = some (.int .i64 m)
  z : w.cell? ⟨6, 15, none⟩ = some (.int .u8 4)
  s : 9 ≤ w.heap.size
theorem Tbs.below {m : Int} {w w' : World} (h : Tbs m w) (hb : Below w.heap.size w w') : Tbs m w' :=
  ⟨tabs_b h.t (by have h5 := h.s; omega) hb, (hb.cell (p := ⟨2, 0, none⟩) (by show 2 < w.heap.size; have h5 := h.s; omega)).trans h.m, (hb.cell (p := ⟨6, 15, none⟩) (by show 6 < w.heap.size; have h5 := h.s; omega)).trans h.z, Nat.le_trans h.s hb.size⟩
theorem new_any (t : List UInt8) (m : Int) (w : World) (h : Tbs m w) :
    Calls Tryz.prog 10 #[.string ⟨t.toArray⟩] w fun e w' => Below w.heap.size w w' ∧
      (((nw t).1.1 ≠ 0 ∧ e = .returned (.tuple #[.pointer none, .int .i64 (nw t).1.1, .int .i64 ((nw t).1.2 : Int)])) ∨
       ((nw t).1.1 = 0 ∧ ∃ P K nv po pc, e = .returned (.tuple #[.pointer (some ⟨P, 0, none⟩), .int .i64 0, .int .i64 0]) ∧ DbAt w.heap.size P K (nw t).2.1 nv (.slice po (whl (nw t).2.2).length pc) w' ∧ w'.ownsRow w.heap.size 86 3 (.slice po (whl (nw t).2.2).length pc) (whl (nw t).2.2).length (rks (whl (nw t).2.2)) ∧ Rs 0 (nw t).2.2 ∧ (nw t).2.1.Nodup ∧ (nw t).2.1.length ≤ 64)) :=
  callsIn_wide.1 (new_in t m w h.t h.m (by have h5 := h.s; omega))
set_option maxRecDepth 100000 in
theorem num_any (e : Int) (w : World) : Calls Tryz.prog 12 #[.int .i64 e] w fun r w' => r = .returned (.int .i64 e) ∧ w' = w := by
  go_enter Tryz.func12, Tryz.ntmps12
  go_wp2
  go_ret
  exact ⟨rfl, rfl⟩

set_option maxRecDepth 100000 in
set_option maxHeartbeats 2000000 in
theorem live_any (m : Int) (w : World) (h : Tbs m w) : Calls Tryz.prog 9 #[] w fun e w' => e = .returned (.bool true) ∧ Below w.heap.size w w' := by
  have H1 := hid (new_any sml m w h)
  rw [nw_sml, whl_sml] at H1
  unfold sml at H1
  have HT := hid h
  have HNU := hid num_any
  clear h
  go_enter Tryz.func9, Tryz.ntmps9
  go_wp2_with fail
  refine H1.out.mono ?_
  rintro e w1 ⟨b1, (⟨h1, _⟩ | ⟨_, P, K, nv, po, pc, rfl, d1, o1, _, nd1, ln1⟩)⟩
  · exact absurd rfl h1
  have HB1 := hid b1
  have HD1 := hid d1
  have HO1 := hid o1
  have HT1 := hid (HT.out.below b1)
  have H2 := hid (new_any sm2 m w1 HT1.out)
  rw [nw_sm2] at H2
  unfold sm2 at H2
  clear b1 d1 o1 nd1 ln1 H1
  go_wp2_with (go_at_call 12; refine (HNU.out _ _).mono ?_; rintro e w2 ⟨rfl, hw⟩; obtain rfl := hw.symm)
  refine H2.out.mono ?_
  rintro e w2 ⟨b2, (⟨_, rfl⟩ | ⟨h2, _⟩)⟩
  rotate_left
  · cases h2
  dsimp only
  have HB2 := hid (HB1.out.trans (b2.mono HB1.out.size))
  have HD2 := hid (HD1.out.below b2)
  have HO2 := hid (own_keep HO1.out b2)
  have HT2 := hid (HT1.out.below b2)
  have H3 := hid (of_any w.heap.size P nv (.map (some K)) po pc smA smt w2 HD2.out.hP HO2.out (by decide) st_sml.1 st_sml.2 (by decide))
  rw [evs_sml] at H3
  unfold smt at H3
  clear b2 H2 HB1 HD1 HO1 HT1
  go_wp2_with fail
  refine H3.out.mono ?_
  rintro e w3 ⟨v3, rfl, o3, b3⟩
  have HB3 := hid (HB2.out.trans (b3.mono HB2.out.size))
  have HD3 := hid (HD2.out.below b3)
  have HO3 := hid (own_keep HO2.out b3)
  have HT3 := hid (HT2.out.below b3)
  obtain ⟨q, cap, rfl, hqB, hqw⟩ := o3.form (by decide)
  have HV3 := hid o3
  have H4 := hid (class_any w.heap.size P K [oth, ext, lett] nv (.slice po smA.length pc) lett w3 HD3.out (by decide) (by decide))
  unfold lett at H4
  clear b3 H3 HB2 HD2 HO2 HT2 o3 hqB hqw
  go_wp2_with fail
  refine H4.out.mono ?_
  rintro e w4 ⟨rfl, hw4⟩
  obtain rfl := hw4.symm
  have H5 := hid (names_any w.heap.size P K [oth, ext, lett] nv (.slice po smA.length pc) w3 HD3.out (by decide) (by decide))
  clear H4
  go_wp2_with fail
  refine H5.out.mono ?_
  rintro e w5 ⟨v5, rfl, o5, b5⟩
  obtain ⟨q5, cap5, rfl, _, _⟩ := o5.form (by decide)
  have HB5 := hid (HB3.out.trans (b5.mono HB3.out.size))
  have HD5 := hid (HD3.out.below b5)
  have HO5 := hid (own_keep HO3.out b5)
  have HT5 := hid (HT3.out.below b5)
  have HV5 := hid (own_keep HV3.out b5)
  have x0 : w5.cell? ⟨q, 0, none⟩ = some (.int .i64 2) := HV5.out.cellAt 0 (by decide)
  have x1 : w5.cell? ⟨q, 1, none⟩ = some (.int .i64 1) := HV5.out.cellAt 1 (by decide)
  have x2 : w5.cell? ⟨q, 2, none⟩ = some (.int .i64 0) := HV5.out.cellAt 2 (by decide)
  have H6 := hid (text_any w.heap.size P K [oth, ext, lett] nv po pc smA w5 HD5.out (rd_own HO5.out) (by decide) (by decide) (by decide) (by decide) (fun c => Nat.le_trans (stc_len c smA) (by decide)) HT5.out.z HT5.out.s)
  rw [show ([oth, ext, lett] : List (List UInt8)).length = 3 from rfl, tx_sml] at H6
  unfold sml at H6
  clear b5 H5 HB3 HD3 HO3 HT3 o5 HV3
  go_wp2_with fail
  refine H6.out.mono ?_
  rintro e w6 ⟨rfl, b6⟩
  have HB6 := hid (HB5.out.trans (b6.mono HB5.out.size))
  have HD6 := hid (HD5.out.below b6)
  have HO6 := hid (own_keep HO5.out b6)
  have H7 := hid (ranged_any w.heap.size P K [oth, ext, lett] nv po pc smA w6 HD6.out (rd_own HO6.out) (by decide))
  rw [rgd_sml] at H7
  clear b6 H6 HB5 HD5 HO5 HT5 HV5 x0 x1 x2
  go_wp2_with (first | (go_at_call 12; refine (HNU.out _ _).mono ?_; rintro e w8 ⟨rfl, hw⟩; obtain rfl := hw.symm) | fail)
  refine H7.out.mono ?_
  rintro e w7 ⟨v7, rfl, o7, b7⟩
  obtain ⟨q7, cap7, rfl, _, _⟩ := o7.form (by decide)
  have HB7 := hid (HB6.out.trans (b7.mono HB6.out.size))
  clear b7 H7 HB6 HD6 HO6 o7
  go_wp2
  go_ret
  exact ⟨rfl, HB7.out⟩
end Go.Proofs.YtohhokjlgihbgaaGreatDoor
/- What the rows' listed variables and the world's shape give the walks: the two tables of package utf8, a place of a table of package bits, that MaxLen holds some number. -/
namespace Go.Proofs.YtohhokjlgihbgaaGreatDoor
open Go.ChangeShapes Go.WideShapes Go.ChangeAt Go.RowKit Go.Deep

/-- The list of every row of this seat. -/
def laid2 : List (String × DataW Unit) := Rows.propsNamesRow.laid
set_option maxRecDepth 100000 in
theorem first_eq : Rows.laid_unicode_utf8_first = Lib.firstData := by kernel_rfl
theorem accept_eq : (Rows.laid_unicode_utf8_acceptRanges : DataW Unit) = Lib.acceptData := by kernel_rfl
theorem xU8 : U8Extra Tryz.prog Tryz.lays260_ren := by constructor <;> kernel_rfl
/-- The numbers of a table of numbers. -/
def numsOf : DataW Unit → List Int
  | .agg ds => ds.map fun d => match d with
    | .lit (.int _ z) => z
    | _ => 0
  | _ => []
def deb : List Int := numsOf Rows.laid_math_bits_deBruijn64tab
theorem deb_eq : (Rows.laid_math_bits_deBruijn64tab : DataW Unit) = Lib.tabData .u8 deb := by kernel_rfl
theorem deb_at : deb[15]? = some 4 := by kernel_rfl
theorem tabs_of_laid {W : World} (h : laidMetH Tryz.prog laid2 W) (hs : W.ShapedOpen Tryz.prog) : ∃ m, Tbs m W := by
  rw [MakeChecks.laidMetH_plain _ _ _ (by kernel_rfl)] at h
  obtain ⟨m, hm⟩ := Tryz.laysM155.s1_3 W hs
  have h1 := Lib.laidMet.reads h (.tail _ (.head _))
  have h4 := Lib.laidMet.reads h (.tail _ (.tail _ (.tail _ (.head _))))
  have h5 := Lib.laidMet.reads h (.tail _ (.tail _ (.tail _ (.tail _ (.head _)))))
  have h3 := Lib.laidMet.reads h (.tail _ (.tail _ (.tail _ (.tail _ (.tail _ (.tail _ (.tail _ (.head _))))))))
  rw [first_eq] at h3
  rw [accept_eq] at h4
  rw [deb_eq] at h1
  have hT : Lib.Utf8Tabs 0 1 W := utf8Tabs_of_reads Tryz.lays260 xU8 h3 h4
  refine ⟨m, hT, hm, ?_, ?_⟩
  · obtain ⟨g, t, cs, fuel, p, hg, hty, hvar, hd⟩ := h1
    obtain rfl : g = 6 := Option.some.inj (hg.symm.trans (by kernel_rfl))
    obtain rfl := Option.some.inj ((show (Tryz.prog.globals[6]?).map (·.type) = some 242 by kernel_rfl).symm.trans hty)
    have hcs := Lib.cells_of_tab Tryz.underlying242 Tryz.underlying5 (by kernel_rfl) (by kernel_rfl) hd
    have h6 := World.var?_cell hg hvar 15
    rw [h6, ← Array.getElem?_toList, hcs, List.getElem?_map, deb_at]
    rfl
  · obtain ⟨g, t, cs, fuel, p, hg, hty, hvar, hd⟩ := h5
    obtain rfl : g = 8 := Option.some.inj (hg.symm.trans (by kernel_rfl))
    unfold World.var? at hvar
    rw [hg] at hvar
    have hlt : 8 < W.heap.size := by
      rcases Nat.lt_or_ge 8 W.heap.size with hlt | hge
      · exact hlt
      · exfalso
        have hn : W.heap[8]? = none := Array.getElem?_eq_none hge
        simp [hn] at hvar
    omega
theorem own : ownKnob Tryz.prog.godebug = none := by kernel_rfl
theorem laidOut : laidOutB Tryz.prog = true := by kernel_rfl
/-- The law's wrap: the listed variables and the world's shape are both at hand. -/
theorem wrap4 {H : Type} {enc : TypeId × Value → H} {a : Assume} {C : Checked} {os : Os} {f : FuncId} {fn : Func} {s : ChangeSpec} {conds : List PathCond} {apart fresh handsOn again : Bool} {X : World → Array Value → Prop}
    (hX : ∀ (w w' : World) (args : Array Value), w.heap = w'.heap → X w args → X w' args)
    (own : ownKnob C.prog.godebug = none) (started : os.Started) (noInit : C.prog.inits.idxOf? f = none) (hfn : C.prog.funcs[f]? = some fn)
    (witness : ∃ (w : World) (tape : Tape) (i : Input), w.os = os ∧ (w.forCall tape i).Shaped C.prog ∧ i.vars = [] ∧ Input.okWide C.prog (w.forCall tape i) .any w.heap.size f i ∧
      ((s.pre enc C.prog fn conds apart (w.forCall tape i).memory i.args ∧ X (w.forCall tape i).memory i.args) ∧ sizedMet enc C.prog fn (OpenSpec.ofChange s) apart (w.forCall tape i).memory i.args) ∧ a.holds C.prog (lone (Frame.enter C.prog f i.args .normal) [] (w.forCall tape i)))
    (contract : ∀ (W : World) (base : Nat) (args : Array Value) (ds gs : List (DataW H)) (before : List MemPlace),
      (∀ (j : Nat) t v, fn.params[j]? = some t → args[j]? = some v → Value.okWide C.prog W .any base t v) →
      DataW.Whole enc C.prog fn.params.toList s.vars apart W args.toList ds gs before → W.ShapedOpen C.prog → X W args →
      Calls C.prog f args W fun e W' => ∃ v, e = .returned v ∧ s.post enc C.prog fn apart fresh handsOn again W args v W') :
    ReturnsInHanded a C os f .any (fun w args => (s.pre enc C.prog fn conds apart w args ∧ X w args) ∧ sizedMet enc C.prog fn (OpenSpec.ofChange s) apart w args) (s.post enc C.prog fn apart fresh handsOn again) := by
  refine returnsInHanded_of_calls own started noInit witness fun w tape i _ hsh _ hok hpre hholds => ?_
  obtain ⟨_, _, _, fn', hfn', _, _, _, _, hval⟩ := hok
  obtain rfl : fn' = fn := Option.some.inj (hfn'.symm.trans hfn)
  obtain ⟨⟨⟨ds, gs, before, hw, _⟩, hx⟩, _⟩ := hpre
  refine (contract (w.forCall tape i) w.heap.size i.args ds gs before hval (DataW.Whole.of_heap (w' := w.forCall tape i) (by rfl) hw) hsh (hX _ _ _ (by rfl) hx)).mono fun e W' ⟨v, he, hp⟩ => ?_
  subst he
  exact ChangeSpec.post_blind hp
end Go.Proofs.YtohhokjlgihbgaaGreatDoor
/- The contract of Name (package kerfref04). -/
namespace Go.Proofs.YtohhokjlgihbgaaGreatDoor
open Go.RowKit

set_option maxHeartbeats 4000000 in
set_option maxRecDepth 100000 in
theorem rname_any (l : List UInt8) (w : World) (hl0 : l.length ≤ 9223372036854775807) :
    Calls Tryz.prog 31 #[.string ⟨l.toArray⟩] w fun e w' => e = .returned (.bool (nam l)) ∧ w' = w := by
  have HSZ := hid (show (⟨l.toArray⟩ : ByteArray).size = l.length by show l.toArray.size = _; simp)
  go_enter Tryz.func31, Tryz.ntmps31
  go_wp2
  go_loopw [3] (fun x wr => ∃ (t : Nat), x = .int .i64 (t : Int) ∧ t ≤ l.length ∧ Hid (∀ i b, i < t → l[i]? = some b → nat' i b.toNat = true) ∧ Hid (wr = w)) (fun x _ => l.length - (intOf x).toNat)
  case atStart => exact ⟨0, rfl, by omega, fun i b hi => by omega, rfl⟩
  case round =>
    obtain ⟨t, rfl, ht, HK, HW⟩ := hrel
    obtain rfl := HW.out.symm
    by_cases hlt : t < l.length
    · have hszk : t < (⟨l.toArray⟩ : ByteArray).size := by rw [HSZ.out]; exact hlt
      have tl : (t : Int) < (l.length : Int) := by omega
      have HBB := hid (List.getElem?_eq_getElem hlt)
      have hq : (⟨l.toArray⟩ : ByteArray)[t]'hszk = l[t] := rfl
      generalize l[t] = b at *
      obtain ⟨r, hr⟩ : ∃ r, r = b.toNat := ⟨_, rfl⟩
      have hrb : r < 256 := by rw [hr]; exact b.toNat_lt
      have hq2 : ((⟨l.toArray⟩ : ByteArray)[t]'hszk).toNat = r := by rw [hq, hr]
      have HR := hid hr
      clear hr hq
      have hcl : (65 ≤ r ∧ r ≤ 90) ∨ (97 ≤ r ∧ r ≤ 122) ∨ (0 < t ∧ 48 ≤ r ∧ r ≤ 57) ∨ (0 < t ∧ r = 95) ∨ (t = 0 ∧ r < 65) ∨ (t = 0 ∧ 90 < r ∧ r < 97) ∨ (t = 0 ∧ 122 < r) ∨ (0 < t ∧ r < 48) ∨ (0 < t ∧ 57 < r ∧ r < 65) ∨ (0 < t ∧ 90 < r ∧ r < 97 ∧ r ≠ 95) ∨ (0 < t ∧ 122 < r) := by omega
      rcases hcl with hc | hc | hc | hc | hc | hc | hc | hc | hc | hc | hc
      · have k65 : (65 : Int) ≤ (r : Int) := by omega
        have n65 : 65 ≤ r := by omega
        have k90 : (r : Int) ≤ 90 := by omega
        have n90 : r ≤ 90 := by omega
        have HT := hid (show ∀ i c, i < t + 1 → l[i]? = some c → nat' i c.toNat = true from fun i c hi hc' => by
          rcases Nat.lt_or_ge i t with h5 | h5
          · exact HK.out i c h5 hc'
          · have h6 : i = t := by omega
            subst h6
            rw [HBB.out] at hc'
            cases hc'
            rw [← HR.out]
            exact nat_yes _ _ (by omega))
        clear hc
        go_wp2
        go_roundw
        case rel => exact ⟨t + 1, by go_num, by omega, HT, by first | exact (trivial : True) | rfl⟩
        case measure => simp [intOf]; omega
      · have k65 : (65 : Int) ≤ (r : Int) := by omega
        have n65 : 65 ≤ r := by omega
        have k90 : ¬ (r : Int) ≤ 90 := by omega
        have n90 : ¬ r ≤ 90 := by omega
        have k97 : (97 : Int) ≤ (r : Int) := by omega
        have n97 : 97 ≤ r := by omega
        have k122 : (r : Int) ≤ 122 := by omega
        have n122 : r ≤ 122 := by omega
        have HT := hid (show ∀ i c, i < t + 1 → l[i]? = some c → nat' i c.toNat = true from fun i c hi hc' => by
          rcases Nat.lt_or_ge i t with h5 | h5
          · exact HK.out i c h5 hc'
          · have h6 : i = t := by omega
            subst h6
            rw [HBB.out] at hc'
            cases hc'
            rw [← HR.out]
            exact nat_yes _ _ (by omega))
        clear hc
        go_wp2
        go_roundw
        case rel => exact ⟨t + 1, by go_num, by omega, HT, by first | exact (trivial : True) | rfl⟩
        case measure => simp [intOf]; omega
      · have k65 : ¬ (65 : Int) ≤ (r : Int) := by omega
        have n65 : ¬ 65 ≤ r := by omega
        have k97 : ¬ (97 : Int) ≤ (r : Int) := by omega
        have n97 : ¬ 97 ≤ r := by omega
        have kt : ((t : Int) == 0) = false := beq_eq_false_iff_ne.2 (by omega)
        have nt : ¬ t = 0 := by omega
        have k95 : ((r : Int) != 95) = true := bne_iff_ne.2 (by omega)
        have n95 : ¬ r = 95 := by omega
        have k48 : ¬ (r : Int) < 48 := by omega
        have n48 : ¬ r < 48 := by omega
        have k57 : ¬ (57 : Int) < (r : Int) := by omega
        have n57 : ¬ 57 < r := by omega
        have HT := hid (show ∀ i c, i < t + 1 → l[i]? = some c → nat' i c.toNat = true from fun i c hi hc' => by
          rcases Nat.lt_or_ge i t with h5 | h5
          · exact HK.out i c h5 hc'
          · have h6 : i = t := by omega
            subst h6
            rw [HBB.out] at hc'
            cases hc'
            rw [← HR.out]
            exact nat_yes _ _ (by omega))
        clear hc
        go_wp2
        go_roundw
        case rel => exact ⟨t + 1, by go_num, by omega, HT, by first | exact (trivial : True) | rfl⟩
        case measure => simp [intOf]; omega
      · have k65 : (65 : Int) ≤ (r : Int) := by omega
        have n65 : 65 ≤ r := by omega
        have k90 : ¬ (r : Int) ≤ 90 := by omega
        have n90 : ¬ r ≤ 90 := by omega
        have k97 : ¬ (97 : Int) ≤ (r : Int) := by omega
        have n97 : ¬ 97 ≤ r := by omega
        have kt : ((t : Int) == 0) = false := beq_eq_false_iff_ne.2 (by omega)
        have nt : ¬ t = 0 := by omega
        have k95 : ((r : Int) != 95) = false := by simp; omega
        have n95 : r = 95 := by omega
        have HT := hid (show ∀ i c, i < t + 1 → l[i]? = some c → nat' i c.toNat = true from fun i c hi hc' => by
          rcases Nat.lt_or_ge i t with h5 | h5
          · exact HK.out i c h5 hc'
          · have h6 : i = t := by omega
            subst h6
            rw [HBB.out] at hc'
            cases hc'
            rw [← HR.out]
            exact nat_yes _ _ (by omega))
        clear hc
        go_wp2
        go_roundw
        case rel => exact ⟨t + 1, by go_num, by omega, HT, by first | exact (trivial : True) | rfl⟩
        case measure => simp [intOf]; omega
      · have k65 : ¬ (65 : Int) ≤ (r : Int) := by omega
        have n65 : ¬ 65 ≤ r := by omega
        have k97 : ¬ (97 : Int) ≤ (r : Int) := by omega
        have n97 : ¬ 97 ≤ r := by omega
        have ht0 : t = 0 := by omega
        subst ht0
        have HV := hid (show nam l = false from nam_no l _ b HBB.out (by rw [← HR.out]; exact nat_nope _ _ (by omega)))
        clear hc
        go_wp2
        go_ret
        exact ⟨by rw [HV.out]; rfl, rfl⟩
      · have k65 : (65 : Int) ≤ (r : Int) := by omega
        have n65 : 65 ≤ r := by omega
        have k90 : ¬ (r : Int) ≤ 90 := by omega
        have n90 : ¬ r ≤ 90 := by omega
        have k97 : ¬ (97 : Int) ≤ (r : Int) := by omega
        have n97 : ¬ 97 ≤ r := by omega
        have ht0 : t = 0 := by omega
        subst ht0
        have HV := hid (show nam l = false from nam_no l _ b HBB.out (by rw [← HR.out]; exact nat_nope _ _ (by omega)))
        clear hc
        go_wp2
        go_ret
        exact ⟨by rw [HV.out]; rfl, rfl⟩
      · have k65 : (65 : Int) ≤ (r : Int) := by omega
        have n65 : 65 ≤ r := by omega
        have k90 : ¬ (r : Int) ≤ 90 := by omega
        have n90 : ¬ r ≤ 90 := by omega
        have k97 : (97 : Int) ≤ (r : Int) := by omega
        have n97 : 97 ≤ r := by omega
        have k122 : ¬ (r : Int) ≤ 122 := by omega
        have n122 : ¬ r ≤ 122 := by omega
        have ht0 : t = 0 := by omega
        subst ht0
        have HV := hid (show nam l = false from nam_no l _ b HBB.out (by rw [← HR.out]; exact nat_nope _ _ (by omega)))
        clear hc
        go_wp2
        go_ret
        exact ⟨by rw [HV.out]; rfl, rfl⟩
      · have k65 : ¬ (65 : Int) ≤ (r : Int) := by omega
        have n65 : ¬ 65 ≤ r := by omega
        have k97 : ¬ (97 : Int) ≤ (r : Int) := by omega
        have n97 : ¬ 97 ≤ r := by omega
        have kt : ((t : Int) == 0) = false := beq_eq_false_iff_ne.2 (by omega)
        have nt : ¬ t = 0 := by omega
        have k95 : ((r : Int) != 95) = true := bne_iff_ne.2 (by omega)
        have n95 : ¬ r = 95 := by omega
        have k48 : (r : Int) < 48 := by omega
        have n48 : r < 48 := by omega
        have HV := hid (show nam l = false from nam_no l _ b HBB.out (by rw [← HR.out]; exact nat_nope _ _ (by omega)))
        clear hc
        go_wp2
        go_ret
        exact ⟨by rw [HV.out]; rfl, rfl⟩
      · have k65 : ¬ (65 : Int) ≤ (r : Int) := by omega
        have n65 : ¬ 65 ≤ r := by omega
        have k97 : ¬ (97 : Int) ≤ (r : Int) := by omega
        have n97 : ¬ 97 ≤ r := by omega
        have kt : ((t : Int) == 0) = false := beq_eq_false_iff_ne.2 (by omega)
        have nt : ¬ t = 0 := by omega
        have k95 : ((r : Int) != 95) = true := bne_iff_ne.2 (by omega)
        have n95 : ¬ r = 95 := by omega
        have k48 : ¬ (r : Int) < 48 := by omega
        have n48 : ¬ r < 48 := by omega
        have k57 : (57 : Int) < (r : Int) := by omega
        have n57 : 57 < r := by omega
        have HV := hid (show nam l = false from nam_no l _ b HBB.out (by rw [← HR.out]; exact nat_nope _ _ (by omega)))
        clear hc
        go_wp2
        go_ret
        exact ⟨by rw [HV.out]; rfl, rfl⟩
      · have k65 : (65 : Int) ≤ (r : Int) := by omega
        have n65 : 65 ≤ r := by omega
        have k90 : ¬ (r : Int) ≤ 90 := by omega
        have n90 : ¬ r ≤ 90 := by omega
        have k97 : ¬ (97 : Int) ≤ (r : Int) := by omega
        have n97 : ¬ 97 ≤ r := by omega
        have kt : ((t : Int) == 0) = false := beq_eq_false_iff_ne.2 (by omega)
        have nt : ¬ t = 0 := by omega
        have k95 : ((r : Int) != 95) = true := bne_iff_ne.2 (by omega)
        have n95 : ¬ r = 95 := by omega
        have k48 : ¬ (r : Int) < 48 := by omega
        have n48 : ¬ r < 48 := by omega
        have k57 : (57 : Int) < (r : Int) := by omega
        have n57 : 57 < r := by omega
        have HV := hid (show nam l = false from nam_no l _ b HBB.out (by rw [← HR.out]; exact nat_nope _ _ (by omega)))
        clear hc
        go_wp2
        go_ret
        exact ⟨by rw [HV.out]; rfl, rfl⟩
      · have k65 : (65 : Int) ≤ (r : Int) := by omega
        have n65 : 65 ≤ r := by omega
        have k90 : ¬ (r : Int) ≤ 90 := by omega
        have n90 : ¬ r ≤ 90 := by omega
        have k97 : (97 : Int) ≤ (r : Int) := by omega
        have n97 : 97 ≤ r := by omega
        have k122 : ¬ (r : Int) ≤ 122 := by omega
        have n122 : ¬ r ≤ 122 := by omega
        have kt : ((t : Int) == 0) = false := beq_eq_false_iff_ne.2 (by omega)
        have nt : ¬ t = 0 := by omega
        have k95 : ((r : Int) != 95) = true := bne_iff_ne.2 (by omega)
        have n95 : ¬ r = 95 := by omega
        have k48 : ¬ (r : Int) < 48 := by omega
        have n48 : ¬ r < 48 := by omega
        have k57 : (57 : Int) < (r : Int) := by omega
        have n57 : 57 < r := by omega
        have HV := hid (show nam l = false from nam_no l _ b HBB.out (by rw [← HR.out]; exact nat_nope _ _ (by omega)))
        clear hc
        go_wp2
        go_ret
        exact ⟨by rw [HV.out]; rfl, rfl⟩
    · have tl : ¬ (t : Int) < (l.length : Int) := by omega
      have HA := hid (show ∀ i b, l[i]? = some b → nat' i b.toNat = true from fun i b hb => HK.out i b (by have h5 := (List.getElem?_eq_some_iff.1 hb).1; omega) hb)
      have e : t = l.length := by omega
      subst e
      by_cases h0 : l.length = 0
      · have HV := hid (nam_len l (.inl h0))
        have hl1 : l = [] := List.length_eq_zero_iff.1 h0
        subst hl1
        go_wp2
        go_ret
        exact ⟨by rw [HV.out]; rfl, rfl⟩
      · have k1 : (1 : Int) ≤ (l.length : Int) := by omega
        have n1 : 1 ≤ l.length := by omega
        have hne : ¬ l = [] := fun e => h0 (by rw [e]; rfl)
        by_cases h32 : l.length ≤ 32
        · have k32 : (l.length : Int) ≤ 32 := by omega
          have HV := hid (nam_yes l n1 h32 HA.out)
          go_wp2
          go_ret
          exact ⟨by rw [HV.out]; rfl, rfl⟩
        · have k32 : ¬ (l.length : Int) ≤ 32 := by omega
          have HV := hid (nam_len l (.inr (by omega)))
          go_wp2
          go_ret
          exact ⟨by rw [HV.out]; rfl, rfl⟩
end Go.Proofs.YtohhokjlgihbgaaGreatDoor
