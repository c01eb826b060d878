/- The contract of Of (package props). -/
import Derived.RegionIn
import Derived.Test.YtohhokjlgihbgaaGreatDoorFEach4
import Derived.Test.YtohhokjlgihbgaaGreatDoorFRead
namespace Go.Proofs.YtohhokjlgihbgaaGreatDoor
open Go.RowKit Go.Shelf
attribute [local go_sem] Oper.semAt_some

/-- The classes that have come, as values. -/
def cl64 (xs : List (Nat × Nat)) : List Value := xs.map fun x => Value.int .i64 (x.2 : Int)
theorem cl64_snoc (xs : List (Nat × Nat)) (x : Nat × Nat) : cl64 (xs ++ [x]) = cl64 xs ++ [.int .i64 (x.2 : Int)] := by simp [cl64]
theorem evs_len (A : List Tr) (l : List UInt8) : (evs A l 0).length ≤ l.length := by
  have h5 := plr_len l l.length 0 (by omega)
  unfold evs
  rw [List.length_map]; omega
theorem Tryz.info3 : (Tryz.prog.info? 3).map (fun i => (i.zero, i.size, i.bytes)) = some (some (.int .i64 0), 1, 8) := by kernel_rfl
def frE (a : Act) (ps : Array Tmp) (d : Nat) (x : Nat × Nat) : Act := { tmps := ((ps.zip (encE x)).foldl (fun t (p, v) => t.setIfInBounds p v) a.tmps).setIfInBounds d (.int .i64 (x.2 : Int)), defers := [] }

/-- The law for a range over a list of pairs, of which the second is kept in slot d. -/
theorem rfE {F : Fence} {n : Nat} {P : Program} {g : Operand} {ps : Array Tmp} {assign body : Code} {Q : Exit → Act → World → Prop} {a : Act} {w : World}
    (hro : F.round = none) (h1 : 1 ≤ n) {gf : Nat} {lb : Array Value} (hg : a.eval g = .func (.func gf) #[] lb) (hFg : F.fn gf) (eg : ∀ args w, (callFunc gf args).run P w = .ok (.enter gf args) w)
    {Z : World → Prop} {K : Nat → Prop} {L : List (Nat × Nat)} (hseq : CaughtStops F (n - 1) P gf lb encE none Z (Kr K) L w) (hZ : ∀ W l o', w.heap.size ≤ l → Z W → Z (W.putObj l o')) (hK : ∀ k, K k → k < w.heap.size) (hps : 2 = ps.size) (d : Nat)
    (I Ix : List (Nat × Nat) → World → Prop) (hI : OwnFrom w.heap.size I) (hIx : OwnFrom w.heap.size Ix) (h0 : I [] w)
    (hassign : ∀ (l : Nat) (x : Nat × Nat) (W : World) (K : Act → World → Prop), K (frE a ps d x) W → assign.wpIn (F.inRound l) (n - 1 - 1) P (Exit.then K (fun _ _ _ => False)) { tmps := (ps.zip (encE x)).foldl (fun t (p, v) => t.setIfInBounds p v) a.tmps, defers := [] } W)
    (hbody : ∀ (l : Nat) (pre : List (Nat × Nat)) (x : Nat × Nat) (W : World), w.heap.size ≤ l → pre ++ [x] <+: L → Z W → I pre W → body.wpIn (F.inRound l) (n - 1 - 1) P (caughtPost w.heap.size (Kr K) I Ix (pre ++ [x]) W) (frE a ps d x) W)
    (hdone : ∀ (D : Nat) (W : World), w.heap.size ≤ D → I L W → W.heap[D]? = some (.deferred (some [])) → Q .normal { a with defers := { target := .collected D, args := #[] } :: a.defers } W)
    (hstop : ∀ (D : Nat) (pre : List (Nat × Nat)) (W : World), w.heap.size ≤ D → pre <+: L → Ix pre W → W.heap[D]? = some (.deferred (some [])) → Code.ret.wpIn F n P Q { a with defers := { target := .collected D, args := #[] } :: a.defers } W) :
    (Code.rangeFunc g ps assign body).wpIn F n P Q a w :=
  rf_caught hro h1 hg hFg eg hseq (fun r e => by cases e) hZ Kr_t (fun W lp o o' hl h hc hk => Kr_b hK W lp o o' hl h hc hk) (fun _ => hps) I Ix hI hIx (fun s A C r e => by cases e) (fun s A C r e => by cases e) h0 (frE a ps d) hassign hbody hdone hstop

set_option maxRecDepth 100000 in
set_option maxHeartbeats 1000000 in
theorem of_in (B P : Nat) (x y : Value) (po : Option Addr) (pc : Nat) (A : List Tr) (l : List UInt8) (w : World) (hP : w.heap[P]? = some (.cells #[x, y, .slice po A.length pc] 76 (0, 0))) (hR : w.ownsRow B 86 3 (.slice po A.length pc) A.length (rks A)) (hA : A.length ≤ 10000000) (hp : A.Pairwise fun x y => x.2.1 < y.2.1) (he : ∃ g ∈ A, g.2.1 = 1114111) (hl : l.length ≤ 1000000000) :
    CallsIn Fence.wide 9 Tryz.prog 15 #[.pointer (some ⟨P, 0, none⟩), .string ⟨l.toArray⟩] w fun e w' => ∃ v, e = .returned v ∧ w'.ownsRow w.heap.size 3 1 v (evs A l 0).length (cl64 (evs A l 0)) ∧ Below w.heap.size w w' := by
  obtain ⟨i0, hi, hz0, hz1, hz2⟩ := info_parts Tryz.info3
  have HP := hid hP
  have HR := hid hR
  have HPW := hid hp
  have HE := hid he
  have hPl := lt_of_heap hP
  have HRL := hid (show ∀ a : Addr, po = some a → a.block < w.heap.size from fun a e => by
    rcases hR.2 with ⟨h5, _⟩ | ⟨q, cap, cur, h5, _, h6, _⟩
    · rw [e] at h5; cases h5
    · rw [e] at h5; cases h5; exact lt_of_heap h6)
  have hlen := evs_len A l
  clear hP hR hp he
  refine callsIn_of_wp_marks Tryz.func15 rfl trivial ?_ rfl
  simp only [Tryz.ntmps15, List.size_toArray, List.length_cons, List.length_nil, Nat.reduceAdd, Nat.reduceSub, Array.replicate_succ, Array.replicate_zero, List.push_toArray, List.append_toArray, List.nil_append, List.cons_append]
  gi_wp2_with (first | (refine ⟨trivial, ?_⟩; gi_at_call 46; refine (callsIn_wide.2 (ucount_any l _ (by omega))).mono ?_; rintro e w1 ⟨⟨kc, hkc, rfl⟩, hb1⟩) | (gi_at_make; refine wpListIn_make_own _ rfl _ _ 34 rfl w.heap.size 3 i0 (.int .i64 0) 1 Tryz.underlying34 hi hz0 hz1 .i64 .i64 _ kc rfl rfl rfl (by rw [hz2]; omega) (by unfold maxLen; omega) hb1.size ?_; intro w2 hown2 hgrow2) | (refine ⟨trivial, ?_⟩; gi_at_call 17; refine (callsIn_wide.2 (each_any P l _)).mono ?_; rintro e w4 ⟨rfl, hw4⟩))
  have hB2 : Below w.heap.size w w2 := hb1.grown hgrow2 hb1.size (fun k e => by cases e)
  have hs2 := hB2.size
  rw [← hw4]
  obtain ⟨M, hM⟩ : ∃ M, M = w2.heap.size := ⟨_, rfl⟩
  have bL : Boxed w4 M 34 (.slice (some ⟨w1.heap.size, 0, none⟩) 0 kc) := by rw [hw4, hM]; exact ((Boxed.new w2 34 _).alloc _).alloc _
  have bD : Boxed w4 (M + 1) 24 (.pointer (some ⟨P, 0, none⟩)) := by
    have h5 := Boxed.new (w2.alloc (.cells #[.slice (some ⟨w1.heap.size, 0, none⟩) 0 kc] 34)) 24 (.pointer (some ⟨P, 0, none⟩))
    rw [World.size_alloc] at h5
    rw [hw4, hM]; exact h5.alloc _
  have bS : Boxed w4 (M + 2) 9 (.string ⟨l.toArray⟩) := by
    have h5 := Boxed.new ((w2.alloc (.cells #[.slice (some ⟨w1.heap.size, 0, none⟩) 0 kc] 34)).alloc (.cells #[.pointer (some ⟨P, 0, none⟩)] 24)) 9 (.string ⟨l.toArray⟩)
    rw [World.size_alloc, World.size_alloc] at h5
    rw [hw4, hM]; exact h5
  have hB4 : Below w.heap.size w w4 := by rw [hw4]; exact ((hB2.alloc hs2 _).alloc (by simp; omega) _).alloc (by simp; omega) _
  have hs4 : w4.heap.size = M + 3 := by rw [hw4, hM]; simp
  have hown4 : w4.ownsRow w.heap.size 3 1 (.slice (some ⟨w1.heap.size, 0, none⟩) 0 kc) 0 [] := by rw [hw4]; exact ((hown2.alloc _).alloc _).alloc _
  have hEA : EachAt (M + 1) (M + 2) P x y po pc A l w4 := ⟨bD, bS, (hB4.block P hPl).trans HP.out, fun a e => by
    obtain ⟨cs, hcs⟩ := row_blk HR.out (x := a.block) (by rw [e]; exact (by
      rcases HR.out.2 with ⟨h5, _⟩ | ⟨q, cap, cur, h5, _⟩
      · rw [e] at h5; cases h5
      · rw [e] at h5; cases h5; rfl))
    exact ⟨cs, (0, 0), (hB4.block a.block (HRL.out a e)).trans hcs⟩, (rd_own HR.out).below hB4⟩
  have HEA := hid hEA
  have hKE := hEA.lt
  have HKE := hid hKE
  have hwM : w.heap.size ≤ M := by omega
  rw [← hM]
  clear hw4 hb1 hown2 hgrow2 hB2 hM hs2
  refine rfE (L := evs A l 0) rfl (by omega) (gf := 47) (lb := #[.pointer (some ⟨M + 1, 0, none⟩), .pointer (some ⟨M + 1 + 1, 0, none⟩)]) rfl trivial (enters_of Tryz.func47 (by kernel_rfl) rfl)
    (each_stops _ (by omega) (M + 1) (M + 2) P x y po pc A l w4 HEA.out hA HPW.out HE.out)
    (fun W lp o' hlp hz => hz.keeps (grownBy_putObj' W lp o').size (fun k hk => World.putObj_heap_other (by have h5 := HKE.out k hk; omega))) HKE.out rfl 7
    (fun pre W => (∃ v, Boxed W M 34 v ∧ W.ownsRow w.heap.size 3 1 v pre.length (cl64 pre) ∧ True) ∧ Below w.heap.size w W) (fun _ _ => False)
    (OwnFrom.and (Own.from (holdsRow_own w.heap.size M 34 3 1 (fun pre => pre.length) (fun pre => cl64 pre) (fun _ _ => True)) _) (ownFrom_below (Nat.le_refl _) (by omega)))
    (fun _ _ _ _ h _ _ => h) ⟨⟨_, bL, hown4, trivial⟩, hB4⟩ ?assign ?body ?done ?stop
  case assign =>
    intro lp z W K hK
    dsimp only [encE]
    gi_wp2
    simpa [frE, encE] using hK
  case body =>
    rintro lp pre z W hlp hpre hZ ⟨⟨v, hv, hrow, _⟩, hB⟩
    have hpl : pre.length < l.length := by
      obtain ⟨r, hr⟩ := hpre
      have h5 := congrArg List.length hr
      simp at h5; omega
    have hc := hv.cell
    have HZ := hid hZ
    have hWs := hB.size
    dsimp only [frE, encE]
    obtain ⟨z1, z2⟩ := z
    clear hZ hpre
    gi_wp2_with (gi_at_builtin; refine wpListIn_append_own _ rfl _ _ 34 rfl w.heap.size 3 i0 (.int .i64 0) 1 8 Tryz.underlying34 hi hz0 hz1 hz2 rfl (by decide) _ _ _ rfl (hrow.alloc _) ⟨W.heap.size, 0, none⟩ 1 1 [.int .i64 (z2 : Int)] rfl rfl (cell_one_new _ _ _) (by simp [Value.oneCell']) (by unfold maxLen; omega) (by omega) (by have := hB.size; simp; omega) ?_; intro v' w3 hown' hgrow _; obtain ⟨g', cap', rfl⟩ := ownsRow_succ hown'; obtain ⟨hv1, hv2, hr2, hk2, hb2⟩ := hv.appended (by decide) hrow hB.size (by omega) hown' hgrow; have hc1 := hv1.cell; have hf1 := hv1.frozen)
    refine ⟨hk2.from _, ⟨⟨hk2.size, fun k o h hw => hk2.same k o h (Obj.not_cells_of_walk hw)⟩, fun k hk => ?_⟩, ⟨_, hv2, by rw [cl64_snoc, List.length_append]; exact hr2, trivial⟩, hB.trans hb2⟩
    have hkW := HZ.out.lt k hk
    have hkM : k ≠ M := fun e => by
      subst e
      rcases hk with h5 | h5 | h5 | ⟨a, h5, h6⟩
      · omega
      · omega
      · omega
      · have h7 := HRL.out a h5; omega
    have hkv : some k ≠ v.ownBlock := fun e => by
      obtain ⟨cs, hcs⟩ := row_blk hrow e.symm
      rcases hk with h5 | h5 | h5 | ⟨a, h5, h6⟩
      · subst h5; have h7 := HZ.out.bd; unfold Boxed at h7; rw [h7] at hcs; cases hcs
      · subst h5; have h7 := HZ.out.bl; unfold Boxed at h7; rw [h7] at hcs; cases hcs
      · subst h5; rw [HZ.out.hP] at hcs; cases hcs
      · obtain ⟨c, fz, h7⟩ := HZ.out.row a h5
        rw [h6, hcs] at h7; cases h7
    exact (Below.heap_setCell w3 ⟨M, 0, none⟩ _ k hkM).trans ((hgrow.block k (by simp; omega) hkv).trans (heap_alloc_old W _ k hkW))
  case done =>
    rintro D W hD ⟨⟨v, hv, hrow, _⟩, hB⟩ hK
    have hc := hv.cell
    gi_wp2
    refine ⟨by simp, .inl ⟨_, _, rfl, run_takeDeferred hK, ?_⟩⟩
    exact ⟨_, results_tmp rfl _ _ _, v, rfl, ownsRow_putObj hrow _ hK rfl, hB.trans (belowK_b (w := w) (Nat.le_refl _) W D _ _ (by omega) hK rfl rfl)⟩
  case stop =>
    rintro D pre W _ _ h _
    exact h.elim
theorem of_any (B P : Nat) (x y : Value) (po : Option Addr) (pc : Nat) (A : List Tr) (l : List UInt8) (w : World) (hP : w.heap[P]? = some (.cells #[x, y, .slice po A.length pc] 76 (0, 0))) (hR : w.ownsRow B 86 3 (.slice po A.length pc) A.length (rks A)) (hA : A.length ≤ 10000000) (hp : A.Pairwise fun x y => x.2.1 < y.2.1) (he : ∃ g ∈ A, g.2.1 = 1114111) (hl : l.length ≤ 1000000000) :
    Calls Tryz.prog 15 #[.pointer (some ⟨P, 0, none⟩), .string ⟨l.toArray⟩] w fun e w' => ∃ v, e = .returned v ∧ w'.ownsRow w.heap.size 3 1 v (evs A l 0).length (cl64 (evs A l 0)) ∧ Below w.heap.size w w' :=
  callsIn_wide.1 (of_in B P x y po pc A l w hP hR hA hp he hl)
end Go.Proofs.YtohhokjlgihbgaaGreatDoor
