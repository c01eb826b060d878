/- The contract of Keep (package runes): the bytes of a text that belong to runes of a set. -/
import Derived.Test.YtfahbdlcokoghabGreatDoorRuns2
import Derived.Test.YtfahbdlcokoghabGreatDoorBld
import Derived.Test.YtfahbdlcokoghabGreatDoorCoded
namespace Go.Proofs.YtfahbdlcokoghabGreatDoor
open Go.RowKit Go.Shelf
attribute [local go_sem] Oper.semAt_some

/-- The bytes between places. -/
def kps (l : List UInt8) (xs : List (Tw l)) : List UInt8 := xs.flatMap fun x => (l.drop x.val.1).take (x.val.2 - x.val.1)
theorem kps_snoc (l : List UInt8) (xs : List (Tw l)) (x : Tw l) : kps l (xs ++ [x]) = kps l xs ++ (l.drop x.val.1).take (x.val.2 - x.val.1) := by
  unfold kps; simp
theorem kps_len (l : List UInt8) (xs : List (Tw l)) : (kps l xs).length ≤ xs.length * l.length := by
  unfold kps
  induction xs with
  | nil => simp
  | cons x xs ih =>
    have h2 := x.property.2
    have h3 : ((l.drop x.val.1).take (x.val.2 - x.val.1)).length ≤ l.length := by rw [List.length_take, List.length_drop]; omega
    simp only [List.flatMap_cons, List.length_append, List.length_cons, Nat.add_mul]
    omega
theorem write_any (B b : Nat) (T u : List UInt8) (s : ByteArray) (w : World) (h : Lib.IsBuilderF 40 5 B b (Lib.byteCells T) w) (hs : s = ⟨u.toArray⟩) (hlen : T.length + u.length ≤ 140737488355328) (hBw : B ≤ w.heap.size) :
    Calls Tryz.prog 17 #[.pointer (some ⟨b, 0, none⟩), .string s] w fun e w' => (∃ v, e = .returned v) ∧ Lib.IsBuilderF 40 5 B b (Lib.byteCells (T ++ u)) w' ∧ Below B w w' ∧ Lib.OthersKept 5 (some b) w w' := by
  subst hs
  have hc : Lib.byteCells T ++ Lib.strCells ⟨u.toArray⟩ = Lib.byteCells (T ++ u) := by
    unfold Lib.byteCells Lib.strCells
    simp
  refine (Any.Builder_WriteString_k Tryz.lays166 Tryz.Builder_Extra_166 B b (Lib.byteCells T) ⟨u.toArray⟩ w h ?_ hBw).mono ?_
  · rw [Lib.byteCells_length]
    show _ + u.toArray.size ≤ _
    simpa using hlen
  · rintro e w' ⟨rfl, h1, h2, h3⟩
    rw [hc] at h1
    exact ⟨⟨_, rfl⟩, .inr h1, h2, h3⟩
theorem string_any (B b : Nat) (T : List UInt8) (w : World) (h : Lib.IsBuilderF 40 5 B b (Lib.byteCells T) w) (hBw : B ≤ w.heap.size) :
    Calls Tryz.prog 19 #[.pointer (some ⟨b, 0, none⟩)] w fun e w' => e = .returned (.string ⟨T.toArray⟩) ∧ Below B w w' ∧ Lib.OthersKept 5 (some b) w w' :=
  (Any.Builder_String_any_k Tryz.lays169 Tryz.Builder_Extra_169 B b T w h hBw).mono fun _ _ h => ⟨h.1, h.2.2.1, h.2.2.2⟩
theorem others_keepsF {B b : Nat} {bs : List Value} {w w' : World} (hb : Lib.IsBuilderF 40 5 B b bs w) (hs : w.heap.size ≤ w'.heap.size) (h : Lib.OthersKept 5 (some b) w w') : KeepsOthers w w' :=
  ⟨hs, fun k o hk ho => h k o hk (fun e => by
    cases e
    rcases hb with ⟨_, v, h, _⟩ | ⟨_, v, h, _⟩
    all_goals rw [h] at hk; cases hk; cases ho) (fun c fz e => by subst e; cases ho)⟩
theorem kr_others {B b Bs Bl : Nat} {l : List UInt8} {so : Option Addr} {sc : Nat} {s : List Rg} {bs : List Value} {w w' : World} (hb : Lib.IsBuilderF 40 5 B b bs w) (hR : RunsAt Bs Bl l so sc s w) (h : Lib.OthersKept 5 (some b) w w') : ∀ k, KR Bs Bl so k → w'.heap[k]? = w.heap[k]? := fun k hk => by
  have one : ∀ (c : Array Value) (t : TypeId) (fz : Nat × Nat), w.heap[k]? = some (.cells c t fz) → t ≠ 40 → t ≠ 5 → w'.heap[k]? = w.heap[k]? := fun c t fz hc h1 h2 => by
    rw [hc]
    refine h k _ hc (fun e => ?_) (fun c' fz' e => by cases e; exact h2 rfl)
    cases e
    rcases hb with ⟨_, v, hv, _⟩ | ⟨_, v, hv, _⟩
    all_goals rw [hv] at hc; cases hc; exact h1 rfl
  rcases hk with rfl | rfl | ⟨a, h1, rfl⟩
  · exact one _ _ _ hR.bs (by decide) (by decide)
  · exact one _ _ _ hR.bl (by decide) (by decide)
  · obtain ⟨c, fz, hh⟩ := hR.row a h1
    exact one _ _ _ hh (by decide) (by decide)
theorem builderF_own {β : Type} (B b : Nat) (f : β → List Value) : Own (fun s W => Lib.IsBuilderF 40 5 B b (f s) W) := by
  have one : ∀ (p : Value) (s : β) (X Y : World) (row : Option Nat), Lib.BuilderAtF 40 5 B b p (f s) X → X.grownBy Y row → (∀ r, row = some r → ∃ o : Obj, X.heap[r]? = some o ∧ o.isCells = false) → Lib.BuilderAtF 40 5 B b p (f s) Y := by
    rintro p s X Y row ⟨h1, v, hv, hr, hne⟩ hg hrow
    have kept : ∀ (k : Nat) c t fz, X.heap[k]? = some (Obj.cells c t fz) → Y.heap[k]? = some (Obj.cells c t fz) := fun k c t fz hk =>
      (hg.block k (Array.getElem?_eq_some_iff.1 hk).1 (fun e => by
        obtain ⟨o, ho, hc⟩ := hrow k e.symm
        rw [hk] at ho; cases ho; cases hc)).trans hk
    refine ⟨h1, v, kept _ _ _ _ hv, ⟨hr.1, ?_⟩, hne⟩
    rcases hr.2 with h0 | ⟨g, cap, cur, fz, hv', hbg, hgg, hrr⟩
    · exact .inl h0
    · exact .inr ⟨g, cap, cur, fz, hv', hbg, kept _ _ _ _ hgg, hrr⟩
  rintro s X Y row h hg hrow
  exact h.imp (fun x => one _ s X Y row x hg hrow) (fun x => one _ s X Y row x hg hrow)
theorem runsAt_own {β : Type} (Bs Bl : Nat) (l : List UInt8) (so : Option Addr) (sc : Nat) (s : List Rg) : Own (fun (_ : β) W => RunsAt Bs Bl l so sc s W) := by
  rintro _ X Y row h hg hrow
  refine h.keeps hg.size (fun k hk => hg.block k (h.lt k hk) (fun e => ?_))
  obtain ⟨o, ho, hc⟩ := hrow k e.symm
  rcases hk with rfl | rfl | ⟨a, h1, rfl⟩
  · have := h.bs; unfold Boxed at this; rw [this] at ho; cases ho; cases hc
  · have := h.bl; unfold Boxed at this; rw [this] at ho; cases ho; cases hc
  · obtain ⟨c, fz, hh⟩ := h.row a h1
    rw [hh] at ho; cases ho; cases hc

set_option maxHeartbeats 1000000 in
theorem keep_in (l : List UInt8) (ao : Option Addr) (ac : Nat) (g : List Rg) (w : World) (ha : RdR w ao g) (hg : g.length ≤ 100000) (hl : l.length ≤ 100000) :
    CallsIn Fence.wide 3 Tryz.prog 15 #[.string ⟨l.toArray⟩, .slice ao g.length ac] w fun e w' => e = .returned (.string ⟨(kps l (rst (fun r => hasB r (nrm g)) l none 0)).toArray⟩) ∧ Below w.heap.size w w' := by
  have HA := hid ha
  clear ha
  refine callsIn_of_wp_marks Tryz.func15 rfl trivial ?_ rfl
  simp only [Tryz.ntmps15, List.size_toArray, List.length_cons, List.length_nil, Nat.reduceAdd, Nat.reduceSub, Array.replicate_succ, Array.replicate_zero, List.push_toArray, List.append_toArray, List.nil_append, List.cons_append]
  have hb1 : Below w.heap.size w ((w.alloc (.cells #[.string ⟨l.toArray⟩] 9)).alloc (.cells #[.pointer none, .slice none 0 0] 40)) := ((Below.refl _ _).alloc (Nat.le_refl _) _).alloc (by simp) _
  have HN := hid (runs_any l ao ac g _ (HA.out.below hb1) hg)
  have bS := (Boxed.new w 9 (.string ⟨l.toArray⟩)).alloc (.cells #[.pointer none, .slice none 0 0] 40)
  have hbk := World.alloc_heap_new (w.alloc (.cells #[.string ⟨l.toArray⟩] 9)) (.cells #[.pointer none, .slice none 0 0] 40)
  rw [World.size_alloc] at hbk
  obtain ⟨w1, hw1⟩ : ∃ w1, w1 = (w.alloc (.cells #[.string ⟨l.toArray⟩] 9)).alloc (.cells #[.pointer none, .slice none 0 0] 40) := ⟨_, rfl⟩
  have hs1 : w1.heap.size = w.heap.size + 2 := by rw [hw1]; simp
  rw [← hw1] at hb1 HN bS hbk
  gi_wp2_with fail
  rw [← hw1]
  refine ⟨trivial, (callsIn_wide.2 HN.out).mono ?_⟩
  rintro e w2 ⟨Bs, Bl, so, sc, rfl, hR, hB⟩
  have hsz2 := hB.size
  have bS2 : Boxed w2 w.heap.size 9 (.string ⟨l.toArray⟩) := (hB.block w.heap.size (by omega)).trans bS
  have hbk2 := (hB.block (w.heap.size + 1) (by omega)).trans hbk
  have hB2 : Below w.heap.size w w2 := hb1.trans (hB.mono (by omega))
  have hbd : Lib.IsBuilderF 40 5 (w.heap.size + 1) (w.heap.size + 1) (Lib.byteCells (kps l [])) w2 := .inl ⟨Nat.le_refl _, .slice none 0 0, hbk2, World.ownsRowF_of (World.ownsRow_nil _ _ _ _), by simp [Value.ownBlock]⟩
  have hpl := rnl_len (fun r => hasB r (nrm g)) l
  gi_wp2_with fail
  refine wpIn_rangeFunc_ownG rfl (by omega) (gf := 35) (lb := #[.pointer (some ⟨Bs, 0, none⟩), .pointer (some ⟨Bl, 0, none⟩)]) rfl trivial (enters_of Tryz.func35 (by kernel_rfl) rfl)
    (runs_stops (3 - 1) (by omega) Bs Bl l so sc (nrm g) w2 hR (nrm_nf g) (by have := nrm_len g; omega)) Kr_t (Kr_b hR.lt) (Below.refl _ _) (fun _ => rfl)
    (fun pre W => (Lib.IsBuilderF 40 5 (w.heap.size + 1) (w.heap.size + 1) (Lib.byteCells (kps l pre)) W ∧ Below w.heap.size w W) ∧ (Boxed W w.heap.size 9 (.string ⟨l.toArray⟩) ∧ RunsAt Bs Bl l so sc (nrm g) W))
    (fun _ _ _ => False)
    (OwnFrom.and (OwnFrom.and (Own.from (builderF_own (w.heap.size + 1) (w.heap.size + 1) (fun pre => Lib.byteCells (kps l pre))) _) (ownFrom_below (Nat.le_refl _) (by omega))) (OwnFrom.and (Own.from (boxed_own w.heap.size 9 (fun _ => .string ⟨l.toArray⟩)) _) (Own.from (runsAt_own Bs Bl l so sc (nrm g)) _)))
    (fun _ _ _ _ _ hs _ _ => hs)
    ⟨⟨hbd, hB2⟩, bS2, hR⟩
    (fun x => { tmps := #[.string ⟨l.toArray⟩, .slice ao g.length ac, .pointer (some ⟨w.heap.size, 0, none⟩), undef, .string ⟨#[]⟩, .pointer (some ⟨w.heap.size + 1, 0, none⟩), .int .i64 (x.val.1 : Int), .int .i64 (x.val.2 : Int), .string ⟨l.toArray⟩, .slice ao g.length ac, .func (.func 35) #[] #[.pointer (some ⟨Bs, 0, none⟩), .pointer (some ⟨Bl, 0, none⟩)], .int .i64 (x.val.1 : Int), .int .i64 (x.val.2 : Int), undef, undef, undef, undef, undef, undef], defers := [] }) ?assign ?body ?done ?stop
  case assign =>
    intro lp x W K hK
    dsimp only [encR]
    gi_wp2
    exact hK
  case body =>
    rintro lp pre x W ⟨⟨hbA, hBW⟩, hbS, hRW⟩ hlt
    have hx1 := x.property.1
    have hx2 := x.property.2
    have hcs := hbS.cell
    have hplen : pre.length * l.length ≤ 100001 * 100000 := Nat.mul_le_mul (by unfold rst at hlt; unfold rnl at hpl; omega) hl
    have hkl := kps_len l pre
    have hwsz := hBW.size
    have HS := hid (kps_snoc l pre x)
    have HBA := hid hbA
    have HBW := hid hBW
    have HBS := hid hbS
    have HRW := hid hRW
    have hbw : w.heap.size + 1 ≤ W.heap.size := by
      rcases hbA with ⟨_, v, h, _⟩ | ⟨_, v, h, _⟩
      all_goals exact Nat.le_of_lt (Array.getElem?_eq_some_iff.1 h).1
    have HWR := hid (write_any (w.heap.size + 1) (w.heap.size + 1) (kps l pre) ((l.drop x.val.1).take (x.val.2 - x.val.1)) ((⟨l.toArray⟩ : ByteArray).extract x.val.1 x.val.2) W hbA (by rw [show x.val.2 = x.val.1 + (x.val.2 - x.val.1) by omega, ext_mid]; simp) (by rw [List.length_take, List.length_drop]; omega) hbw)
    clear hbA hBW hbS hRW
    obtain ⟨x1, hxa⟩ : ∃ x1, x.val.1 = x1 := ⟨_, rfl⟩
    obtain ⟨x2, hxb⟩ : ∃ x2, x.val.2 = x2 := ⟨_, rfl⟩
    rw [hxa, hxb] at HWR HS
    rw [hxa, hxb] at hx1
    rw [hxb] at hx2
    rw [hxa, hxb]
    clear hxa hxb
    gi_wp2_with fail
    refine ⟨trivial, (callsIn_wide.2 HWR.out).mono ?_⟩
    rintro e W2 ⟨⟨v, rfl⟩, hA2, hb2', hok⟩
    have hko := others_keepsF HBA.out hb2'.size hok
    have hkr := kr_others HBA.out HRW.out hok
    have hbs2 : Boxed W2 w.heap.size 9 (.string ⟨l.toArray⟩) := hok _ _ HBS.out (fun e => by injection e with e; omega) (fun c fz e => by cases e)
    have HF := hid (show KeepsFrom w2.heap.size W W2 ∧ Kr (KR Bs Bl so) W W2 ∧ ((Lib.IsBuilderF 40 5 (w.heap.size + 1) (w.heap.size + 1) (Lib.byteCells (kps l (pre ++ [x]))) W2 ∧ Below w.heap.size w W2) ∧ (Boxed W2 w.heap.size 9 (.string ⟨l.toArray⟩) ∧ RunsAt Bs Bl l so sc (nrm g) W2)) from
      ⟨hko.from _, ⟨⟨hko.size, fun k o h hw => hko.same k o h (Obj.not_cells_of_walk hw)⟩, hkr⟩, ⟨by rw [HS.out]; exact hA2, HBW.out.trans (hb2'.mono (by omega))⟩, hbs2, HRW.out.keeps hko.size hkr⟩)
    clear hko hkr hbs2 hA2 hb2' hok
    gi_wp2
    exact HF.out
  case done =>
    rintro D ys W hD rfl ⟨⟨hbA, hBW⟩, _, _⟩ hK
    have hbw : w.heap.size + 1 ≤ W.heap.size := by
      rcases hbA with ⟨_, v, h, _⟩ | ⟨_, v, h, _⟩
      all_goals exact Nat.le_of_lt (Array.getElem?_eq_some_iff.1 h).1
    have hDb : D ≠ w.heap.size + 1 := by
      rintro rfl
      rcases hbA with ⟨_, v, h, _⟩ | ⟨_, v, h, _⟩
      all_goals rw [hK] at h; cases h
    have HBA := hid hbA
    have HBW := hid hBW
    have HK := hid hK
    clear hbA hBW hK
    gi_wp2_with fail
    refine ⟨trivial, (callsIn_wide.2 (string_any (w.heap.size + 1) (w.heap.size + 1) _ W HBA.out hbw)).mono ?_⟩
    rintro e W2 ⟨rfl, hb4, hok⟩
    have hK2 : W2.heap[D]? = some (.deferred (some [])) := hok D _ HK.out (by intro e; cases e; exact hDb rfl) (by intro c fz; simp)
    have HB4 := hid (HBW.out.trans (hb4.mono (by omega)))
    clear hb4 hok
    gi_wp2
    refine ⟨by simp, .inl ⟨_, _, rfl, run_takeDeferred hK2, ?_⟩⟩
    exact ⟨_, results_tmp rfl _ _ _, rfl, HB4.out.trans (belowK_b (w := w) (Nat.le_refl _) W2 D _ _ (by omega) hK2 rfl rfl)⟩
  case stop =>
    rintro D c pre W _ _ h _
    exact h.elim

theorem keep_any (l : List UInt8) (ao : Option Addr) (ac : Nat) (g : List Rg) (w : World) (ha : RdR w ao g) (hg : g.length ≤ 100000) (hl : l.length ≤ 100000) :
    Calls Tryz.prog 15 #[.string ⟨l.toArray⟩, .slice ao g.length ac] w fun e w' => e = .returned (.string ⟨(kps l (rst (fun r => hasB r (nrm g)) l none 0)).toArray⟩) ∧ Below w.heap.size w w' :=
  callsIn_wide.1 (keep_in l ao ac g w ha hg hl)
end Go.Proofs.YtfahbdlcokoghabGreatDoor

