/- The contract of Faults (package utf): the places of the runes that stand for invalid bytes. -/
import Derived.Test.YtflehkdijfhmgaaDoorAlike
import Derived.Test.YtflehkdijfhmgaaDoorCutMath
namespace Go.Proofs.YtflehkdijfhmgaaDoor
open Go.RowKit Go.Shelf
attribute [local go_sem] Oper.semAt_some

/-- The places of the runes of a text, from a place on. -/
def plF (l : List UInt8) (t : Nat) : List (Fin l.length) := (mks t (l.drop t)).filterMap fun m => if h : m.pl.toNat < l.length then some ⟨m.pl.toNat, h⟩ else none
theorem plF_step (l : List UInt8) (t : Nat) (h : t < l.length) : plF l t = ⟨t, h⟩ :: plF l (t + (dec (l.drop t)).2) := by
  unfold plF
  rw [mks_cons t (l.drop t) (drop_ne l t h), List.drop_drop, List.filterMap_cons]
  have : (mk1 t (l.drop t)).pl.toNat = t := by show ((t : Int)).toNat = t; omega
  simp only [this, h, dif_pos]
theorem plF_end (l : List UInt8) (t : Nat) (h : ¬ t < l.length) : plF l t = [] := by
  unfold plF
  rw [List.drop_of_length_le (by omega), mks_nil]; rfl
theorem plF_len (l : List UInt8) : (plF l 0).length ≤ l.length := by
  have h1 : (plF l 0).length ≤ (mks 0 (l.drop 0)).length := List.length_filterMap_le ..
  have h2 := mks_len l l.length 0 (by omega)
  omega

/-- What the iterator hands on at a place. -/
def encsF (l : List UInt8) (x : Fin l.length) : Array Value := #[.int .i64 (x.val : Int), .int .i32 ((dec (l.drop x.val)).1 : Int)]

set_option maxHeartbeats 1000000 in
theorem each_stopsF (F : Fence) (n : Nat) (h33 : F.fn 53) (hro : F.round = none) (hn : 1 ≤ n) (Bs : Nat) (l : List UInt8) (w : World) (hBs : Bs < w.heap.size) (hc : w.cell? ⟨Bs, 0, none⟩ = some (.string ⟨l.toArray⟩)) :
    SeqStopsA F n Tryd.prog 53 #[.pointer (some ⟨Bs, 0, none⟩)] (encsF l) (fun xs => xs = plF l 0) (fun pre => pre <+: plF l 0) (plF l 0).length w := fun lp J Jx W hbW hJ hJx hY h0 => by
  have hcW : W.cell? ⟨Bs, 0, none⟩ = some (.string ⟨l.toArray⟩) := (hbW.cell (p := ⟨Bs, 0, none⟩) hBs).trans hc
  refine callsIn_of_wp Tryd.func53 rfl h33 ?_ hro
  simp only [Tryd.ntmps53, List.size_toArray, List.length_cons, List.length_nil, Nat.reduceAdd, Nat.reduceSub, Array.replicate_succ, Array.replicate_zero, List.push_toArray, List.append_toArray, List.nil_append, List.cons_append]
  have hsz : (⟨l.toArray⟩ : ByteArray).size = l.length := by show l.toArray.size = _; simp
  have HSZ := hid hsz
  clear hsz
  gi_wp2
  have hJ0 : J [] (W.iter ⟨l.toArray⟩ 0) := hJ [] W _ none h0 (World.grownBy_alloc W _ none) (fun r e => by cases e)
  have hit0 : (W.iter ⟨l.toArray⟩ 0).heap[W.heap.size]? = some (.stringIter ⟨l.toArray⟩ 0) := World.iter_heap W _ 0
  gi_loopw [3] (fun _ wr => ∃ (t : Nat) (pre : List (Fin l.length)), t ≤ l.length ∧ Hid (plF l 0 = pre ++ plF l t) ∧ Hid (wr.heap[W.heap.size]? = some (.stringIter ⟨l.toArray⟩ t)) ∧ Hid (J pre wr)) (fun _ wr => l.length - wr.iterPos W.heap.size)
  case atStart => exact ⟨0, [], by omega, by show plF l 0 = [] ++ plF l 0; simp, hit0, hJ0⟩
  case round =>
    obtain ⟨t, pre, htl, HP, HI, HJ⟩ := hrel
    clear hJ0 hit0
    by_cases hlt : t < l.length
    · have hnx := run_next_at (P := Tryd.prog) wr W.heap.size ⟨l.toArray⟩ t 0 HI.out (by rw [HSZ.out]; exact hlt)
      rw [decode_place l t hlt] at hnx
      have hP2 := HP.out
      rw [plF_step l t hlt] at hP2
      have hne : l.drop t ≠ [] := fun e => by have := congrArg List.length e; simp at this; omega
      have d1 := dec_ge _ hne
      have d2 := dec_le _ hne
      simp only [List.length_drop] at d2
      obtain ⟨nn, hnn⟩ : ∃ nn, nn = (dec (l.drop t)).2 := ⟨_, rfl⟩
      obtain ⟨rr, hrr⟩ : ∃ rr, rr = (dec (l.drop t)).1 := ⟨_, rfl⟩
      rw [← hnn] at hnx hP2 d1 d2
      rw [← hrr] at hnx
      obtain ⟨w1, hw1⟩ : ∃ w1, w1 = wr.putObj W.heap.size (.stringIter ⟨l.toArray⟩ (t + nn)) := ⟨_, rfl⟩
      rw [← hw1] at hnx
      have hin : W.heap.size < wr.heap.size := (Array.getElem?_eq_some_iff.1 HI.out).1
      have hJ1 : J pre w1 := by
        rw [hw1]
        exact hJ pre wr _ (some W.heap.size) HJ.out (grownBy_putObj' wr _ _) (fun r e => by cases e; exact ⟨Nat.le_refl _, _, HI.out, rfl⟩)
      have hI1 : w1.heap[W.heap.size]? = some (.stringIter ⟨l.toArray⟩ (t + nn)) := by rw [hw1]; exact World.putObj_heap_same hin
      have hmes : l.length - wr.iterPos W.heap.size = l.length - t := by unfold World.iterPos; rw [HI.out]
      obtain ⟨fn, tmps, assign, body, hy, hR⟩ := hY pre ⟨t, hlt⟩ w1 hJ1 (by rw [hP2]; simp)
      dsimp only [encsF] at hy
      rw [← hrr] at hy
      have HP2 := hid hP2
      have HI1 := hid hI1
      have HM := hid hmes
      clear hP2 hne hnn hrr hw1 hJ1 hI1 hmes
      gi_wp2
      refine hR.mono ?_
      rintro e W3 (⟨rfl, hJ3, hk3⟩ | ⟨rfl, hJx3⟩)
      · have hI3 := hk3.same _ _ HI1.out rfl
        have HI3 := hid hI3
        have HJ3 := hid hJ3
        clear hI3 hJ3 hk3
        gi_wp2
        go_roundw
        case rel => exact ⟨t + nn, pre ++ [⟨t, hlt⟩], by omega, by show plF l 0 = _; rw [HP2.out]; simp, HI3, HJ3⟩
        case measure =>
          rw [HM.out]
          unfold World.iterPos
          rw [HI3.out]
          simp only []
          omega
      · have HJX := hid hJx3
        clear hJx3
        gi_wp2
        refine bodyPost_ret (results_none rfl _ _ _) rfl ?_
        exact ⟨⟨_, rfl⟩, .inr ⟨pre ++ [⟨t, hlt⟩], ⟨plF l (t + nn), by rw [HP2.out]; simp⟩, HJX.out⟩⟩
    · have hnx := run_next_stop (P := Tryd.prog) wr W.heap.size ⟨l.toArray⟩ t 0 HI.out (by rw [HSZ.out]; exact hlt)
      have HF := hid (show plF l 0 = pre by have h := HP.out; rw [plF_end l t hlt] at h; simpa using h)
      gi_wp2
      go_end0
      exact ⟨⟨_, rfl⟩, .inl ⟨pre, HF.out.symm, HJ.out⟩⟩

/-- Whether a fault stands at a place. -/
def bdF (l : List UInt8) (x : Fin l.length) : Bool := decide ((dec (l.drop x.val)).1 = 65533) && !decide ((l.drop x.val).take 3 = [239, 191, 189])
theorem bdF_bad (l : List UInt8) (t : Nat) (h : t < l.length) : bdF l ⟨t, h⟩ = (mk1 t (l.drop t)).bad := by
  unfold bdF mk1
  by_cases hr : (dec (l.drop t)).1 = 65533
  · have := dec_instead (l.drop t) (drop_ne l t h) hr
    simp only [hr, decide_true, Bool.true_and, Bool.and_true]
    by_cases h1 : (dec (l.drop t)).2 = 1
    · have : ¬ (l.drop t).take 3 = [239, 191, 189] := fun e => this.1 e h1
      simp [h1, this]
    · simp [h1, this.2 h1]
  · simp [hr]
theorem flt_from (l : List UInt8) : ∀ (n t : Nat), l.length - t ≤ n → ((mks t (l.drop t)).filter (·.bad)).map (·.pl) = ((plF l t).filter (bdF l)).map (fun x => (x.val : Int))
  | 0, t, h => by rw [mks_end l t (by omega), plF_end l t (by omega)]; rfl
  | n + 1, t, h => by
    by_cases ht : t < l.length
    · have h1 := wid_ge l t ht
      have ih := flt_from l n (t + wid l t) (by omega)
      rw [mks_at l t ht, plF_step l t ht, List.filter_cons, List.filter_cons, bdF_bad l t ht]
      cases (mk1 t (l.drop t)).bad with
      | true => simp only [if_true, List.map_cons]; rw [ih]; rfl
      | false => simp only [Bool.false_eq_true, if_false]; exact ih
    · rw [mks_end l t ht, plF_end l t ht]; rfl

/-- The places of the faults, among so many. -/
def fls (l : List UInt8) (xs : List (Fin l.length)) : List Value := ((xs.filter (bdF l)).map (fun x => (x.val : Int))).map (Value.int .i64)
theorem fls_all (l : List UInt8) : fls l (plF l 0) = (flt l).map (Value.int .i64) := by
  unfold fls flt
  rw [← flt_from l l.length 0 (by omega)]; simp
theorem fls_len (l : List UInt8) : ((plF l 0).filter (bdF l)).length = (flt l).length := by
  have := congrArg List.length (flt_from l l.length 0 (by omega))
  unfold flt
  simpa using this.symm
theorem fls_bad (l : List UInt8) (xs : List (Fin l.length)) (x : Fin l.length) (h : bdF l x = true) : fls l (xs ++ [x]) = fls l xs ++ [.int .i64 (x.val : Int)] ∧ ((xs ++ [x]).filter (bdF l)).length = (xs.filter (bdF l)).length + 1 := by
  unfold fls
  rw [List.filter_append]
  simp [h]
theorem fls_good (l : List UInt8) (xs : List (Fin l.length)) (x : Fin l.length) (h : bdF l x = false) : fls l (xs ++ [x]) = fls l xs ∧ (xs ++ [x]).filter (bdF l) = xs.filter (bdF l) := by
  unfold fls
  rw [List.filter_append]
  simp [h]

set_option maxHeartbeats 400000 in
theorem has_any (l : List UInt8) (w : World) (hl : l.length ≤ 1000000000000) :
    Calls Tryd.prog 49 #[.string ⟨l.toArray⟩, .string ⟨#[239, 191, 189]⟩] w fun e w' => e = .returned (.bool (decide (l.take 3 = [239, 191, 189]))) ∧ w' = w := by
  by_cases h3 : l.length < 3
  · have e1 : decide (l.take 3 = [239, 191, 189]) = false := by
      rw [decide_eq_false_iff_not]
      intro e
      have := congrArg List.length e
      rw [List.length_take] at this
      simp at this
      omega
    rw [e1]
    go_enter Tryd.func49, Tryd.ntmps49
    go_wp2
    go_ret
    exact ⟨rfl, rfl⟩
  · have HE := hid (show (((⟨l.toArray⟩ : ByteArray).extract 0 3).toList == [239, 191, 189]) = decide (l.take 3 = [239, 191, 189]) by
      rw [ByteArray.toList_eq]
      simp only [ByteArray.data_extract, List.extract_toArray, List.extract_eq_take_drop, List.drop_zero, Nat.sub_zero]
      rw [Bool.beq_eq_decide_eq])
    go_enter Tryd.func49, Tryd.ntmps49
    go_wp2
    go_ret
    exact ⟨by rw [← HE.out]; rfl, rfl⟩

theorem has_eq (s : ByteArray) (l : List UInt8) (b : Bool) (hb : decide (l.take 3 = [239, 191, 189]) = b) (w : World) (hs : s = ⟨l.toArray⟩) (hl : l.length ≤ 1000000000000) :
    Calls Tryd.prog 49 #[.string s, .string ⟨#[239, 191, 189]⟩] w fun e w' => e = .returned (.bool b) ∧ w' = w := by
  subst hs hb; exact has_any l w hl

set_option maxHeartbeats 1000000 in
theorem faults_in (l : List UInt8) (w : World) (hl : l.length ≤ 1000000000000) :
    CallsIn Fence.wide 3 Tryd.prog 23 #[.string ⟨l.toArray⟩] w fun e W' => ∃ v, e = .returned v ∧ W'.ownsRow w.heap.size 3 1 v (flt l).length ((flt l).map (Value.int .i64)) ∧ Below w.heap.size w W' := by
  obtain ⟨i0, hi, hz0, hz1, hz2⟩ := info_parts Tryd.info3
  refine callsIn_of_wp_marks Tryd.func23 rfl trivial ?_ rfl
  simp only [Tryd.ntmps23, List.size_toArray, List.length_cons, List.length_nil, Nat.reduceAdd, Nat.reduceSub, Array.replicate_succ, Array.replicate_zero, List.push_toArray, List.append_toArray, List.nil_append, List.cons_append]
  gi_wp2_with (first | (refine ⟨trivial, ?_⟩; gi_at_call 26; refine (callsIn_wide.2 (each_any l _)).mono ?_; rintro e w' ⟨rfl, rfl⟩))
  have hs0 : (w.alloc (.cells #[.string ⟨l.toArray⟩] 9)).heap.size = w.heap.size + 1 := World.size_alloc _ _
  have hs1 : ((w.alloc (.cells #[.string ⟨l.toArray⟩] 9)).alloc (.cells #[.slice none 0 0] 32)).heap.size = w.heap.size + 1 + 1 := by rw [World.size_alloc, hs0]
  have bT := Boxed.new w 9 (.string ⟨l.toArray⟩)
  have bL := Boxed.new (w.alloc (.cells #[.string ⟨l.toArray⟩] 9)) 32 (.slice none 0 0)
  have bS := Boxed.new ((w.alloc (.cells #[.string ⟨l.toArray⟩] 9)).alloc (.cells #[.slice none 0 0] 32)) 9 (.string ⟨l.toArray⟩)
  rw [hs1] at bS
  rw [hs0] at bL
  have hB0 : Below w.heap.size w (((w.alloc (.cells #[.string ⟨l.toArray⟩] 9)).alloc (.cells #[.slice none 0 0] 32)).alloc (.cells #[.string ⟨l.toArray⟩] 9)) := (((Below.refl _ _).alloc (Nat.le_refl _) _).alloc (by simp) _).alloc (by simp; omega) _
  have hpl := plF_len l
  refine wpIn_rangeFunc_ownG rfl (by omega) (gf := 53) (lb := #[.pointer (some ⟨w.heap.size + 1 + 1, 0, none⟩)]) rfl trivial (enters_of Tryd.func53 (by kernel_rfl) rfl)
    (seqStopsA_iff.1 (each_stopsF Fence.wide (3 - 1) trivial rfl (by omega) (w.heap.size + 1 + 1) l _ (by simp) bS.cell)) walksK_t walksK_b (Below.refl _ _) (fun _ => rfl)
    (fun pre W => ((∃ v, Boxed W (w.heap.size + 1) 32 v ∧ W.ownsRow w.heap.size 3 1 v (pre.filter (bdF l)).length (fls l pre) ∧ True) ∧ Below w.heap.size w W) ∧ Boxed W w.heap.size 9 (.string ⟨l.toArray⟩))
    (fun _ _ _ => False)
    (OwnFrom.and (OwnFrom.and (Own.from (holdsRow_own w.heap.size (w.heap.size + 1) 32 3 1 (fun pre => (pre.filter (bdF l)).length) (fun pre => fls l pre) (fun _ _ => True)) _) (ownFrom_below (Nat.le_refl _) (by simp; omega))) (Own.from (boxed_own w.heap.size 9 (fun _ => .string ⟨l.toArray⟩)) _))
    (fun _ _ _ _ _ hs _ _ => hs)
    ⟨⟨⟨_, bL.alloc _, World.ownsRow_nil _ _ _ _, trivial⟩, hB0⟩, (bT.alloc _).alloc _⟩
    (fun x => { tmps := #[.string ⟨l.toArray⟩, .pointer (some ⟨w.heap.size, 0, none⟩), .slice none 0 0, .pointer (some ⟨w.heap.size + 1, 0, none⟩), .int .i64 (x.val : Int), .int .i32 ((dec (l.drop x.val)).1 : Int), .string ⟨l.toArray⟩, .func (.func 53) #[] #[.pointer (some ⟨w.heap.size + 1 + 1, 0, none⟩)], .int .i64 (x.val : Int), .int .i32 ((dec (l.drop x.val)).1 : Int), undef, undef, undef, undef, undef, undef, undef, undef, undef, undef, undef, undef, undef, undef], defers := [] }) ?assign ?body ?done ?stop
  case assign =>
    intro lp x W K hK
    dsimp only [encsF]
    gi_wp2
    exact hK
  case body =>
    rintro lp pre x W ⟨⟨⟨v, hv, hrow, _⟩, hB⟩, hT⟩ hlt
    have hc := hv.cell
    have ht := hT.cell
    have hx := x.isLt
    have hfl : (pre.filter (bdF l)).length ≤ pre.length := List.length_filter_le ..
    have hsz := hB.size
    by_cases hr : (dec (l.drop x.val)).1 = 65533
    · by_cases hp : (l.drop x.val).take 3 = [239, 191, 189]
      · have hb : bdF l x = false := by unfold bdF; simp [hp]
        have HG := hid (fls_good l pre x hb)
        have HP := hid (show decide ((l.drop x.val).take 3 = [239, 191, 189]) = true from decide_eq_true hp)
        have hr' : ((dec (l.drop x.val)).1 : Int) = 65533 := by omega
        rw [hr']
        clear hp hb hr hr'
        gi_wp2_with (refine ⟨trivial, ?_⟩; gi_at_call 49; refine (callsIn_wide.2 (has_eq _ (l.drop x.val) true HP.out _ (ext_drop l x.val) (by simp; omega))).mono ?_; rintro e w' ⟨rfl, hw⟩; obtain rfl := hw.symm)
        exact ⟨KeepsFrom.refl _ _, KeepsWalks.refl _, ⟨⟨_, hv, by rw [HG.out.1, HG.out.2]; exact hrow, trivial⟩, hB⟩, hT⟩
      · have hb : bdF l x = true := by unfold bdF; simp [hp, hr]
        have HG := hid (fls_bad l pre x hb)
        have HP := hid (show decide ((l.drop x.val).take 3 = [239, 191, 189]) = false from decide_eq_false hp)
        have hr' : ((dec (l.drop x.val)).1 : Int) = 65533 := by omega
        rw [hr']
        clear hp hb hr hr'
        gi_wp2_with (first | (refine ⟨trivial, ?_⟩; gi_at_call 49; refine (callsIn_wide.2 (has_eq _ (l.drop x.val) false HP.out _ (ext_drop l x.val) (by simp; omega))).mono ?_; rintro e w' ⟨rfl, hw⟩; obtain rfl := hw.symm) | (gi_at_builtin; refine wpListIn_append_own _ rfl _ _ 32 rfl w.heap.size 3 i0 (.int .i64 0) 1 8 Tryd.underlying32 hi hz0 hz1 hz2 rfl (by decide) _ _ _ rfl (hrow.alloc _) ⟨W.heap.size, 0, none⟩ 1 1 [.int .i64 (x.val : Int)] rfl rfl (cell_one_new _ _ _) (by simp [Value.oneCell']) (by unfold maxLen; omega) (by omega) (by simp; omega) ?_; intro v' w3 hown' hgrow _; obtain ⟨g', cap', rfl⟩ := ownsRow_succ hown'; obtain ⟨hv1, hv2, hr2, hk2, hb2⟩ := hv.appended (by decide) hrow hB.size (by omega) hown' hgrow; have hT3 := ((hT.alloc _).kept hgrow (hT.not_row (by decide) hrow)); have hc1 := hv1.cell; have hf1 := hv1.frozen))
        exact ⟨hk2.from _, ⟨hk2.size, fun k o h hw => hk2.same k o h (Obj.not_cells_of_walk hw)⟩, ⟨⟨_, hv2, by rw [HG.out.1, HG.out.2]; exact hr2, trivial⟩, hB.trans hb2⟩, hT3.other (by omega) _⟩
    · have hb : bdF l x = false := by unfold bdF; simp [hr]
      have HG := hid (fls_good l pre x hb)
      have hr' : (((dec (l.drop x.val)).1 : Int) == 65533) = false := beq_eq_false_iff_ne.2 (by omega)
      clear hb hr
      generalize ((dec (l.drop x.val)).1 : Int) = rr at *
      gi_wp2
      refine ⟨trivial, ?_⟩
      gi_wp2
      exact ⟨KeepsFrom.refl _ _, KeepsWalks.refl _, ⟨⟨_, hv, by rw [HG.out.1, HG.out.2]; exact hrow, trivial⟩, hB⟩, hT⟩
  case done =>
    rintro D ys W hD rfl ⟨⟨⟨v, hv, hrow, _⟩, hB⟩, _⟩ hK
    have hc := hv.cell
    gi_wp2
    refine ⟨by simp, .inl ⟨_, _, rfl, run_takeDeferred hK, ?_⟩⟩
    rw [fls_len, fls_all] at hrow
    exact ⟨_, results_tmp rfl _ _ _, v, rfl, ownsRow_putObj hrow _ hK rfl, hB.trans (belowK_b (w := w) (Nat.le_refl _) W D _ _ (by simp at hD; omega) hK rfl rfl)⟩
  case stop =>
    rintro D c pre W _ _ h _
    exact h.elim

theorem faults_any (l : List UInt8) (w : World) (hl : l.length ≤ 1000000000000) :
    Calls Tryd.prog 23 #[.string ⟨l.toArray⟩] w fun e W' => ∃ v, e = .returned v ∧ W'.ownsRow w.heap.size 3 1 v (flt l).length ((flt l).map (Value.int .i64)) ∧ Below w.heap.size w W' :=
  callsIn_wide.1 (faults_in l w hl)
end Go.Proofs.YtflehkdijfhmgaaDoor
