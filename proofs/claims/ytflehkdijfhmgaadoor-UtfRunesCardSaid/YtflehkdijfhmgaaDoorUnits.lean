/- The contracts of the document's Units and Last, of the program's Units; the number of runes. -/
import Derived.Test.YtflehkdijfhmgaaDoorRunesRef
import Derived.Test.YtflehkdijfhmgaaDoorLastMath
namespace Go.Proofs.YtflehkdijfhmgaaDoor
open Go.RowKit Go.Shelf
attribute [local go_sem] Oper.semAt_some

theorem count_from (l : List UInt8) : ∀ (n t : Nat), l.length - t ≤ n → Lib.runeCountFrom ⟨l.toArray⟩ n t = (mks t (l.drop t)).length
  | 0, t, h => by rw [mks_end l t (by omega)]; rfl
  | n + 1, t, h => by
    have hs : (⟨l.toArray⟩ : ByteArray).size = l.length := by show l.toArray.size = _; simp
    by_cases ht : t < l.length
    · have h1 := wid_ge l t ht
      unfold Lib.runeCountFrom
      rw [if_pos (by rw [hs]; exact ht), decode_place l t ht, mks_at l t ht, List.length_cons]
      have ih := count_from l n (t + wid l t) (by omega)
      unfold wid at ih ⊢
      rw [ih]; omega
    · rw [Lib.runeCountFrom_end _ _ _ (by rw [hs]; exact ht), mks_end l t ht]; rfl
theorem count_len (l : List UInt8) : Lib.runeCount ⟨l.toArray⟩ = (rns l).length := by
  have hs : (⟨l.toArray⟩ : ByteArray).size = l.length := by show l.toArray.size = _; simp
  unfold Lib.runeCount rns
  rw [hs, count_from l l.length 0 (by omega)]
  simp

/-- How many units so many runes have. -/
def un (xs : List Int) : Nat := xs.length + (xs.filter (fun r => decide (65535 < r))).length
theorem un_le (xs : List Int) : un xs ≤ 2 * xs.length := by
  have := List.length_filter_le (fun r : Int => decide (65535 < r)) xs
  unfold un; omega
theorem un_big (xs : List Int) (r : Int) (h : 65535 < r) : un (xs ++ [r]) = un xs + 1 + 1 := by
  unfold un
  rw [List.filter_append]
  simp [h]; omega
theorem un_small (xs : List Int) (r : Int) (h : ¬ 65535 < r) : un (xs ++ [r]) = un xs + 1 := by
  unfold un
  rw [List.filter_append]
  have h2 : [r].filter (fun r => decide (65535 < r)) = [] := by simp [h]
  rw [h2]
  simp; omega

set_option maxHeartbeats 1000000 in
theorem runits_any (l : List UInt8) (w : World) (hl : l.length ≤ 1000000000000) :
    Calls Tryd.prog 19 #[.string ⟨l.toArray⟩] w fun e w' => e = .returned (.int .i64 (un (rns l) : Nat)) ∧ Below w.heap.size w w' := by
  go_enter Tryd.func19, Tryd.ntmps19
  go_wp2_with fail
  refine (marks_any l _ hl).mono ?_
  rintro e w1 ⟨v, rfl, hown1, hb1⟩
  have hlen := mks_le l
  obtain ⟨ms, hms⟩ : ∃ ms, ms = mks 0 l := ⟨_, rfl⟩
  rw [← hms] at hown1 hlen
  have HMS := hid (show rns l = ms.map (·.ru) by rw [hms]; rfl)
  obtain ⟨ao, cap, rfl, hcell⟩ := marks_cells hown1
  have HCELL := hid hcell
  clear hcell hown1 hms
  go_wp2
  go_loopw [4, 5] (fun n i wr => ∃ (k : Nat) (c : Nat), k ≤ ms.length ∧ i = .int .i64 k ∧ n = .int .i64 c ∧ Hid (c = un ((ms.take k).map (·.ru))) ∧ c ≤ 2 * k ∧ Below w1.heap.size w1 wr) (fun _ i _ => ms.length - (intOf i).toNat)
  case atStart => exact ⟨0, 0, by omega, rfl, rfl, rfl, by omega, Below.refl _ _⟩
  case round =>
    obtain ⟨k, c, hk, rfl, rfl, HU, hc2, hB⟩ := hrel
    have hs := hB.size
    by_cases hlt : k < ms.length
    · obtain ⟨g, rfl, hg1, _, _, hcg, _⟩ := HCELL.out k ms[k] (List.getElem?_eq_getElem hlt)
      have hcw : wr.cell? ⟨g, k * 4 + 2, none⟩ = some (.int .i32 ms[k].ru) := (hB.cell (p := ⟨g, k * 4 + 2, none⟩) hg1).trans hcg
      have HT := hid (show (ms.take (k + 1)).map (·.ru) = (ms.take k).map (·.ru) ++ [ms[k].ru] by rw [List.take_succ_eq_append_getElem hlt, List.map_append]; rfl)
      obtain ⟨z, hz⟩ : ∃ z, z = ms[k].ru := ⟨_, rfl⟩
      rw [← hz] at hcw HT
      clear hz hcg
      by_cases hbig : 65535 < z
      · have HU2 := hid (show c + 1 + 1 = un ((ms.take (k + 1)).map (·.ru)) by rw [HT.out, un_big _ _ hbig, HU.out])
        clear HU HT
        go_wp2
        go_roundw
        case rel => exact ⟨k + 1, c + 1 + 1, by omega, by go_num, by go_num, HU2, by omega, hB⟩
        case measure => simp [intOf]; omega
      · have HU2 := hid (show c + 1 = un ((ms.take (k + 1)).map (·.ru)) by rw [HT.out, un_small _ _ hbig, HU.out])
        clear HU HT
        go_wp2
        go_roundw
        case rel => exact ⟨k + 1, c + 1, by omega, by go_num, by go_num, HU2, by omega, hB⟩
        case measure => simp [intOf]; omega
    · have hke : k = ms.length := by omega
      have HKE := hid hke
      clear hke
      go_wp2
      go_ret
      refine ⟨?_, hb1.trans (hB.mono hb1.size)⟩
      have h := HU.out
      rw [HKE.out, List.take_length] at h
      rw [HMS.out, ← h]; rfl

theorem last_mks (l : List UInt8) (h : l ≠ []) : ∃ (P : List Mk) (m : Mk), mks 0 l = P ++ [m] ∧ ((decLast l).1 : Int) = m.ru ∧ ((decLast l).2 : Int) = m.wd := by
  obtain ⟨e, h1, h2, h3⟩ := last_parts l h
  refine ⟨_, _, h3, ?_, ?_⟩ <;> rw [last_is l h e h1 h2 h3] <;> rfl

set_option maxHeartbeats 1000000 in
theorem rlast_any (l : List UInt8) (w : World) (hl : l.length ≤ 1000000000000) :
    Calls Tryd.prog 13 #[.string ⟨l.toArray⟩] w fun e w' => e = .returned (.tuple #[.int .i32 (decLast l).1, .int .i64 (decLast l).2]) ∧ Below w.heap.size w w' := by
  by_cases h : l = []
  · subst h
    go_enter Tryd.func13, Tryd.ntmps13
    go_wp2_with fail
    refine (marks_any [] _ (by simp)).mono ?_
    rintro e w1 ⟨v, rfl, hown1, hb1⟩
    obtain ⟨ao, cap, rfl, hcell⟩ := marks_cells hown1
    clear hcell hown1
    go_wp2
    go_ret2
    exact ⟨rfl, hb1⟩
  · obtain ⟨P, m, hP, h1, h2⟩ := last_mks l h
    have hlen := mks_le l
    rw [h1, h2]
    go_enter Tryd.func13, Tryd.ntmps13
    go_wp2_with fail
    refine (marks_any l _ hl).mono ?_
    rintro e w1 ⟨v, rfl, hown1, hb1⟩
    obtain ⟨ao, cap, rfl, hcell⟩ := marks_cells hown1
    obtain ⟨g, rfl, hg1, c0, c1, c2, c3⟩ := hcell P.length m (by rw [hP]; simp)
    have hpl : (mks 0 l).length = P.length + 1 := by rw [hP]; simp
    rw [hpl] at hlen ⊢
    have HB := hid hb1
    clear hcell hown1 hP hpl h1 h2 hb1
    go_wp2
    go_quiet (fail)
    go_wp2
    go_ret2
    exact ⟨rfl, below_drewN (HB.out.alloc HB.out.size _) _⟩

theorem units_snd (pre : List (Int × Int)) (x : Int × Int) : ((pre ++ [x]).map (·.2)) = pre.map (·.2) ++ [x.2] := by simp

set_option maxHeartbeats 1000000 in
theorem units_in (l : List UInt8) (w : World) (hl : l.length ≤ 1000000000000) :
    CallsIn Fence.wide 3 Tryd.prog 18 #[.string ⟨l.toArray⟩] w fun e W' => e = .returned (.int .i64 (un (rns l) : Nat)) ∧ Below w.heap.size w W' := by
  refine callsIn_of_wp_marks Tryd.func18 rfl trivial ?_ rfl
  simp only [Tryd.ntmps18, List.size_toArray, List.length_cons, List.length_nil, Nat.reduceAdd, Nat.reduceSub, Array.replicate_succ, Array.replicate_zero, List.push_toArray, List.append_toArray, List.nil_append, List.cons_append]
  gi_wp2_with (first | (refine ⟨trivial, ?_⟩; gi_at_call 26; refine (callsIn_wide.2 (each_any l _)).mono ?_; rintro e w' ⟨rfl, rfl⟩))
  have bN := Boxed.new w 3 (.int .i64 0)
  have bS := Boxed.new (w.alloc (.cells #[.int .i64 0] 3)) 9 (.string ⟨l.toArray⟩)
  rw [World.size_alloc] at bS
  have hB0 : Below w.heap.size w ((w.alloc (.cells #[.int .i64 0] 3)).alloc (.cells #[.string ⟨l.toArray⟩] 9)) := ((Below.refl _ _).alloc (Nat.le_refl _) _).alloc (by simp) _
  have hpl := prs_len l
  refine wpIn_rangeFunc_ownG rfl (by omega) (gf := 53) (lb := #[.pointer (some ⟨w.heap.size + 1, 0, none⟩)]) rfl trivial (enters_of Tryd.func53 (by kernel_rfl) rfl)
    (seqStopsA_iff.1 (each_stops Fence.wide (3 - 1) trivial rfl (by omega) (w.heap.size + 1) l _ (by simp) bS.cell)) walksK_t walksK_b (Below.refl _ _) (fun _ => rfl)
    (fun pre W => Boxed W w.heap.size 3 (.int .i64 (un (pre.map (·.2)) : Nat)) ∧ Below w.heap.size w W)
    (fun _ _ _ => False)
    (OwnFrom.and (Own.from (boxed_own w.heap.size 3 (fun (pre : List (Int × Int)) => .int .i64 (un (pre.map (·.2)) : Nat))) _) (ownFrom_below (Nat.le_refl _) (by simp; omega)))
    (fun _ _ _ _ _ hs _ _ => hs)
    ⟨bN.alloc _, hB0⟩
    (fun x => { tmps := #[.string ⟨l.toArray⟩, undef, .int .i64 0, .pointer (some ⟨w.heap.size, 0, none⟩), undef, .int .i32 x.2, .string ⟨l.toArray⟩, .func (.func 53) #[] #[.pointer (some ⟨w.heap.size + 1, 0, none⟩)], .int .i64 x.1, .int .i32 x.2, undef, undef, undef, undef, undef, undef, undef], defers := [] }) ?assign ?body ?done ?stop
  case assign =>
    intro lp x W K hK
    dsimp only [encs2]
    gi_wp2
    exact hK
  case body =>
    rintro lp pre x W ⟨hv, hB⟩ hlt
    have hule := un_le (pre.map (·.2))
    rw [List.length_map] at hule
    obtain ⟨c, hc0⟩ : ∃ c, c = un (pre.map (·.2)) := ⟨_, rfl⟩
    rw [← hc0] at hv hule
    have hc := hv.cell
    have hf := hv.frozen
    have hv1 := hv.set (.int .i64 ((c : Int) + 1))
    have hc1 := hv1.cell
    have hf1 := hv1.frozen
    have hB1 : Below w.heap.size w (W.setCell ⟨w.heap.size, 0, none⟩ (.int .i64 ((c : Int) + 1))) := hB.setCell (p := ⟨w.heap.size, 0, none⟩) (Nat.le_refl _) _
    by_cases hbig : 65535 < x.2
    · have HU := hid (show ((un ((pre ++ [x]).map (·.2)) : Nat) : Int) = (c : Int) + 1 + 1 by rw [units_snd, un_big _ _ hbig, ← hc0]; omega)
      have HC := hid hc0
      clear hc0
      gi_wp2
      refine ⟨((KeepsOthers.setCell _ _ _).trans (KeepsOthers.setCell _ _ _)).from _, ?_, ?_, ?_⟩
      · have hk := (KeepsOthers.setCell W ⟨w.heap.size, 0, none⟩ (.int .i64 ((c : Int) + 1))).trans (KeepsOthers.setCell _ ⟨w.heap.size, 0, none⟩ (.int .i64 ((c : Int) + 1 + 1)))
        exact ⟨hk.size, fun k o h hw => hk.same k o h (Obj.not_cells_of_walk hw)⟩
      · rw [HU.out]; exact hv1.set _
      · exact hB1.setCell (p := ⟨w.heap.size, 0, none⟩) (Nat.le_refl _) _
    · have HU := hid (show ((un ((pre ++ [x]).map (·.2)) : Nat) : Int) = (c : Int) + 1 by rw [units_snd, un_small _ _ hbig, ← hc0]; omega)
      have HC := hid hc0
      clear hc0
      gi_wp2
      refine ⟨(KeepsOthers.setCell _ _ _).from _, ?_, ?_, ?_⟩
      · have hk := KeepsOthers.setCell W ⟨w.heap.size, 0, none⟩ (.int .i64 ((c : Int) + 1))
        exact ⟨hk.size, fun k o h hw => hk.same k o h (Obj.not_cells_of_walk hw)⟩
      · rw [HU.out]; exact hv1
      · exact hB1
  case done =>
    rintro D ys W hD rfl ⟨hv, hB⟩ hK
    have hc := hv.cell
    gi_wp2
    refine ⟨by simp, .inl ⟨_, _, rfl, run_takeDeferred hK, ?_⟩⟩
    have e1 : (prs l).map (·.2) = rns l := by simp [prs, rns]
    exact ⟨_, results_tmp rfl _ _ _, by rw [← e1]; rfl, hB.trans (belowK_b (w := w) (Nat.le_refl _) W D _ _ (by simp at hD; omega) hK rfl rfl)⟩
  case stop =>
    rintro D c pre W _ _ h _
    exact h.elim

theorem units_any (l : List UInt8) (w : World) (hl : l.length ≤ 1000000000000) :
    Calls Tryd.prog 18 #[.string ⟨l.toArray⟩] w fun e W' => e = .returned (.int .i64 (un (rns l) : Nat)) ∧ Below w.heap.size w W' :=
  callsIn_wide.1 (units_in l w hl)
end Go.Proofs.YtflehkdijfhmgaaDoor
