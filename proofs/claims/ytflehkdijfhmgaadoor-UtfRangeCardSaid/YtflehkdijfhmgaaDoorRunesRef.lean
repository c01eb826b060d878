/- The contracts of the document's Runes, Faults, Units and Last: what they read off the list of marks. -/
import Derived.Test.YtflehkdijfhmgaaDoorAlike
namespace Go.Proofs.YtflehkdijfhmgaaDoor
open Go.RowKit

/-- What stands in the list of marks, cell by cell. -/
theorem marks_cells {w : World} {B : Nat} {v : Value} {ms : List Mk} (h : w.ownsRow B 42 4 v ms.length (mkcs ms)) : ∃ ao cap, v = .slice ao ms.length cap ∧
    ∀ (k : Nat) (m : Mk), ms[k]? = some m → ∃ g, ao = some ⟨g, 0, none⟩ ∧ g < w.heap.size ∧ w.cell? ⟨g, k * 4, none⟩ = some (.int .i64 m.pl) ∧ w.cell? ⟨g, k * 4 + 1, none⟩ = some (.int .i64 m.wd) ∧ w.cell? ⟨g, k * 4 + 2, none⟩ = some (.int .i32 m.ru) ∧ w.cell? ⟨g, k * 4 + 3, none⟩ = some (.bool m.bad) := by
  obtain ⟨ao, cap, rfl, hao⟩ := owns_form h
  refine ⟨ao, cap, rfl, fun k m hk => ?_⟩
  have hkl : k < ms.length := (List.getElem?_eq_some_iff.1 hk).1
  obtain ⟨g, hg, hg0, hg1⟩ := hao (by omega)
  have hc : ∀ j u, j < 4 → (mkc m)[j]? = some u → w.cell? ⟨g, k * 4 + j, none⟩ = some u := fun j u hj hu => by
    have hc := h.cells (g := g) (by rw [hg]; rfl) (k * 4 + j) u (by rw [mkcs_get ms k j m hk hj]; exact hu)
    rw [show (⟨g, 0, none⟩ : Addr).add (k * 4 + j) = ⟨g, k * 4 + j, none⟩ by unfold Addr.add; split <;> simp_all] at hc
    exact hc
  exact ⟨g, hg, hg1, by simpa using hc 0 _ (by omega) rfl, hc 1 _ (by omega) rfl, hc 2 _ (by omega) rfl, hc 3 _ (by omega) rfl⟩

theorem mks_le (l : List UInt8) : (mks 0 l).length ≤ l.length := by
  have := mks_len l l.length 0 (by omega)
  simpa using this

/-- The runes of the first marks, as values. -/
def pr32 (ms : List Mk) (k : Nat) : List Value := ((ms.take k).map (·.ru)).map (Value.int .i32)
theorem pr32_succ (ms : List Mk) (k : Nat) (h : k < ms.length) : pr32 ms (k + 1) = pr32 ms k ++ [.int .i32 ms[k].ru] := by
  unfold pr32
  rw [List.take_succ_eq_append_getElem h, List.map_append, List.map_append]; rfl
theorem pr32_all (ms : List Mk) (k : Nat) (h : ¬ k < ms.length) : pr32 ms k = (ms.map (·.ru)).map (Value.int .i32) := by
  unfold pr32
  rw [List.take_of_length_le (by omega)]

set_option maxHeartbeats 1000000 in
theorem rrunes_any (l : List UInt8) (w : World) (hl : l.length ≤ 1000000000000) :
    Calls Tryd.prog 16 #[.string ⟨l.toArray⟩] w fun e w' => ∃ v, e = .returned v ∧ w'.ownsRow w.heap.size 21 1 v (rns l).length ((rns l).map (Value.int .i32)) ∧ Below w.heap.size w w' := by
  obtain ⟨i0, hi, hz0, hz1, hz2⟩ := info_parts Tryd.info21
  go_enter Tryd.func16, Tryd.ntmps16
  go_wp2_with fail
  refine (marks_any l _ hl).mono ?_
  rintro e w1 ⟨v, rfl, hown1, hb1⟩
  have hlen := mks_le l
  obtain ⟨ms, hms⟩ : ∃ ms, ms = mks 0 l := ⟨_, rfl⟩
  rw [← hms] at hown1 hlen
  have HMS := hid (show rns l = ms.map (·.ru) by rw [hms]; rfl)
  obtain ⟨ao, cap, rfl, hcell⟩ := marks_cells hown1
  have HCELL := hid hcell
  clear hcell hown1 hms
  go_wp2
  go_loopw [4, 5] (fun o i wr => ∃ k : Nat, k ≤ ms.length ∧ i = .int .i64 k ∧ wr.ownsRow w1.heap.size 21 1 o k (pr32 ms k) ∧ Below w1.heap.size w1 wr) (fun _ i _ => ms.length - (intOf i).toNat)
  case atStart => exact ⟨0, by omega, rfl, World.ownsRow_nil _ _ _ _, Below.refl _ _⟩
  case round =>
    obtain ⟨k, hk, rfl, hown, hB⟩ := hrel
    have hs := hB.size
    by_cases hlt : k < ms.length
    · obtain ⟨g, rfl, hg1, _, _, hcg, _⟩ := HCELL.out k ms[k] (List.getElem?_eq_getElem hlt)
      have hcw : wr.cell? ⟨g, k * 4 + 2, none⟩ = some (.int .i32 ms[k].ru) := (hB.cell (p := ⟨g, k * 4 + 2, none⟩) hg1).trans hcg
      obtain ⟨z, hz⟩ : ∃ z, z = ms[k].ru := ⟨_, rfl⟩
      rw [← hz] at hcw
      have HZ := hid hz
      clear hz hcg
      go_wp2_with (at_builtin; refine wpList_append_own _ rfl _ _ 27 rfl w1.heap.size 21 i0 (.int .i32 0) 1 4 Tryd.underlying27 hi hz0 hz1 hz2 rfl (by decide) _ _ _ rfl (hown.alloc _) ⟨wr.heap.size, 0, none⟩ 1 1 [.int .i32 z] rfl rfl (news_one wr #[.int .i32 z] 21) (by intro u hu; simp at hu; subst hu; rfl) (by unfold maxLen; omega) (by omega) (by simp; omega) ?_)
      intro v' w2 hown' hgrow _
      have hB2 : Below w1.heap.size w1 w2 := (hB.alloc hB.size _).grown hgrow (by simp; omega) (fun k hk => (hown.lt k hk).1)
      have hown2 : w2.ownsRow w1.heap.size 21 1 v' (k + 1) (pr32 ms (k + 1)) := by rw [pr32_succ ms k hlt, ← HZ.out]; exact hown'
      clear hown' hgrow hown hB hcw
      go_wp2
      go_roundw
      case rel => exact ⟨k + 1, by omega, by go_num, hown2, hB2⟩
      case measure => simp [intOf]; omega
    · have hke : k = ms.length := by omega
      have HKE := hid hke
      have HP := hid (pr32_all ms k hlt)
      clear hke
      go_wp2
      go_ret
      refine ⟨_, rfl, ?_, hb1.trans (hB.mono hb1.size)⟩
      rw [HMS.out, List.length_map, ← HP.out, ← HKE.out]
      exact ownsRow_base hb1.size hown

/-- The places of the faults among the first marks, as values. -/
def pf64 (ms : List Mk) (k : Nat) : List Value := (((ms.take k).filter (·.bad)).map (·.pl)).map (Value.int .i64)
def pfn (ms : List Mk) (k : Nat) : Nat := ((ms.take k).filter (·.bad)).length
theorem pfn_le (ms : List Mk) (k : Nat) : pfn ms k ≤ k := by
  have := List.length_filter_le (fun m : Mk => m.bad) (ms.take k)
  unfold pfn
  rw [List.length_take] at this
  omega
theorem pf_bad (ms : List Mk) (k : Nat) (h : k < ms.length) (hb : ms[k].bad = true) : pf64 ms (k + 1) = pf64 ms k ++ [.int .i64 ms[k].pl] ∧ pfn ms (k + 1) = pfn ms k + 1 := by
  unfold pf64 pfn
  rw [List.take_succ_eq_append_getElem h, List.filter_append]
  simp [hb]
theorem pf_good (ms : List Mk) (k : Nat) (h : k < ms.length) (hb : ms[k].bad = false) : pf64 ms (k + 1) = pf64 ms k ∧ pfn ms (k + 1) = pfn ms k := by
  unfold pf64 pfn
  rw [List.take_succ_eq_append_getElem h, List.filter_append]
  simp [hb]

set_option maxHeartbeats 1000000 in
theorem rfaults_any (l : List UInt8) (w : World) (hl : l.length ≤ 1000000000000) :
    Calls Tryd.prog 21 #[.string ⟨l.toArray⟩] w fun e w' => ∃ v, e = .returned v ∧ w'.ownsRow w.heap.size 3 1 v (flt l).length ((flt l).map (Value.int .i64)) ∧ Below w.heap.size w w' := by
  obtain ⟨i0, hi, hz0, hz1, hz2⟩ := info_parts Tryd.info3
  go_enter Tryd.func21, Tryd.ntmps21
  go_wp2_with fail
  refine (marks_any l _ hl).mono ?_
  rintro e w1 ⟨v, rfl, hown1, hb1⟩
  have hlen := mks_le l
  obtain ⟨ms, hms⟩ : ∃ ms, ms = mks 0 l := ⟨_, rfl⟩
  rw [← hms] at hown1 hlen
  have HMS := hid (show flt l = (ms.filter (·.bad)).map (·.pl) by rw [hms]; rfl)
  obtain ⟨ao, cap, rfl, hcell⟩ := marks_cells hown1
  have HCELL := hid hcell
  clear hcell hown1 hms
  go_wp2
  go_loopw [4, 5] (fun o i wr => ∃ k : Nat, k ≤ ms.length ∧ i = .int .i64 k ∧ wr.ownsRow w1.heap.size 3 1 o (pfn ms k) (pf64 ms k) ∧ Below w1.heap.size w1 wr) (fun _ i _ => ms.length - (intOf i).toNat)
  case atStart => exact ⟨0, by omega, rfl, World.ownsRow_nil _ _ _ _, Below.refl _ _⟩
  case round =>
    obtain ⟨k, hk, rfl, hown, hB⟩ := hrel
    have hs := hB.size
    have hpn := pfn_le ms k
    by_cases hlt : k < ms.length
    · obtain ⟨g, rfl, hg1, hcg, _, _, hcb⟩ := HCELL.out k ms[k] (List.getElem?_eq_getElem hlt)
      have hcw : wr.cell? ⟨g, k * 4, none⟩ = some (.int .i64 ms[k].pl) := (hB.cell (p := ⟨g, k * 4, none⟩) hg1).trans hcg
      have hcv : wr.cell? ⟨g, k * 4 + 3, none⟩ = some (.bool ms[k].bad) := (hB.cell (p := ⟨g, k * 4 + 3, none⟩) hg1).trans hcb
      cases hbd : ms[k].bad with
      | true =>
        have HG := hid (pf_bad ms k hlt hbd)
        obtain ⟨z, hz⟩ : ∃ z, z = ms[k].pl := ⟨_, rfl⟩
        rw [← hz] at hcw
        rw [hbd] at hcv
        rw [← hz] at HG
        clear hz hcg hcb hbd
        go_wp2_with (at_builtin; refine wpList_append_own _ rfl _ _ 32 rfl w1.heap.size 3 i0 (.int .i64 0) 1 8 Tryd.underlying32 hi hz0 hz1 hz2 rfl (by decide) _ _ _ rfl (hown.alloc _) ⟨wr.heap.size, 0, none⟩ 1 1 [.int .i64 z] rfl rfl (news_one wr #[.int .i64 z] 3) (by intro u hu; simp at hu; subst hu; rfl) (by unfold maxLen; omega) (by omega) (by simp; omega) ?_)
        intro v' w2 hown' hgrow _
        have hB2 : Below w1.heap.size w1 w2 := (hB.alloc hB.size _).grown hgrow (by simp; omega) (fun k hk => (hown.lt k hk).1)
        have hown2 : w2.ownsRow w1.heap.size 3 1 v' (pfn ms (k + 1)) (pf64 ms (k + 1)) := by rw [HG.out.1, HG.out.2]; exact hown'
        clear hown' hgrow hown hB hcw hcv
        go_wp2
        go_roundw
        case rel => exact ⟨k + 1, by omega, by go_num, hown2, hB2⟩
        case measure => simp [intOf]; omega
      | false =>
        have HG := hid (pf_good ms k hlt hbd)
        rw [hbd] at hcv
        have hown2 := hown
        rw [← HG.out.1, ← HG.out.2] at hown2
        clear hcg hcb hbd hcw hown
        go_wp2
        go_roundw
        case rel => exact ⟨k + 1, by omega, by go_num, hown2, hB⟩
        case measure => simp [intOf]; omega
    · have hke : k = ms.length := by omega
      have HKE := hid hke
      clear hke
      go_wp2
      go_ret
      refine ⟨_, rfl, ?_, hb1.trans (hB.mono hb1.size)⟩
      have h := ownsRow_base hb1.size hown
      unfold pfn pf64 at h
      rw [HKE.out, List.take_length] at h
      rw [HMS.out, List.length_map]
      exact h
end Go.Proofs.YtflehkdijfhmgaaDoor
