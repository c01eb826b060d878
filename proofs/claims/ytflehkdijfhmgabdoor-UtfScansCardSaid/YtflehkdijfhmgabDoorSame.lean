/- The contract of the document's Same, at two lists that are the same. -/
import Derived.Test.YtflehkdijfhmgabDoorRFeed
import Derived.Lib.MapLaws
namespace Go.Proofs.YtflehkdijfhmgabDoor
open Go.RowKit

theorem owns_form {w : World} {base e size n : Nat} {v : Value} {xs : List Value} (h : w.ownsRow base e size v n xs) : ∃ ao cap, v = .slice ao n cap ∧ (0 < n → ∃ g, ao = some ⟨g, 0, none⟩ ∧ base ≤ g ∧ g < w.heap.size) := by
  rcases h.2 with ⟨hv, h0⟩ | ⟨g, cap, cur, hv, hb, hg, _⟩
  · exact ⟨none, 0, by rw [hv, h0], fun hn => by omega⟩
  · exact ⟨_, cap, hv, fun _ => ⟨g, rfl, hb, (Array.getElem?_eq_some_iff.1 hg).1⟩⟩
theorem mkcs_get : ∀ (ms : List Mk) (k j : Nat) (m : Mk), ms[k]? = some m → j < 4 → (mkcs ms)[k * 4 + j]? = (mkc m)[j]?
  | [], k, j, m, h, _ => by simp at h
  | x :: ms, 0, j, m, h, hj => by
    simp at h; subst h
    show (mkc x ++ mkcs ms)[0 * 4 + j]? = _
    rw [Nat.zero_mul, Nat.zero_add, List.getElem?_append_left (by simpa [mkc] using hj)]
  | x :: ms, k + 1, j, m, h, hj => by
    simp at h
    show (mkc x ++ mkcs ms)[(k + 1) * 4 + j]? = _
    rw [List.getElem?_append_right (by simp [mkc]; omega)]
    rw [show (k + 1) * 4 + j - (mkc x).length = k * 4 + j by simp [mkc]; omega]
    exact mkcs_get ms k j m h hj
/-- What stands in the list of marks, cell by cell. -/
theorem marks_cells {w : World} {B : Nat} {v : Value} {ms : List Mk} (h : w.ownsRow B 50 4 v ms.length (mkcs ms)) : ∃ ao cap, v = .slice ao ms.length cap ∧
    ∀ (k : Nat) (m : Mk), ms[k]? = some m → ∃ g, ao = some ⟨g, 0, none⟩ ∧ g < w.heap.size ∧ w.cell? ⟨g, k * 4, none⟩ = some (.int .i64 m.pl) ∧ w.cell? ⟨g, k * 4 + 1, none⟩ = some (.int .i64 m.wd) ∧ w.cell? ⟨g, k * 4 + 2, none⟩ = some (.int .i32 m.ru) ∧ w.cell? ⟨g, k * 4 + 3, none⟩ = some (.bool m.bad) := by
  obtain ⟨ao, cap, rfl, hao⟩ := owns_form h
  refine ⟨ao, cap, rfl, fun k m hk => ?_⟩
  have hkl : k < ms.length := (List.getElem?_eq_some_iff.1 hk).1
  obtain ⟨g, hg, hg0, hg1⟩ := hao (by omega)
  have hc : ∀ j u, j < 4 → (mkc m)[j]? = some u → w.cell? ⟨g, k * 4 + j, none⟩ = some u := fun j u hj hu => by
    have hc := h.cells (g := g) (by rw [hg]; rfl) (k * 4 + j) u (by rw [mkcs_get ms k j m hk hj]; exact hu)
    rw [show (⟨g, 0, none⟩ : Addr).add (k * 4 + j) = ⟨g, k * 4 + j, none⟩ by unfold Addr.add; split <;> simp_all] at hc
    exact hc
  exact ⟨g, hg, hg1, by simpa using hc 0 _ (by omega) rfl, hc 1 _ (by omega) rfl, hc 2 _ (by omega) rfl, hc 3 _ (by omega) rfl⟩


set_option maxHeartbeats 1000000 in
theorem same_any (B1 B2 : Nat) (va vb : Value) (ms : List Mk) (w : World) (ha : w.ownsRow B1 50 4 va ms.length (mkcs ms)) (hb : w.ownsRow B2 50 4 vb ms.length (mkcs ms)) (hl : ms.length ≤ 1000000000) :
    Calls Tryd.prog 12 #[va, vb] w fun e w' => e = .returned (.bool true) ∧ Below w.heap.size w w' := by
  obtain ⟨ao, acap, rfl, hca⟩ := marks_cells ha
  obtain ⟨bo, bcap, rfl, hcb⟩ := marks_cells hb
  have HCA := hid hca
  have HCB := hid hcb
  clear hca hcb ha hb
  go_enter Tryd.func12, Tryd.ntmps12
  go_wp2
  go_loopw [5] (fun i wr => ∃ k : Nat, k ≤ ms.length ∧ i = .int .i64 k ∧ Below w.heap.size w wr) (fun i _ => ms.length - (intOf i).toNat)
  case atStart => exact ⟨0, by omega, rfl, Below.refl _ _⟩
  case round =>
    obtain ⟨k, hk, rfl, hB⟩ := hrel
    by_cases hlt : k < ms.length
    · obtain ⟨g, rfl, hg1, a0, a1, a2, a3⟩ := HCA.out k ms[k] (List.getElem?_eq_getElem hlt)
      obtain ⟨h, rfl, hh1, b0, b1, b2, b3⟩ := HCB.out k ms[k] (List.getElem?_eq_getElem hlt)
      have a0' := (hB.cell (p := ⟨g, k * 4, none⟩) hg1).trans a0
      have a1' := (hB.cell (p := ⟨g, k * 4 + 1, none⟩) hg1).trans a1
      have a2' := (hB.cell (p := ⟨g, k * 4 + 2, none⟩) hg1).trans a2
      have a3' := (hB.cell (p := ⟨g, k * 4 + 3, none⟩) hg1).trans a3
      have b0' := (hB.cell (p := ⟨h, k * 4, none⟩) hh1).trans b0
      have b1' := (hB.cell (p := ⟨h, k * 4 + 1, none⟩) hh1).trans b1
      have b2' := (hB.cell (p := ⟨h, k * 4 + 2, none⟩) hh1).trans b2
      have b3' := (hB.cell (p := ⟨h, k * 4 + 3, none⟩) hh1).trans b3
      generalize ms[k].pl = z0 at *
      generalize ms[k].wd = z1 at *
      generalize ms[k].ru = z2 at *
      generalize ms[k].bad = z3 at *
      clear a0 a1 a2 a3 b0 b1 b2 b3
      go_wp2_with fail
      go_region
      go_wp2
      go_roundw
      case rel => exact ⟨k + 1, by omega, by go_num, hB.drew⟩
      case measure => simp [intOf]; omega
    · go_wp2
      go_ret
      exact ⟨rfl, hB⟩
end Go.Proofs.YtflehkdijfhmgabDoor
