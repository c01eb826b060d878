/- The contracts of Text and Width (package utf). -/
import Derived.Test.YtflehkdijfhmgaaDoorTxtMath
import Derived.Test.YtflehkdijfhmgaaDoorAlike
import Derived.Laws.Cover4
namespace Go.Proofs.YtflehkdijfhmgaaDoor
open Go.RowKit

theorem foldl_bytes : ∀ (zs : List Int) (b : ByteArray), (zs.foldl (fun b r => b ++ Utf8.encode r) b).data.toList = b.data.toList ++ txt zs
  | [], b => by simp [txt]
  | z :: zs, b => by
    rw [List.foldl_cons, foldl_bytes zs]
    simp [txt, enc]
theorem runesBytes_txt (zs : List Int) : runesBytes zs = ⟨(txt zs).toArray⟩ := by
  have h := foldl_bytes zs .empty
  apply ByteArray.ext
  apply Array.ext'
  unfold runesBytes
  rw [h]
  simp

theorem conv_runes (v : Value) (E : List Int) (w : World) (hv : Reads .i32 w v E) : (convert 27 9 v).run Tryd.prog w = .ok (.string ⟨(txt E).toArray⟩) w := by
  obtain ⟨ao, cap, rfl, hc⟩ := hv
  cases ao with
  | none =>
    have : E = [] := by
      cases E with
      | nil => rfl
      | cons x xs => obtain ⟨g, o, h, _⟩ := hc 0 x rfl; cases h
    subst this
    exact run_convert_runes_nil w 27 9 21 0 cap Tryd.underlying27 Tryd.underlying21 Tryd.underlying9
  | some a =>
    rw [run_convert_runes w 27 9 21 a E.length cap E (Nat.le_refl _) Tryd.underlying27 Tryd.underlying21 Tryd.underlying9 (fun j hj => ?_), List.take_length, runesBytes_txt]
    obtain ⟨g, o, h, _, h2⟩ := hc j E[j] (List.getElem?_eq_getElem hj)
    injection h with h
    subst h
    rw [show (⟨g, o, none⟩ : Addr).add j = ⟨g, o + j, none⟩ by unfold Addr.add; split <;> simp_all, h2]
    simp [List.getD, hj]

set_option maxHeartbeats 400000 in
theorem text_any (v : Value) (E : List Int) (w : World) (hv : Reads .i32 w v E) :
    Calls Tryd.prog 28 #[v] w fun e w' => e = .returned (.string ⟨(txt E).toArray⟩) ∧ w = w' := by
  have hcv := conv_runes v E w hv
  obtain ⟨ao, cap, rfl, hc⟩ := hv
  clear hc
  generalize txt E = S at *
  go_enter Tryd.func28, Tryd.ntmps28
  go_wp2
  go_ret
  exact ⟨rfl, rfl⟩

set_option maxHeartbeats 400000 in
theorem uwidth_any (r : Int) (w : World) :
    Calls Tryd.prog 29 #[.int .i32 r] w fun e w' => e = .returned (.int .i64 (widI r)) ∧ w = w' := by
  cases hr : isR r with
  | false =>
    have HW := hid (show widI r = 0 by simp [widI, hr])
    have hh : ¬ (0 ≤ r ∧ r ≤ 1114111 ∧ (r < 55296 ∨ 57343 < r)) := fun e => by rw [(isR_iff r).2 e] at hr; cases hr
    by_cases h1 : r < 0
    · clear hh hr
      go_enter Tryd.func29, Tryd.ntmps29
      go_wp2
      go_ret
      exact ⟨by rw [HW.out]; rfl, rfl⟩
    · by_cases h2 : 1114111 < r
      · clear hh hr
        go_enter Tryd.func29, Tryd.ntmps29
        go_wp2
        go_ret
        exact ⟨by rw [HW.out]; rfl, rfl⟩
      · have h3 : 55296 ≤ r := by omega
        have h4 : r ≤ 57343 := by omega
        clear hh hr
        go_enter Tryd.func29, Tryd.ntmps29
        go_wp2
        go_ret
        exact ⟨by rw [HW.out]; rfl, rfl⟩
  | true =>
    have hh := (isR_iff r).1 hr
    obtain ⟨n, hn⟩ : ∃ n, widI r = n := ⟨_, rfl⟩
    have hn' := hn
    unfold widI at hn'
    rw [if_neg (by rw [hr]; decide)] at hn'
    obtain ⟨g1, g2, g3⟩ := hh
    have HW := hid hn
    clear hn hr
    by_cases h1 : r < 128
    · rw [if_pos h1] at hn'
      subst hn'
      clear g3
      go_enter Tryd.func29, Tryd.ntmps29
      go_wp2
      go_ret
      exact ⟨by rw [HW.out]; rfl, rfl⟩
    · rw [if_neg h1] at hn'
      by_cases h2 : r < 2048
      · rw [if_pos h2] at hn'
        subst hn'
        clear g3
        go_enter Tryd.func29, Tryd.ntmps29
        go_wp2
        go_ret
        exact ⟨by rw [HW.out]; rfl, rfl⟩
      · rw [if_neg h2] at hn'
        rcases g3 with g3 | g3
        · rw [if_pos (by omega)] at hn'
          subst hn'
          go_enter Tryd.func29, Tryd.ntmps29
          go_wp2
          go_ret
          exact ⟨by rw [HW.out]; rfl, rfl⟩
        · by_cases h3 : r < 65536
          · rw [if_pos h3] at hn'
            subst hn'
            go_enter Tryd.func29, Tryd.ntmps29
            go_wp2
            go_ret
            exact ⟨by rw [HW.out]; rfl, rfl⟩
          · rw [if_neg h3] at hn'
            subst hn'
            go_enter Tryd.func29, Tryd.ntmps29
            go_wp2
            go_ret
            exact ⟨by rw [HW.out]; rfl, rfl⟩
end Go.Proofs.YtflehkdijfhmgaaDoor
