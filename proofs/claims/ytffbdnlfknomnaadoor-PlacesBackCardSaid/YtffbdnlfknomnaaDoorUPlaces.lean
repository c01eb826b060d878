/- The contracts of Back and On (package utf). -/
import Derived.Test.YtffbdnlfknomnaaDoorUBeg
namespace Go.Proofs.YtffbdnlfknomnaaDoor.Wt
open Go.RowKit

theorem begin_eq (l : List UInt8) (p : Nat) (z : Int) (w : World) (hz : z = p) (hp : p < l.length) (hl : l.length ≤ 1000000000000) (hT : Lib.Utf8Tabs 0 1 w) (h2 : 2 ≤ w.heap.size) :
    Calls Tryd.prog 82 #[.string ⟨l.toArray⟩, .int .i64 z] w fun e w' => e = .returned (.int .i64 (bgF l p 4)) ∧ Below w.heap.size w w' := by
  subst hz
  exact begin_any l p w hp hl hT h2

set_option maxHeartbeats 400000 in
theorem back_any (l : List UInt8) (p : Int) (w : World) (hl : l.length ≤ 1000000000000) (hT : Lib.Utf8Tabs 0 1 w) (h2 : 2 ≤ w.heap.size) :
    Calls Tryd.prog 104 #[.string ⟨l.toArray⟩, .int .i64 p] w fun e w' => e = .returned (.int .i64 (backE l p)) ∧ Below w.heap.size w w' := by
  have HT := hid hT
  clear hT
  by_cases h1 : p ≤ 0
  · have HR := hid (show backE l p = 0 from if_pos h1)
    go_enter Tryd.func104, Tryd.ntmps104
    go_wp2
    go_ret
    exact ⟨by rw [HR.out]; rfl, Below.refl _ _⟩
  by_cases h3 : (l.length : Int) < p
  · have HR := hid (show backE l p = l.length from (if_neg h1).trans (if_pos h3))
    go_enter Tryd.func104, Tryd.ntmps104
    go_wp2
    go_ret
    exact ⟨by rw [HR.out]; rfl, Below.refl _ _⟩
  · have HR := hid (show backE l p = bgF l (p.toNat - 1) 4 from (if_neg h1).trans (if_neg h3))
    go_enter Tryd.func104, Tryd.ntmps104
    go_wp2_with (go_at_call 82; refine (begin_eq l (p.toNat - 1) _ _ (by omega) (by omega) hl (by exact HT.out) (by exact h2)).mono ?_; rintro e w1 ⟨rfl, hb⟩)
    go_ret
    exact ⟨by rw [HR.out]; rfl, hb⟩

theorem bgF_lt (l : List UInt8) (q : Nat) (hq : q < l.length) : bgF l q 4 < l.length := by
  obtain ⟨e, U, V, _, _, h1, _, h3, _⟩ := edg_parts l q hq
  omega

set_option maxHeartbeats 400000 in
theorem on_any (l : List UInt8) (p : Int) (w : World) (hl : l.length ≤ 1000000000000) (hT : Lib.Utf8Tabs 0 1 w) (h2 : 2 ≤ w.heap.size) :
    Calls Tryd.prog 88 #[.string ⟨l.toArray⟩, .int .i64 p] w fun e w' => e = .returned (.int .i64 (onE l p)) ∧ Below w.heap.size w w' := by
  have HT := hid hT
  clear hT
  by_cases h1 : p < 0
  · have HR := hid (show onE l p = 0 from if_pos h1)
    go_enter Tryd.func88, Tryd.ntmps88
    go_wp2
    go_ret
    exact ⟨by rw [HR.out]; rfl, Below.refl _ _⟩
  by_cases h3 : (l.length : Int) ≤ p
  · have HR := hid (show onE l p = l.length from (if_neg h1).trans (if_pos h3))
    go_enter Tryd.func88, Tryd.ntmps88
    go_wp2
    go_ret
    exact ⟨by rw [HR.out]; rfl, Below.refl _ _⟩
  · have HR := hid (show onE l p = (bgF l p.toNat 4 : Int) + wid l (bgF l p.toNat 4) from (if_neg h1).trans (if_neg h3))
    have hlt := bgF_lt l p.toNat (by omega)
    have h4 := wid_le4 l (bgF l p.toNat 4)
    unfold wid at h4
    go_enter Tryd.func88, Tryd.ntmps88
    go_wp2_with fail
    refine (begin_eq l p.toNat _ _ (by omega) (by omega) hl (by exact HT.out) (by exact h2)).mono ?_
    rintro e w1 ⟨rfl, hb⟩
    have HT1 := hid (tabs_below HT.out h2 hb)
    obtain ⟨f, hf⟩ : ∃ f, f = bgF l p.toNat 4 := ⟨_, rfl⟩
    rw [← hf] at hlt h4 ⊢
    have HF := hid hf
    clear hf
    go_wp2_with fail
    refine (decode_eq _ (l.drop f) _ (ext_drop l f) (by exact HT1.out)).mono ?_
    rintro e w2 ⟨rfl, hb2⟩
    have HW := hid (show wid l f = (dec (l.drop f)).2 from rfl)
    generalize (dec (l.drop f)).1 = rr at *
    generalize (dec (l.drop f)).2 = nn at *
    have HB := hid (hb.trans (hb2.mono hb.size))
    clear hb hb2
    go_wp2
    go_ret
    exact ⟨by rw [HR.out, ← HF.out, HW.out]; rfl, HB.out⟩

end Go.Proofs.YtffbdnlfknomnaaDoor.Wt
