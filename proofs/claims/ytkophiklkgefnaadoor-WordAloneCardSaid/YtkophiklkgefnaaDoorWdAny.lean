/- The classes of words: the database and what it names. -/
import Derived.Test.YtkophiklkgefnaaDoorDbAny
import Derived.Test.YtkophiklkgefnaaDoorWdDb
namespace Go.Proofs.YtkophiklkgefnaaDoor.Dc
open Go.RowKit
/-- The names of the classes of words. -/
def wdN (c : Int) : List UInt8 := wdU.getD c.toNat []
set_option maxRecDepth 100000 in
theorem wdP_len : wdP.length ≤ 12000 := by decide +kernel
theorem named_wd (Q : Nat) (r : Nat) (w : World) (h : Bk wdU wdW Q w) (hr : r ≤ 1114111) :
    Calls Tryd.prog 16 #[.pointer (some ⟨Q, 0, none⟩), .int .i32 (r : Int)] w fun e w' => e = .returned (.string ⟨(wdN (wdcls (r : Int))).toArray⟩) ∧ Below w.heap.size w w' := by
  have e1 : instd (r : Int) = (r : Int) := by unfold instd; rw [if_neg (by omega)]
  have e2 := wd_get (r : Int) (by omega) (by omega)
  have e3 : gtp (instd (r : Int)) wdW < wdU.length := by
    obtain ⟨i1, i2⟩ := instd_in (r : Int)
    exact gtp_lt wdW _ wd_cov wd_cls _ i1 i2
  refine named12 wdU wdW Q r w h wd_cov wd_cls (by decide) (by decide +kernel) _ ?_
  rw [e1] at e3 ⊢
  unfold wdN
  rw [e2, Int.toNat_natCast, List.getD_eq_getElem?_getD, List.getElem?_eq_getElem e3]
  rfl
set_option maxRecDepth 100000 in
theorem db12 (w : World) : Calls Tryd.prog 14 #[] w fun e w' => Below w.heap.size w w' ∧ ∃ Q, e = .returned (.pointer (some ⟨Q, 0, none⟩)) ∧ Bk wdU wdW Q w' := by
  go_enter Tryd.func14, Tryd.ntmps14
  go_wp2_with fail
  refine (rnew_eq _ wdP w (by kernel_rfl) (.inl wdP_len) wdU wdS wdW wd_nw wd_whl).mono ?_
  rintro e w1 ⟨hb, Q, rfl, hk⟩
  have HB := hid hb
  have HK := hid hk
  clear hb hk
  go_wp2
  go_ret
  exact ⟨HB.out, Q, rfl, HK.out⟩
end Go.Proofs.YtkophiklkgefnaaDoor.Dc
