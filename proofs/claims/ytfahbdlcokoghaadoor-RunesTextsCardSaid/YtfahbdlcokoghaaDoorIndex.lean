/- The contract of Index (package runes); the walk of RunesCounts. -/
import Derived.Test.YtfahbdlcokoghaaDoorCounts
namespace Go.Proofs.YtfahbdlcokoghaaDoor
open Go.RowKit

theorem nrm_of_nf {l : List Rg} (h : nf l) : nrm l = l := ((nrm_same l).2 h).symm
theorem count_eq (ao : Option Addr) (n ac : Nat) (l : List Rg) (c : Int) (hn : n = l.length) (hc : cntF (nrm l) = c) (w : World) (ha : RdR w ao l) (hl : l.length ≤ 100000) :
    Calls Tryd.prog 31 #[.slice ao n ac] w fun e w' => e = .returned (.int .i64 c) ∧ Below w.heap.size w w' := by
  subst hn hc; exact count_any ao ac l w ha hl

set_option maxRecDepth 100000 in
set_option maxHeartbeats 3000000 in
theorem index_any (ao : Option Addr) (ac : Nat) (l : List Rg) (r : Int) (w : World) (ha : RdR w ao l) (hl : l.length ≤ 100000) (hr0 : -2147483648 ≤ r) (hr1 : r ≤ 2147483647) :
    Calls Tryd.prog 29 #[.slice ao l.length ac, .int .i32 r] w fun e w' => e = .returned (twoI (idxN l r)) ∧ Below w.heap.size w w' := by
  have HSO := hid (norm_any ao ac l w ha hl)
  clear ha
  go_enter Tryd.func29, Tryd.ntmps29
  go_wp2_with fail
  refine HSO.out.mono ?_
  rintro e w1 ⟨v, rfl, o1, hb1⟩
  obtain ⟨so, sc, rfl, hrd⟩ := rdr_row o1
  have hsc : (nrm l).length ≤ sc ∧ sc ≤ 9223372036854775807 := by
    rcases o1.2 with ⟨h1, h2⟩ | ⟨g, cap, cur, h1, _, _, h4, h5, _⟩
    · injection h1 with _ _ h3; omega
    · injection h1 with _ _ h3; unfold maxLen at h5; omega
  have hsl := nrm_len l
  have HNF := hid (nrm_nf l)
  have HIX := hid (show idxN l r = idxF (nrm l) 0 r from rfl)
  obtain ⟨s, hs⟩ : ∃ s, nrm l = s := ⟨_, rfl⟩
  rw [hs] at HNF hrd hsl hsc HIX ⊢
  have HRD := hid hrd
  have HB1 := hid hb1
  have hs5 : s.length ≤ 100000 := by omega
  have HF := hid (find_any so sc s r w1 hrd hs5 HNF.out)
  clear hrd hb1 HSO o1 hs
  go_wp2_with fail
  refine HF.out.mono ?_
  rintro e w2 ⟨k, rfl, hk, hb2⟩
  have HB2 := hid (HB1.out.trans (hb2.mono HB1.out.size))
  have HR2 := hid (HRD.out.below hb2)
  clear hb2 HF HRD
  cases hh : hasB r s with
  | false =>
    have HZ := hid (idx_none 0 hh)
    clear hh hk
    go_wp2
    go_ret2
    exact ⟨by rw [HIX.out, HZ.out]; rfl, HB2.out⟩
  | true =>
    obtain ⟨g, hg, g1, g2⟩ := hk hh
    have hks : k < s.length := (List.getElem?_eq_some_iff.1 hg).1
    have HZ := hid (idx_here 0 HNF.out hg g1 g2)
    obtain ⟨n1, n2, n3⟩ := nf_at HNF.out hg
    unfold top at n3
    obtain ⟨a, rfl, hab, c0, c1⟩ := HR2.out k g hg
    have bd := cnt_take_bd HNF.out k
    have hlk : (s.take k).length = k := by rw [List.length_take]; omega
    have HC := hid (fun W (hW : Below w2.heap.size w2 W) => count_eq (some a) k sc (s.take k) (cntF (s.take k)) hlk.symm (by rw [nrm_of_nf (nfF_take k HNF.out)]) W (fun j x hj => (HR2.out.below hW) j x (by
      have hjl := (List.getElem?_eq_some_iff.1 hj).1
      rw [List.getElem?_take] at hj
      split at hj
      · exact hj
      · cases hj)) (by omega))
    obtain ⟨c, hc⟩ : ∃ c, c = cntF (s.take k) := ⟨_, rfl⟩
    rw [← hc] at HC HZ bd
    obtain ⟨f0, f1⟩ := g
    dsimp only at g1 g2 n1 n2 n3 c0 c1 HZ
    have e5 : IntKind.i32.wrap (r - f0) = r - f0 := by rw [IntKind.wrap_i32]; omega
    have e6 : IntKind.i64.wrap (r - f0) = r - f0 := by rw [IntKind.wrap_i64]; omega
    have e7 : IntKind.i64.wrap (c + (r - f0)) = c + (r - f0) := by rw [IntKind.wrap_i64]; omega
    have k1 : (k : Int) < (s.length : Int) := by omega
    have k2 : (0 : Int) ≤ (k : Int) := by omega
    have k3 : (k : Int) ≤ (sc : Int) := by omega
    have k4 : k ≤ sc := by omega
    have HC0 := hid (show ∀ W, Below w2.heap.size w2 W → W.cell? (a.add (k * 2)) = some (.int .i32 f0) from fun W hW => (hW.cell (p := a.add (k * 2)) (by rw [add_blk]; exact hab)).trans c0)
    clear hc hlk hk hh hg HR2 c1
    go_wp2_with fail
    go_region_held3 (fun W => W.cell? (a.add (k * 2)) = some (.int .i32 f0))
      (first | (exact HC0.out _ hyB.out) | (exact HC0.out _ (Below.refl _ _).drew) | go_keep)
      ((go_at_call 31; refine (HC.out _ (by exact (Below.refl _ _).drew)).mono ?_; rintro e w3 ⟨rfl, hy'⟩; have hyB := hid ((Below.refl w2.heap.size w2).drew.trans (hy'.mono (Nat.le_refl _))); clear hy'))
    go_wp2
    go_ret2
    exact ⟨by rw [HIX.out, HZ.out, Int.zero_add]; rfl, HB2.out.trans (hyB.out.mono HB2.out.size)⟩
end Go.Proofs.YtfahbdlcokoghaaDoor
