/- The contract of Longest (the document's). -/
import Derived.Test.YtmgoedcaeemilaaDoorLong7
namespace Go.Proofs.YtmgoedcaeemilaaDoor
open Go.RowKit

set_option maxHeartbeats 4000000 in
theorem rlongest_any (c : Int) (no to : Option Addr) (n nc m tc : Nat) (R : Rw) (T : List Int) (lo : Option Addr) (ll lc : Nat) (l : List Int) (w : World) (hd : DRd w no n to m R T) (hl : RdI w lo l) (hll : ll = l.length) (hlm : ll ≤ most) (hlc : ll ≤ lc) (hlo : lo = none → lc = 0) :
    Calls Tryd.prog 27 #[.agg #[.int .i64 c, .slice no n nc, .slice to m tc], .slice lo ll lc] w fun e w' => e = .returned (.int .i64 (lon (fun k => tkB c R T (l.take k)) ll)) ∧ Below w.heap.size w w' := by
  obtain ⟨F, hF⟩ : ∃ F : Nat → Bool, F = fun k => tkB c R T (l.take k) := ⟨_, rfl⟩
  rw [← hF]
  have HF := hid hF
  have HD := hid hd
  have HL := hid hl
  have HLL := hid hll
  have HLM := hid hlm
  have HLO := hid hlo
  unfold most at hlm
  clear hd hl hll hF hlo
  go_enter Tryd.func27, Tryd.ntmps27
  go_wp2
  go_loopw [5] (fun x wr => ∃ k : Int, x = .int .i64 k ∧ -1 ≤ k ∧ k ≤ (ll : Int) ∧ Hid (∀ j : Nat, k < (j : Int) → j ≤ ll → F j = false) ∧ Hid (Below (w.heap.size + 1) (w.alloc (.cells #[.int .i64 c, .slice no n nc, .slice to m tc] 32)) wr)) (fun x _ => (intOf x + 1).toNat)
  case atStart => exact ⟨(ll : Int), rfl, by omega, Int.le_refl _, fun j h1 h2 => (by omega), box_self⟩
  case round =>
    obtain ⟨k, rfl, hk0, hk1, HK, HB⟩ := hrel
    obtain ⟨c0, c1, c2⟩ := box3 HB.out
    by_cases k0 : 0 ≤ k
    · obtain ⟨p, rfl⟩ := nat_of k0
      have hbd : Below (w.heap.size + 1) (w.alloc (.cells #[.int .i64 c, .slice no n nc, .slice to m tc] 32)) wr.drew := HB.out.drew
      have HSZ := hid (HB.out.size)
      have hlen : p = (l.take p).length := by rw [List.length_take]; have := HLL.out; omega
      have HT := hid (rtakes_any c no to n nc m tc R T lo p lc (l.take p) wr.drew (HD.out.boxed hbd) ((HL.out.boxed hbd).take p) hlen (by have := HLM.out; omega))
      have HFP := hid (show F p = tkB c R T (l.take p) by rw [HF.out])
      have HBD := hid hbd
      clear hbd hlen
      have i1 : (p : Int) ≤ (lc : Int) := by omega
      have k1 : (p : Int) ≤ (ll : Int) := hk1
      have hpl : p ≤ ll := by omega
      have hpc : p ≤ lc := by omega
      go_wp2_with fail
      refine wp_region_mix [(0, true), (1, true), (2, true), (3, true), (4, false)] (fun w' => w'.cell? ⟨w.heap.size, 0, none⟩ = some (.int .i64 c) ∧ w'.cell? ⟨w.heap.size, 1, none⟩ = some (.slice no n nc) ∧ w'.cell? ⟨w.heap.size, 2, none⟩ = some (.slice to m tc)) (fun _ => false) (by kernel_rfl) (by kernel_rfl) (fun j hj => by cases hj) rfl (by kernel_rfl) ⟨c0, c1, c2⟩ ?_
      iterate 3 (refine mix_free ?_ rfl (by kernel_rfl) (fun w' hS => ?_) ?_; (rotate_left; (obtain ⟨s1, s2, s3⟩ := hS; go_simp; with_reducible rfl); rotate_left))
      refine mix_free (.slice lo p lc) rfl (by kernel_rfl) (fun w' hS => ?_) ?_
      · cases lo with
        | none =>
          have e0 : lc = 0 := HLO.out rfl
          subst e0
          have e1 : p = 0 := by omega
          subst e1
          go_simp
        | some a => go_simp
      refine mix_go rfl (by kernel_rfl) fun KK hKK => ?_
      go_simp
      refine HT.out.mono ?_
      rintro e w2 ⟨rfl, b2⟩
      have HB3 := hid (HBD.out.trans (b2.mono (by have := HSZ.out; simp at this; show w.heap.size + 1 ≤ wr.heap.size; omega)))
      clear b2 HT
      refine hKK _ _ (fun _ => box3 HB3.out) ?_
      clear hKK KK
      refine mix_end (NoPanic.normal ?_)
      rcases bool_cases (tkB c R T (l.take p)) with ht | ht
      · have HX := hid (show lon F ll = (p : Int) by
          rw [lon_up hpl (fun j h1 h2 => HK.out j (by omega) h2)]
          exact lon_yes (HFP.out.trans ht))
        rw [ht]
        clear ht
        go_simp
        go_wp2
        go_ret
        exact ⟨by rw [HX.out]; rfl, box_trans HB3.out⟩
      · have HK2 := hid (show ∀ j : Nat, (p : Int) - 1 < (j : Int) → j ≤ ll → F j = false from fun j h1 h2 => by
          by_cases e : j = p
          · subst e; exact HFP.out.trans ht
          · exact HK.out j (by omega) h2)
        rw [ht]
        clear ht
        go_simp
        go_wp2
        go_roundw
        case rel => exact ⟨(p : Int) - 1, by go_num, by omega, by omega, HK2, HB3⟩
        case measure => simp [intOf]
    · have HX := hid (show lon F ll = -1 by
        rw [lon_up (k := 0) (Nat.zero_le _) (fun j h1 h2 => HK.out j (by omega) h2)]
        exact lon_no0 (HK.out 0 (by omega) (Nat.zero_le _)))
      go_wp2
      go_ret
      exact ⟨by rw [HX.out]; rfl, box_trans HB.out⟩
end Go.Proofs.YtmgoedcaeemilaaDoor
