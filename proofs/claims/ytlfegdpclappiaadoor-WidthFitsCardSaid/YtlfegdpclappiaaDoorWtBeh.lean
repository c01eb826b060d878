/- The contract of behind (package width): the column behind a letter. -/
import Derived.Test.YtlfegdpclappiaaDoorWtLet
namespace Go.Proofs.YtlfegdpclappiaaDoor
open Go.RowKit

theorem rcel_bd (a r : Int) (ha : a = 1 ∨ a = 2) : 0 ≤ rcel a r ∧ rcel a r ≤ 2 := by
  unfold rcel
  rcases ha with rfl | rfl <;> (repeat' split) <;> constructor <;> decide
theorem stp_bd (f a m : Int) (r : Nat) (ha : a = 1 ∨ a = 2) (h0 : 0 ≤ m) (h2 : m ≤ 2) : 0 ≤ stp f a m r ∧ stp f a m r ≤ 2 := by
  have := rcel_bd a r ha
  unfold stp
  split <;> omega
theorem mfl_bd (f a : Int) (ha : a = 1 ∨ a = 2) : ∀ (X : List (Nat × Nat)) (m : Int), 0 ≤ m → m ≤ 2 → 0 ≤ mfl f a m X ∧ mfl f a m X ≤ 2
  | [], m, h0, h2 => ⟨h0, h2⟩
  | x :: X, m, h0, h2 => by
    have := stp_bd f a m x.1 ha h0 h2
    rw [mfl_cons]
    exact mfl_bd f a ha X _ this.1 this.2
theorem lcR_bd (a : Int) (ha : a = 1 ∨ a = 2) (X : List (Nat × Nat)) : 0 ≤ lcR a X ∧ lcR a X ≤ 2 := by
  unfold lcR
  split
  · constructor <;> decide
  · exact mfl_bd _ a ha X 0 (by decide) (by decide)
/-- The column behind a letter. -/
def bhd (a t c : Int) (l : List UInt8) : Int := if elR (dec l).1 = true then 0 else if byt l 0 = 9 then (c / t + 1) * t else c + lcR a (rl l)
theorem tab_bd (t c : Int) (h1 : 1 ≤ t) (h2 : t ≤ 64) : c < (c / t + 1) * t ∧ (c / t + 1) * t ≤ c + 64 := by
  have e := Int.emod_add_mul_ediv c t
  have m1 := Int.emod_nonneg c (show t ≠ 0 by omega)
  have m2 := Int.emod_lt_of_pos c (show 0 < t by omega)
  rw [Int.add_mul, Int.one_mul, Int.mul_comm]
  omega
theorem bhd_bd (a t s c : Int) (l : List UInt8) (h : Okc a t s) (h0 : 0 ≤ c) : 0 ≤ bhd a t c l ∧ bhd a t c l ≤ c + 64 := by
  have h1 := lcR_bd a h.a (rl l)
  have h2 := tab_bd t c h.t1 h.t2
  unfold bhd
  split
  · omega
  split
  · omega
  · omega
theorem below_drN {B : Nat} {a w : World} (h : Below B a w) (n : Nat) : Below B a (w.drewN n) := h.trans ⟨rfl, rfl, rfl, Nat.le_refl _, fun _ _ => rfl⟩
set_option maxHeartbeats 4000000 in
theorem wbehind_any (l : List UInt8) (c a t s : Int) (w : World) (ht : TbW w) (hl : l.length ≤ 1000000000) (hne : 0 < l.length) (hk : Okc a t s) (h0 : 0 ≤ c) (hc : c ≤ 1000000000000) :
    Calls Tryd.prog 47 #[.string ⟨l.toArray⟩, .int .i64 c, .agg #[.int .i64 a, .int .i64 t, .int .i64 s]] w fun e w' => e = .returned (.int .i64 (bhd a t c l)) ∧ Below w.heap.size w w' := by
  have HT := hid ht
  have HK := hid hk
  have htb := tab_bd t c hk.t1 hk.t2
  have hlc := lcR_bd a hk.a (rl l)
  have hdv : 0 ≤ c / t ∧ c / t ≤ c := ⟨Int.ediv_nonneg h0 (by have := hk.t1; omega), Int.ediv_le_self _ h0⟩
  have ht1 := hk.t1
  have ht2 := hk.t2
  have hB0 : Below w.heap.size w (w.alloc (.cells #[.int .i64 a, .int .i64 t, .int .i64 s] 36)) := (Below.refl _ _).alloc (Nat.le_refl _) _
  have hbx : (w.alloc (.cells #[.int .i64 a, .int .i64 t, .int .i64 s] 36)).heap[w.heap.size]? = some (.cells #[.int .i64 a, .int .i64 t, .int .i64 s] 36 (0, 0)) := World.alloc_heap_new w _
  have hsz0 : (w.alloc (.cells #[.int .i64 a, .int .i64 t, .int .i64 s] 36)).heap.size = w.heap.size + 1 := by simp
  clear ht hk
  go_enter Tryd.func47, Tryd.ntmps47
  go_wp2_with fail
  obtain ⟨w0, hw0⟩ : ∃ w0, w0 = w.alloc (.cells #[.int .i64 a, .int .i64 t, .int .i64 s] 36) := ⟨_, rfl⟩
  rw [← hw0] at hB0 hbx hsz0 ⊢
  have HT0 := hid (HT.out.below hB0)
  clear hw0
  refine (wends_any l w0 HT0.out).mono ?_
  rintro e w1 ⟨rfl, be1⟩
  have HT1 := hid (HT0.out.below be1)
  have hbx1 := (be1.block w.heap.size (by omega)).trans hbx
  have HB1 := hid (hB0.trans (be1.mono hB0.size))
  obtain ⟨v, hv⟩ : ∃ v, v = elR (dec l).1 := ⟨_, rfl⟩
  have HV := hid hv
  rw [← hv]
  have hs1 : w.heap.size < w1.heap.size := (Array.getElem?_eq_some_iff.1 hbx1).1
  clear be1 hbx hB0 hsz0 hv HT0
  cases v with
  | true =>
    have HE := hid (show bhd a t c l = 0 by unfold bhd; rw [if_pos HV.out.symm])
    go_wp2
    go_ret
    exact ⟨by rw [HE.out]; rfl, HB1.out⟩
  | false =>
    have hnv : ¬ elR (dec l).1 = true := by rw [← HV.out]; simp
    go_wp2_with fail
    refine (wtab_any l w1 hne).mono ?_
    rintro e w2 ⟨rfl, hw2⟩
    obtain rfl := hw2.symm
    clear hw2
    have c0 : w1.cell? ⟨w.heap.size, 0, none⟩ = some (.int .i64 a) := by simp [World.cell?, hbx1]
    have c1 : w1.cell? ⟨w.heap.size, 1, none⟩ = some (.int .i64 t) := by simp [World.cell?, hbx1]
    have c2 : w1.cell? ⟨w.heap.size, 2, none⟩ = some (.int .i64 s) := by simp [World.cell?, hbx1]
    have HBX := hid hbx1
    by_cases h9 : byt l 0 = 9
    · have HE := hid (show bhd a t c l = (c / t + 1) * t by unfold bhd; rw [if_neg hnv, if_pos h9])
      have b9 : (byt l 0 == 9) = true := beq_iff_eq.2 h9
      rw [b9]
      clear h9 b9 hnv hbx1
      go_wp2
      go_quiet (fail)
      go_wp2
      go_ret
      exact ⟨by rw [HE.out]; rfl, below_drN HB1.out _⟩
    · have HE := hid (show bhd a t c l = c + lcR a (rl l) by unfold bhd; rw [if_neg hnv, if_neg h9])
      have b9 : (byt l 0 == 9) = false := beq_eq_false_iff_ne.2 h9
      rw [b9]
      clear h9 b9 hnv hbx1
      go_wp2_with fail
      refine (wletter_any l a t s w1 HT1.out hl).mono ?_
      rintro e w3 ⟨rfl, be3⟩
      have HB3 := hid (HB1.out.trans (be3.mono (by omega)))
      obtain ⟨k, hk⟩ : ∃ k, k = lcR a (rl l) := ⟨_, rfl⟩
      rw [← hk] at hlc HE ⊢
      clear hk be3 c0 c1 c2
      go_wp2
      go_ret
      exact ⟨by rw [HE.out]; rfl, HB3.out⟩
end Go.Proofs.YtlfegdpclappiaaDoor
