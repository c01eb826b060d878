/- The contracts of Back and On (package utf). -/
import Derived.Test.YtffbdnlfknomnaaDoorUBeg
import Derived.Test.YtffbdnlfknomnaaDoorGrEach
import Derived.Test.YtffbdnlfknomnaaDoorGrLaw
import Derived.Test.YtffbdnlfknomnaaDoorRngQJoint
namespace Go.Proofs.YtffbdnlfknomnaaDoor.Wt
open Go.RowKit

theorem begin_eq (l : List UInt8) (p : Nat) (z : Int) (w : World) (hz : z = p) (hp : p < l.length) (hl : l.length ≤ 1000000000000) (hT : Lib.Utf8Tabs 0 1 w) (h2 : 2 ≤ w.heap.size) :
    Calls Tryd.prog 82 #[.string ⟨l.toArray⟩, .int .i64 z] w fun e w' => e = .returned (.int .i64 (bgF l p 4)) ∧ Below w.heap.size w w' := by
  subst hz
  exact begin_any l p w hp hl hT h2

set_option maxHeartbeats 400000 in
theorem back_any (l : List UInt8) (p : Int) (w : World) (hl : l.length ≤ 1000000000000) (hT : Lib.Utf8Tabs 0 1 w) (h2 : 2 ≤ w.heap.size) :
    Calls Tryd.prog 104 #[.string ⟨l.toArray⟩, .int .i64 p] w fun e w' => e = .returned (.int .i64 (backE l p)) ∧ Below w.heap.size w w' := by
  have HT := hid hT
  clear hT
  by_cases h1 : p ≤ 0
  · have HR := hid (show backE l p = 0 from if_pos h1)
    go_enter Tryd.func104, Tryd.ntmps104
    go_wp2
    go_ret
    exact ⟨by rw [HR.out]; rfl, Below.refl _ _⟩
  by_cases h3 : (l.length : Int) < p
  · have HR := hid (show backE l p = l.length from (if_neg h1).trans (if_pos h3))
    go_enter Tryd.func104, Tryd.ntmps104
    go_wp2
    go_ret
    exact ⟨by rw [HR.out]; rfl, Below.refl _ _⟩
  · have HR := hid (show backE l p = bgF l (p.toNat - 1) 4 from (if_neg h1).trans (if_neg h3))
    go_enter Tryd.func104, Tryd.ntmps104
    go_wp2_with (go_at_call 82; refine (begin_eq l (p.toNat - 1) _ _ (by omega) (by omega) hl (by exact HT.out) (by exact h2)).mono ?_; rintro e w1 ⟨rfl, hb⟩)
    go_ret
    exact ⟨by rw [HR.out]; rfl, hb⟩

theorem bgF_lt (l : List UInt8) (q : Nat) (hq : q < l.length) : bgF l q 4 < l.length := by
  obtain ⟨e, U, V, _, _, h1, _, h3, _⟩ := edg_parts l q hq
  omega

set_option maxHeartbeats 400000 in
theorem on_any (l : List UInt8) (p : Int) (w : World) (hl : l.length ≤ 1000000000000) (hT : Lib.Utf8Tabs 0 1 w) (h2 : 2 ≤ w.heap.size) :
    Calls Tryd.prog 88 #[.string ⟨l.toArray⟩, .int .i64 p] w fun e w' => e = .returned (.int .i64 (onE l p)) ∧ Below w.heap.size w w' := by
  have HT := hid hT
  clear hT
  by_cases h1 : p < 0
  · have HR := hid (show onE l p = 0 from if_pos h1)
    go_enter Tryd.func88, Tryd.ntmps88
    go_wp2
    go_ret
    exact ⟨by rw [HR.out]; rfl, Below.refl _ _⟩
  by_cases h3 : (l.length : Int) ≤ p
  · have HR := hid (show onE l p = l.length from (if_neg h1).trans (if_pos h3))
    go_enter Tryd.func88, Tryd.ntmps88
    go_wp2
    go_ret
    exact ⟨by rw [HR.out]; rfl, Below.refl _ _⟩
  · have HR := hid (show onE l p = (bgF l p.toNat 4 : Int) + wid l (bgF l p.toNat 4) from (if_neg h1).trans (if_neg h3))
    have hlt := bgF_lt l p.toNat (by omega)
    have h4 := wid_le4 l (bgF l p.toNat 4)
    unfold wid at h4
    go_enter Tryd.func88, Tryd.ntmps88
    go_wp2_with fail
    refine (begin_eq l p.toNat _ _ (by omega) (by omega) hl (by exact HT.out) (by exact h2)).mono ?_
    rintro e w1 ⟨rfl, hb⟩
    have HT1 := hid (tabs_below HT.out h2 hb)
    obtain ⟨f, hf⟩ : ∃ f, f = bgF l p.toNat 4 := ⟨_, rfl⟩
    rw [← hf] at hlt h4 ⊢
    have HF := hid hf
    clear hf
    go_wp2_with fail
    refine (decode_eq _ (l.drop f) _ (ext_drop l f) (by exact HT1.out)).mono ?_
    rintro e w2 ⟨rfl, hb2⟩
    have HW := hid (show wid l f = (dec (l.drop f)).2 from rfl)
    generalize (dec (l.drop f)).1 = rr at *
    generalize (dec (l.drop f)).2 = nn at *
    have HB := hid (hb.trans (hb2.mono hb.size))
    clear hb hb2
    go_wp2
    go_ret
    exact ⟨by rw [HR.out, ← HF.out, HW.out]; rfl, HB.out⟩

end Go.Proofs.YtffbdnlfknomnaaDoor.Wt
/- The contract of sure (package grapheme) at any edge. -/
namespace Go.Proofs.YtffbdnlfknomnaaDoor.Wt
open Go.RowKit

theorem glast_any (l : List UInt8) (w : World) (ht : TbW w) (hl : l.length ≤ 1000000000) :
    Calls Tryd.prog 126 #[.string ⟨l.toArray⟩] w fun e w' => e = .returned (.tuple #[.int .i64 (gplast l), .int .i64 (decLast l).2]) ∧ Below w.heap.size w w' := by
  have HT := hid ht
  clear ht
  go_enter Tryd.func126, Tryd.ntmps126
  go_wp2_with fail
  refine (last_any l w (by omega) HT.out.tabs).mono ?_
  rintro e w1 ⟨rfl, be⟩
  have HB := hid be
  clear be
  obtain ⟨r, hr⟩ : ∃ r : Int, r = ((decLast l).1 : Int) := ⟨_, rfl⟩
  obtain ⟨n, hn⟩ : ∃ n : Nat, n = (decLast l).2 := ⟨_, rfl⟩
  have HN := hid hn
  have HV := hid (show gplast l = gpcls r by rw [hr]; rfl)
  rw [← hr, ← hn]
  clear hr hn
  go_wp2_with fail
  refine (gpcls_any r w1).mono ?_
  rintro e w2 ⟨rfl, hw2⟩
  obtain rfl := hw2.symm
  clear hw2
  go_wp2
  go_ret2
  exact ⟨by rw [HV.out, ← HN.out]; rfl, HB.out⟩
/-- How many runes it goes back: the classes ahead, the last first, and the class behind. -/
def srN : List Int → Int → Nat
  | [], _ => 0
  | a :: R, b => if gbt a b = 0 then 0 else srN R a + 1
theorem srN_le : ∀ (R : List Int) (b : Int), srN R b ≤ R.length
  | [], _ => Nat.le_refl _
  | a :: R, b => by
    unfold srN
    have := srN_le R a
    split
    · exact Nat.zero_le _
    · rw [List.length_cons]; omega
theorem srN_no (a b : Int) (R : List Int) (h : gbt a b ≠ 0) : srN (a :: R) b = srN R a + 1 := if_neg h
theorem srN_yes (a b : Int) (R : List Int) (h : gbt a b = 0) : srN (a :: R) b = 0 := if_pos h
/-- The edge that sure answers, by its number of runes. -/
def gsu (l : List UInt8) (k : Nat) : Nat := k - srN ((gcs l).take k).reverse (((gcs l).drop k).headD 3)
theorem take_rev (L : List Int) (j : Nat) (h : j < L.length) : (L.take (j + 1)).reverse = L[j] :: (L.take j).reverse := by
  rw [List.take_succ_eq_append_getElem h, List.reverse_append]; rfl
theorem last_pos (l : List UInt8) (j : Nat) (h : j < (rl l).length) : decLast (l.take (pos l (j + 1))) = (rl l)[j] := by
  have h1 := rl_take l (j + 1) h
  have hp : 0 < pos l (j + 1) := by have := pos_lt l j h; omega
  have hle := pos_le l (j + 1) h
  have hne : l.take (pos l (j + 1)) ≠ [] := fun e => by
    have := congrArg List.length e
    rw [List.length_take] at this
    simp only [List.length_nil] at this
    omega
  rw [rl_snoc _ hne, List.take_succ_eq_append_getElem h] at h1
  have := List.append_inj_right' h1 rfl
  exact (List.cons.inj this).1
theorem pos_back (l : List UInt8) (j : Nat) (h : j < (rl l).length) : pos l (j + 1) = pos l j + ((rl l)[j]).2 := psm_take _ j h
set_option maxHeartbeats 2000000 in
theorem gsure_any (l : List UInt8) (k p : Nat) (w : World) (ht : TbW w) (hl : l.length ≤ 1000000000) (hk : k ≤ (rl l).length) (hp : p = pos l k) :
    Calls Tryd.prog 103 #[.string ⟨l.toArray⟩, .int .i64 p] w fun e w' => e = .returned (.int .i64 (pos l (gsu l k))) ∧ Below w.heap.size w w' := by
  have HT := hid ht
  have HP := hid hp
  have HK := hid hk
  have hpl : p ≤ l.length := by rw [hp]; exact pos_le l k hk
  have HS := hid (show gstep l p = (((gcs l).drop k).headD 3, pos l (k + 1)) by rw [hp]; exact gstep_pos l k hk)
  obtain ⟨b, hb⟩ : ∃ b, b = ((gcs l).drop k).headD 3 := ⟨_, rfl⟩
  obtain ⟨q, hq⟩ : ∃ q, q = pos l (k + 1) := ⟨_, rfl⟩
  have HG := hid (show gsu l k = k - srN ((gcs l).take k).reverse b by rw [hb]; rfl)
  rw [← hb, ← hq] at HS
  clear ht hp hk hb hq
  go_enter Tryd.func103, Tryd.ntmps103
  go_wp2_with fail
  refine (gstep_any l p w HT.out hl hpl).mono ?_
  rintro e w1 ⟨rfl, be⟩
  have HB := hid be
  rw [HS.out]
  simp only []
  clear be HS
  go_wp2
  go_loopw [1, 5] (fun v c wr => ∃ (j r : Nat) (d : Int), v = .int .i64 r ∧ c = .int .i64 d ∧ r ≤ l.length ∧ Hid (r = pos l j) ∧ Hid (j ≤ (rl l).length) ∧ Hid (gsu l k = j - srN ((gcs l).take j).reverse d) ∧ Below w.heap.size w wr) (fun v _ _ => (intOf v).toNat)
  case atStart => exact ⟨k, p, b, rfl, rfl, hpl, HP, HK, HG, HB.out⟩
  case round =>
    obtain ⟨j, r, d, rfl, rfl, hr, HR, HJ, HG1, hBr⟩ := hrel
    have HB1 := hid hBr
    clear hBr HG
    by_cases h0 : 0 < r
    · have h0i : (0 : Int) < (r : Int) := by omega
      obtain ⟨i, hi⟩ : ∃ i, j = i + 1 := ⟨j - 1, by
        have h1 := HR.out
        rcases Nat.eq_zero_or_pos j with h2 | h2
        · rw [h2, pos_0] at h1; omega
        · omega⟩
      subst hi
      have hil : i < (rl l).length := HJ.out
      have HLP := hid (show decLast (l.take r) = (rl l)[i] by rw [HR.out]; exact last_pos l i hil)
      have hpb := pos_back l i hil
      rw [← HR.out] at hpb
      have HTL := hid (show (l.take r).length ≤ 1000000000 by rw [List.length_take]; omega)
      obtain ⟨a, ha⟩ : ∃ a, a = gplast (l.take r) := ⟨_, rfl⟩
      obtain ⟨m, hm⟩ : ∃ m : Nat, m = (decLast (l.take r)).2 := ⟨_, rfl⟩
      have hgi : i < (gcs l).length := by rw [gcs_len]; exact hil
      have HA := hid (show (gcs l)[i] = a by rw [ha]; unfold gplast; rw [HLP.out]; simp [gcs, gc])
      have hmr : r = pos l i + m := by rw [hm, HLP.out]; exact hpb
      have hmp : 0 < m := by rw [hm, HLP.out]; exact rl_pos _ l (Nat.le_refl _) _ (List.getElem_mem hil)
      have HTR := hid (take_rev (gcs l) i hgi)
      rw [HA.out] at HTR
      have HMR := hid hmr
      have HIL := hid hil
      have hmr2 : m ≤ r := by omega
      clear hpb hgi hmr hil HA HLP
      go_wp2_with fail
      rw [wtake]
      refine (glast_any (l.take r) wr (HT.out.below HB1.out) HTL.out).mono ?_
      rintro e w2 ⟨rfl, be⟩
      have HB2 := hid (HB1.out.trans (be.mono HB1.out.size))
      rw [← ha, ← hm]
      clear be ha hm
      go_wp2_with fail
      refine (gbt_any a d w2).mono ?_
      rintro e w3 ⟨rfl, hw3⟩
      obtain rfl := hw3.symm
      clear hw3
      by_cases hg : gbt a d = 0
      · have HF := hid (show gsu l k = i + 1 by rw [HG1.out, HTR.out, srN_yes _ _ _ hg]; rfl)
        have hgb : (gbt a d == 0) = true := by rw [hg]; rfl
        clear hg
        go_wp2
        go_ret
        exact ⟨by rw [HF.out, ← HR.out]; rfl, HB2.out⟩
      · have hgb : (gbt a d == 0) = false := beq_eq_false_iff_ne.2 hg
        have HF := hid (show gsu l k = i - srN ((gcs l).take i).reverse a by rw [HG1.out, HTR.out, srN_no _ _ _ hg]; omega)
        clear hg
        go_wp2
        go_roundw
        case rel => exact ⟨i, r - m, a, by rw [Int.ofNat_sub hmr2], rfl, by omega, by show r - m = pos l i; have := HMR.out; omega, by show i ≤ _; have := HIL.out; omega, HF, HB2.out⟩
        case measure => simp [intOf]; omega
    · obtain rfl : r = 0 := by omega
      have HF := hid (show pos l (gsu l k) = 0 by
        have h1 := HR.out
        have hj : j = 0 := by
          rcases Nat.eq_zero_or_pos j with h2 | h2
          · exact h2
          · obtain ⟨i, rfl⟩ : ∃ i, j = i + 1 := ⟨j - 1, by omega⟩
            have := pos_lt l i HJ.out
            omega
        rw [HG1.out, hj, Nat.zero_sub, pos_0])
      go_wp2
      go_ret
      exact ⟨by rw [HF.out]; rfl, HB1.out⟩
end Go.Proofs.YtffbdnlfknomnaaDoor.Wt
/- Bounds of letters: the letter around a place; what sure answers is a bound. Mathematics alone. -/
namespace Go.Proofs.YtffbdnlfknomnaaDoor.Wt

theorem gsu_le (l : List UInt8) (k : Nat) : gsu l k ≤ k := Nat.sub_le _ _
theorem sure_is (L : List Int) : ∀ k, k ≤ L.length → (k - srN (L.take k).reverse ((L.drop k).headD 3) = 0 ∨ gbt ((L.take (k - srN (L.take k).reverse ((L.drop k).headD 3))).getLastD 0) ((L.drop (k - srN (L.take k).reverse ((L.drop k).headD 3))).headD 3) = 0)
  | 0, _ => .inl (Nat.zero_sub _)
  | k + 1, h => by
    have hk : k < L.length := h
    have hd : (L.drop k).headD 3 = L[k] := by rw [List.drop_eq_getElem_cons hk]; rfl
    rw [take_rev L k hk]
    by_cases hg : gbt L[k] ((L.drop (k + 1)).headD 3) = 0
    · right
      have e : (L.take (k + 1)).getLastD 0 = L[k] := by rw [List.take_succ_eq_append_getElem hk, List.getLastD_eq_getLast?, List.getLast?_append]; rfl
      rw [srN_yes _ _ _ hg, Nat.sub_zero, e]
      exact hg
    · rw [srN_no _ _ _ hg, Nat.succ_sub_succ]
      have := sure_is L k (Nat.le_of_lt hk)
      rw [hd] at this
      exact this
theorem gsu_sure (l : List UInt8) (k : Nat) (h : k ≤ (rl l).length) : gsu l k = 0 ∨ gbt (((gcs l).take (gsu l k)).getLastD 0) (((gcs l).drop (gsu l k)).headD 3) = 0 := sure_is (gcs l) k (by rw [gcs_len]; exact h)
theorem pcl_gsu (l : List UInt8) (k : Nat) (h : k < (rl l).length) : pcl gc (rl l) = pcl gc ((rl l).take (gsu l k)) ++ pcl gc ((rl l).drop (gsu l k)) := by
  have hle := gsu_le l k
  rcases gsu_sure l k (Nat.le_of_lt h) with h0 | h0
  · rw [h0]; rfl
  · rcases Nat.eq_zero_or_pos (gsu l k) with hz | hz
    · rw [hz]; rfl
    · have hlt : gsu l k < (rl l).length := by omega
      have hlt2 : gsu l k < (gcs l).length := by rw [gcs_len]; exact hlt
      have hs := pcl_sure gc gc_cl _ ((rl l).take (gsu l k)) ((rl l)[gsu l k]) ((rl l).drop (gsu l k + 1)) (Nat.le_refl _) (fun e => by
        have := congrArg List.length e
        rw [List.length_take] at this
        simp only [List.length_nil] at this
        omega) (by
        rw [List.drop_eq_getElem_cons hlt2, List.headD_cons] at h0
        rw [List.map_take]
        have e : (gcs l)[gsu l k] = gc (rl l)[gsu l k] := by simp [gcs]
        rw [e] at h0
        exact h0)
      rw [← List.drop_eq_getElem_cons hlt, List.take_append_drop] at hs
      exact hs
theorem gpF_0 (l : List UInt8) : gpF l 0 = plc 0 (pcl gc (rl l)) := rfl
theorem gp_split (l : List UInt8) (k : Nat) (h : k < (rl l).length) : gpF l 0 = plc 0 (pcl gc ((rl l).take (gsu l k))) ++ gpF l (pos l (gsu l k)) := by
  have hle := gsu_le l k
  rw [gpF_0, pcl_gsu l k h, plc_app, pcl_all gc _ _ (Nat.le_refl _), Nat.zero_add]
  unfold gpF
  rw [rl_drop l _ (by omega)]
  rfl
theorem plc_bd : ∀ (M : List (List (Nat × Nat))) (q : Nat), ∀ y ∈ plc q M, q ≤ y.1 ∧ y.2 ≤ q + psm M.flatten
  | [], _, _, h => by cases h
  | x :: M, q, y, h => by
    rw [plc] at h
    rw [List.flatten_cons, psm_app]
    rcases List.mem_cons.1 h with rfl | h
    · exact ⟨Nat.le_refl _, by show q + psm x ≤ _; omega⟩
    · have := plc_bd M _ y h
      omega
theorem plc_next : ∀ (M : List (List (Nat × Nat))) (q : Nat) (U V : List (Nat × Nat)) (x : Nat × Nat), plc q M = U ++ x :: V → ∀ y ∈ V, x.2 ≤ y.1
  | [], _, U, V, x, h => by cases U <;> cases h
  | z :: M, q, [], V, x, h => by
    rw [plc, List.nil_append] at h
    obtain ⟨h1, h2⟩ := List.cons.inj h
    intro y hy
    rw [← h1]
    rw [← h2] at hy
    exact (plc_bd M _ y hy).1
  | z :: M, q, u :: U, V, x, h => by
    rw [plc, List.cons_append] at h
    exact plc_next M _ U V x (List.cons.inj h).2
theorem plc_shift : ∀ (M : List (List (Nat × Nat))) (q b : Nat), plc (b + q) M = (plc q M).map fun x => (b + x.1, b + x.2)
  | [], _, _ => rfl
  | z :: M, q, b => by rw [plc, plc, List.map_cons, Nat.add_assoc, plc_shift M (q + psm z) b]
theorem gp_shift (l : List UInt8) (b : Nat) : gpF l b = (gpF (l.drop b) 0).map fun x => (b + x.1, b + x.2) := by
  have := plc_shift (pcl gc (rl (l.drop b))) 0 b
  rw [Nat.add_zero] at this
  exact this
theorem plc_last : ∀ (M : List (List (Nat × Nat))) (q : Nat), M ≠ [] → ∃ y ∈ plc q M, y.2 = q + psm M.flatten
  | [x], q, _ => ⟨(q, q + psm x), by simp [plc], by simp⟩
  | x :: z :: M, q, _ => by
    obtain ⟨y, hy, he⟩ := plc_last (z :: M) (q + psm x) (by simp)
    refine ⟨y, by rw [plc]; exact List.mem_cons_of_mem _ hy, ?_⟩
    rw [he, List.flatten_cons (l := x), psm_app, Nat.add_assoc]
theorem gp_last (l : List UInt8) (h : l ≠ []) : ∃ y ∈ gpF l 0, y.2 = l.length := by
  have hrn : rl l ≠ [] := by rw [rl_cons l h]; simp
  obtain ⟨y, hy, he⟩ := plc_last (pcl gc (rl l)) 0 (by rw [pcl_cons gc _ hrn]; simp)
  refine ⟨y, hy, ?_⟩
  rw [he, pcl_all gc _ _ (Nat.le_refl _), rl_sum _ l (Nat.le_refl _), Nat.zero_add]
theorem gp_lt (l : List UInt8) : ∀ y ∈ gpF l 0, y.1 < y.2 := by
  obtain ⟨L, hL, _⟩ := gp_all l _ 0 (Nat.le_refl _)
  intro y hy
  rw [← hL] at hy
  obtain ⟨x, _, rfl⟩ := List.mem_map.1 hy
  exact x.lt
/-- A letter begins at the place p. -/
def Gis (l : List UInt8) (p : Nat) : Prop := ∃ y ∈ gpF l 0, y.1 = p
/-- The rune to which a place belongs. -/
theorem rune_at (l : List UInt8) (p : Nat) (h : p < l.length) : ∃ k, k < (rl l).length ∧ pos l k ≤ p ∧ p < pos l (k + 1) := by
  have key : ∀ n, n ≤ (rl l).length → p < pos l n → ∃ k, k < n ∧ pos l k ≤ p ∧ p < pos l (k + 1) := by
    intro n
    induction n with
    | zero => intro _ h1; rw [pos_0] at h1; omega
    | succ n ih =>
      intro hn h1
      rcases Nat.lt_or_ge p (pos l n) with h2 | h2
      · obtain ⟨k, k1, k2⟩ := ih (by omega) h2
        exact ⟨k, by omega, k2⟩
      · exact ⟨n, by omega, h2, h1⟩
  exact key _ (Nat.le_refl _) (by rw [pos_all l _ (Nat.le_refl _)]; exact h)
theorem back_rune (l : List UInt8) (p k : Nat) (h : k < (rl l).length) (h1 : pos l k ≤ p) (h2 : p < pos l (k + 1)) : backE l ((p : Int) + 1) = (pos l k : Nat) := by
  have hle := pos_le l (k + 1) h
  obtain ⟨P, hP⟩ := mks_pos l k (Nat.le_of_lt h)
  rw [mks_at l _ (pos_end l k h)] at hP
  have e : pos l k + wid l (pos l k) = pos l (k + 1) := pos_step l k h
  unfold backE
  rw [if_neg (by omega), if_neg (by omega), show ((p : Int) + 1).toNat - 1 = p by omega, begin_is l p (pos l k) P (by omega) h1 (by omega) hP]
theorem pos_leq (l : List UInt8) (i j : Nat) (h : i ≤ j) (hj : j ≤ (rl l).length) : pos l i ≤ pos l j := by
  have := pos_mono l (j - i) i (by omega)
  rw [show i + (j - i) = j by omega] at this
  omega
/-- What Around finds. -/
theorem around_is (l : List UInt8) (p k B : Nat) (hk : k < (rl l).length) (hp : pos l k ≤ p) (hB : B = pos l (gsu l k)) (L pre : List (Pl (l.drop B))) (hL : L.map Pl.v = gpF (l.drop B) 0) (x : Pl (l.drop B)) (h : pre ++ [x] <+: L) (h1 : ∀ y ∈ pre, B + y.v.2 ≤ p) (h2 : p < B + x.v.2) :
    Gis l p ↔ B + x.v.1 = p := by
  have hBp : B ≤ p := by
    have := pos_leq l (gsu l k) k (gsu_le l k) (Nat.le_of_lt hk)
    omega
  obtain ⟨R, hR⟩ := h
  have hS : gpF (l.drop B) 0 = pre.map Pl.v ++ x.v :: R.map Pl.v := by
    rw [← hL, ← hR, List.append_assoc, List.map_append]; rfl
  unfold Gis
  rw [gp_split l k hk, ← hB, gp_shift l B, hS, List.map_append, List.map_cons]
  constructor
  · rintro ⟨y, hy, he⟩
    rcases List.mem_append.1 hy with hy | hy
    · have h3 := (plc_bd _ _ y hy).2
      have h4 := gp_lt l y (by rw [gp_split l k hk]; exact List.mem_append_left _ hy)
      rw [pcl_all gc _ _ (Nat.le_refl _), Nat.zero_add] at h3
      have h5 : psm ((rl l).take (gsu l k)) = B := hB.symm
      omega
    · rcases List.mem_append.1 hy with hy | hy
      · obtain ⟨z0, hz0, rfl⟩ := List.mem_map.1 hy
        obtain ⟨z, hz, rfl⟩ := List.mem_map.1 hz0
        have := h1 z hz
        have := z.lt
        simp only [] at he
        omega
      · rcases List.mem_cons.1 hy with rfl | hy
        · exact he
        · obtain ⟨z, hz, rfl⟩ := List.mem_map.1 hy
          have := plc_next _ _ _ _ _ hS z hz
          simp only [] at he
          omega
  · intro he
    exact ⟨(B + x.v.1, B + x.v.2), List.mem_append_right _ (List.mem_append_right _ (List.mem_cons_self ..)), he⟩
end Go.Proofs.YtffbdnlfknomnaaDoor.Wt
/- The places of a text: where its runes, units, letters and line ends begin; counting from a first one on. Mathematics alone. -/
namespace Go.Proofs.YtffbdnlfknomnaaDoor.Wt

/-- Runes with their places. -/
def rpN : Nat → List (Nat × Nat) → List (Nat × Nat)
  | _, [] => []
  | p, x :: L => (p, x.1) :: rpN (p + x.2) L
def rp (l : List UInt8) (t : Nat) : List (Nat × Nat) := rpN t (rl (l.drop t))
theorem rp_step (l : List UInt8) (t : Nat) (h : t < l.length) : rp l t = (t, (dec (l.drop t)).1) :: rp l (t + (dec (l.drop t)).2) := by
  unfold rp
  rw [rl_cons _ (drop_ne l t h), rpN, List.drop_drop]
theorem rp_end (l : List UInt8) (t : Nat) (h : ¬ t < l.length) : rp l t = [] := by
  unfold rp
  rw [List.drop_of_length_le (by omega)]; rfl
theorem rpN_app : ∀ (A B : List (Nat × Nat)) (p : Nat), rpN p (A ++ B) = rpN p A ++ rpN (p + psm A) B
  | [], B, p => by simp [rpN, psm]
  | x :: A, B, p => by rw [List.cons_append, rpN, rpN_app A B, rpN, psm_cons, List.cons_append, Nat.add_assoc]
theorem rpN_len : ∀ (A : List (Nat × Nat)) (p : Nat), (rpN p A).length = A.length
  | [], _ => rfl
  | x :: A, p => by rw [rpN, List.length_cons, List.length_cons, rpN_len A]
theorem rpN_shift (b : Nat) : ∀ (A : List (Nat × Nat)) (p : Nat), rpN (b + p) A = (rpN p A).map fun y => (b + y.1, y.2)
  | [], _ => rfl
  | x :: A, p => by rw [rpN, rpN, List.map_cons, Nat.add_assoc, rpN_shift b A]
theorem rp_shift (l : List UInt8) (b : Nat) : rp l b = (rp (l.drop b) 0).map fun y => (b + y.1, y.2) := by
  have := rpN_shift b (rl (l.drop b)) 0
  rw [Nat.add_zero] at this
  exact this
/-- What stands behind a part of the runes. -/
theorem rp_at (l : List UInt8) (U V : List (Nat × Nat)) (y : Nat × Nat) (h : rp l 0 = U ++ y :: V) : ∃ (k : Nat) (hk : k < (rl l).length), k = U.length ∧ y.1 = pos l k ∧ y.2 = ((rl l)[k]).1 ∧ y :: V = rp l (pos l k) := by
  have hl := congrArg List.length h
  have e0 : rp l 0 = rpN 0 (rl l) := rfl
  rw [e0, rpN_len, List.length_append, List.length_cons] at hl
  have hk : U.length < (rl l).length := by omega
  refine ⟨U.length, hk, rfl, ?_⟩
  have h1 := rpN_app ((rl l).take U.length) ((rl l).drop U.length) 0
  rw [List.take_append_drop, Nat.zero_add] at h1
  rw [e0, h1] at h
  have hlen : (rpN 0 ((rl l).take U.length)).length = U.length := by rw [rpN_len, List.length_take]; omega
  obtain ⟨_, h3⟩ := List.append_inj h hlen
  have h4 : rp l (pos l U.length) = y :: V := by
    unfold rp
    rw [rl_drop l U.length (Nat.le_of_lt hk)]
    exact h3
  have h5 : y = (pos l U.length, ((rl l)[U.length]).1) := by
    rw [List.drop_eq_getElem_cons hk, rpN] at h3
    exact (List.cons.inj h3).1.symm
  exact ⟨by rw [h5], by rw [h5], h4.symm⟩
theorem rpN_bd : ∀ (A : List (Nat × Nat)) (p : Nat), (∀ x ∈ A, 1 ≤ x.2) → ∀ y ∈ rpN p A, p ≤ y.1 ∧ y.1 < p + psm A
  | [], _, _, _, h => by cases h
  | x :: A, p, hA, y, h => by
    rw [psm_cons]
    have h1 := hA x (List.mem_cons_self ..)
    rw [rpN] at h
    rcases List.mem_cons.1 h with rfl | h
    · exact ⟨Nat.le_refl _, by show p < _; omega⟩
    · have := rpN_bd A _ (fun z hz => hA z (List.mem_cons_of_mem _ hz)) y h
      omega
theorem rp_bd (l : List UInt8) : ∀ y ∈ rp l 0, y.1 < l.length := fun y hy => by
  have := (rpN_bd (rl l) 0 (rl_pos _ l (Nat.le_refl _)) y hy).2
  rw [rl_sum _ l (Nat.le_refl _)] at this
  omega
/-- A rune above hex ffff has several bytes. -/
theorem dn_wide (n b0 b1 b2 b3 : Nat) : 65535 < (Lib.decodeN n b0 b1 b2 b3).1 → 2 ≤ (Lib.decodeN n b0 b1 b2 b3).2 := by
  unfold Lib.decodeN
  repeat' split
  all_goals (intro h; simp only [] at h ⊢; omega)
theorem dec_wide (l : List UInt8) (h : 65535 < (dec l).1) : 2 ≤ (dec l).2 := by
  by_cases hl : l = []
  · rw [hl] at h; simp [dec] at h
  rw [dec_numbers l hl] at h ⊢
  exact dn_wide _ _ _ _ _ h
theorem dn_low (n b0 b1 b2 b3 : Nat) : (Lib.decodeN n b0 b1 b2 b3).1 < 128 → b0 = (Lib.decodeN n b0 b1 b2 b3).1 ∧ (Lib.decodeN n b0 b1 b2 b3).2 = 1 := by
  unfold Lib.decodeN
  repeat' split
  all_goals (intro h; first | exact ⟨rfl, rfl⟩ | (simp only [] at h ⊢; omega))
/-- A rune below hex 80 is its byte. -/
theorem dec_low (l : List UInt8) (hl : l ≠ []) (h : (dec l).1 < 128) : byt l 0 = ((dec l).1 : Nat) ∧ (dec l).2 = 1 := by
  rw [dec_numbers l hl] at h ⊢
  obtain ⟨h1, h2⟩ := dn_low _ _ _ _ _ h
  exact ⟨by unfold byt; rw [← h1], h2⟩
theorem rl_wide : ∀ (n : Nat) (l : List UInt8), l.length ≤ n → ∀ x ∈ rl l, 65535 < x.1 → 2 ≤ x.2
  | n, l, hn, x, hx, h => by
    by_cases hl : l = []
    · rw [hl, rl_nil] at hx; cases hx
    · have h1 := dec_ge l hl
      have hp : 0 < l.length := List.length_pos_iff.2 hl
      rw [rl_cons l hl] at hx
      rcases List.mem_cons.1 hx with rfl | hx
      · exact dec_wide l h
      · cases n with
        | zero => omega
        | succ n => exact rl_wide n _ (by rw [List.length_drop]; omega) x hx h
/-- The units of a rune. -/
def un (y : Nat × Nat) : List Nat := if 65535 < y.2 then [y.1, y.1 + 1] else [y.1]
/-- Whether a rune ends a line. -/
def isN (r : Nat) : Bool := r == 10 || r == 11 || r == 12 || r == 13 || r == 133 || r == 8232 || r == 8233
/-- The LF of a CR LF. -/
def sec (l : List UInt8) (p : Nat) : Bool := byt l p == 10 && decide (0 < p) && byt l (p - 1) == 13
def runesL (l : List UInt8) : List Nat := (rp l 0).map (·.1)
def unitsL (l : List UInt8) : List Nat := (rp l 0).flatMap un
def lettersL (l : List UInt8) : List Nat := (gpF l 0).map (·.1)
def endP (l : List UInt8) (y : Nat × Nat) : Bool := isN y.2 && !sec l y.1
def endsL (l : List UInt8) : List Nat := ((rp l 0).filter (endP l)).map (·.1)
/-- What a count's places are. -/
structure Scl (E : List UInt8 → List Nat) : Prop where
  lt : ∀ l, ∀ p ∈ E l, p < l.length
  rise : ∀ l, (E l).Pairwise (· < ·)
  edge : ∀ l p t, E l = p :: t → isE l p = true
  cut : ∀ l p t, E l = p :: t → (E (l.drop p)).map (p + ·) = E l
theorem rpN_rise : ∀ (A : List (Nat × Nat)) (p : Nat), (∀ x ∈ A, 1 ≤ x.2) → (rpN p A).Pairwise fun y z => y.1 < z.1
  | [], _, _ => .nil
  | x :: A, p, hA => by
    rw [rpN]
    have h1 := hA x (List.mem_cons_self ..)
    have hA' := fun z hz => hA z (List.mem_cons_of_mem _ hz)
    refine .cons (fun z hz => ?_) (rpN_rise A _ hA')
    have := (rpN_bd A _ hA' z hz).1
    show p < z.1
    omega
theorem rp_rise (l : List UInt8) : (rp l 0).Pairwise fun y z => y.1 < z.1 := rpN_rise _ 0 (rl_pos _ l (Nat.le_refl _))
theorem isE_0 (l : List UInt8) : isE l (0 : Nat) = true := isE_pos l 0 (Nat.zero_le _)
theorem cut_0 (E : List UInt8 → List Nat) (l : List UInt8) : (E (l.drop 0)).map (0 + ·) = E l := by simp
theorem runes_scl : Scl runesL where
  lt l p hp := by
    obtain ⟨y, hy, rfl⟩ := List.mem_map.1 hp
    exact rp_bd l y hy
  rise l := List.pairwise_map.2 (rp_rise l)
  edge l p t h := by
    obtain ⟨y, V, hV, rfl, _⟩ := List.map_eq_cons_iff.1 h
    obtain ⟨k, hk, hk0, e, _⟩ := rp_at l [] V y hV
    rw [e]; exact isE_pos l k (Nat.le_of_lt hk)
  cut l p t h := by
    obtain ⟨y, V, hV, rfl, _⟩ := List.map_eq_cons_iff.1 h
    obtain ⟨k, hk, hk0, e, _⟩ := rp_at l [] V y hV
    have : y.1 = 0 := by rw [e, hk0]; rfl
    rw [this]; exact cut_0 runesL l
theorem un_head (y : Nat × Nat) : ∃ r, un y = y.1 :: r := by
  unfold un
  split
  · exact ⟨_, rfl⟩
  · exact ⟨_, rfl⟩
theorem un_mem (y : Nat × Nat) (p : Nat) (h : p ∈ un y) : p = y.1 ∨ (p = y.1 + 1 ∧ 65535 < y.2) := by
  unfold un at h
  split at h
  · rename_i hw
    simp only [List.mem_cons, List.not_mem_nil, or_false] at h
    rcases h with h | h
    · exact .inl h
    · exact .inr ⟨h, hw⟩
  · simp only [List.mem_cons, List.not_mem_nil, or_false] at h
    exact .inl h
theorem units_bd : ∀ (A : List (Nat × Nat)) (p : Nat), (∀ x ∈ A, 1 ≤ x.2 ∧ (65535 < x.1 → 2 ≤ x.2)) → (∀ z ∈ (rpN p A).flatMap un, p ≤ z ∧ z < p + psm A) ∧ ((rpN p A).flatMap un).Pairwise (· < ·)
  | [], _, _ => ⟨fun _ h => by simp [rpN] at h, .nil⟩
  | x :: A, p, hA => by
    obtain ⟨h1, h2⟩ := hA x (List.mem_cons_self ..)
    obtain ⟨i1, i2⟩ := units_bd A (p + x.2) (fun z hz => hA z (List.mem_cons_of_mem _ hz))
    have hu : ∀ z ∈ un (p, x.1), p ≤ z ∧ z < p + x.2 := fun z hz => by
      rcases un_mem _ z hz with h | ⟨h, hw⟩
      · have : z = p := h
        omega
      · have : z = p + 1 := h
        have := h2 hw
        omega
    rw [rpN, List.flatMap_cons, psm_cons]
    refine ⟨fun z hz => ?_, List.pairwise_append.2 ⟨?_, i2, fun a ha b hb => ?_⟩⟩
    · rcases List.mem_append.1 hz with hz | hz
      · have := hu z hz; omega
      · have := i1 z hz; omega
    · unfold un
      split
      · simp
      · simp
    · have := hu a ha
      have := i1 b hb
      omega
theorem rl_uni (l : List UInt8) : ∀ x ∈ rl l, 1 ≤ x.2 ∧ (65535 < x.1 → 2 ≤ x.2) := fun x hx => ⟨rl_pos _ l (Nat.le_refl _) x hx, rl_wide _ l (Nat.le_refl _) x hx⟩
theorem units_scl : Scl unitsL where
  lt l p hp := by
    have := ((units_bd (rl l) 0 (rl_uni l)).1 p hp).2
    rw [rl_sum _ l (Nat.le_refl _)] at this
    omega
  rise l := (units_bd (rl l) 0 (rl_uni l)).2
  edge l p t h := by
    have h0 : p = 0 := by
      unfold unitsL at h
      cases hr : rp l 0 with
      | nil => rw [hr] at h; cases h
      | cons y V =>
        obtain ⟨k, hk, hk0, e, _⟩ := rp_at l [] V y hr
        obtain ⟨r, hu⟩ := un_head y
        rw [hr, List.flatMap_cons, hu] at h
        rw [← (List.cons.inj h).1, e, hk0]; rfl
    rw [h0]; exact isE_0 l
  cut l p t h := by
    have h0 : p = 0 := by
      unfold unitsL at h
      cases hr : rp l 0 with
      | nil => rw [hr] at h; cases h
      | cons y V =>
        obtain ⟨k, hk, hk0, e, _⟩ := rp_at l [] V y hr
        obtain ⟨r, hu⟩ := un_head y
        rw [hr, List.flatMap_cons, hu] at h
        rw [← (List.cons.inj h).1, e, hk0]; rfl
    rw [h0]; exact cut_0 unitsL l
theorem plc_rise : ∀ (M : List (List (Nat × Nat))) (q : Nat), (∀ x ∈ M, 1 ≤ psm x) → (plc q M).Pairwise fun y z => y.1 < z.1
  | [], _, _ => .nil
  | x :: M, q, hM => by
    rw [plc]
    have h1 := hM x (List.mem_cons_self ..)
    refine .cons (fun z hz => ?_) (plc_rise M _ fun z hz => hM z (List.mem_cons_of_mem _ hz))
    have := (plc_bd M _ z hz).1
    show q < z.1
    omega
theorem gp_rise (l : List UInt8) : (gpF l 0).Pairwise fun y z => y.1 < z.1 := by
  rw [gpF_0]
  refine plc_rise _ 0 fun x hx => ?_
  have hne := pcl_ne gc _ (rl l) (Nat.le_refl _) x hx
  obtain ⟨z, R, rfl⟩ := List.exists_cons_of_ne_nil hne
  have hm : z ∈ rl l := by
    rw [← pcl_all gc _ (rl l) (Nat.le_refl _)]
    exact List.mem_flatten.2 ⟨_, hx, List.mem_cons_self ..⟩
  have := rl_pos _ l (Nat.le_refl _) z hm
  rw [psm_cons]; omega
theorem gp_le (l : List UInt8) : ∀ y ∈ gpF l 0, y.2 ≤ l.length := by
  obtain ⟨L, hL, _⟩ := gp_all l _ 0 (Nat.le_refl _)
  intro y hy
  rw [← hL] at hy
  obtain ⟨x, _, rfl⟩ := List.mem_map.1 hy
  exact x.le
theorem gp_first (l : List UInt8) (y : Nat × Nat) (V : List (Nat × Nat)) (h : gpF l 0 = y :: V) : y.1 = 0 := by
  rw [gpF_0] at h
  cases hp : pcl gc (rl l) with
  | nil => rw [hp] at h; cases h
  | cons x M => rw [hp, plc] at h; rw [← (List.cons.inj h).1]
theorem letters_scl : Scl lettersL where
  lt l p hp := by
    obtain ⟨y, hy, rfl⟩ := List.mem_map.1 hp
    have := gp_lt l y hy
    have := gp_le l y hy
    omega
  rise l := List.pairwise_map.2 (gp_rise l)
  edge l p t h := by
    obtain ⟨y, V, hV, rfl, _⟩ := List.map_eq_cons_iff.1 h
    rw [gp_first l y V hV]; exact isE_0 l
  cut l p t h := by
    obtain ⟨y, V, hV, rfl, _⟩ := List.map_eq_cons_iff.1 h
    rw [gp_first l y V hV]; exact cut_0 lettersL l
theorem sec_drop (l : List UInt8) (b q : Nat) (h : 0 < q) : sec (l.drop b) q = sec l (b + q) := by
  unfold sec
  rw [byt_drop, byt_drop, show b + (q - 1) = b + q - 1 by omega]
  congr 2
  simp only [decide_eq_decide]; omega
theorem sec_0 (l : List UInt8) : sec l 0 = false := by simp [sec]
theorem ends_cut (l : List UInt8) (p : Nat) (t : List Nat) (h : endsL l = p :: t) : (∃ k, k < (rl l).length ∧ p = pos l k) ∧ (endsL (l.drop p)).map (p + ·) = endsL l := by
  have h0 := h
  unfold endsL at h
  obtain ⟨y, V, hV, rfl, ht⟩ := List.map_eq_cons_iff.1 h
  obtain ⟨U, R, hR, hU, hy, hfR⟩ := List.filter_eq_cons_iff.1 hV
  obtain ⟨k, hk, hk0, e, er, hd⟩ := rp_at l U R y hR
  refine ⟨⟨k, hk, e⟩, ?_⟩
  rw [h0]
  have hys : sec l y.1 = false := by
    unfold endP at hy
    simp only [Bool.and_eq_true, Bool.not_eq_true'] at hy
    exact hy.2
  have h1 : rp l y.1 = y :: R := by rw [e]; exact hd.symm
  have h2 : (rp l y.1).filter (endP l) = y :: V := by rw [h1, List.filter_cons_of_pos hy, hfR]
  rw [rp_shift, List.filter_map] at h2
  have h3 : (rp (l.drop y.1) 0).filter (endP l ∘ fun z => (y.1 + z.1, z.2)) = (rp (l.drop y.1) 0).filter (endP (l.drop y.1)) := by
    refine List.filter_congr fun z _ => ?_
    show endP l (y.1 + z.1, z.2) = _
    unfold endP
    rcases Nat.eq_zero_or_pos z.1 with hz | hz
    · rw [hz, sec_0]
      show (isN z.2 && !sec l (y.1 + 0)) = _
      rw [Nat.add_zero, hys]
    · rw [sec_drop l y.1 z.1 hz]
  rw [h3] at h2
  have h4 := congrArg (List.map (·.1)) h2
  rw [List.map_map, List.map_cons, ht] at h4
  rw [← h4]
  unfold endsL
  rw [List.map_map]; rfl
theorem ends_scl : Scl endsL where
  lt l p hp := by
    obtain ⟨y, hy, rfl⟩ := List.mem_map.1 hp
    exact rp_bd l y (List.mem_filter.1 hy).1
  rise l := List.pairwise_map.2 ((rp_rise l).filter _)
  edge l p t h := by
    obtain ⟨⟨k, hk, rfl⟩, _⟩ := ends_cut l p t h
    exact isE_pos l k (Nat.le_of_lt hk)
  cut l p t h := (ends_cut l p t h).2
end Go.Proofs.YtffbdnlfknomnaaDoor.Wt
/- The contracts of Around and Is (package grapheme). -/
namespace Go.Proofs.YtffbdnlfknomnaaDoor.Wt
open Go.RowKit Go.Shelf
attribute [local go_sem] Oper.semAt_some

theorem plc_begin : ∀ (M : List (List (Nat × Nat))) (q : Nat) (U V : List (Nat × Nat)) (x : Nat × Nat), plc q M = U ++ x :: V → x.1 = q ∨ ∃ y ∈ U, x.1 = y.2
  | [], _, U, V, x, h => by cases U <;> cases h
  | z :: M, q, [], V, x, h => by
    rw [plc, List.nil_append] at h
    left
    rw [← (List.cons.inj h).1]
  | z :: M, q, u :: U, V, x, h => by
    rw [plc, List.cons_append] at h
    obtain ⟨h1, h2⟩ := List.cons.inj h
    right
    rcases plc_begin M _ U V x h2 with e | ⟨y, hy, e⟩
    · exact ⟨u, List.mem_cons_self .., by rw [e, ← h1]⟩
    · exact ⟨y, List.mem_cons_of_mem _ hy, e⟩
/-- The letter that Around finds. -/
theorem around_at (l : List UInt8) (p k B : Nat) (hk : k < (rl l).length) (hp : pos l k ≤ p) (hB : B = pos l (gsu l k)) (L pre : List (Pl (l.drop B))) (hL : L.map Pl.v = gpF (l.drop B) 0) (x : Pl (l.drop B)) (h : pre ++ [x] <+: L) (h1 : ∀ y ∈ pre, B + y.v.2 ≤ p) :
    (B + x.v.1, B + x.v.2) ∈ gpF l 0 ∧ B + x.v.1 ≤ p := by
  have hBp : B ≤ p := by
    have := pos_leq l (gsu l k) k (gsu_le l k) (Nat.le_of_lt hk)
    omega
  obtain ⟨R, hR⟩ := h
  have hS : gpF (l.drop B) 0 = pre.map Pl.v ++ x.v :: R.map Pl.v := by
    rw [← hL, ← hR, List.append_assoc, List.map_append]; rfl
  refine ⟨?_, ?_⟩
  · rw [gp_split l k hk, ← hB, gp_shift l B, hS, List.map_append, List.map_cons]
    exact List.mem_append_right _ (List.mem_append_right _ (List.mem_cons_self ..))
  · rcases plc_begin _ _ _ _ _ hS with e | ⟨y, hy, e⟩
    · rw [e]; omega
    · obtain ⟨z, hz, rfl⟩ := List.mem_map.1 hy
      rw [e]; exact h1 z hz
set_option maxHeartbeats 4000000 in
set_option maxRecDepth 100000 in
theorem garound_in (l : List UInt8) (p : Nat) (w : World) (ht : TbW w) (hl : l.length ≤ 100000000) (hp : p < l.length) :
    CallsIn Fence.wide 3 Tryd.prog 85 #[.string ⟨l.toArray⟩, .int .i64 p] w fun e W' => ∃ f t : Nat, e = .returned (.tuple #[.int .i64 f, .int .i64 t]) ∧ ((f, t) ∈ gpF l 0 ∧ f ≤ p ∧ p < t) ∧ Below w.heap.size w W' := by
  have HT := hid ht
  clear ht
  obtain ⟨k, hk, hk1, hk2⟩ := rune_at l p hp
  have HBK := hid (back_rune l p k hk hk1 hk2)
  have HK := hid hk
  have HK1 := hid hk1
  obtain ⟨B, hB⟩ : ∃ B, B = pos l (gsu l k) := ⟨_, rfl⟩
  have hBl : B ≤ l.length := by rw [hB]; exact pos_le l _ (by have := gsu_le l k; omega)
  have hBp : B ≤ p := by
    have := pos_leq l (gsu l k) k (gsu_le l k) (Nat.le_of_lt hk)
    omega
  have HBE := hid hB
  obtain ⟨q, hq⟩ : ∃ q, q = pos l k := ⟨_, rfl⟩
  have hql : q ≤ l.length := by rw [hq]; exact pos_le l k (Nat.le_of_lt hk)
  have HQ := hid hq
  rw [← hq] at HBK
  clear hk hk1 hk2 hB hq
  obtain ⟨L, hL, hLl⟩ := gp_all (l.drop B) _ 0 (Nat.le_refl _)
  have HL := hid hL
  have HDL := hid (show (l.drop B).length ≤ 1000000000 by rw [List.length_drop]; omega)
  have HAR := hid (around_at l p k B HK.out HK1.out HBE.out L)
  have HLA := hid (gp_last (l.drop B) (drop_ne l B (by omega)))
  clear hL hLl
  have hpi : (p : Int) < (l.length : Int) := by omega
  refine callsIn_of_wp_marks Tryd.func85 rfl trivial ?_ rfl
  simp only [Tryd.ntmps85, List.size_toArray, List.length_cons, List.length_nil, Nat.reduceAdd, Nat.reduceSub, Array.replicate_succ, Array.replicate_zero, List.push_toArray, List.append_toArray, List.nil_append, List.cons_append]
  gi_wp2_with fail
  have hsz3 : (((w.alloc (.cells #[.int .i64 p] 3)).alloc (.cells #[.int .i64 0] 3)).alloc (.cells #[.int .i64 0] 3)).heap.size = w.heap.size + 3 := by simp
  have b0 := ((Boxed.new w 3 (.int .i64 p)).alloc (.cells #[.int .i64 0] 3)).alloc (.cells #[.int .i64 0] 3)
  have b1 := (Boxed.new (w.alloc (.cells #[.int .i64 p] 3)) 3 (.int .i64 0)).alloc (.cells #[.int .i64 0] 3)
  have b2 := Boxed.new ((w.alloc (.cells #[.int .i64 p] 3)).alloc (.cells #[.int .i64 0] 3)) 3 (.int .i64 0)
  rw [World.size_alloc] at b1
  rw [World.size_alloc, World.size_alloc] at b2
  have hB0 : Below w.heap.size w (((w.alloc (.cells #[.int .i64 p] 3)).alloc (.cells #[.int .i64 0] 3)).alloc (.cells #[.int .i64 0] 3)) := (((Below.refl _ _).alloc (Nat.le_refl _) _).alloc (by simp) _).alloc (by simp; omega) _
  obtain ⟨w0, hw0⟩ : ∃ w0, w0 = ((w.alloc (.cells #[.int .i64 p] 3)).alloc (.cells #[.int .i64 0] 3)).alloc (.cells #[.int .i64 0] 3) := ⟨_, rfl⟩
  rw [← hw0] at b0 b1 b2 hsz3 hB0 ⊢
  have HW0 := hid hw0
  have HT0 := hid (HT.out.below hB0)
  clear hw0
  refine ⟨trivial, (callsIn_wide.2 (back_any l ((p : Int) + 1) w0 (by omega) HT0.out.tabs HT0.out.two)).mono ?_⟩
  rintro e w1 ⟨rfl, be1⟩
  rw [HBK.out]
  have HT1 := hid (HT0.out.below be1)
  gi_wp2_with fail
  refine ⟨trivial, (callsIn_wide.2 (gsure_any l k q w1 HT1.out (by omega) (Nat.le_of_lt HK.out) HQ.out)).mono ?_⟩
  rintro e w2 ⟨rfl, be2⟩
  rw [← HBE.out]
  have hB02 := be1.trans (be2.mono be1.size)
  have hs02 := hB02.size
  have HT2 := hid (HT0.out.below hB02)
  have b02 : Boxed w2 w.heap.size 3 (.int .i64 p) := (hB02.block _ b0.lt).trans b0
  have b12 : Boxed w2 (w.heap.size + 1) 3 (.int .i64 0) := (hB02.block _ b1.lt).trans b1
  have b22 : Boxed w2 (w.heap.size + 1 + 1) 3 (.int .i64 0) := (hB02.block _ b2.lt).trans b2
  have HBw2 := hid (hB0.trans (hB02.mono hB0.size))
  clear be1 be2 hB02 b0 b1 b2 HT1 HT0 HBK hB0
  gi_wp2_with fail
  rw [ext_drop]
  refine ⟨trivial, (callsIn_wide.2 (geach_any (l.drop B) _)).mono ?_⟩
  rintro e w' ⟨rfl, rfl⟩
  have b3 := (Boxed.new w2 3 (.int .i64 B)).alloc (.cells #[.string ⟨(l.drop B).toArray⟩] 9)
  have b4 := Boxed.new (w2.alloc (.cells #[.int .i64 B] 3)) 9 (.string ⟨(l.drop B).toArray⟩)
  have hB3 : Below w2.heap.size w2 ((w2.alloc (.cells #[.int .i64 B] 3)).alloc (.cells #[.string ⟨(l.drop B).toArray⟩] 9)) := ((Below.refl _ _).alloc (Nat.le_refl _) _).alloc (by simp) _
  have hs3 : ((w2.alloc (.cells #[.int .i64 B] 3)).alloc (.cells #[.string ⟨(l.drop B).toArray⟩] 9)).heap.size = w2.heap.size + 2 := by simp
  rw [World.size_alloc] at b4 ⊢
  obtain ⟨w3, hw3⟩ : ∃ w3, w3 = (w2.alloc (.cells #[.int .i64 B] 3)).alloc (.cells #[.string ⟨(l.drop B).toArray⟩] 9) := ⟨_, rfl⟩
  rw [← hw3] at b3 b4 hB3 hs3 ⊢
  clear hw3
  obtain ⟨N, hN⟩ : ∃ N, N = w.heap.size := ⟨_, rfl⟩
  obtain ⟨M, hM⟩ : ∃ M, M = w2.heap.size := ⟨_, rfl⟩
  rw [hsz3] at hs02
  rw [← hM] at b3 b4 hB3 hs3 hs02 ⊢
  rw [← hN] at b02 b12 b22 HBw2 hs02 ⊢
  have hNM : N + 3 ≤ M := hs02
  have HEa := hid (show WaAt (M + 1) (l.drop B) w3 from ⟨b4, HT2.out.below (by rw [← hM]; exact hB3)⟩)
  have HB0 := hid (show Boxed w3 N 3 (.int .i64 p) from (hB3.block _ (by omega)).trans b02)
  have HB1 := hid (show Boxed w3 (N + 1) 3 (.int .i64 0) from (hB3.block _ (by omega)).trans b12)
  have HB2 := hid (show Boxed w3 (N + 1 + 1) 3 (.int .i64 0) from (hB3.block _ (by omega)).trans b22)
  have HB3 := hid b3
  have HBw := hid (show Below N w w3 from HBw2.out.trans (hB3.mono (by omega)))
  have h2 : 2 ≤ N := by rw [hN]; exact HT.out.two
  have HS3 := hid hs3
  have HN := hid hN
  clear b02 b12 b22 b3 b4 hB3 HT2 HBw2 HW0 hsz3 hs02 hs3 hN hM
  gi_wp2
  refine rfF (M + 1) (fun k => k = N + 1 ∨ k = N + 1 + 1) L (by omega) rfl HL.out HEa.out HDL.out rfl (fun k hk => by rintro (h | h) <;> omega)
    (fun pre W => (((∀ y ∈ pre, B + y.v.2 ≤ p) ∧ Boxed W N 3 (.int .i64 p)) ∧ Boxed W (N + 1) 3 (.int .i64 0)) ∧ Boxed W (N + 1 + 1) 3 (.int .i64 0) ∧ Boxed W M 3 (.int .i64 B))
    (fun c pre W => c = .ret ∧ ∃ (pr : List (Pl (l.drop B))) (x : Pl (l.drop B)), pre = pr ++ [x] ∧ (∀ y ∈ pr, B + y.v.2 ≤ p) ∧ p < B + x.v.2 ∧ Boxed W (N + 1) 3 (.int .i64 (B + x.v.1 : Nat)) ∧ Boxed W (N + 1 + 1) 3 (.int .i64 (B + x.v.2 : Nat)))
    (OwnFrom.and (OwnFrom.and (OwnFrom.and (ownFrom_pure _ _) (Own.from (boxed_own _ _ _) _)) (Own.from (boxed_own _ _ _) _)) (OwnFrom.and (Own.from (boxed_own _ _ _) _) (Own.from (boxed_own _ _ _) _)))
    (fun c _ A C row hs hg hr => by
      obtain ⟨e, pr, x, e1, e2, e3, e4, e5⟩ := hs
      exact ⟨e, pr, x, e1, e2, e3, boxed_keep e4 hg hr, boxed_keep e5 hg hr⟩)
    ⟨⟨⟨by simp, HB0.out⟩, HB1.out⟩, HB2.out, HB3.out⟩ 7 8 ?assign ?body ?done ?stop
  case assign =>
    intro lp x W K hK
    dsimp only [encP]
    gi_wp2
    simpa [fr, encP] using hK
  case body =>
    rintro lp pre x W ⟨⟨⟨hpre, v0⟩, v1⟩, v2, v3⟩ hb he hlt
    have hx1 := x.lt
    have hx2 := x.le
    rw [List.length_drop] at hx2
    obtain ⟨f, hf⟩ : ∃ f, f = x.v.1 := ⟨_, rfl⟩
    obtain ⟨t, hx⟩ : ∃ t, t = x.v.2 := ⟨_, rfl⟩
    dsimp only [fr, encP]
    rw [← hf, ← hx] at hx1 ⊢
    rw [← hx] at hx2
    have HF := hid hf
    have HX := hid hx
    clear hf hx
    have c0 := v0.cell
    have c3 := v3.cell
    have HV := hid (And.intro v0 (And.intro v1 (And.intro v2 v3)))
    have HPRE := hid hpre
    clear hpre
    by_cases hgt : p < B + t
    · have hgi : (p : Int) < (B : Int) + t := by omega
      have f1 := v1.frozen
      have f2 := v2.frozen
      have e1 := v1.cell
      have e2 := v2.cell
      have hKV := HV.out
      have wf : IntKind.i64.wrap ((B : Int) + f) = (B : Int) + f := by rw [IntKind.wrap_i64]; omega
      have wt : IntKind.i64.wrap ((B : Int) + t) = (B : Int) + t := by rw [IntKind.wrap_i64]; omega
      clear v0 v1 v2 v3
      gi_wp2
      refine wpIn_region_mix lp _ [(0, true), (1, true), (2, true), (3, true), (4, true), (5, true), (6, false), (7, false)] (fun w' => w'.cell? ⟨M, 0, none⟩ = some (.int .i64 B)) (fun _ => false) (by kernel_rfl) (by kernel_rfl) (by kernel_rfl) (fun j hj => by cases hj) rfl (by kernel_rfl) c3 ?hm
      iterate 6 (refine mix_free ?_ rfl (by kernel_rfl) (fun w' hS => ?_) ?_; (rotate_left; (go_simp; with_reducible rfl); rotate_left))
      refine mix_go rfl (by kernel_rfl) fun KK hKK => ?_
      have f1d : W.drew.frozen? ⟨N + 1, 0, none⟩ = false := f1
      have e1d : W.drew.cell? ⟨N + 1, 0, none⟩ = some (.int .i64 0) := e1
      go_simp
      refine hKK _ _ (fun _ => ?_) ?_
      · exact (bdrew (hKV.2.2.2.other (B' := N + 1) (by omega) _)).cell
      clear hKK KK
      have v1' := bdrew (hKV.2.1.set (.int .i64 ((B : Int) + f)))
      have v2' := bdrew (hKV.2.2.1.other (B' := N + 1) (by omega) (.int .i64 ((B : Int) + f)))
      obtain ⟨W1, hW1⟩ : ∃ W1, W1 = (W.setCell ⟨N + 1, 0, none⟩ (.int .i64 ((B : Int) + f))).drew := ⟨_, rfl⟩
      have HBS := hid (show BS (fun k => k = N + 1 ∨ k = N + 1 + 1) W W1 by rw [hW1]; exact (BS.set W (N + 1) _ (.inl rfl)).trans (BS.drew _))
      rw [← hW1] at v1' v2' ⊢
      clear hW1
      refine mix_go rfl (by kernel_rfl) fun KK hKK => ?_
      have f2d := v2'.frozen
      have e2d := v2'.cell
      go_simp
      refine hKK _ _ (fun _ => ?_) ?_
      · have hM1 : Boxed W1 M 3 (.int .i64 B) := HBS.out.boxed hKV.2.2.2 (fun h => by omega)
        exact (hM1.other (B' := N + 1 + 1) (by omega) _).cell
      clear hKK KK
      refine mix_end (OnlyN.in ?_)
      gi_wp2
      refine ⟨HBS.out.trans (BS.set W1 (N + 1 + 1) _ (.inr rfl)), rfl, pre, x, rfl, HPRE.out, by rw [← HX.out]; exact hgt, ?_, ?_⟩
      · rw [← HF.out]
        exact v1'.other (B' := N + 1 + 1) (by omega) _
      · rw [← HX.out]
        exact v2'.set _
    · have hgi : ¬ (p : Int) < (B : Int) + t := by omega
      have hKV := HV.out
      clear v0 v1 v2 v3
      gi_wp2
      refine ⟨BS.refl _ _, ⟨⟨fun y hy => ?_, hKV.1⟩, hKV.2.1⟩, hKV.2.2⟩
      rcases List.mem_append.1 hy with hy | hy
      · exact HPRE.out y hy
      · rw [List.mem_singleton.1 hy, ← HX.out]
        omega
  case done =>
    rintro D W hD ⟨⟨⟨hall, _⟩, _⟩, _, _⟩ _ _
    exfalso
    obtain ⟨y, hy, hye⟩ := HLA.out
    rw [← HL.out] at hy
    obtain ⟨x, hx, rfl⟩ := List.mem_map.1 hy
    have := hall x hx
    rw [hye, List.length_drop] at this
    omega
  case stop =>
    rintro D c pre W hD hp' ⟨rfl, pr, x, rfl, e2, e3, e4, e5⟩ hb hK
    gi_wp2
    refine ⟨by simp, .inl ⟨_, _, rfl, run_takeDeferred hK, ?_⟩⟩
    have c4 := cell_kept e4.cell (grownBy_putObj' _ D (.deferred none)) (fun r e => by cases e; exact ⟨_, hK, rfl⟩)
    have c5 := cell_kept e5.cell (grownBy_putObj' _ D (.deferred none)) (fun r e => by cases e; exact ⟨_, hK, rfl⟩)
    refine ⟨_, ?_, B + x.v.1, B + x.v.2, rfl, ⟨(HAR.out pr HL.out x hp' e2).1, (HAR.out pr HL.out x hp' e2).2, e3⟩, ?_⟩
    · simp [results, Tryd.f85, go_sem, c4, c5]
    · have hs3 := HS3.out
      have hn := HN.out
      rw [← hn]
      exact (HBw.out.trans (hb.lower N (fun k hk => by omega) (by omega))).trans (belowK_b (w := w) (by omega) W D _ _ (by omega) hK rfl rfl)
theorem garound_any (l : List UInt8) (p : Nat) (w : World) (ht : TbW w) (hl : l.length ≤ 100000000) (hp : p < l.length) :
    Calls Tryd.prog 85 #[.string ⟨l.toArray⟩, .int .i64 p] w fun e W' => ∃ f t : Nat, e = .returned (.tuple #[.int .i64 f, .int .i64 t]) ∧ ((f, t) ∈ gpF l 0 ∧ f ≤ p ∧ p < t) ∧ Below w.heap.size w W' := callsIn_wide.1 (garound_in l p w ht hl hp)
end Go.Proofs.YtffbdnlfknomnaaDoor.Wt
