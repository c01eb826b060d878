/- The contracts of Back and On (package utf). -/
import Derived.Test.YtffbdnlfknomnaaDoorUBeg
import Derived.Test.YtffbdnlfknomnaaDoorGrEach
namespace Go.Proofs.YtffbdnlfknomnaaDoor.Wt
open Go.RowKit

theorem begin_eq (l : List UInt8) (p : Nat) (z : Int) (w : World) (hz : z = p) (hp : p < l.length) (hl : l.length ≤ 1000000000000) (hT : Lib.Utf8Tabs 0 1 w) (h2 : 2 ≤ w.heap.size) :
    Calls Tryd.prog 82 #[.string ⟨l.toArray⟩, .int .i64 z] w fun e w' => e = .returned (.int .i64 (bgF l p 4)) ∧ Below w.heap.size w w' := by
  subst hz
  exact begin_any l p w hp hl hT h2

set_option maxHeartbeats 400000 in
theorem back_any (l : List UInt8) (p : Int) (w : World) (hl : l.length ≤ 1000000000000) (hT : Lib.Utf8Tabs 0 1 w) (h2 : 2 ≤ w.heap.size) :
    Calls Tryd.prog 104 #[.string ⟨l.toArray⟩, .int .i64 p] w fun e w' => e = .returned (.int .i64 (backE l p)) ∧ Below w.heap.size w w' := by
  have HT := hid hT
  clear hT
  by_cases h1 : p ≤ 0
  · have HR := hid (show backE l p = 0 from if_pos h1)
    go_enter Tryd.func104, Tryd.ntmps104
    go_wp2
    go_ret
    exact ⟨by rw [HR.out]; rfl, Below.refl _ _⟩
  by_cases h3 : (l.length : Int) < p
  · have HR := hid (show backE l p = l.length from (if_neg h1).trans (if_pos h3))
    go_enter Tryd.func104, Tryd.ntmps104
    go_wp2
    go_ret
    exact ⟨by rw [HR.out]; rfl, Below.refl _ _⟩
  · have HR := hid (show backE l p = bgF l (p.toNat - 1) 4 from (if_neg h1).trans (if_neg h3))
    go_enter Tryd.func104, Tryd.ntmps104
    go_wp2_with (go_at_call 82; refine (begin_eq l (p.toNat - 1) _ _ (by omega) (by omega) hl (by exact HT.out) (by exact h2)).mono ?_; rintro e w1 ⟨rfl, hb⟩)
    go_ret
    exact ⟨by rw [HR.out]; rfl, hb⟩

theorem bgF_lt (l : List UInt8) (q : Nat) (hq : q < l.length) : bgF l q 4 < l.length := by
  obtain ⟨e, U, V, _, _, h1, _, h3, _⟩ := edg_parts l q hq
  omega

set_option maxHeartbeats 400000 in
theorem on_any (l : List UInt8) (p : Int) (w : World) (hl : l.length ≤ 1000000000000) (hT : Lib.Utf8Tabs 0 1 w) (h2 : 2 ≤ w.heap.size) :
    Calls Tryd.prog 88 #[.string ⟨l.toArray⟩, .int .i64 p] w fun e w' => e = .returned (.int .i64 (onE l p)) ∧ Below w.heap.size w w' := by
  have HT := hid hT
  clear hT
  by_cases h1 : p < 0
  · have HR := hid (show onE l p = 0 from if_pos h1)
    go_enter Tryd.func88, Tryd.ntmps88
    go_wp2
    go_ret
    exact ⟨by rw [HR.out]; rfl, Below.refl _ _⟩
  by_cases h3 : (l.length : Int) ≤ p
  · have HR := hid (show onE l p = l.length from (if_neg h1).trans (if_pos h3))
    go_enter Tryd.func88, Tryd.ntmps88
    go_wp2
    go_ret
    exact ⟨by rw [HR.out]; rfl, Below.refl _ _⟩
  · have HR := hid (show onE l p = (bgF l p.toNat 4 : Int) + wid l (bgF l p.toNat 4) from (if_neg h1).trans (if_neg h3))
    have hlt := bgF_lt l p.toNat (by omega)
    have h4 := wid_le4 l (bgF l p.toNat 4)
    unfold wid at h4
    go_enter Tryd.func88, Tryd.ntmps88
    go_wp2_with fail
    refine (begin_eq l p.toNat _ _ (by omega) (by omega) hl (by exact HT.out) (by exact h2)).mono ?_
    rintro e w1 ⟨rfl, hb⟩
    have HT1 := hid (tabs_below HT.out h2 hb)
    obtain ⟨f, hf⟩ : ∃ f, f = bgF l p.toNat 4 := ⟨_, rfl⟩
    rw [← hf] at hlt h4 ⊢
    have HF := hid hf
    clear hf
    go_wp2_with fail
    refine (decode_eq _ (l.drop f) _ (ext_drop l f) (by exact HT1.out)).mono ?_
    rintro e w2 ⟨rfl, hb2⟩
    have HW := hid (show wid l f = (dec (l.drop f)).2 from rfl)
    generalize (dec (l.drop f)).1 = rr at *
    generalize (dec (l.drop f)).2 = nn at *
    have HB := hid (hb.trans (hb2.mono hb.size))
    clear hb hb2
    go_wp2
    go_ret
    exact ⟨by rw [HR.out, ← HF.out, HW.out]; rfl, HB.out⟩

end Go.Proofs.YtffbdnlfknomnaaDoor.Wt
/- The contract of sure (package grapheme) at any edge. -/
namespace Go.Proofs.YtffbdnlfknomnaaDoor.Wt
open Go.RowKit

theorem glast_any (l : List UInt8) (w : World) (ht : TbW w) (hl : l.length ≤ 1000000000) :
    Calls Tryd.prog 126 #[.string ⟨l.toArray⟩] w fun e w' => e = .returned (.tuple #[.int .i64 (gplast l), .int .i64 (decLast l).2]) ∧ Below w.heap.size w w' := by
  have HT := hid ht
  clear ht
  go_enter Tryd.func126, Tryd.ntmps126
  go_wp2_with fail
  refine (last_any l w (by omega) HT.out.tabs).mono ?_
  rintro e w1 ⟨rfl, be⟩
  have HB := hid be
  clear be
  obtain ⟨r, hr⟩ : ∃ r : Int, r = ((decLast l).1 : Int) := ⟨_, rfl⟩
  obtain ⟨n, hn⟩ : ∃ n : Nat, n = (decLast l).2 := ⟨_, rfl⟩
  have HN := hid hn
  have HV := hid (show gplast l = gpcls r by rw [hr]; rfl)
  rw [← hr, ← hn]
  clear hr hn
  go_wp2_with fail
  refine (gpcls_any r w1).mono ?_
  rintro e w2 ⟨rfl, hw2⟩
  obtain rfl := hw2.symm
  clear hw2
  go_wp2
  go_ret2
  exact ⟨by rw [HV.out, ← HN.out]; rfl, HB.out⟩
/-- How many runes it goes back: the classes ahead, the last first, and the class behind. -/
def srN : List Int → Int → Nat
  | [], _ => 0
  | a :: R, b => if gbt a b = 0 then 0 else srN R a + 1
theorem srN_le : ∀ (R : List Int) (b : Int), srN R b ≤ R.length
  | [], _ => Nat.le_refl _
  | a :: R, b => by
    unfold srN
    have := srN_le R a
    split
    · exact Nat.zero_le _
    · rw [List.length_cons]; omega
theorem srN_no (a b : Int) (R : List Int) (h : gbt a b ≠ 0) : srN (a :: R) b = srN R a + 1 := if_neg h
theorem srN_yes (a b : Int) (R : List Int) (h : gbt a b = 0) : srN (a :: R) b = 0 := if_pos h
/-- The edge that sure answers, by its number of runes. -/
def gsu (l : List UInt8) (k : Nat) : Nat := k - srN ((gcs l).take k).reverse (((gcs l).drop k).headD 3)
theorem take_rev (L : List Int) (j : Nat) (h : j < L.length) : (L.take (j + 1)).reverse = L[j] :: (L.take j).reverse := by
  rw [List.take_succ_eq_append_getElem h, List.reverse_append]; rfl
theorem last_pos (l : List UInt8) (j : Nat) (h : j < (rl l).length) : decLast (l.take (pos l (j + 1))) = (rl l)[j] := by
  have h1 := rl_take l (j + 1) h
  have hp : 0 < pos l (j + 1) := by have := pos_lt l j h; omega
  have hle := pos_le l (j + 1) h
  have hne : l.take (pos l (j + 1)) ≠ [] := fun e => by
    have := congrArg List.length e
    rw [List.length_take] at this
    simp only [List.length_nil] at this
    omega
  rw [rl_snoc _ hne, List.take_succ_eq_append_getElem h] at h1
  have := List.append_inj_right' h1 rfl
  exact (List.cons.inj this).1
theorem pos_back (l : List UInt8) (j : Nat) (h : j < (rl l).length) : pos l (j + 1) = pos l j + ((rl l)[j]).2 := psm_take _ j h
set_option maxHeartbeats 2000000 in
theorem gsure_any (l : List UInt8) (k p : Nat) (w : World) (ht : TbW w) (hl : l.length ≤ 1000000000) (hk : k ≤ (rl l).length) (hp : p = pos l k) :
    Calls Tryd.prog 103 #[.string ⟨l.toArray⟩, .int .i64 p] w fun e w' => e = .returned (.int .i64 (pos l (gsu l k))) ∧ Below w.heap.size w w' := by
  have HT := hid ht
  have HP := hid hp
  have HK := hid hk
  have hpl : p ≤ l.length := by rw [hp]; exact pos_le l k hk
  have HS := hid (show gstep l p = (((gcs l).drop k).headD 3, pos l (k + 1)) by rw [hp]; exact gstep_pos l k hk)
  obtain ⟨b, hb⟩ : ∃ b, b = ((gcs l).drop k).headD 3 := ⟨_, rfl⟩
  obtain ⟨q, hq⟩ : ∃ q, q = pos l (k + 1) := ⟨_, rfl⟩
  have HG := hid (show gsu l k = k - srN ((gcs l).take k).reverse b by rw [hb]; rfl)
  rw [← hb, ← hq] at HS
  clear ht hp hk hb hq
  go_enter Tryd.func103, Tryd.ntmps103
  go_wp2_with fail
  refine (gstep_any l p w HT.out hl hpl).mono ?_
  rintro e w1 ⟨rfl, be⟩
  have HB := hid be
  rw [HS.out]
  simp only []
  clear be HS
  go_wp2
  go_loopw [1, 5] (fun v c wr => ∃ (j r : Nat) (d : Int), v = .int .i64 r ∧ c = .int .i64 d ∧ r ≤ l.length ∧ Hid (r = pos l j) ∧ Hid (j ≤ (rl l).length) ∧ Hid (gsu l k = j - srN ((gcs l).take j).reverse d) ∧ Below w.heap.size w wr) (fun v _ _ => (intOf v).toNat)
  case atStart => exact ⟨k, p, b, rfl, rfl, hpl, HP, HK, HG, HB.out⟩
  case round =>
    obtain ⟨j, r, d, rfl, rfl, hr, HR, HJ, HG1, hBr⟩ := hrel
    have HB1 := hid hBr
    clear hBr HG
    by_cases h0 : 0 < r
    · have h0i : (0 : Int) < (r : Int) := by omega
      obtain ⟨i, hi⟩ : ∃ i, j = i + 1 := ⟨j - 1, by
        have h1 := HR.out
        rcases Nat.eq_zero_or_pos j with h2 | h2
        · rw [h2, pos_0] at h1; omega
        · omega⟩
      subst hi
      have hil : i < (rl l).length := HJ.out
      have HLP := hid (show decLast (l.take r) = (rl l)[i] by rw [HR.out]; exact last_pos l i hil)
      have hpb := pos_back l i hil
      rw [← HR.out] at hpb
      have HTL := hid (show (l.take r).length ≤ 1000000000 by rw [List.length_take]; omega)
      obtain ⟨a, ha⟩ : ∃ a, a = gplast (l.take r) := ⟨_, rfl⟩
      obtain ⟨m, hm⟩ : ∃ m : Nat, m = (decLast (l.take r)).2 := ⟨_, rfl⟩
      have hgi : i < (gcs l).length := by rw [gcs_len]; exact hil
      have HA := hid (show (gcs l)[i] = a by rw [ha]; unfold gplast; rw [HLP.out]; simp [gcs, gc])
      have hmr : r = pos l i + m := by rw [hm, HLP.out]; exact hpb
      have hmp : 0 < m := by rw [hm, HLP.out]; exact rl_pos _ l (Nat.le_refl _) _ (List.getElem_mem hil)
      have HTR := hid (take_rev (gcs l) i hgi)
      rw [HA.out] at HTR
      have HMR := hid hmr
      have HIL := hid hil
      have hmr2 : m ≤ r := by omega
      clear hpb hgi hmr hil HA HLP
      go_wp2_with fail
      rw [wtake]
      refine (glast_any (l.take r) wr (HT.out.below HB1.out) HTL.out).mono ?_
      rintro e w2 ⟨rfl, be⟩
      have HB2 := hid (HB1.out.trans (be.mono HB1.out.size))
      rw [← ha, ← hm]
      clear be ha hm
      go_wp2_with fail
      refine (gbt_any a d w2).mono ?_
      rintro e w3 ⟨rfl, hw3⟩
      obtain rfl := hw3.symm
      clear hw3
      by_cases hg : gbt a d = 0
      · have HF := hid (show gsu l k = i + 1 by rw [HG1.out, HTR.out, srN_yes _ _ _ hg]; rfl)
        have hgb : (gbt a d == 0) = true := by rw [hg]; rfl
        clear hg
        go_wp2
        go_ret
        exact ⟨by rw [HF.out, ← HR.out]; rfl, HB2.out⟩
      · have hgb : (gbt a d == 0) = false := beq_eq_false_iff_ne.2 hg
        have HF := hid (show gsu l k = i - srN ((gcs l).take i).reverse a by rw [HG1.out, HTR.out, srN_no _ _ _ hg]; omega)
        clear hg
        go_wp2
        go_roundw
        case rel => exact ⟨i, r - m, a, by rw [Int.ofNat_sub hmr2], rfl, by omega, by show r - m = pos l i; have := HMR.out; omega, by show i ≤ _; have := HIL.out; omega, HF, HB2.out⟩
        case measure => simp [intOf]; omega
    · obtain rfl : r = 0 := by omega
      have HF := hid (show pos l (gsu l k) = 0 by
        have h1 := HR.out
        have hj : j = 0 := by
          rcases Nat.eq_zero_or_pos j with h2 | h2
          · exact h2
          · obtain ⟨i, rfl⟩ : ∃ i, j = i + 1 := ⟨j - 1, by omega⟩
            have := pos_lt l i HJ.out
            omega
        rw [HG1.out, hj, Nat.zero_sub, pos_0])
      go_wp2
      go_ret
      exact ⟨by rw [HF.out]; rfl, HB1.out⟩
end Go.Proofs.YtffbdnlfknomnaaDoor.Wt
/- Bounds of letters: the letter around a place; what sure answers is a bound. Mathematics alone. -/
namespace Go.Proofs.YtffbdnlfknomnaaDoor.Wt

theorem gsu_le (l : List UInt8) (k : Nat) : gsu l k ≤ k := Nat.sub_le _ _
theorem sure_is (L : List Int) : ∀ k, k ≤ L.length → (k - srN (L.take k).reverse ((L.drop k).headD 3) = 0 ∨ gbt ((L.take (k - srN (L.take k).reverse ((L.drop k).headD 3))).getLastD 0) ((L.drop (k - srN (L.take k).reverse ((L.drop k).headD 3))).headD 3) = 0)
  | 0, _ => .inl (Nat.zero_sub _)
  | k + 1, h => by
    have hk : k < L.length := h
    have hd : (L.drop k).headD 3 = L[k] := by rw [List.drop_eq_getElem_cons hk]; rfl
    rw [take_rev L k hk]
    by_cases hg : gbt L[k] ((L.drop (k + 1)).headD 3) = 0
    · right
      have e : (L.take (k + 1)).getLastD 0 = L[k] := by rw [List.take_succ_eq_append_getElem hk, List.getLastD_eq_getLast?, List.getLast?_append]; rfl
      rw [srN_yes _ _ _ hg, Nat.sub_zero, e]
      exact hg
    · rw [srN_no _ _ _ hg, Nat.succ_sub_succ]
      have := sure_is L k (Nat.le_of_lt hk)
      rw [hd] at this
      exact this
theorem gsu_sure (l : List UInt8) (k : Nat) (h : k ≤ (rl l).length) : gsu l k = 0 ∨ gbt (((gcs l).take (gsu l k)).getLastD 0) (((gcs l).drop (gsu l k)).headD 3) = 0 := sure_is (gcs l) k (by rw [gcs_len]; exact h)
theorem pcl_gsu (l : List UInt8) (k : Nat) (h : k < (rl l).length) : pcl gc (rl l) = pcl gc ((rl l).take (gsu l k)) ++ pcl gc ((rl l).drop (gsu l k)) := by
  have hle := gsu_le l k
  rcases gsu_sure l k (Nat.le_of_lt h) with h0 | h0
  · rw [h0]; rfl
  · rcases Nat.eq_zero_or_pos (gsu l k) with hz | hz
    · rw [hz]; rfl
    · have hlt : gsu l k < (rl l).length := by omega
      have hlt2 : gsu l k < (gcs l).length := by rw [gcs_len]; exact hlt
      have hs := pcl_sure gc gc_cl _ ((rl l).take (gsu l k)) ((rl l)[gsu l k]) ((rl l).drop (gsu l k + 1)) (Nat.le_refl _) (fun e => by
        have := congrArg List.length e
        rw [List.length_take] at this
        simp only [List.length_nil] at this
        omega) (by
        rw [List.drop_eq_getElem_cons hlt2, List.headD_cons] at h0
        rw [List.map_take]
        have e : (gcs l)[gsu l k] = gc (rl l)[gsu l k] := by simp [gcs]
        rw [e] at h0
        exact h0)
      rw [← List.drop_eq_getElem_cons hlt, List.take_append_drop] at hs
      exact hs
theorem gpF_0 (l : List UInt8) : gpF l 0 = plc 0 (pcl gc (rl l)) := rfl
theorem gp_split (l : List UInt8) (k : Nat) (h : k < (rl l).length) : gpF l 0 = plc 0 (pcl gc ((rl l).take (gsu l k))) ++ gpF l (pos l (gsu l k)) := by
  have hle := gsu_le l k
  rw [gpF_0, pcl_gsu l k h, plc_app, pcl_all gc _ _ (Nat.le_refl _), Nat.zero_add]
  unfold gpF
  rw [rl_drop l _ (by omega)]
  rfl
theorem plc_bd : ∀ (M : List (List (Nat × Nat))) (q : Nat), ∀ y ∈ plc q M, q ≤ y.1 ∧ y.2 ≤ q + psm M.flatten
  | [], _, _, h => by cases h
  | x :: M, q, y, h => by
    rw [plc] at h
    rw [List.flatten_cons, psm_app]
    rcases List.mem_cons.1 h with rfl | h
    · exact ⟨Nat.le_refl _, by show q + psm x ≤ _; omega⟩
    · have := plc_bd M _ y h
      omega
theorem plc_next : ∀ (M : List (List (Nat × Nat))) (q : Nat) (U V : List (Nat × Nat)) (x : Nat × Nat), plc q M = U ++ x :: V → ∀ y ∈ V, x.2 ≤ y.1
  | [], _, U, V, x, h => by cases U <;> cases h
  | z :: M, q, [], V, x, h => by
    rw [plc, List.nil_append] at h
    obtain ⟨h1, h2⟩ := List.cons.inj h
    intro y hy
    rw [← h1]
    rw [← h2] at hy
    exact (plc_bd M _ y hy).1
  | z :: M, q, u :: U, V, x, h => by
    rw [plc, List.cons_append] at h
    exact plc_next M _ U V x (List.cons.inj h).2
theorem plc_shift : ∀ (M : List (List (Nat × Nat))) (q b : Nat), plc (b + q) M = (plc q M).map fun x => (b + x.1, b + x.2)
  | [], _, _ => rfl
  | z :: M, q, b => by rw [plc, plc, List.map_cons, Nat.add_assoc, plc_shift M (q + psm z) b]
theorem gp_shift (l : List UInt8) (b : Nat) : gpF l b = (gpF (l.drop b) 0).map fun x => (b + x.1, b + x.2) := by
  have := plc_shift (pcl gc (rl (l.drop b))) 0 b
  rw [Nat.add_zero] at this
  exact this
theorem plc_last : ∀ (M : List (List (Nat × Nat))) (q : Nat), M ≠ [] → ∃ y ∈ plc q M, y.2 = q + psm M.flatten
  | [x], q, _ => ⟨(q, q + psm x), by simp [plc], by simp⟩
  | x :: z :: M, q, _ => by
    obtain ⟨y, hy, he⟩ := plc_last (z :: M) (q + psm x) (by simp)
    refine ⟨y, by rw [plc]; exact List.mem_cons_of_mem _ hy, ?_⟩
    rw [he, List.flatten_cons (l := x), psm_app, Nat.add_assoc]
theorem gp_last (l : List UInt8) (h : l ≠ []) : ∃ y ∈ gpF l 0, y.2 = l.length := by
  have hrn : rl l ≠ [] := by rw [rl_cons l h]; simp
  obtain ⟨y, hy, he⟩ := plc_last (pcl gc (rl l)) 0 (by rw [pcl_cons gc _ hrn]; simp)
  refine ⟨y, hy, ?_⟩
  rw [he, pcl_all gc _ _ (Nat.le_refl _), rl_sum _ l (Nat.le_refl _), Nat.zero_add]
theorem gp_lt (l : List UInt8) : ∀ y ∈ gpF l 0, y.1 < y.2 := by
  obtain ⟨L, hL, _⟩ := gp_all l _ 0 (Nat.le_refl _)
  intro y hy
  rw [← hL] at hy
  obtain ⟨x, _, rfl⟩ := List.mem_map.1 hy
  exact x.lt
/-- A letter begins at the place p. -/
def Gis (l : List UInt8) (p : Nat) : Prop := ∃ y ∈ gpF l 0, y.1 = p
/-- The rune to which a place belongs. -/
theorem rune_at (l : List UInt8) (p : Nat) (h : p < l.length) : ∃ k, k < (rl l).length ∧ pos l k ≤ p ∧ p < pos l (k + 1) := by
  have key : ∀ n, n ≤ (rl l).length → p < pos l n → ∃ k, k < n ∧ pos l k ≤ p ∧ p < pos l (k + 1) := by
    intro n
    induction n with
    | zero => intro _ h1; rw [pos_0] at h1; omega
    | succ n ih =>
      intro hn h1
      rcases Nat.lt_or_ge p (pos l n) with h2 | h2
      · obtain ⟨k, k1, k2⟩ := ih (by omega) h2
        exact ⟨k, by omega, k2⟩
      · exact ⟨n, by omega, h2, h1⟩
  exact key _ (Nat.le_refl _) (by rw [pos_all l _ (Nat.le_refl _)]; exact h)
theorem back_rune (l : List UInt8) (p k : Nat) (h : k < (rl l).length) (h1 : pos l k ≤ p) (h2 : p < pos l (k + 1)) : backE l ((p : Int) + 1) = (pos l k : Nat) := by
  have hle := pos_le l (k + 1) h
  obtain ⟨P, hP⟩ := mks_pos l k (Nat.le_of_lt h)
  rw [mks_at l _ (pos_end l k h)] at hP
  have e : pos l k + wid l (pos l k) = pos l (k + 1) := pos_step l k h
  unfold backE
  rw [if_neg (by omega), if_neg (by omega), show ((p : Int) + 1).toNat - 1 = p by omega, begin_is l p (pos l k) P (by omega) h1 (by omega) hP]
theorem pos_leq (l : List UInt8) (i j : Nat) (h : i ≤ j) (hj : j ≤ (rl l).length) : pos l i ≤ pos l j := by
  have := pos_mono l (j - i) i (by omega)
  rw [show i + (j - i) = j by omega] at this
  omega
/-- What Around finds. -/
theorem around_is (l : List UInt8) (p k B : Nat) (hk : k < (rl l).length) (hp : pos l k ≤ p) (hB : B = pos l (gsu l k)) (L pre : List (Pl (l.drop B))) (hL : L.map Pl.v = gpF (l.drop B) 0) (x : Pl (l.drop B)) (h : pre ++ [x] <+: L) (h1 : ∀ y ∈ pre, B + y.v.2 ≤ p) (h2 : p < B + x.v.2) :
    Gis l p ↔ B + x.v.1 = p := by
  have hBp : B ≤ p := by
    have := pos_leq l (gsu l k) k (gsu_le l k) (Nat.le_of_lt hk)
    omega
  obtain ⟨R, hR⟩ := h
  have hS : gpF (l.drop B) 0 = pre.map Pl.v ++ x.v :: R.map Pl.v := by
    rw [← hL, ← hR, List.append_assoc, List.map_append]; rfl
  unfold Gis
  rw [gp_split l k hk, ← hB, gp_shift l B, hS, List.map_append, List.map_cons]
  constructor
  · rintro ⟨y, hy, he⟩
    rcases List.mem_append.1 hy with hy | hy
    · have h3 := (plc_bd _ _ y hy).2
      have h4 := gp_lt l y (by rw [gp_split l k hk]; exact List.mem_append_left _ hy)
      rw [pcl_all gc _ _ (Nat.le_refl _), Nat.zero_add] at h3
      have h5 : psm ((rl l).take (gsu l k)) = B := hB.symm
      omega
    · rcases List.mem_append.1 hy with hy | hy
      · obtain ⟨z0, hz0, rfl⟩ := List.mem_map.1 hy
        obtain ⟨z, hz, rfl⟩ := List.mem_map.1 hz0
        have := h1 z hz
        have := z.lt
        simp only [] at he
        omega
      · rcases List.mem_cons.1 hy with rfl | hy
        · exact he
        · obtain ⟨z, hz, rfl⟩ := List.mem_map.1 hy
          have := plc_next _ _ _ _ _ hS z hz
          simp only [] at he
          omega
  · intro he
    exact ⟨(B + x.v.1, B + x.v.2), List.mem_append_right _ (List.mem_append_right _ (List.mem_cons_self ..)), he⟩
end Go.Proofs.YtffbdnlfknomnaaDoor.Wt
