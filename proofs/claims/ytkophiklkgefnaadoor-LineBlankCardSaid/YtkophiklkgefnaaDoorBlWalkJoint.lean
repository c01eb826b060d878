/- The contract of Kind (package line) at an edge within a text. -/
import Derived.Test.YtkophiklkgefnaaDoorLnFun5Joint
import Derived.Test.YtkophiklkgefnaaDoorREdgeJoint
import Derived.Test.YtkophiklkgefnaaDoorTxMath
import Derived.Test.YtkophiklkgefnaaDoorTrMath
import Derived.Test.YtkophiklkgefnaaDoorTrWalk
namespace Go.Proofs.YtkophiklkgefnaaDoor.Ln
open Go.RowKit

/-- What a place within a text is. -/
def lnk (s : List UInt8) (p : Nat) : Int := if lncut s 0 p = false then 0 else if lnends (lnlast (s.take p)) then 2 else 1
theorem isE_plc (s : List UInt8) (k : Nat) (h : k ≤ (rl s).length) : isE s (plc s k) = true := Wt.isE_pos s k h
theorem plc_lt (s : List UInt8) (k : Nat) (h : k < (rl s).length) : plc s k < s.length := Wt.pos_end s k h
theorem plc_pos (s : List UInt8) (k : Nat) (h0 : 0 < k) (h : k ≤ (rl s).length) : 0 < plc s k := by
  have h1 := Wt.pos_mono s k 0 (by omega)
  rw [Nat.zero_add] at h1
  have h2 : plc s k = Wt.pos s k := rfl
  have h3 : Wt.pos s 0 = 0 := rfl
  omega
set_option maxHeartbeats 1000000 in
set_option maxRecDepth 100000 in
theorem kind_edge (s : List UInt8) (p : Nat) (w : World) (ht : Tb w) (hl : s.length ≤ 1000000000) (h0 : 0 < p) (h1 : p < s.length) (he : isE s (p : Int) = true) :
    Calls Tryd.prog 30 #[.string ⟨s.toArray⟩, .int .i64 (p : Int)] w fun e w' => e = .returned (.int .i64 (lnk s p)) ∧ Below w.heap.size w w' := by
  have HT := hid ht
  have HE := hid he
  clear ht he
  have h0' : ¬ (p : Int) ≤ 0 := by omega
  have h1' : (p : Int) < (s.length : Int) := by omega
  have hne : ¬ p = s.length := by omega
  go_enter Tryd.func30, Tryd.ntmps30
  go_wp2_with fail
  refine (is_any s p w (by omega) HT.out.tabs HT.out.two).mono ?_
  rintro e w1 ⟨rfl, be⟩
  rw [HE.out]
  have HB1 := hid be
  clear be
  go_wp2_with fail
  refine (cut_any s 0 p w1 (HT.out.below HB1.out) hl (by omega) (by omega)).mono ?_
  rintro e w2 ⟨rfl, be⟩
  have HB2 := hid (HB1.out.trans (be.mono HB1.out.size))
  clear be
  obtain ⟨b, hb⟩ : ∃ b, b = lncut s 0 p := ⟨_, rfl⟩
  have HV := hid (show lnk s p = if b = false then 0 else if lnends (lnlast (s.take p)) then 2 else 1 by rw [hb]; rfl)
  rw [← hb]
  clear hb
  cases b with
  | false =>
    go_wp2
    go_ret
    exact ⟨by rw [HV.out]; rfl, HB2.out⟩
  | true =>
    go_wp2_with fail
    refine (isMust_any s p w2 (HT.out.below HB2.out) hl (by omega)).mono ?_
    rintro e w3 ⟨rfl, be⟩
    have HB3 := hid (HB2.out.trans (be.mono HB2.out.size))
    clear be
    have e1 : lnmust s p = lnends (lnlast (s.take p)) := by unfold lnmust; rw [decide_eq_false hne, Bool.false_or]
    rw [e1]
    clear e1
    obtain ⟨c, hc⟩ : ∃ c, c = lnends (lnlast (s.take p)) := ⟨_, rfl⟩
    rw [← hc] at HV ⊢
    clear hc
    cases c with
    | false =>
      go_wp2
      go_ret
      exact ⟨by rw [HV.out]; rfl, HB3.out⟩
    | true =>
      go_wp2
      go_ret
      exact ⟨by rw [HV.out]; rfl, HB3.out⟩
theorem kind_any (s : List UInt8) (k : Nat) (w : World) (ht : Tb w) (hl : s.length ≤ 1000000000) (h0 : 0 < k) (h1 : k < (rl s).length) :
    Calls Tryd.prog 30 #[.string ⟨s.toArray⟩, .int .i64 (plc s k : Int)] w fun e w' => e = .returned (.int .i64 (lnk s (plc s k))) ∧ Below w.heap.size w w' :=
  kind_edge s _ w ht hl (plc_pos s k h0 (by omega)) (plc_lt s k h1) (isE_plc s k (by omega))
end Go.Proofs.YtkophiklkgefnaaDoor.Ln
/- What a place within a text is, by the classes of the runes beside it: where no line may end, and where it must. -/
namespace Go.Proofs.YtkophiklkgefnaaDoor.Ln
open Go.RowKit

/-- Behind a zero width space, and blanks. -/
def zwf (s : List UInt8) (k : Nat) : Bool := decide (lnlast (wthL [4] (s.take (plc s k))) = 5)
theorem zwf_zero (s : List UInt8) : zwf s 0 = false := rfl
theorem last_at (s : List UInt8) (k : Nat) (x : Nat × Nat) (h : (rl s)[k]? = some x) : lnlast (s.take (plc s (k + 1))) = lncls x.1 := by
  obtain ⟨h1, h2, _⟩ := take_last s k x h
  unfold lnlast
  rw [if_neg h1, h2]
theorem first_at (s : List UInt8) (k : Nat) (x : Nat × Nat) (h : (rl s)[k]? = some x) : lnfirst (s.drop (plc s k)) = lncls x.1 := by
  obtain ⟨hk, hx⟩ := List.getElem?_eq_some_iff.1 h
  have h1 := rl_drop s k (by omega)
  have hne : s.drop (plc s k) ≠ [] := fun e => by
    rw [e, rl_nil, List.drop_eq_getElem_cons hk] at h1
    cases h1
  rw [rl_cons _ hne, List.drop_eq_getElem_cons hk, hx] at h1
  have h2 : dec (s.drop (plc s k)) = x := (List.cons.inj h1).1
  unfold lnfirst
  rw [if_neg hne, h2]
theorem zwf_step (s : List UInt8) (k : Nat) (x : Nat × Nat) (h : (rl s)[k]? = some x) : zwf s (k + 1) = if lncls x.1 = 5 then true else if lncls x.1 = 4 then zwf s k else false := by
  obtain ⟨h1, h2, h3⟩ := take_last s k x h
  have h4 := last_at s k x h
  unfold zwf
  by_cases c4 : lncls x.1 = 4
  · rw [wthL_yes _ _ h1 (by rw [h4, c4]; decide), h3, if_neg (by omega), if_pos c4]
  · rw [wthL_no _ _ (by rw [h4]; unfold amg; simp [c4]), h4, if_neg c4]
    by_cases c5 : lncls x.1 = 5
    · rw [if_pos c5, decide_eq_true c5]
    · rw [if_neg c5, decide_eq_false c5]
theorem held_yes (a b : Int) (h : amg [6, 11, 10, 13, 14, 15] b = true) : lnheld a b = true := by unfold lnheld; rw [if_pos h]
section
variable (s : List UInt8) (p : Nat) (a b : Int) (ha : lnlast (s.take p) = a) (hb : lnfirst (s.drop p) = b)
include ha hb
theorem nv_crlf (h1 : a = 2) (h2 : b = 3) : lnk s p = 0 := by
  have h : lncut s 0 p = false := by unfold lncut; rw [ha, hb, if_pos ⟨h1, h2⟩]
  unfold lnk
  rw [if_pos h]
theorem nv_end (h1 : lnends a = true) (h2 : ¬ (a = 2 ∧ b = 3)) : lnk s p = 2 := by
  unfold lnk lncut
  rw [ha, hb, if_neg h2, if_pos h1]
  simp [h1]
omit hb in
theorem nv_not (h1 : lnends a = false) : lnk s p = 0 ∨ lnk s p = 1 := by
  unfold lnk
  rw [ha, h1]
  split
  · exact .inl rfl
  · exact .inr rfl
theorem nv_zero (h1 : lnends a = false) (h : lnends b = false → amg [4, 5] b = false → lnlast (wthL [4] (s.take p)) ≠ 5 ∧ (lnheld (lnbase (wthL [4] (s.take p))) b = true ∨ (a ≠ 4 ∧ (b = 8 ∨ lnjoin s 0 p = true)))) : lnk s p = 0 := by
  have h3 : ¬ (a = 2 ∧ b = 3) := fun e => by rw [e.1] at h1; cases h1
  unfold lnk lncut
  rw [ha, hb, if_neg h3, h1]
  by_cases hB : lnends b = true
  · rw [hB]; rfl
  · have hB' : lnends b = false := by simpa using hB
    rw [hB']
    by_cases hC : amg [4, 5] b = true
    · rw [hC]; rfl
    · have hC' : amg [4, 5] b = false := by simpa using hC
      rw [hC']
      obtain ⟨h5, h6⟩ := h hB' hC'
      simp only [Bool.false_eq_true, if_false]
      rw [if_neg h5]
      rcases h6 with h6 | ⟨h6, h7⟩
      · rw [h6]
        simp
      · rw [if_neg h6]
        rcases h7 with h7 | h7
        · rw [h7]; simp
        · rw [h7]; simp
theorem nv_blank (h1 : lnends a = false) (h2 : lnends b = true ∨ amg [4, 5] b = true) : lnk s p = 0 :=
  nv_zero s p a b ha hb h1 fun h5 h6 => by
    rcases h2 with h2 | h2
    · rw [h5] at h2; cases h2
    · rw [h6] at h2; cases h2
theorem nv_held (h1 : lnends a = false) (h2 : amg [6, 11, 10, 13, 14, 15] b = true) (hz : lnlast (wthL [4] (s.take p)) ≠ 5) : lnk s p = 0 :=
  nv_zero s p a b ha hb h1 fun _ _ => ⟨hz, .inl (held_yes _ _ h2)⟩
theorem nv_joins (h1 : lnends a = false) (h4 : a ≠ 4) (h5 : a ≠ 5) (h8 : a ≠ 8) (h : lnglued a b = true ∨ lntog a b = true) : lnk s p = 0 :=
  nv_zero s p a b ha hb h1 fun _ _ => by
    have e1 : lnbase (s.take p) = a := by
      unfold lnbase
      rw [wthL_no _ _ (by rw [ha]; unfold amg; simp [h8]), ha]
    refine ⟨by rw [wthL_no _ _ (by rw [ha]; unfold amg; simp [h4]), ha]; exact h5, .inr ⟨h4, .inr ?_⟩⟩
    unfold lnjoin
    rw [e1, hb]
    rcases h with h | h
    · rw [if_pos h]
    · split
      · rfl
      · split
        · rfl
        · first | rfl | rw [if_pos h]
end
end Go.Proofs.YtkophiklkgefnaaDoor.Ln
/- Blanks between two letters: the places within are no chances, the one behind them is one. -/
namespace Go.Proofs.YtkophiklkgefnaaDoor.Ln
open Go.RowKit

def bks (n : Nat) : List UInt8 := List.replicate n 32
theorem bks_len (n : Nat) : (bks n).length = n := by simp [bks]
theorem bks_snoc (n : Nat) : bks n ++ [32] = bks (n + 1) := by unfold bks; rw [List.replicate_succ']
theorem rl_bks (t : List UInt8) : ∀ n, rl (bks n ++ t) = List.replicate n (32, 1) ++ rl t
  | 0 => rfl
  | n + 1 => by
    show rl (32 :: (bks n ++ t)) = _
    rw [rl_ascii 32 _ (by decide), rl_bks t n]
    rfl
theorem rl_blk (s t : List UInt8) (n : Nat) (hn : 1 ≤ n) : rl (s ++ bks n ++ t) = rl s ++ (List.replicate n (32, 1) ++ rl t) := by
  rw [List.append_assoc, rl_app s.length s (bks n ++ t) (Nat.le_refl _) (.inr ?_), rl_bks]
  obtain ⟨k, rfl⟩ : ∃ k, n = k + 1 := ⟨n - 1, by omega⟩
  show Lib.runeStart (((32 : UInt8).toNat : Nat) : Int) = true
  decide
theorem cls32 : lncls ((32 : Nat) : Int) = 4 := by decide +kernel
section
variable (s t : List UInt8) (n : Nat) (hn : 1 ≤ n)
include hn
theorem bl_len : (rl (s ++ bks n ++ t)).length = (rl s).length + n + (rl t).length := by
  rw [rl_blk s t n hn]
  simp
  omega
theorem bl_plc (j : Nat) (hj : j ≤ n) : plc (s ++ bks n ++ t) ((rl s).length + j) = s.length + j := by
  unfold plc
  rw [rl_blk s t n hn, List.take_append, List.take_of_length_le (by omega), show (rl s).length + j - (rl s).length = j by omega, List.take_append, psm_app, psm_app, rl_sum s.length s (Nat.le_refl _)]
  have h1 : psm (List.take j (List.replicate n (32, 1))) = j := by
    rw [List.take_replicate, Nat.min_eq_left hj]
    clear hj
    induction j with
    | zero => rfl
    | succ j ih => rw [List.replicate_succ, psm_cons, ih]; show 1 + j = _; omega
  have h2 : psm (List.take (j - (List.replicate n ((32 : Nat), (1 : Nat))).length) (rl t)) = 0 := by
    rw [List.length_replicate, show j - n = 0 by omega]
    rfl
  rw [h1, h2]
  rfl
theorem bl_mid (j : Nat) (hj : j < n) : (rl (s ++ bks n ++ t))[(rl s).length + j]? = some (32, 1) := by
  rw [rl_blk s t n hn, List.getElem?_append_right (by omega), show (rl s).length + j - (rl s).length = j by omega, List.getElem?_append_left (by simp; omega)]
  simp [hj]
theorem bl_end (y : Nat × Nat) (hy : (rl t)[0]? = some y) : (rl (s ++ bks n ++ t))[(rl s).length + n]? = some y := by
  rw [rl_blk s t n hn, List.getElem?_append_right (by omega), show (rl s).length + n - (rl s).length = n by omega, List.getElem?_append_right (by simp)]
  simpa using hy
theorem bl_ahead (x : Nat × Nat) (k : Nat) (hx : (rl s)[k]? = some x) : (rl (s ++ bks n ++ t))[k]? = some x := by
  rw [rl_blk s t n hn, List.getElem?_append_left (List.getElem?_eq_some_iff.1 hx).1]
  exact hx
/-- The runes of the texts: the last of the first, the first of the second. -/
theorem bl_in (x : Nat × Nat) (m : Nat) (hm : (rl s).length = m + 1) (hx : (rl s)[m]? = some x) (hcx : lncls x.1 = 0) (j : Nat) (hj : j < n) : lnk (s ++ bks n ++ t) (s.length + j) = 0 := by
  have hp := bl_plc s t n hn j (by omega)
  have hb := first_at _ _ _ (bl_mid s t n hn j hj)
  rw [hp] at hb
  have hb' : lnfirst (List.drop (s.length + j) (s ++ bks n ++ t)) = 4 := hb.trans cls32
  have ha : ∃ a : Int, lnlast (List.take (s.length + j) (s ++ bks n ++ t)) = a ∧ lnends a = false := by
    rcases j with _ | j
    · have h1 := last_at _ _ _ (bl_ahead s t n hn x m hx)
      rw [← hm] at h1
      have h2 := bl_plc s t n hn 0 (by omega)
      simp only [Nat.add_zero] at h2
      rw [h2] at h1
      exact ⟨0, h1.trans hcx, by decide⟩
    · have h1 := last_at _ _ _ (bl_mid s t n hn j (by omega))
      rw [show (rl s).length + j + 1 = (rl s).length + (j + 1) by omega, hp] at h1
      exact ⟨4, h1.trans cls32, by decide⟩
  obtain ⟨a, ha, he⟩ := ha
  exact nv_blank _ _ a 4 ha hb' he (.inr (by decide))
theorem bl_wth (x : Nat × Nat) (m : Nat) (hm : (rl s).length = m + 1) (hx : (rl s)[m]? = some x) (hcx : lncls x.1 = 0) : ∀ j, j ≤ n → wthL [4] ((s ++ bks n ++ t).take (s.length + j)) = (s ++ bks n ++ t).take s.length
  | 0, _ => by
    have h1 := last_at _ _ _ (bl_ahead s t n hn x m hx)
    rw [← hm] at h1
    have h2 := bl_plc s t n hn 0 (by omega)
    simp only [Nat.add_zero] at h2
    rw [h2] at h1
    rw [Nat.add_zero]
    exact wthL_no _ _ (by rw [h1, hcx]; decide)
  | j + 1, hj => by
    have ih := bl_wth x m hm hx hcx j (by omega)
    obtain ⟨h1, h2, h3⟩ := take_last _ _ _ (bl_mid s t n hn j (by omega))
    have h4 := last_at _ _ _ (bl_mid s t n hn j (by omega))
    have p1 := bl_plc s t n hn (j + 1) hj
    have p0 := bl_plc s t n hn j (by omega)
    rw [show (rl s).length + j + 1 = (rl s).length + (j + 1) by omega, p1] at h1 h3 h4
    rw [p0] at h3
    rw [wthL_yes _ _ h1 (by rw [h4, cls32]; decide), h3]
    exact ih
theorem bl_out (x y : Nat × Nat) (m : Nat) (hm : (rl s).length = m + 1) (hx : (rl s)[m]? = some x) (hcx : lncls x.1 = 0) (hy : (rl t)[0]? = some y) (hcy : lncls y.1 = 0) : lnk (s ++ bks n ++ t) (s.length + n) = 1 := by
  have hp := bl_plc s t n hn n (Nat.le_refl _)
  have hb := first_at _ _ _ (bl_end s t n hn y hy)
  rw [hp, hcy] at hb
  obtain ⟨k, rfl⟩ : ∃ k, n = k + 1 := ⟨n - 1, by omega⟩
  have ha := last_at _ _ _ (bl_mid s t (k + 1) hn k (by omega))
  rw [show (rl s).length + k + 1 = (rl s).length + (k + 1) by omega, hp] at ha
  have ha' : lnlast (List.take (s.length + (k + 1)) (s ++ bks (k + 1) ++ t)) = 4 := ha.trans cls32
  have hw := bl_wth s t (k + 1) hn x m hm hx hcx (k + 1) (Nat.le_refl _)
  have hl : lnlast (List.take s.length (s ++ bks (k + 1) ++ t)) = 0 := by
    have h1 := last_at _ _ _ (bl_ahead s t (k + 1) hn x m hx)
    rw [← hm] at h1
    have h2 := bl_plc s t (k + 1) hn 0 (by omega)
    simp only [Nat.add_zero] at h2
    rw [h2] at h1
    exact h1.trans hcx
  have hbase : lnbase (List.take s.length (s ++ bks (k + 1) ++ t)) = 0 := by
    unfold lnbase
    rw [wthL_no _ _ (by rw [hl]; decide), hl]
  have hc : lncut (s ++ bks (k + 1) ++ t) 0 (s.length + (k + 1)) = true := by
    unfold lncut
    rw [ha', hb, hw, hl, hbase]
    generalize lnjoin _ _ _ = q
    cases q <;> decide
  unfold lnk
  rw [hc, ha']
  decide
end
end Go.Proofs.YtkophiklkgefnaaDoor.Ln
/- LineBlank. -/
namespace Go.Proofs.YtkophiklkgefnaaDoor.Ln
open Go.RowKit

theorem txt_le (l : List UInt8) : (Dc.txt l).length ≤ l.length := by
  have h2 := Dc.plr_len l l.length 0 (by omega)
  have h3 := Dc.cls_len l.length (Dc.plr l 0)
  have h4 : (Dc.txt l).length = (Dc.plr l 0).length := h3
  omega
theorem app32 (u : List UInt8) : (⟨u.toArray⟩ : ByteArray) ++ ⟨#[32]⟩ = ⟨(u ++ [32]).toArray⟩ := by
  apply ByteArray.ext
  simp
theorem bl_live (w w1 : World) (hv : Ev.Tbs tabs w) (hb : Below w.heap.size w w1) : Calls Tryd.prog 24 #[] w1 fun e w' => e = .returned (.bool true) ∧ Below w.heap.size w w' :=
  (lives14 w1 (tbs_below hv hb)).mono fun _ _ ⟨h1, h2⟩ => ⟨h1, hb.trans (h2.mono hb.size)⟩
set_option maxHeartbeats 8000000 in
set_option maxRecDepth 100000 in
theorem blank_short (s t : List UInt8) (n : Nat) (w : World) (ht : Tb w) (hv : Ev.Tbs tabs w) (hl : s.length + t.length ≤ 60) (h1 : 1 ≤ n) (h8 : n ≤ 8) : Calls Tryd.prog 10 #[.string ⟨s.toArray⟩, .int .i64 (n : Int), .string ⟨t.toArray⟩] w fun e w' => e = .returned (.bool true) ∧ Below w.heap.size w w' := by
  have HT := hid ht
  have HV := hid hv
  clear ht hv
  have a1 : ¬ (60 : Int) < (s.length : Int) + (t.length : Int) := by omega
  have a2 : ¬ (n : Int) < 1 := by omega
  have a3 : ¬ (8 : Int) < (n : Int) := by omega
  go_enter Tryd.func10, Tryd.ntmps10
  go_wp2_with fail
  refine (Dc.db14 w).mono ?_
  rintro e w1 ⟨b1, Q, rfl, k1⟩
  have HB1 := hid b1
  have HK1 := hid k1
  clear b1 k1
  go_wp2_with fail
  refine (Dc.rrunes_rd s w1 (by omega)).mono ?_
  rintro e w2 ⟨xo, xc, rfl, hr, b2⟩
  have HX2 := hid hr
  have HB2 := hid (HB1.out.trans (b2.mono HB1.out.size))
  have HK2 := hid (HK1.out.below b2)
  have HN := hid (txt_len s)
  obtain ⟨p, hp⟩ : ∃ p, p = (Dc.txt s).length := ⟨_, rfl⟩
  have p9 : p ≤ 60 := by have := txt_le s; omega
  rw [← hp] at HN ⊢
  clear hr b2 HB1 HK1 hp
  go_wp2_with fail
  refine (Dc.rrunes_rd t w2 (by omega)).mono ?_
  rintro e w3 ⟨yo, yc, rfl, hr, b2⟩
  have HY3 := hid hr
  have HX3 := hid (HX2.out.below b2)
  have HB3 := hid (HB2.out.trans (b2.mono HB2.out.size))
  have HK3 := hid (HK2.out.below b2)
  have HM := hid (txt_len t)
  obtain ⟨q, hq⟩ : ∃ q, q = (Dc.txt t).length := ⟨_, rfl⟩
  have q9 : q ≤ 60 := by have := txt_le t; omega
  rw [← hq] at HM ⊢
  clear hr b2 HB2 HK2 HX2 hq
  by_cases p0 : p = 0
  · subst p0
    go_wp2_with fail
    refine (bl_live w _ HV.out HB3.out).mono ?_
    rintro e w4 ⟨rfl, be⟩
    have HB4 := hid be
    clear be
    go_wp2
    go_ret
    exact ⟨rfl, HB4.out⟩
  have p0' : ¬ (p : Int) = 0 := by omega
  have p0'' : ((p : Int) == 0) = false := beq_eq_false_iff_ne.2 p0'
  by_cases q0 : q = 0
  · subst q0
    go_wp2_with fail
    refine (bl_live w _ HV.out HB3.out).mono ?_
    rintro e w4 ⟨rfl, be⟩
    have HB4 := hid be
    clear be
    go_wp2
    go_ret
    exact ⟨rfl, HB4.out⟩
  have q0' : ¬ (q : Int) = 0 := by omega
  have q0'' : ((q : Int) == 0) = false := beq_eq_false_iff_ne.2 q0'
  obtain ⟨m, hm⟩ : ∃ m, p = m + 1 := ⟨p - 1, by omega⟩
  have hmr : m < (rl s).length := by have := HN.out; omega
  have hqr : 0 < (rl t).length := by have := HM.out; omega
  have HEx := hid (List.getElem?_eq_getElem hmr)
  have HEy := hid (List.getElem?_eq_getElem hqr)
  obtain ⟨x, hx⟩ : ∃ x, x = (rl s)[m] := ⟨_, rfl⟩
  obtain ⟨y, hy⟩ : ∃ y, y = (rl t)[0] := ⟨_, rfl⟩
  rw [← hx] at HEx
  rw [← hy] at HEy
  obtain ⟨g, rfl, hg, z0, z1, z2⟩ := HX3.out m _ (txt_at s m x HEx.out)
  obtain ⟨g', rfl, hg', y0, y1, y2⟩ := HY3.out 0 _ (txt_at t 0 y HEy.out)
  have HRx := hid (rl_rune s x (by rw [hx]; exact List.getElem_mem hmr))
  have HRy := hid (rl_rune t y (by rw [hy]; exact List.getElem_mem hqr))
  clear hx hy hmr hqr z1 z2 y1 y2
  have i0 : (0 : Int) ≤ (m : Int) := by omega
  have i1 : (m : Int) < (p : Int) := by omega
  have i2 : (0 : Int) < (q : Int) := by omega
  have i4 : IntKind.i64.wrap ((p : Int) - 1) = (m : Int) := by rw [show (p : Int) - 1 = (m : Int) by omega]; rw [IntKind.wrap_i64]; omega
  obtain ⟨ca, hca, hca2⟩ := lncls_bd x.1 HRx.out
  obtain ⟨cb, hcb, hcb2⟩ := lncls_bd y.1 HRy.out
  have HCa := hid hca
  have HCb := hid hcb
  have HCa2 := hid hca2
  have HCb2 := hid hcb2
  obtain ⟨ua, hua⟩ : ∃ u, u = Dc.lnN (ca : Int) := ⟨_, rfl⟩
  obtain ⟨ub, hub⟩ : ∃ u, u = Dc.lnN (cb : Int) := ⟨_, rfl⟩
  have HUa := hid hua
  have HUb := hid hub
  have HNMa := hid (fun ww (hh : Dc.Bk Dc.lnU Dc.lnW Q ww) => (show Calls Tryd.prog 29 #[.pointer (some ⟨Q, 0, none⟩), .int .i32 (x.1 : Int)] ww fun e w' => e = .returned (.string ⟨ua.toArray⟩) ∧ Below ww.heap.size ww w' by
    have h5 := Dc.named_ln Q x.1 ww hh HRx.out
    rw [HCa.out, ← HUa.out] at h5
    exact h5))
  have HNMb := hid (fun ww (hh : Dc.Bk Dc.lnU Dc.lnW Q ww) => (show Calls Tryd.prog 29 #[.pointer (some ⟨Q, 0, none⟩), .int .i32 (y.1 : Int)] ww fun e w' => e = .returned (.string ⟨ub.toArray⟩) ∧ Below ww.heap.size ww w' by
    have h5 := Dc.named_ln Q y.1 ww hh HRy.out
    rw [HCb.out, ← HUb.out] at h5
    exact h5))
  obtain ⟨X0, hX0⟩ : ∃ X0, X0 = (x.1 : Int) := ⟨_, rfl⟩
  obtain ⟨Y0, hY0⟩ : ∃ Y0, Y0 = (y.1 : Int) := ⟨_, rfl⟩
  rw [← hX0] at z0 HNMa
  rw [← hY0] at y0 HNMb
  have HPM := hid hm
  clear hca hca2 hcb hcb2 hua hub hX0 hY0 hm
  go_wp2_with fail
  refine (HNMa.out _ HK3.out).mono ?_
  rintro e w4 ⟨rfl, be⟩
  have HB4 := hid (HB3.out.trans (be.mono HB3.out.size))
  have HK4 := hid (HK3.out.below be)
  have y4 := (be.cell (p := ⟨g', 0 * 3, none⟩) hg').trans y0
  clear be HB3 HK3 HX3 HY3 HNMa z0 y0
  by_cases ca0 : ¬ ca = 0
  · have u1 : (ua == [79, 116, 104, 101, 114]) = false := by rw [HUa.out]; exact lnN_ne ca HCa2.out 0 (by omega) ca0 _ (by decide +kernel)
    clear ca0
    go_wp2_with fail
    refine (bl_live w _ HV.out HB4.out).mono ?_
    rintro e w5 ⟨rfl, be⟩
    have HB5 := hid be
    clear be
    go_wp2
    go_ret
    exact ⟨rfl, HB5.out⟩
  have ca0 : ca = 0 := by omega
  obtain rfl : ua = [79, 116, 104, 101, 114] := HUa.out.trans (by rw [ca0]; decide +kernel)
  have HA0 := hid ca0
  clear ca0
  simp only [Nat.zero_mul] at y4
  go_wp2_with fail
  refine (HNMb.out _ HK4.out).mono ?_
  rintro e w5 ⟨rfl, be⟩
  have HB5 := hid (HB4.out.trans (be.mono HB4.out.size))
  clear be HB4 HK4 HNMb y4
  by_cases cb0 : ¬ cb = 0
  · have u1 : (ub == [79, 116, 104, 101, 114]) = false := by rw [HUb.out]; exact lnN_ne cb HCb2.out 0 (by omega) cb0 _ (by decide +kernel)
    clear cb0
    go_wp2_with fail
    refine (bl_live w _ HV.out HB5.out).mono ?_
    rintro e w6 ⟨rfl, be⟩
    have HB6 := hid be
    clear be
    go_wp2
    go_ret
    exact ⟨rfl, HB6.out⟩
  have cb0 : cb = 0 := by omega
  obtain rfl : ub = [79, 116, 104, 101, 114] := HUb.out.trans (by rw [cb0]; decide +kernel)
  have HB0 := hid cb0
  have HIN := hid (fun j (hj : j < n) => bl_in s t n h1 x m (by have := HN.out; have := HPM.out; omega) HEx.out (by rw [HCa.out, HA0.out]; rfl) j hj)
  have HOUT := hid (bl_out s t n h1 x y m (by have := HN.out; have := HPM.out; omega) HEx.out (by rw [HCa.out, HA0.out]; rfl) HEy.out (by rw [HCb.out, HB0.out]; rfl))
  have HRL := hid (show (rl s).length = p by have := HN.out; omega)
  have HRT := hid (show (rl t).length = q by have := HM.out; omega)
  clear cb0 HCa HCb HCa2 HCb2 HUa HUb HRx HRy HEx HEy HPM HN HM HA0 HB0 i4 i0 i1 i2
  go_wp2
  go_loopw [10, 11] (fun u x wr => ∃ i : Nat, i ≤ n ∧ x = .int .i64 (i : Int) ∧ u = .string ⟨(s ++ bks i).toArray⟩ ∧ wr = w5) (fun _ x _ => n - (intOf x).toNat)
  case atStart => exact ⟨0, by omega, rfl, by simp [bks], rfl⟩
  case round =>
    obtain ⟨i, hi, rfl, rfl, rfl⟩ := hrel
    by_cases hin : i < n
    · have i3 : (i : Int) < (n : Int) := by omega
      obtain ⟨u, hu⟩ : ∃ u, u = s ++ bks i := ⟨_, rfl⟩
      have hul : u.length ≤ 68 := by rw [hu, List.length_append, bks_len]; omega
      rw [← hu]
      have HU := hid (show u ++ [32] = s ++ bks (i + 1) by rw [hu, ← bks_snoc, List.append_assoc])
      clear hu
      go_wp2
      go_roundw
      case rel => exact ⟨i + 1, by omega, by go_num, by rw [← HU.out, app32], trivial⟩
      case measure => simp [intOf]; omega
    · have i3 : ¬ (i : Int) < (n : Int) := by omega
      obtain rfl : i = n := by omega
      clear i3
      have HKD := hid (fun (j : Nat) (hj : j ≤ i) ww (h : Tb ww) => show Calls Tryd.prog 30 #[.string ⟨(s ++ bks i ++ t).toArray⟩, .int .i64 ((s.length : Int) + (j : Int))] ww fun e w' => e = .returned (.int .i64 (lnk (s ++ bks i ++ t) (s.length + j))) ∧ Below ww.heap.size ww w' by
        have h5 := kind_any (s ++ bks i ++ t) ((rl s).length + j) ww h (by rw [List.length_append, List.length_append, bks_len]; omega) (by have := HRL.out; omega) (by rw [bl_len s t i h1]; have := HRT.out; omega)
        rw [bl_plc s t i h1 j hj] at h5
        simpa using h5)
      have HLN := hid (show (s ++ bks i).length = s.length + i by rw [List.length_append, bks_len])
      obtain ⟨u, hu⟩ : ∃ u, u = s ++ bks i := ⟨_, rfl⟩
      rw [← hu] at HKD HLN HIN HOUT ⊢
      have hul : u.length ≤ 68 := by rw [hu, List.length_append, bks_len]; omega
      clear hu
      have HB5' := hid (Below.refl wr.heap.size wr)
      go_wp2
      go_loopw [12] (fun x wq => ∃ j : Nat, j ≤ i ∧ x = .int .i64 (j : Int) ∧ Hid (Below w.heap.size w wq)) (fun x _ => i - (intOf x).toNat)
      case atStart => exact ⟨0, by omega, rfl, HB5.out⟩
      case round =>
        obtain ⟨j, hj, rfl, HB⟩ := hrel
        clear HB5 HB5'
        by_cases hji : j < i
        · have j3 : (j : Int) < (i : Int) := by omega
          go_wp2_with fail
          refine (HKD.out j (by omega) _ (HT.out.below HB.out)).mono ?_
          rintro e w6 ⟨rfl, be⟩
          have HB6 := hid (HB.out.trans (be.mono HB.out.size))
          clear be
          rw [HIN.out j hji]
          go_wp2
          go_roundw
          case rel => exact ⟨j + 1, by omega, by go_num, HB6.out⟩
          case measure => simp [intOf]; omega
        · have j3 : ¬ (j : Int) < (i : Int) := by omega
          go_wp2_with fail
          have e9 : ((u.length : Nat) : Int) = (s.length : Int) + (i : Int) := by rw [HLN.out]; omega
          refine (e9 ▸ HKD.out i (Nat.le_refl _) _ (HT.out.below HB.out)).mono ?_
          rintro e w6 ⟨rfl, be⟩
          have HB6 := hid (HB.out.trans (be.mono HB.out.size))
          clear be
          rw [HOUT.out]
          go_wp2_with fail
          refine (bl_live w _ HV.out HB6.out).mono ?_
          rintro e w7 ⟨rfl, be⟩
          have HB7 := hid be
          clear be
          go_wp2
          go_ret
          exact ⟨rfl, HB7.out⟩
theorem blank_main (s t : List UInt8) (n : Int) (w : World) (ht : Tb w) (hv : Ev.Tbs tabs w) (hs : s.length ≤ 1000000000000000) (hs2 : t.length ≤ 1000000000000000) : Calls Tryd.prog 10 #[.string ⟨s.toArray⟩, .int .i64 n, .string ⟨t.toArray⟩] w fun e w' => e = .returned (.bool true) ∧ Below w.heap.size w w' := by
  by_cases h : s.length + t.length ≤ 60 ∧ 1 ≤ n ∧ n ≤ 8
  · obtain ⟨h1, h2, h3⟩ := h
    obtain ⟨k, rfl⟩ : ∃ k : Nat, n = (k : Int) := ⟨n.toNat, by omega⟩
    exact blank_short s t k w ht hv h1 (by omega) (by omega)
  · have HV := hid hv
    clear hv ht
    by_cases c1 : 60 < s.length + t.length
    · have a1 : (60 : Int) < (s.length : Int) + (t.length : Int) := by omega
      clear h
      go_enter Tryd.func10, Tryd.ntmps10
      go_wp2_with fail
      refine (bl_live w _ HV.out (Below.refl _ _)).mono ?_
      rintro e w7 ⟨rfl, be⟩
      have HB7 := hid be
      clear be
      go_wp2
      go_ret
      exact ⟨rfl, HB7.out⟩
    · have a1 : ¬ (60 : Int) < (s.length : Int) + (t.length : Int) := by omega
      by_cases c2 : n < 1
      · clear h
        go_enter Tryd.func10, Tryd.ntmps10
        go_wp2_with fail
        refine (bl_live w _ HV.out (Below.refl _ _)).mono ?_
        rintro e w7 ⟨rfl, be⟩
        have HB7 := hid be
        clear be
        go_wp2
        go_ret
        exact ⟨rfl, HB7.out⟩
      · have c3 : (8 : Int) < n := by omega
        clear h
        go_enter Tryd.func10, Tryd.ntmps10
        go_wp2_with fail
        refine (bl_live w _ HV.out (Below.refl _ _)).mono ?_
        rintro e w7 ⟨rfl, be⟩
        have HB7 := hid be
        clear be
        go_wp2
        go_ret
        exact ⟨rfl, HB7.out⟩
end Go.Proofs.YtkophiklkgefnaaDoor.Ln
