/- The contract of Kind (package line) at an edge within a text. -/
import Derived.Test.YtkophiklkgefnaaDoorLnFun5Joint
import Derived.Test.YtkophiklkgefnaaDoorREdgeJoint
import Derived.Test.YtkophiklkgefnaaDoorTxMath
import Derived.Test.YtkophiklkgefnaaDoorTrMath
import Derived.Test.YtkophiklkgefnaaDoorLnFun1
import Derived.Test.YtkophiklkgefnaaDoorDcE
import Derived.Test.YtkophiklkgefnaaDoorTrWalk
namespace Go.Proofs.YtkophiklkgefnaaDoor.Ln
open Go.RowKit

/-- What a place within a text is. -/
def lnk (s : List UInt8) (p : Nat) : Int := if lncut s 0 p = false then 0 else if lnends (lnlast (s.take p)) then 2 else 1
theorem isE_plc (s : List UInt8) (k : Nat) (h : k ≤ (rl s).length) : isE s (plc s k) = true := Wt.isE_pos s k h
theorem plc_lt (s : List UInt8) (k : Nat) (h : k < (rl s).length) : plc s k < s.length := Wt.pos_end s k h
theorem plc_pos (s : List UInt8) (k : Nat) (h0 : 0 < k) (h : k ≤ (rl s).length) : 0 < plc s k := by
  have h1 := Wt.pos_mono s k 0 (by omega)
  rw [Nat.zero_add] at h1
  have h2 : plc s k = Wt.pos s k := rfl
  have h3 : Wt.pos s 0 = 0 := rfl
  omega
set_option maxHeartbeats 1000000 in
set_option maxRecDepth 100000 in
theorem kind_edge (s : List UInt8) (p : Nat) (w : World) (ht : Tb w) (hl : s.length ≤ 1000000000) (h0 : 0 < p) (h1 : p < s.length) (he : isE s (p : Int) = true) :
    Calls Tryd.prog 30 #[.string ⟨s.toArray⟩, .int .i64 (p : Int)] w fun e w' => e = .returned (.int .i64 (lnk s p)) ∧ Below w.heap.size w w' := by
  have HT := hid ht
  have HE := hid he
  clear ht he
  have h0' : ¬ (p : Int) ≤ 0 := by omega
  have h1' : (p : Int) < (s.length : Int) := by omega
  have hne : ¬ p = s.length := by omega
  go_enter Tryd.func30, Tryd.ntmps30
  go_wp2_with fail
  refine (is_any s p w (by omega) HT.out.tabs HT.out.two).mono ?_
  rintro e w1 ⟨rfl, be⟩
  rw [HE.out]
  have HB1 := hid be
  clear be
  go_wp2_with fail
  refine (cut_any s 0 p w1 (HT.out.below HB1.out) hl (by omega) (by omega)).mono ?_
  rintro e w2 ⟨rfl, be⟩
  have HB2 := hid (HB1.out.trans (be.mono HB1.out.size))
  clear be
  obtain ⟨b, hb⟩ : ∃ b, b = lncut s 0 p := ⟨_, rfl⟩
  have HV := hid (show lnk s p = if b = false then 0 else if lnends (lnlast (s.take p)) then 2 else 1 by rw [hb]; rfl)
  rw [← hb]
  clear hb
  cases b with
  | false =>
    go_wp2
    go_ret
    exact ⟨by rw [HV.out]; rfl, HB2.out⟩
  | true =>
    go_wp2_with fail
    refine (isMust_any s p w2 (HT.out.below HB2.out) hl (by omega)).mono ?_
    rintro e w3 ⟨rfl, be⟩
    have HB3 := hid (HB2.out.trans (be.mono HB2.out.size))
    clear be
    have e1 : lnmust s p = lnends (lnlast (s.take p)) := by unfold lnmust; rw [decide_eq_false hne, Bool.false_or]
    rw [e1]
    clear e1
    obtain ⟨c, hc⟩ : ∃ c, c = lnends (lnlast (s.take p)) := ⟨_, rfl⟩
    rw [← hc] at HV ⊢
    clear hc
    cases c with
    | false =>
      go_wp2
      go_ret
      exact ⟨by rw [HV.out]; rfl, HB3.out⟩
    | true =>
      go_wp2
      go_ret
      exact ⟨by rw [HV.out]; rfl, HB3.out⟩
theorem kind_any (s : List UInt8) (k : Nat) (w : World) (ht : Tb w) (hl : s.length ≤ 1000000000) (h0 : 0 < k) (h1 : k < (rl s).length) :
    Calls Tryd.prog 30 #[.string ⟨s.toArray⟩, .int .i64 (plc s k : Int)] w fun e w' => e = .returned (.int .i64 (lnk s (plc s k))) ∧ Below w.heap.size w w' :=
  kind_edge s _ w ht hl (plc_pos s k h0 (by omega)) (plc_lt s k h1) (isE_plc s k (by omega))
end Go.Proofs.YtkophiklkgefnaaDoor.Ln
/- What a place within a text is, by the classes of the runes beside it: where no line may end, and where it must. -/
namespace Go.Proofs.YtkophiklkgefnaaDoor.Ln
open Go.RowKit

/-- Behind a zero width space, and blanks. -/
def zwf (s : List UInt8) (k : Nat) : Bool := decide (lnlast (wthL [4] (s.take (plc s k))) = 5)
theorem zwf_zero (s : List UInt8) : zwf s 0 = false := rfl
theorem last_at (s : List UInt8) (k : Nat) (x : Nat × Nat) (h : (rl s)[k]? = some x) : lnlast (s.take (plc s (k + 1))) = lncls x.1 := by
  obtain ⟨h1, h2, _⟩ := take_last s k x h
  unfold lnlast
  rw [if_neg h1, h2]
theorem first_at (s : List UInt8) (k : Nat) (x : Nat × Nat) (h : (rl s)[k]? = some x) : lnfirst (s.drop (plc s k)) = lncls x.1 := by
  obtain ⟨hk, hx⟩ := List.getElem?_eq_some_iff.1 h
  have h1 := rl_drop s k (by omega)
  have hne : s.drop (plc s k) ≠ [] := fun e => by
    rw [e, rl_nil, List.drop_eq_getElem_cons hk] at h1
    cases h1
  rw [rl_cons _ hne, List.drop_eq_getElem_cons hk, hx] at h1
  have h2 : dec (s.drop (plc s k)) = x := (List.cons.inj h1).1
  unfold lnfirst
  rw [if_neg hne, h2]
theorem zwf_step (s : List UInt8) (k : Nat) (x : Nat × Nat) (h : (rl s)[k]? = some x) : zwf s (k + 1) = if lncls x.1 = 5 then true else if lncls x.1 = 4 then zwf s k else false := by
  obtain ⟨h1, h2, h3⟩ := take_last s k x h
  have h4 := last_at s k x h
  unfold zwf
  by_cases c4 : lncls x.1 = 4
  · rw [wthL_yes _ _ h1 (by rw [h4, c4]; decide), h3, if_neg (by omega), if_pos c4]
  · rw [wthL_no _ _ (by rw [h4]; unfold amg; simp [c4]), h4, if_neg c4]
    by_cases c5 : lncls x.1 = 5
    · rw [if_pos c5, decide_eq_true c5]
    · rw [if_neg c5, decide_eq_false c5]
theorem held_yes (a b : Int) (h : amg [6, 11, 10, 13, 14, 15] b = true) : lnheld a b = true := by unfold lnheld; rw [if_pos h]
section
variable (s : List UInt8) (p : Nat) (a b : Int) (ha : lnlast (s.take p) = a) (hb : lnfirst (s.drop p) = b)
include ha hb
theorem nv_crlf (h1 : a = 2) (h2 : b = 3) : lnk s p = 0 := by
  have h : lncut s 0 p = false := by unfold lncut; rw [ha, hb, if_pos ⟨h1, h2⟩]
  unfold lnk
  rw [if_pos h]
theorem nv_end (h1 : lnends a = true) (h2 : ¬ (a = 2 ∧ b = 3)) : lnk s p = 2 := by
  unfold lnk lncut
  rw [ha, hb, if_neg h2, if_pos h1]
  simp [h1]
omit hb in
theorem nv_not (h1 : lnends a = false) : lnk s p = 0 ∨ lnk s p = 1 := by
  unfold lnk
  rw [ha, h1]
  split
  · exact .inl rfl
  · exact .inr rfl
theorem nv_zero (h1 : lnends a = false) (h : lnends b = false → amg [4, 5] b = false → lnlast (wthL [4] (s.take p)) ≠ 5 ∧ (lnheld (lnbase (wthL [4] (s.take p))) b = true ∨ (a ≠ 4 ∧ (b = 8 ∨ lnjoin s 0 p = true)))) : lnk s p = 0 := by
  have h3 : ¬ (a = 2 ∧ b = 3) := fun e => by rw [e.1] at h1; cases h1
  unfold lnk lncut
  rw [ha, hb, if_neg h3, h1]
  by_cases hB : lnends b = true
  · rw [hB]; rfl
  · have hB' : lnends b = false := by simpa using hB
    rw [hB']
    by_cases hC : amg [4, 5] b = true
    · rw [hC]; rfl
    · have hC' : amg [4, 5] b = false := by simpa using hC
      rw [hC']
      obtain ⟨h5, h6⟩ := h hB' hC'
      simp only [Bool.false_eq_true, if_false]
      rw [if_neg h5]
      rcases h6 with h6 | ⟨h6, h7⟩
      · rw [h6]
        simp
      · rw [if_neg h6]
        rcases h7 with h7 | h7
        · rw [h7]; simp
        · rw [h7]; simp
theorem nv_blank (h1 : lnends a = false) (h2 : lnends b = true ∨ amg [4, 5] b = true) : lnk s p = 0 :=
  nv_zero s p a b ha hb h1 fun h5 h6 => by
    rcases h2 with h2 | h2
    · rw [h5] at h2; cases h2
    · rw [h6] at h2; cases h2
theorem nv_held (h1 : lnends a = false) (h2 : amg [6, 11, 10, 13, 14, 15] b = true) (hz : lnlast (wthL [4] (s.take p)) ≠ 5) : lnk s p = 0 :=
  nv_zero s p a b ha hb h1 fun _ _ => ⟨hz, .inl (held_yes _ _ h2)⟩
theorem nv_joins (h1 : lnends a = false) (h4 : a ≠ 4) (h5 : a ≠ 5) (h8 : a ≠ 8) (h : lnglued a b = true ∨ lntog a b = true) : lnk s p = 0 :=
  nv_zero s p a b ha hb h1 fun _ _ => by
    have e1 : lnbase (s.take p) = a := by
      unfold lnbase
      rw [wthL_no _ _ (by rw [ha]; unfold amg; simp [h8]), ha]
    refine ⟨by rw [wthL_no _ _ (by rw [ha]; unfold amg; simp [h4]), ha]; exact h5, .inr ⟨h4, .inr ?_⟩⟩
    unfold lnjoin
    rw [e1, hb]
    rcases h with h | h
    · rw [if_pos h]
    · split
      · rfl
      · split
        · rfl
        · first | rfl | rw [if_pos h]
end
end Go.Proofs.YtkophiklkgefnaaDoor.Ln
/- The contract of among (the law's own): is a name one of several? -/
namespace Go.Proofs.YtkophiklkgefnaaDoor.Ln
open Go.RowKit

def bas (K : List (List UInt8)) : List Value := K.map fun b => Value.string ⟨b.toArray⟩
def amn (K : List (List UInt8)) (u : List UInt8) : Bool := K.contains u
theorem amn_cons (x : List UInt8) (K : List (List UInt8)) (u : List UInt8) : amn (x :: K) u = ((u == x) || amn K u) := by unfold amn; rw [List.contains_cons]
theorem rdn_lit (w : World) (K : List (List UInt8)) (T : TypeId) : Dc.RdN (w.alloc (.cells (bas K).toArray T)) (some ⟨w.heap.size, 0, none⟩) K := fun k z hk => by
  refine ⟨_, rfl, by simp, ?_⟩
  rw [Addr.add_lit, Nat.zero_add, cell_of_row _ _ _ _ T (0, 0) (Dc.heap_alloc_new w _)]
  simp [bas, hk]
set_option maxHeartbeats 1000000 in
theorem among_any (u : List UInt8) (ao : Option Addr) (n cap : Nat) (K : List (List UInt8)) (w : World) (h : Dc.RdN w ao K) (hn : n = K.length) (hl : n ≤ 1000) :
    Calls Tryd.prog 31 #[.string ⟨u.toArray⟩, .slice ao n cap] w fun e w' => e = .returned (.bool (amn K u)) ∧ w' = w := by
  have HR := hid h
  have HN := hid hn
  clear h hn
  go_enter Tryd.func31, Tryd.ntmps31
  go_wp2
  go_loopw [5] (fun fr wr => ∃ k : Nat, fr = .int .i64 k ∧ k ≤ n ∧ Hid (amn K u = amn (K.drop k) u) ∧ wr = w) (fun fr _ => n - (intOf fr).toNat)
  case atStart => exact ⟨0, rfl, Nat.zero_le _, by simp [Hid], rfl⟩
  case round =>
    obtain ⟨k, rfl, hk, HK, hwr⟩ := hrel
    obtain rfl := hwr.symm
    clear hwr
    by_cases hkn : k < n
    · have hk' : k < K.length := by have := HN.out; omega
      obtain ⟨a, rfl, _, hc⟩ := HR.out k K[k] (List.getElem?_eq_getElem hk')
      have hi : (k : Int) < (n : Int) := by omega
      obtain ⟨x, hx⟩ : ∃ x, x = K[k] := ⟨_, rfl⟩
      rw [← hx] at hc
      have HD := hid (show K.drop k = x :: K.drop (k + 1) by rw [hx]; exact List.drop_eq_getElem_cons hk')
      clear hx hk'
      by_cases hcx : x = u
      · subst hcx
        go_wp2
        go_ret
        exact ⟨by rw [HK.out, HD.out, amn_cons, beq_self_eq_true]; rfl, rfl⟩
      · have hcc : (x == u) = false := beq_eq_false_iff_ne.2 hcx
        have HCC := hid (show (u == x) = false from beq_eq_false_iff_ne.2 (fun e => hcx e.symm))
        go_wp2
        go_roundw
        case rel => exact ⟨k + 1, by simp, by omega, by show _ = _; rw [HK.out, HD.out, amn_cons, HCC.out, Bool.false_or], trivial⟩
        case measure => simp [intOf]; omega
    · have hi : ¬ (k : Int) < (n : Int) := by omega
      have HE := hid (show amn K u = false by rw [HK.out, List.drop_of_length_le (by have := HN.out; omega)]; rfl)
      go_wp2
      go_ret
      exact ⟨by rw [HE.out]; rfl, rfl⟩
theorem among_lit (u : List UInt8) (K : List (List UInt8)) (w : World) (hK : K.length ≤ 1000) :
    Calls Tryd.prog 31 #[.string ⟨u.toArray⟩, .slice (some ⟨w.heap.size, 0, none⟩) K.length K.length] (w.alloc (.cells (bas K).toArray 9)) fun e w' => e = .returned (.bool (amn K u)) ∧ Below w.heap.size w w' :=
  (among_any u _ _ _ K _ (rdn_lit w K 9) rfl hK).mono fun e w' ⟨h1, h2⟩ => ⟨h1, by rw [h2]; exact below_box⟩
end Go.Proofs.YtkophiklkgefnaaDoor.Ln
/- The four lists of names that LineNever asks for, as lists of classes; what each tells of a place. -/
namespace Go.Proofs.YtkophiklkgefnaaDoor.Ln
open Go.RowKit
def L1 : List (List UInt8) := [[83, 112], [90, 119], [66, 107], [67, 114], [76, 102]]
def L2 : List (List UInt8) := [[87, 106], [67, 108], [67, 112], [69, 120], [73, 115], [83, 121]]
def L3 : List (List UInt8) := [[79, 116, 104, 101, 114], [78, 117], [71, 108], [87, 106]]
def L4 : List (List UInt8) := [[79, 116, 104, 101, 114], [78, 117]]
theorem l1 (c : Nat) (h : c < 26) : amn L1 (Dc.lnN (c : Int)) = amg [4, 5, 1, 2, 3] (c : Int) := by
  have H : ∀ a : Fin 26, amn L1 (Dc.lnN ((a : Nat) : Int)) = amg [4, 5, 1, 2, 3] ((a : Nat) : Int) := by decide +kernel
  exact H ⟨c, h⟩
theorem l2 (c : Nat) (h : c < 26) : amn L2 (Dc.lnN (c : Int)) = amg [6, 11, 10, 13, 14, 15] (c : Int) := by
  have H : ∀ a : Fin 26, amn L2 (Dc.lnN ((a : Nat) : Int)) = amg [6, 11, 10, 13, 14, 15] ((a : Nat) : Int) := by decide +kernel
  exact H ⟨c, h⟩
theorem l3 (c : Nat) (h : c < 26) : amn L3 (Dc.lnN (c : Int)) = amg [0, 20, 7, 6] (c : Int) := by
  have H : ∀ a : Fin 26, amn L3 (Dc.lnN ((a : Nat) : Int)) = amg [0, 20, 7, 6] ((a : Nat) : Int) := by decide +kernel
  exact H ⟨c, h⟩
theorem l4 (c : Nat) (h : c < 26) : amn L4 (Dc.lnN (c : Int)) = amg [0, 20] (c : Int) := by
  have H : ∀ a : Fin 26, amn L4 (Dc.lnN ((a : Nat) : Int)) = amg [0, 20] ((a : Nat) : Int) := by decide +kernel
  exact H ⟨c, h⟩
theorem ends_no (c : Nat) (h1 : c ≠ 1) (h2 : c ≠ 2) (h3 : c ≠ 3) : lnends (c : Int) = false := by
  unfold lnends amg
  simp
  omega
section
variable (s : List UInt8) (p : Nat) (a b : Nat) (ha : lnlast (s.take p) = (a : Int)) (hb : lnfirst (s.drop p) = (b : Int)) (hb2 : b < 26)
include ha hb hb2
theorem nv1 (h1 : lnends (a : Int) = false) (h : amn L1 (Dc.lnN (b : Int)) = true) : lnk s p = 0 := by
  rw [l1 b hb2] at h
  refine nv_blank s p a b ha hb h1 ?_
  have H : ∀ c : Fin 26, amg [4, 5, 1, 2, 3] ((c : Nat) : Int) = true → lnends ((c : Nat) : Int) = true ∨ amg [4, 5] ((c : Nat) : Int) = true := by decide +kernel
  exact H ⟨b, hb2⟩ h
theorem nv2 (h1 : lnends (a : Int) = false) (hz : lnlast (wthL [4] (s.take p)) ≠ 5) (h : amn L2 (Dc.lnN (b : Int)) = true) : lnk s p = 0 := by
  rw [l2 b hb2] at h
  exact nv_held s p a b ha hb h1 h hz
omit hb2 in
theorem nv3 (h : a = 7 ∨ a = 6) : lnk s p = 0 := by
  refine nv_joins s p a b ha hb (ends_no a (by omega) (by omega) (by omega)) (by omega) (by omega) (by omega) (.inl ?_)
  unfold lnglued
  rcases h with rfl | rfl <;> rfl
theorem nv4 (h0 : a = 0) (h : amn L3 (Dc.lnN (b : Int)) = true) : lnk s p = 0 := by
  subst h0
  rw [l3 b hb2] at h
  have H : ∀ c : Fin 26, amg [0, 20, 7, 6] ((c : Nat) : Int) = true → (lnglued 0 ((c : Nat) : Int) = true ∨ lntog 0 ((c : Nat) : Int) = true) ∨ amg [6, 11, 10, 13, 14, 15] ((c : Nat) : Int) = true := by decide +kernel
  rcases H ⟨b, hb2⟩ h with h5 | h5
  · exact nv_joins s p 0 b ha hb (by decide) (by decide) (by decide) (by decide) h5
  · refine nv_held s p 0 b ha hb (by decide) h5 ?_
    rw [wthL_no _ _ (by rw [ha]; decide), ha]
    decide
theorem nv5 (h0 : a = 20) (h : amn L4 (Dc.lnN (b : Int)) = true) : lnk s p = 0 := by
  subst h0
  rw [l4 b hb2] at h
  have H : ∀ c : Fin 26, amg [0, 20] ((c : Nat) : Int) = true → (lnglued 20 ((c : Nat) : Int) = true ∨ lntog 20 ((c : Nat) : Int) = true) := by decide +kernel
  exact nv_joins s p 20 b ha hb (by decide) (by decide) (by decide) (by decide) (H ⟨b, hb2⟩ h)
end
end Go.Proofs.YtkophiklkgefnaaDoor.Ln
/- LineNever. -/
namespace Go.Proofs.YtkophiklkgefnaaDoor.Ln
open Go.RowKit

theorem txt_le (l : List UInt8) : (Dc.txt l).length ≤ l.length := by
  have h2 := Dc.plr_len l l.length 0 (by omega)
  have h3 := Dc.cls_len l.length (Dc.plr l 0)
  have h4 : (Dc.txt l).length = (Dc.plr l 0).length := h3
  omega
theorem bdr (w : World) : Below w.heap.size w w.drew := Dc.bdrew w
set_option maxHeartbeats 8000000 in
set_option maxRecDepth 100000 in
theorem never_main (l : List UInt8) (w : World) (ht : Tb w) (hv : Ev.Tbs tabs w) : Calls Tryd.prog 9 #[.string ⟨l.toArray⟩] w fun e w' => e = .returned (.bool true) ∧ Below w.heap.size w w' := by
  have HT := hid ht
  have HV := hid hv
  clear ht hv
  by_cases hl : 60 < l.length
  · have hl' : (60 : Int) < (l.length : Int) := by omega
    go_enter Tryd.func9, Tryd.ntmps9
    go_wp2_with fail
    refine (lives14 w HV.out).mono ?_
    rintro e w1 ⟨rfl, be⟩
    have HB := hid be
    clear be
    go_wp2
    go_ret
    exact ⟨rfl, HB.out⟩
  · have hl' : ¬ (60 : Int) < (l.length : Int) := by omega
    go_enter Tryd.func9, Tryd.ntmps9
    go_wp2_with fail
    refine (Dc.db14 w).mono ?_
    rintro e w1 ⟨b1, Q, rfl, k1⟩
    have HB1 := hid b1
    have HK1 := hid k1
    clear b1 k1
    go_wp2_with fail
    refine (Dc.rrunes_rd l w1 (by omega)).mono ?_
    rintro e w2 ⟨xo, xc, rfl, hr, b2⟩
    have HR := hid hr
    have HB2 := hid (HB1.out.trans (b2.mono HB1.out.size))
    have HK2 := hid (HK1.out.below b2)
    have HN := hid (txt_len l)
    obtain ⟨n, hn⟩ : ∃ n, n = (Dc.txt l).length := ⟨_, rfl⟩
    have n9 : n ≤ 60 := by have := txt_le l; omega
    rw [← hn] at HN ⊢
    clear hr b2 HB1 HK1 hn
    go_wp2
    go_loopw [5, 6] (fun z x wr => ∃ i : Nat, (n = 0 ∧ i = 1 ∨ 1 ≤ i ∧ i ≤ max n 1) ∧ x = .int .i64 (i : Int) ∧ z = .bool (zwf l (i - 1)) ∧ Hid (Below w.heap.size w wr) ∧ Hid (Dc.Bk Dc.lnU Dc.lnW Q wr) ∧ Hid (Dc.RdT wr xo (Dc.txt l))) (fun _ x _ => n - (intOf x).toNat)
    case atStart => exact ⟨1, by omega, rfl, rfl, HB2.out, HK2.out, HR.out⟩
    case round =>
      obtain ⟨i, hi, rfl, rfl, HB, HK, HX⟩ := hrel
      clear HB2 HK2 HR
      by_cases h0 : ¬ i < n
      · have h0' : ¬ (i : Int) < (n : Int) := by omega
        go_wp2_with fail
        refine (lives14 _ (tbs_below HV.out HB.out)).mono ?_
        rintro e w3 ⟨rfl, be⟩
        have HB3 := hid (HB.out.trans (be.mono HB.out.size))
        clear be
        go_wp2
        go_ret
        exact ⟨rfl, HB3.out⟩
      · have h0 : i < n := by omega
        obtain ⟨j, hj⟩ : ∃ j, i = j + 1 := ⟨i - 1, by omega⟩
        have hji : i - 1 = j := by omega
        rw [hji]
        have hir : i < (rl l).length := by have := HN.out; omega
        have hjr : j < (rl l).length := by omega
        have HEx := hid (List.getElem?_eq_getElem hjr)
        have HEy := hid (List.getElem?_eq_getElem hir)
        obtain ⟨x, hx⟩ : ∃ x, x = (rl l)[j] := ⟨_, rfl⟩
        obtain ⟨y, hy⟩ : ∃ y, y = (rl l)[i] := ⟨_, rfl⟩
        rw [← hx] at HEx
        rw [← hy] at HEy
        obtain ⟨g, rfl, hg, z0, z1, z2⟩ := HX.out j _ (txt_at l j x HEx.out)
        obtain ⟨g', hg', _, y0, y1, y2⟩ := HX.out i _ (txt_at l i y HEy.out)
        cases hg'
        have HRx := hid (rl_rune l x (by rw [hx]; exact List.getElem_mem hjr))
        have HRy := hid (rl_rune l y (by rw [hy]; exact List.getElem_mem hir))
        have HIR := hid hir
        clear hx hy hji hjr hir z1 z2 y2
        have i0 : (0 : Int) ≤ (j : Int) := by omega
        have i1 : (j : Int) < (n : Int) := by omega
        have i2 : (0 : Int) ≤ (i : Int) := by omega
        have i3 : (i : Int) < (n : Int) := by omega
        have i4 : IntKind.i64.wrap ((i : Int) - 1) = (j : Int) := by rw [show (i : Int) - 1 = (j : Int) by omega]; rw [IntKind.wrap_i64]; omega
        obtain ⟨ca, hca, hca2⟩ := lncls_bd x.1 HRx.out
        obtain ⟨cb, hcb, hcb2⟩ := lncls_bd y.1 HRy.out
        have HCa := hid hca
        have HCb := hid hcb
        have HCa2 := hid hca2
        have HCb2 := hid hcb2
        obtain ⟨ua, hua⟩ : ∃ u, u = Dc.lnN (ca : Int) := ⟨_, rfl⟩
        obtain ⟨ub, hub⟩ : ∃ u, u = Dc.lnN (cb : Int) := ⟨_, rfl⟩
        have HUa := hid hua
        have HUb := hid hub
        have HNMa := hid (fun ww (hh : Dc.Bk Dc.lnU Dc.lnW Q ww) => (show Calls Tryd.prog 29 #[.pointer (some ⟨Q, 0, none⟩), .int .i32 (x.1 : Int)] ww fun e w' => e = .returned (.string ⟨ua.toArray⟩) ∧ Below ww.heap.size ww w' by
          have h5 := Dc.named_ln Q x.1 ww hh HRx.out
          rw [HCa.out, ← HUa.out] at h5
          exact h5))
        have HNMb := hid (fun ww (hh : Dc.Bk Dc.lnU Dc.lnW Q ww) => (show Calls Tryd.prog 29 #[.pointer (some ⟨Q, 0, none⟩), .int .i32 (y.1 : Int)] ww fun e w' => e = .returned (.string ⟨ub.toArray⟩) ∧ Below ww.heap.size ww w' by
          have h5 := Dc.named_ln Q y.1 ww hh HRy.out
          rw [HCb.out, ← HUb.out] at h5
          exact h5))
        obtain ⟨X0, hX0⟩ : ∃ X0, X0 = (x.1 : Int) := ⟨_, rfl⟩
        obtain ⟨Y0, hY0⟩ : ∃ Y0, Y0 = (y.1 : Int) := ⟨_, rfl⟩
        rw [← hX0] at z0 HNMa
        rw [← hY0] at y0 HNMb
        have HZ := hid (show zwf l i = if (ca : Int) = 5 then true else if (ca : Int) = 4 then zwf l j else false by rw [hj, zwf_step l j x HEx.out, HCa.out])
        have HLA := hid (show lnlast (l.take (plc l i)) = (ca : Int) by rw [hj, last_at l j x HEx.out, HCa.out])
        have HLB := hid (show lnfirst (l.drop (plc l i)) = (cb : Int) by rw [first_at l i y HEy.out, HCb.out])
        have hi1 : 0 < i := by omega
        have HJ := hid hj
        clear hca hca2 hcb hcb2 hua hub hX0 hY0 hj hi
        go_wp2_with fail
        refine wp_region_mix [(0, true), (1, true), (2, true), (3, true), (4, true), (5, true), (6, true), (8, true), (9, true), (10, true), (11, true), (12, true), (13, true), (7, false), (14, false), (15, true), (16, true)] (fun w' => w'.cell? ⟨g, j * 3, none⟩ = some (.int .i32 X0) ∧ w'.cell? ⟨g, i * 3, none⟩ = some (.int .i32 Y0)) (fun _ => false) (by kernel_rfl) (by kernel_rfl) (fun j hj => by cases hj) rfl (by kernel_rfl) ⟨z0, y0⟩ ?_
        iterate 13 (refine mix_free ?_ rfl (by kernel_rfl) (fun w' hS => ?_) ?_; (rotate_left; (obtain ⟨y8, y9⟩ := hS; go_simp; with_reducible rfl); rotate_left))
        refine mix_go rfl (by kernel_rfl) fun KK hKK => ?_
        go_simp
        refine (HNMa.out _ (HK.out.below (bdr _))).mono ?_
        rintro e w3 ⟨rfl, be⟩
        have HB3 := hid ((bdr wr).trans be)
        refine hKK _ _ (fun _ => ⟨(HB3.out.cell (p := ⟨g, j * 3, none⟩) hg).trans z0, (HB3.out.cell (p := ⟨g, i * 3, none⟩) hg).trans y0⟩) ?_
        clear hKK KK be
        refine mix_go rfl (by kernel_rfl) fun KK hKK => ?_
        go_simp
        refine (HNMb.out _ (HK.out.below HB3.out)).mono ?_
        rintro e w4 ⟨rfl, be⟩
        have HB4 := hid (HB3.out.trans (be.mono HB3.out.size))
        refine hKK _ _ (fun _ => ⟨(HB4.out.cell (p := ⟨g, j * 3, none⟩) hg).trans z0, (HB4.out.cell (p := ⟨g, i * 3, none⟩) hg).trans y0⟩) ?_
        clear hKK KK be HB3 HNMa HNMb
        iterate 2 (refine mix_free ?_ rfl (by kernel_rfl) (fun w' hS => ?_) ?_; (rotate_left; (go_simp; with_reducible rfl); rotate_left))
        refine mix_end (NoPanic.normal ?_)
        go_simp
        have y4 := (HB4.out.cell (p := ⟨g, i * 3 + 1, none⟩) hg).trans y1
        have HK4 := hid (HK.out.below HB4.out)
        have HX4 := hid (HX.out.below HB4.out)
        have HBB := hid (HB.out.trans (HB4.out.mono HB.out.size))
        clear HB HK HX HB4 z0 y0 y1
        obtain ⟨P, hP⟩ : ∃ P, P = plc l i := ⟨_, rfl⟩
        have HKD := hid (fun ww (h : Tb ww) => hP ▸ kind_any l i ww h (by omega) hi1 HIR.out)
        rw [← hP] at y4 HLA HLB
        obtain ⟨K, hK⟩ : ∃ K, K = lnk l P := ⟨_, rfl⟩
        obtain ⟨zp, hzp⟩ : ∃ zp, zp = zwf l j := ⟨_, rfl⟩
        rw [← hzp] at HZ ⊢
        rw [← hK] at HKD
        have HZP := hid hzp
        have HPP := hid hP
        have HKK := hid hK
        clear hzp hP hK
        by_cases c1 : ca = 1
        · have HCA := hid c1
          obtain rfl : ua = [66, 107] := HUa.out.trans (by rw [c1]; decide +kernel)
          have HZI := hid (show zwf l i = false by rw [HZ.out, c1]; rfl)
          have HK2 := hid (show K = 2 from HKK.out.trans (nv_end l P ca cb HLA.out HLB.out (by rw [c1]; decide) (by rw [c1]; exact fun e => absurd e.1 (by decide))))
          clear c1 HZ
          go_wp2_with fail
          refine (HKD.out _ (HT.out.below HBB.out)).mono ?_
          rintro e w5 ⟨rfl, be⟩
          have HB5 := hid (HBB.out.trans (be.mono HBB.out.size))
          have HK5 := hid (HK4.out.below be)
          have HX5 := hid (HX4.out.below be)
          clear be HBB HK4 HX4 HKD y4
          obtain rfl := HK2.out
          go_wp2
          go_roundw
          case rel => exact ⟨i + 1, by omega, by go_num, by rw [Nat.add_sub_cancel, HZI.out], HB5.out, HK5.out, HX5.out⟩
          case measure => simp [intOf]; omega
        by_cases c3 : ca = 3
        · have HCA := hid c3
          obtain rfl : ua = [76, 102] := HUa.out.trans (by rw [c3]; decide +kernel)
          have HZI := hid (show zwf l i = false by rw [HZ.out, c3]; rfl)
          have HK2 := hid (show K = 2 from HKK.out.trans (nv_end l P ca cb HLA.out HLB.out (by rw [c3]; decide) (by rw [c3]; exact fun e => absurd e.1 (by decide))))
          clear c3 HZ
          go_wp2_with fail
          refine (HKD.out _ (HT.out.below HBB.out)).mono ?_
          rintro e w5 ⟨rfl, be⟩
          have HB5 := hid (HBB.out.trans (be.mono HBB.out.size))
          have HK5 := hid (HK4.out.below be)
          have HX5 := hid (HX4.out.below be)
          clear be HBB HK4 HX4 HKD y4
          obtain rfl := HK2.out
          go_wp2
          go_roundw
          case rel => exact ⟨i + 1, by omega, by go_num, by rw [Nat.add_sub_cancel, HZI.out], HB5.out, HK5.out, HX5.out⟩
          case measure => simp [intOf]; omega
        by_cases c2 : ca = 2
        · have HCA := hid c2
          obtain rfl : ua = [67, 114] := HUa.out.trans (by rw [c2]; decide +kernel)
          have HZI := hid (show zwf l i = false by rw [HZ.out, c2]; rfl)
          by_cases d3 : cb = 3
          · obtain rfl : ub = [76, 102] := HUb.out.trans (by rw [d3]; decide +kernel)
            have HK2 := hid (show K = 0 from HKK.out.trans (nv_crlf l P ca cb HLA.out HLB.out (by rw [c2]; rfl) (by rw [d3]; rfl)))
            clear c2 d3 HZ
            go_wp2_with fail
            refine (HKD.out _ (HT.out.below HBB.out)).mono ?_
            rintro e w5 ⟨rfl, be⟩
            have HB5 := hid (HBB.out.trans (be.mono HBB.out.size))
            have HK5 := hid (HK4.out.below be)
            have HX5 := hid (HX4.out.below be)
            clear be HBB HK4 HX4 HKD y4
            obtain rfl := HK2.out
            go_wp2_with fail
            refine (among_lit [76, 102] L1 _ (by decide)).mono ?_
            rintro e w6 ⟨rfl, be⟩
            have HB6 := hid (HB5.out.trans (be.mono HB5.out.size))
            have HK6 := hid (HK5.out.below be)
            have HX6 := hid (HX5.out.below be)
            clear be HB5 HK5 HX5
            rw [show amn L1 [76, 102] = true by decide]
            go_wp2_with fail
            refine (among_lit [76, 102] L2 _ (by decide)).mono ?_
            rintro e w7 ⟨rfl, be⟩
            have HB7 := hid (HB6.out.trans (be.mono HB6.out.size))
            have HK7 := hid (HK6.out.below be)
            have HX7 := hid (HX6.out.below be)
            clear be HB6 HK6 HX6
            rw [show amn L2 [76, 102] = false by decide]
            go_wp2
            go_roundw
            case rel => exact ⟨i + 1, by omega, by go_num, by rw [Nat.add_sub_cancel, HZI.out], HB7.out, HK7.out, HX7.out⟩
            case measure => simp [intOf]; omega
          · have u9 : (ub == [76, 102]) = false := by rw [HUb.out]; exact lnN_ne cb HCb2.out 3 (by omega) d3 _ (by decide +kernel)
            have HK2 := hid (show K = 2 from HKK.out.trans (nv_end l P ca cb HLA.out HLB.out (by rw [c2]; decide) (fun e => d3 (by have := e.2; omega))))
            clear c2 d3 HZ
            go_wp2_with fail
            refine (HKD.out _ (HT.out.below HBB.out)).mono ?_
            rintro e w5 ⟨rfl, be⟩
            have HB5 := hid (HBB.out.trans (be.mono HBB.out.size))
            have HK5 := hid (HK4.out.below be)
            have HX5 := hid (HX4.out.below be)
            clear be HBB HK4 HX4 HKD y4
            obtain rfl := HK2.out
            go_wp2
            go_roundw
            case rel => exact ⟨i + 1, by omega, by go_num, by rw [Nat.add_sub_cancel, HZI.out], HB5.out, HK5.out, HX5.out⟩
            case measure => simp [intOf]; omega
        by_cases c5 : ca = 5
        · have HCA := hid c5
          obtain rfl : ua = [90, 119] := HUa.out.trans (by rw [c5]; decide +kernel)
          have HZI := hid (show zwf l i = true by rw [HZ.out, c5]; rfl)
          have HEN := hid (show lnends (ca : Int) = false from ends_no ca c1 c2 c3)
          have hk2 : ¬ K = 2 := by have h5 := nv_not l P ca HLA.out HEN.out; rw [← HKK.out] at h5; omega
          have hk3 : (K == 2) = false := beq_eq_false_iff_ne.2 hk2
          clear c5 c1 c2 c3 HZ
          go_wp2_with fail
          refine (HKD.out _ (HT.out.below HBB.out)).mono ?_
          rintro e w5 ⟨rfl, be⟩
          have HB5 := hid (HBB.out.trans (be.mono HBB.out.size))
          have HK5 := hid (HK4.out.below be)
          have HX5 := hid (HX4.out.below be)
          clear be HBB HK4 HX4 HKD y4
          go_wp2_with fail
          refine (among_lit ub L1 _ (by decide)).mono ?_
          rintro e w6 ⟨rfl, be⟩
          have HB6 := hid (HB5.out.trans (be.mono HB5.out.size))
          have HK6 := hid (HK5.out.below be)
          have HX6 := hid (HX5.out.below be)
          clear be HB5 HK5 HX5
          obtain ⟨r1, hr1⟩ : ∃ r, r = amn L1 ub := ⟨_, rfl⟩
          rw [← hr1]
          have HQr1 := hid (show amn L1 (Dc.lnN (cb : Int)) = r1 by rw [← HUb.out, hr1])
          clear hr1
          cases r1 with
          | true =>
            obtain rfl : K = 0 := HKK.out.trans (nv1 l P ca cb HLA.out HLB.out HCb2.out HEN.out HQr1.out)
            go_wp2_with fail
            refine (among_lit ub L2 _ (by decide)).mono ?_
            rintro e w7 ⟨rfl, be⟩
            have HB7 := hid (HB6.out.trans (be.mono HB6.out.size))
            have HK7 := hid (HK6.out.below be)
            have HX7 := hid (HX6.out.below be)
            clear be HB6 HK6 HX6
            obtain ⟨r2, hr2⟩ : ∃ r, r = amn L2 ub := ⟨_, rfl⟩
            rw [← hr2]
            have HQr2 := hid (show amn L2 (Dc.lnN (cb : Int)) = r2 by rw [← HUb.out, hr2])
            clear hr2
            cases r2 with
            | true =>
              go_wp2
              go_roundw
              case rel => exact ⟨i + 1, by omega, by go_num, by rw [Nat.add_sub_cancel, HZI.out], HB7.out, HK7.out, HX7.out⟩
              case measure => simp [intOf]; omega
            | false =>
              go_wp2
              go_roundw
              case rel => exact ⟨i + 1, by omega, by go_num, by rw [Nat.add_sub_cancel, HZI.out], HB7.out, HK7.out, HX7.out⟩
              case measure => simp [intOf]; omega
          | false =>
            go_wp2_with fail
            refine (among_lit ub L2 _ (by decide)).mono ?_
            rintro e w7 ⟨rfl, be⟩
            have HB7 := hid (HB6.out.trans (be.mono HB6.out.size))
            have HK7 := hid (HK6.out.below be)
            have HX7 := hid (HX6.out.below be)
            clear be HB6 HK6 HX6
            obtain ⟨r2, hr2⟩ : ∃ r, r = amn L2 ub := ⟨_, rfl⟩
            rw [← hr2]
            have HQr2 := hid (show amn L2 (Dc.lnN (cb : Int)) = r2 by rw [← HUb.out, hr2])
            clear hr2
            cases r2 with
            | true =>
              go_wp2
              go_roundw
              case rel => exact ⟨i + 1, by omega, by go_num, by rw [Nat.add_sub_cancel, HZI.out], HB7.out, HK7.out, HX7.out⟩
              case measure => simp [intOf]; omega
            | false =>
              go_wp2
              go_roundw
              case rel => exact ⟨i + 1, by omega, by go_num, by rw [Nat.add_sub_cancel, HZI.out], HB7.out, HK7.out, HX7.out⟩
              case measure => simp [intOf]; omega
        by_cases c4 : ca = 4
        · have HCA := hid c4
          obtain rfl : ua = [83, 112] := HUa.out.trans (by rw [c4]; decide +kernel)
          have HZI := hid (show zwf l i = zp by rw [HZ.out, c4]; rfl)
          have HEN := hid (show lnends (ca : Int) = false from ends_no ca c1 c2 c3)
          have HZN := hid (fun h5 : zp = false => (show lnlast (wthL [4] (l.take P)) ≠ 5 by have h6 := HZI.out.trans h5; unfold zwf at h6; rw [HPP.out]; exact of_decide_eq_false h6))
          have hk2 : ¬ K = 2 := by have h5 := nv_not l P ca HLA.out HEN.out; rw [← HKK.out] at h5; omega
          have hk3 : (K == 2) = false := beq_eq_false_iff_ne.2 hk2
          clear c4 c1 c2 c3 HZ
          go_wp2_with fail
          refine (HKD.out _ (HT.out.below HBB.out)).mono ?_
          rintro e w5 ⟨rfl, be⟩
          have HB5 := hid (HBB.out.trans (be.mono HBB.out.size))
          have HK5 := hid (HK4.out.below be)
          have HX5 := hid (HX4.out.below be)
          clear be HBB HK4 HX4 HKD y4
          go_wp2_with fail
          refine (among_lit ub L1 _ (by decide)).mono ?_
          rintro e w6 ⟨rfl, be⟩
          have HB6 := hid (HB5.out.trans (be.mono HB5.out.size))
          have HK6 := hid (HK5.out.below be)
          have HX6 := hid (HX5.out.below be)
          clear be HB5 HK5 HX5
          obtain ⟨r1, hr1⟩ : ∃ r, r = amn L1 ub := ⟨_, rfl⟩
          rw [← hr1]
          have HQr1 := hid (show amn L1 (Dc.lnN (cb : Int)) = r1 by rw [← HUb.out, hr1])
          clear hr1
          cases r1 with
          | true =>
            obtain rfl : K = 0 := HKK.out.trans (nv1 l P ca cb HLA.out HLB.out HCb2.out HEN.out HQr1.out)
            go_wp2_with fail
            refine (among_lit ub L2 _ (by decide)).mono ?_
            rintro e w7 ⟨rfl, be⟩
            have HB7 := hid (HB6.out.trans (be.mono HB6.out.size))
            have HK7 := hid (HK6.out.below be)
            have HX7 := hid (HX6.out.below be)
            clear be HB6 HK6 HX6
            obtain ⟨r2, hr2⟩ : ∃ r, r = amn L2 ub := ⟨_, rfl⟩
            rw [← hr2]
            have HQr2 := hid (show amn L2 (Dc.lnN (cb : Int)) = r2 by rw [← HUb.out, hr2])
            clear hr2
            cases r2 with
            | true =>
              cases zp with
              | true =>
                go_wp2
                go_roundw
                case rel => exact ⟨i + 1, by omega, by go_num, by rw [Nat.add_sub_cancel, HZI.out], HB7.out, HK7.out, HX7.out⟩
                case measure => simp [intOf]; omega
              | false =>
                go_wp2
                go_roundw
                case rel => exact ⟨i + 1, by omega, by go_num, by rw [Nat.add_sub_cancel, HZI.out], HB7.out, HK7.out, HX7.out⟩
                case measure => simp [intOf]; omega
            | false =>
              go_wp2
              go_roundw
              case rel => exact ⟨i + 1, by omega, by go_num, by rw [Nat.add_sub_cancel, HZI.out], HB7.out, HK7.out, HX7.out⟩
              case measure => simp [intOf]; omega
          | false =>
            go_wp2_with fail
            refine (among_lit ub L2 _ (by decide)).mono ?_
            rintro e w7 ⟨rfl, be⟩
            have HB7 := hid (HB6.out.trans (be.mono HB6.out.size))
            have HK7 := hid (HK6.out.below be)
            have HX7 := hid (HX6.out.below be)
            clear be HB6 HK6 HX6
            obtain ⟨r2, hr2⟩ : ∃ r, r = amn L2 ub := ⟨_, rfl⟩
            rw [← hr2]
            have HQr2 := hid (show amn L2 (Dc.lnN (cb : Int)) = r2 by rw [← HUb.out, hr2])
            clear hr2
            cases r2 with
            | true =>
              cases zp with
              | true =>
                go_wp2
                go_roundw
                case rel => exact ⟨i + 1, by omega, by go_num, by rw [Nat.add_sub_cancel, HZI.out], HB7.out, HK7.out, HX7.out⟩
                case measure => simp [intOf]; omega
              | false =>
                obtain rfl : K = 0 := HKK.out.trans (nv2 l P ca cb HLA.out HLB.out HCb2.out HEN.out (HZN.out rfl) HQr2.out)
                go_wp2
                go_roundw
                case rel => exact ⟨i + 1, by omega, by go_num, by rw [Nat.add_sub_cancel, HZI.out], HB7.out, HK7.out, HX7.out⟩
                case measure => simp [intOf]; omega
            | false =>
              go_wp2
              go_roundw
              case rel => exact ⟨i + 1, by omega, by go_num, by rw [Nat.add_sub_cancel, HZI.out], HB7.out, HK7.out, HX7.out⟩
              case measure => simp [intOf]; omega
        by_cases c7 : ca = 7
        · have HCA := hid c7
          obtain rfl : ua = [71, 108] := HUa.out.trans (by rw [c7]; decide +kernel)
          have HZI := hid (show zwf l i = false by rw [HZ.out, c7]; rfl)
          have HEN := hid (show lnends (ca : Int) = false from ends_no ca c1 c2 c3)
          have HZN := hid (show lnlast (wthL [4] (l.take P)) ≠ 5 by have h6 := HZI.out; unfold zwf at h6; rw [HPP.out]; exact of_decide_eq_false h6)
          have HK2 := hid (show K = 0 from HKK.out.trans (nv3 l P ca cb HLA.out HLB.out (by omega)))
          clear c7 c1 c2 c3 HZ
          go_wp2_with fail
          refine (HKD.out _ (HT.out.below HBB.out)).mono ?_
          rintro e w5 ⟨rfl, be⟩
          have HB5 := hid (HBB.out.trans (be.mono HBB.out.size))
          have HK5 := hid (HK4.out.below be)
          have HX5 := hid (HX4.out.below be)
          clear be HBB HK4 HX4 HKD y4
          obtain rfl := HK2.out
          go_wp2_with fail
          refine (among_lit ub L1 _ (by decide)).mono ?_
          rintro e w6 ⟨rfl, be⟩
          have HB6 := hid (HB5.out.trans (be.mono HB5.out.size))
          have HK6 := hid (HK5.out.below be)
          have HX6 := hid (HX5.out.below be)
          clear be HB5 HK5 HX5
          obtain ⟨r1, hr1⟩ : ∃ r, r = amn L1 ub := ⟨_, rfl⟩
          rw [← hr1]
          have HQr1 := hid (show amn L1 (Dc.lnN (cb : Int)) = r1 by rw [← HUb.out, hr1])
          clear hr1
          cases r1 with
          | true =>
            go_wp2_with fail
            refine (among_lit ub L2 _ (by decide)).mono ?_
            rintro e w7 ⟨rfl, be⟩
            have HB7 := hid (HB6.out.trans (be.mono HB6.out.size))
            have HK7 := hid (HK6.out.below be)
            have HX7 := hid (HX6.out.below be)
            clear be HB6 HK6 HX6
            obtain ⟨r2, hr2⟩ : ∃ r, r = amn L2 ub := ⟨_, rfl⟩
            rw [← hr2]
            have HQr2 := hid (show amn L2 (Dc.lnN (cb : Int)) = r2 by rw [← HUb.out, hr2])
            clear hr2
            cases r2 with
            | true =>
              go_wp2
              go_roundw
              case rel => exact ⟨i + 1, by omega, by go_num, by rw [Nat.add_sub_cancel, HZI.out], HB7.out, HK7.out, HX7.out⟩
              case measure => simp [intOf]; omega
            | false =>
              go_wp2
              go_roundw
              case rel => exact ⟨i + 1, by omega, by go_num, by rw [Nat.add_sub_cancel, HZI.out], HB7.out, HK7.out, HX7.out⟩
              case measure => simp [intOf]; omega
          | false =>
            go_wp2_with fail
            refine (among_lit ub L2 _ (by decide)).mono ?_
            rintro e w7 ⟨rfl, be⟩
            have HB7 := hid (HB6.out.trans (be.mono HB6.out.size))
            have HK7 := hid (HK6.out.below be)
            have HX7 := hid (HX6.out.below be)
            clear be HB6 HK6 HX6
            obtain ⟨r2, hr2⟩ : ∃ r, r = amn L2 ub := ⟨_, rfl⟩
            rw [← hr2]
            have HQr2 := hid (show amn L2 (Dc.lnN (cb : Int)) = r2 by rw [← HUb.out, hr2])
            clear hr2
            cases r2 with
            | true =>
              go_wp2
              go_roundw
              case rel => exact ⟨i + 1, by omega, by go_num, by rw [Nat.add_sub_cancel, HZI.out], HB7.out, HK7.out, HX7.out⟩
              case measure => simp [intOf]; omega
            | false =>
              go_wp2
              go_roundw
              case rel => exact ⟨i + 1, by omega, by go_num, by rw [Nat.add_sub_cancel, HZI.out], HB7.out, HK7.out, HX7.out⟩
              case measure => simp [intOf]; omega
        by_cases c6 : ca = 6
        · have HCA := hid c6
          obtain rfl : ua = [87, 106] := HUa.out.trans (by rw [c6]; decide +kernel)
          have HZI := hid (show zwf l i = false by rw [HZ.out, c6]; rfl)
          have HEN := hid (show lnends (ca : Int) = false from ends_no ca c1 c2 c3)
          have HZN := hid (show lnlast (wthL [4] (l.take P)) ≠ 5 by have h6 := HZI.out; unfold zwf at h6; rw [HPP.out]; exact of_decide_eq_false h6)
          have HK2 := hid (show K = 0 from HKK.out.trans (nv3 l P ca cb HLA.out HLB.out (by omega)))
          clear c6 c1 c2 c3 HZ
          go_wp2_with fail
          refine (HKD.out _ (HT.out.below HBB.out)).mono ?_
          rintro e w5 ⟨rfl, be⟩
          have HB5 := hid (HBB.out.trans (be.mono HBB.out.size))
          have HK5 := hid (HK4.out.below be)
          have HX5 := hid (HX4.out.below be)
          clear be HBB HK4 HX4 HKD y4
          obtain rfl := HK2.out
          go_wp2_with fail
          refine (among_lit ub L1 _ (by decide)).mono ?_
          rintro e w6 ⟨rfl, be⟩
          have HB6 := hid (HB5.out.trans (be.mono HB5.out.size))
          have HK6 := hid (HK5.out.below be)
          have HX6 := hid (HX5.out.below be)
          clear be HB5 HK5 HX5
          obtain ⟨r1, hr1⟩ : ∃ r, r = amn L1 ub := ⟨_, rfl⟩
          rw [← hr1]
          have HQr1 := hid (show amn L1 (Dc.lnN (cb : Int)) = r1 by rw [← HUb.out, hr1])
          clear hr1
          cases r1 with
          | true =>
            go_wp2_with fail
            refine (among_lit ub L2 _ (by decide)).mono ?_
            rintro e w7 ⟨rfl, be⟩
            have HB7 := hid (HB6.out.trans (be.mono HB6.out.size))
            have HK7 := hid (HK6.out.below be)
            have HX7 := hid (HX6.out.below be)
            clear be HB6 HK6 HX6
            obtain ⟨r2, hr2⟩ : ∃ r, r = amn L2 ub := ⟨_, rfl⟩
            rw [← hr2]
            have HQr2 := hid (show amn L2 (Dc.lnN (cb : Int)) = r2 by rw [← HUb.out, hr2])
            clear hr2
            cases r2 with
            | true =>
              go_wp2
              go_roundw
              case rel => exact ⟨i + 1, by omega, by go_num, by rw [Nat.add_sub_cancel, HZI.out], HB7.out, HK7.out, HX7.out⟩
              case measure => simp [intOf]; omega
            | false =>
              go_wp2
              go_roundw
              case rel => exact ⟨i + 1, by omega, by go_num, by rw [Nat.add_sub_cancel, HZI.out], HB7.out, HK7.out, HX7.out⟩
              case measure => simp [intOf]; omega
          | false =>
            go_wp2_with fail
            refine (among_lit ub L2 _ (by decide)).mono ?_
            rintro e w7 ⟨rfl, be⟩
            have HB7 := hid (HB6.out.trans (be.mono HB6.out.size))
            have HK7 := hid (HK6.out.below be)
            have HX7 := hid (HX6.out.below be)
            clear be HB6 HK6 HX6
            obtain ⟨r2, hr2⟩ : ∃ r, r = amn L2 ub := ⟨_, rfl⟩
            rw [← hr2]
            have HQr2 := hid (show amn L2 (Dc.lnN (cb : Int)) = r2 by rw [← HUb.out, hr2])
            clear hr2
            cases r2 with
            | true =>
              go_wp2
              go_roundw
              case rel => exact ⟨i + 1, by omega, by go_num, by rw [Nat.add_sub_cancel, HZI.out], HB7.out, HK7.out, HX7.out⟩
              case measure => simp [intOf]; omega
            | false =>
              go_wp2
              go_roundw
              case rel => exact ⟨i + 1, by omega, by go_num, by rw [Nat.add_sub_cancel, HZI.out], HB7.out, HK7.out, HX7.out⟩
              case measure => simp [intOf]; omega
        by_cases c0 : ca = 0
        · have HCA := hid c0
          obtain rfl : ua = [79, 116, 104, 101, 114] := HUa.out.trans (by rw [c0]; decide +kernel)
          have HZI := hid (show zwf l i = false by rw [HZ.out, c0]; rfl)
          have HEN := hid (show lnends (ca : Int) = false from ends_no ca c1 c2 c3)
          have HZN := hid (show lnlast (wthL [4] (l.take P)) ≠ 5 by have h6 := HZI.out; unfold zwf at h6; rw [HPP.out]; exact of_decide_eq_false h6)
          have hk2 : ¬ K = 2 := by have h5 := nv_not l P ca HLA.out HEN.out; rw [← HKK.out] at h5; omega
          have hk3 : (K == 2) = false := beq_eq_false_iff_ne.2 hk2
          clear c0 c1 c2 c3 HZ
          go_wp2_with fail
          refine (HKD.out _ (HT.out.below HBB.out)).mono ?_
          rintro e w5 ⟨rfl, be⟩
          have HB5 := hid (HBB.out.trans (be.mono HBB.out.size))
          have HK5 := hid (HK4.out.below be)
          have HX5 := hid (HX4.out.below be)
          clear be HBB HK4 HX4 HKD y4
          go_wp2_with fail
          refine (among_lit ub L1 _ (by decide)).mono ?_
          rintro e w6 ⟨rfl, be⟩
          have HB6 := hid (HB5.out.trans (be.mono HB5.out.size))
          have HK6 := hid (HK5.out.below be)
          have HX6 := hid (HX5.out.below be)
          clear be HB5 HK5 HX5
          obtain ⟨r1, hr1⟩ : ∃ r, r = amn L1 ub := ⟨_, rfl⟩
          rw [← hr1]
          have HQr1 := hid (show amn L1 (Dc.lnN (cb : Int)) = r1 by rw [← HUb.out, hr1])
          clear hr1
          cases r1 with
          | true =>
            obtain rfl : K = 0 := HKK.out.trans (nv1 l P ca cb HLA.out HLB.out HCb2.out HEN.out HQr1.out)
            go_wp2_with fail
            refine (among_lit ub L2 _ (by decide)).mono ?_
            rintro e w7 ⟨rfl, be⟩
            have HB7 := hid (HB6.out.trans (be.mono HB6.out.size))
            have HK7 := hid (HK6.out.below be)
            have HX7 := hid (HX6.out.below be)
            clear be HB6 HK6 HX6
            obtain ⟨r2, hr2⟩ : ∃ r, r = amn L2 ub := ⟨_, rfl⟩
            rw [← hr2]
            have HQr2 := hid (show amn L2 (Dc.lnN (cb : Int)) = r2 by rw [← HUb.out, hr2])
            clear hr2
            cases r2 with
            | true =>
              go_wp2_with fail
              refine (among_lit ub L3 _ (by decide)).mono ?_
              rintro e w8 ⟨rfl, be⟩
              have HB8 := hid (HB7.out.trans (be.mono HB7.out.size))
              have HK8 := hid (HK7.out.below be)
              have HX8 := hid (HX7.out.below be)
              clear be HB7 HK7 HX7
              obtain ⟨r3, hr3⟩ : ∃ r, r = amn L3 ub := ⟨_, rfl⟩
              rw [← hr3]
              have HQr3 := hid (show amn L3 (Dc.lnN (cb : Int)) = r3 by rw [← HUb.out, hr3])
              clear hr3
              cases r3 with
              | true =>
                go_wp2
                go_roundw
                case rel => exact ⟨i + 1, by omega, by go_num, by rw [Nat.add_sub_cancel, HZI.out], HB8.out, HK8.out, HX8.out⟩
                case measure => simp [intOf]; omega
              | false =>
                go_wp2
                go_roundw
                case rel => exact ⟨i + 1, by omega, by go_num, by rw [Nat.add_sub_cancel, HZI.out], HB8.out, HK8.out, HX8.out⟩
                case measure => simp [intOf]; omega
            | false =>
              go_wp2_with fail
              refine (among_lit ub L3 _ (by decide)).mono ?_
              rintro e w8 ⟨rfl, be⟩
              have HB8 := hid (HB7.out.trans (be.mono HB7.out.size))
              have HK8 := hid (HK7.out.below be)
              have HX8 := hid (HX7.out.below be)
              clear be HB7 HK7 HX7
              obtain ⟨r3, hr3⟩ : ∃ r, r = amn L3 ub := ⟨_, rfl⟩
              rw [← hr3]
              have HQr3 := hid (show amn L3 (Dc.lnN (cb : Int)) = r3 by rw [← HUb.out, hr3])
              clear hr3
              cases r3 with
              | true =>
                go_wp2
                go_roundw
                case rel => exact ⟨i + 1, by omega, by go_num, by rw [Nat.add_sub_cancel, HZI.out], HB8.out, HK8.out, HX8.out⟩
                case measure => simp [intOf]; omega
              | false =>
                go_wp2
                go_roundw
                case rel => exact ⟨i + 1, by omega, by go_num, by rw [Nat.add_sub_cancel, HZI.out], HB8.out, HK8.out, HX8.out⟩
                case measure => simp [intOf]; omega
          | false =>
            go_wp2_with fail
            refine (among_lit ub L2 _ (by decide)).mono ?_
            rintro e w7 ⟨rfl, be⟩
            have HB7 := hid (HB6.out.trans (be.mono HB6.out.size))
            have HK7 := hid (HK6.out.below be)
            have HX7 := hid (HX6.out.below be)
            clear be HB6 HK6 HX6
            obtain ⟨r2, hr2⟩ : ∃ r, r = amn L2 ub := ⟨_, rfl⟩
            rw [← hr2]
            have HQr2 := hid (show amn L2 (Dc.lnN (cb : Int)) = r2 by rw [← HUb.out, hr2])
            clear hr2
            cases r2 with
            | true =>
              obtain rfl : K = 0 := HKK.out.trans (nv2 l P ca cb HLA.out HLB.out HCb2.out HEN.out HZN.out HQr2.out)
              go_wp2_with fail
              refine (among_lit ub L3 _ (by decide)).mono ?_
              rintro e w8 ⟨rfl, be⟩
              have HB8 := hid (HB7.out.trans (be.mono HB7.out.size))
              have HK8 := hid (HK7.out.below be)
              have HX8 := hid (HX7.out.below be)
              clear be HB7 HK7 HX7
              obtain ⟨r3, hr3⟩ : ∃ r, r = amn L3 ub := ⟨_, rfl⟩
              rw [← hr3]
              have HQr3 := hid (show amn L3 (Dc.lnN (cb : Int)) = r3 by rw [← HUb.out, hr3])
              clear hr3
              cases r3 with
              | true =>
                go_wp2
                go_roundw
                case rel => exact ⟨i + 1, by omega, by go_num, by rw [Nat.add_sub_cancel, HZI.out], HB8.out, HK8.out, HX8.out⟩
                case measure => simp [intOf]; omega
              | false =>
                go_wp2
                go_roundw
                case rel => exact ⟨i + 1, by omega, by go_num, by rw [Nat.add_sub_cancel, HZI.out], HB8.out, HK8.out, HX8.out⟩
                case measure => simp [intOf]; omega
            | false =>
              go_wp2_with fail
              refine (among_lit ub L3 _ (by decide)).mono ?_
              rintro e w8 ⟨rfl, be⟩
              have HB8 := hid (HB7.out.trans (be.mono HB7.out.size))
              have HK8 := hid (HK7.out.below be)
              have HX8 := hid (HX7.out.below be)
              clear be HB7 HK7 HX7
              obtain ⟨r3, hr3⟩ : ∃ r, r = amn L3 ub := ⟨_, rfl⟩
              rw [← hr3]
              have HQr3 := hid (show amn L3 (Dc.lnN (cb : Int)) = r3 by rw [← HUb.out, hr3])
              clear hr3
              cases r3 with
              | true =>
                obtain rfl : K = 0 := HKK.out.trans (nv4 l P ca cb HLA.out HLB.out HCb2.out HCA.out HQr3.out)
                go_wp2
                go_roundw
                case rel => exact ⟨i + 1, by omega, by go_num, by rw [Nat.add_sub_cancel, HZI.out], HB8.out, HK8.out, HX8.out⟩
                case measure => simp [intOf]; omega
              | false =>
                go_wp2
                go_roundw
                case rel => exact ⟨i + 1, by omega, by go_num, by rw [Nat.add_sub_cancel, HZI.out], HB8.out, HK8.out, HX8.out⟩
                case measure => simp [intOf]; omega
        by_cases c20 : ca = 20
        · have HCA := hid c20
          obtain rfl : ua = [78, 117] := HUa.out.trans (by rw [c20]; decide +kernel)
          have HZI := hid (show zwf l i = false by rw [HZ.out, c20]; rfl)
          have HEN := hid (show lnends (ca : Int) = false from ends_no ca c1 c2 c3)
          have HZN := hid (show lnlast (wthL [4] (l.take P)) ≠ 5 by have h6 := HZI.out; unfold zwf at h6; rw [HPP.out]; exact of_decide_eq_false h6)
          have hk2 : ¬ K = 2 := by have h5 := nv_not l P ca HLA.out HEN.out; rw [← HKK.out] at h5; omega
          have hk3 : (K == 2) = false := beq_eq_false_iff_ne.2 hk2
          clear c20 c1 c2 c3 HZ
          go_wp2_with fail
          refine (HKD.out _ (HT.out.below HBB.out)).mono ?_
          rintro e w5 ⟨rfl, be⟩
          have HB5 := hid (HBB.out.trans (be.mono HBB.out.size))
          have HK5 := hid (HK4.out.below be)
          have HX5 := hid (HX4.out.below be)
          clear be HBB HK4 HX4 HKD y4
          go_wp2_with fail
          refine (among_lit ub L1 _ (by decide)).mono ?_
          rintro e w6 ⟨rfl, be⟩
          have HB6 := hid (HB5.out.trans (be.mono HB5.out.size))
          have HK6 := hid (HK5.out.below be)
          have HX6 := hid (HX5.out.below be)
          clear be HB5 HK5 HX5
          obtain ⟨r1, hr1⟩ : ∃ r, r = amn L1 ub := ⟨_, rfl⟩
          rw [← hr1]
          have HQr1 := hid (show amn L1 (Dc.lnN (cb : Int)) = r1 by rw [← HUb.out, hr1])
          clear hr1
          cases r1 with
          | true =>
            obtain rfl : K = 0 := HKK.out.trans (nv1 l P ca cb HLA.out HLB.out HCb2.out HEN.out HQr1.out)
            go_wp2_with fail
            refine (among_lit ub L2 _ (by decide)).mono ?_
            rintro e w7 ⟨rfl, be⟩
            have HB7 := hid (HB6.out.trans (be.mono HB6.out.size))
            have HK7 := hid (HK6.out.below be)
            have HX7 := hid (HX6.out.below be)
            clear be HB6 HK6 HX6
            obtain ⟨r2, hr2⟩ : ∃ r, r = amn L2 ub := ⟨_, rfl⟩
            rw [← hr2]
            have HQr2 := hid (show amn L2 (Dc.lnN (cb : Int)) = r2 by rw [← HUb.out, hr2])
            clear hr2
            cases r2 with
            | true =>
              go_wp2_with fail
              refine (among_lit ub L4 _ (by decide)).mono ?_
              rintro e w8 ⟨rfl, be⟩
              have HB8 := hid (HB7.out.trans (be.mono HB7.out.size))
              have HK8 := hid (HK7.out.below be)
              have HX8 := hid (HX7.out.below be)
              clear be HB7 HK7 HX7
              obtain ⟨r3, hr3⟩ : ∃ r, r = amn L4 ub := ⟨_, rfl⟩
              rw [← hr3]
              have HQr3 := hid (show amn L4 (Dc.lnN (cb : Int)) = r3 by rw [← HUb.out, hr3])
              clear hr3
              cases r3 with
              | true =>
                go_wp2
                go_roundw
                case rel => exact ⟨i + 1, by omega, by go_num, by rw [Nat.add_sub_cancel, HZI.out], HB8.out, HK8.out, HX8.out⟩
                case measure => simp [intOf]; omega
              | false =>
                go_wp2
                go_roundw
                case rel => exact ⟨i + 1, by omega, by go_num, by rw [Nat.add_sub_cancel, HZI.out], HB8.out, HK8.out, HX8.out⟩
                case measure => simp [intOf]; omega
            | false =>
              go_wp2_with fail
              refine (among_lit ub L4 _ (by decide)).mono ?_
              rintro e w8 ⟨rfl, be⟩
              have HB8 := hid (HB7.out.trans (be.mono HB7.out.size))
              have HK8 := hid (HK7.out.below be)
              have HX8 := hid (HX7.out.below be)
              clear be HB7 HK7 HX7
              obtain ⟨r3, hr3⟩ : ∃ r, r = amn L4 ub := ⟨_, rfl⟩
              rw [← hr3]
              have HQr3 := hid (show amn L4 (Dc.lnN (cb : Int)) = r3 by rw [← HUb.out, hr3])
              clear hr3
              cases r3 with
              | true =>
                go_wp2
                go_roundw
                case rel => exact ⟨i + 1, by omega, by go_num, by rw [Nat.add_sub_cancel, HZI.out], HB8.out, HK8.out, HX8.out⟩
                case measure => simp [intOf]; omega
              | false =>
                go_wp2
                go_roundw
                case rel => exact ⟨i + 1, by omega, by go_num, by rw [Nat.add_sub_cancel, HZI.out], HB8.out, HK8.out, HX8.out⟩
                case measure => simp [intOf]; omega
          | false =>
            go_wp2_with fail
            refine (among_lit ub L2 _ (by decide)).mono ?_
            rintro e w7 ⟨rfl, be⟩
            have HB7 := hid (HB6.out.trans (be.mono HB6.out.size))
            have HK7 := hid (HK6.out.below be)
            have HX7 := hid (HX6.out.below be)
            clear be HB6 HK6 HX6
            obtain ⟨r2, hr2⟩ : ∃ r, r = amn L2 ub := ⟨_, rfl⟩
            rw [← hr2]
            have HQr2 := hid (show amn L2 (Dc.lnN (cb : Int)) = r2 by rw [← HUb.out, hr2])
            clear hr2
            cases r2 with
            | true =>
              obtain rfl : K = 0 := HKK.out.trans (nv2 l P ca cb HLA.out HLB.out HCb2.out HEN.out HZN.out HQr2.out)
              go_wp2_with fail
              refine (among_lit ub L4 _ (by decide)).mono ?_
              rintro e w8 ⟨rfl, be⟩
              have HB8 := hid (HB7.out.trans (be.mono HB7.out.size))
              have HK8 := hid (HK7.out.below be)
              have HX8 := hid (HX7.out.below be)
              clear be HB7 HK7 HX7
              obtain ⟨r3, hr3⟩ : ∃ r, r = amn L4 ub := ⟨_, rfl⟩
              rw [← hr3]
              have HQr3 := hid (show amn L4 (Dc.lnN (cb : Int)) = r3 by rw [← HUb.out, hr3])
              clear hr3
              cases r3 with
              | true =>
                go_wp2
                go_roundw
                case rel => exact ⟨i + 1, by omega, by go_num, by rw [Nat.add_sub_cancel, HZI.out], HB8.out, HK8.out, HX8.out⟩
                case measure => simp [intOf]; omega
              | false =>
                go_wp2
                go_roundw
                case rel => exact ⟨i + 1, by omega, by go_num, by rw [Nat.add_sub_cancel, HZI.out], HB8.out, HK8.out, HX8.out⟩
                case measure => simp [intOf]; omega
            | false =>
              go_wp2_with fail
              refine (among_lit ub L4 _ (by decide)).mono ?_
              rintro e w8 ⟨rfl, be⟩
              have HB8 := hid (HB7.out.trans (be.mono HB7.out.size))
              have HK8 := hid (HK7.out.below be)
              have HX8 := hid (HX7.out.below be)
              clear be HB7 HK7 HX7
              obtain ⟨r3, hr3⟩ : ∃ r, r = amn L4 ub := ⟨_, rfl⟩
              rw [← hr3]
              have HQr3 := hid (show amn L4 (Dc.lnN (cb : Int)) = r3 by rw [← HUb.out, hr3])
              clear hr3
              cases r3 with
              | true =>
                obtain rfl : K = 0 := HKK.out.trans (nv5 l P ca cb HLA.out HLB.out HCb2.out HCA.out HQr3.out)
                go_wp2
                go_roundw
                case rel => exact ⟨i + 1, by omega, by go_num, by rw [Nat.add_sub_cancel, HZI.out], HB8.out, HK8.out, HX8.out⟩
                case measure => simp [intOf]; omega
              | false =>
                go_wp2
                go_roundw
                case rel => exact ⟨i + 1, by omega, by go_num, by rw [Nat.add_sub_cancel, HZI.out], HB8.out, HK8.out, HX8.out⟩
                case measure => simp [intOf]; omega
        have HZI := hid (show zwf l i = false by rw [HZ.out, if_neg (by omega), if_neg (by omega)])
        have HEN := hid (show lnends (ca : Int) = false from ends_no ca c1 c2 c3)
        have HZN := hid (show lnlast (wthL [4] (l.take P)) ≠ 5 by have h6 := HZI.out; unfold zwf at h6; rw [HPP.out]; exact of_decide_eq_false h6)
        have hk2 : ¬ K = 2 := by have h5 := nv_not l P ca HLA.out HEN.out; rw [← HKK.out] at h5; omega
        have hk3 : (K == 2) = false := beq_eq_false_iff_ne.2 hk2
        have u1 : (ua == [66, 107]) = false := by rw [HUa.out]; exact lnN_ne ca HCa2.out 1 (by omega) c1 _ (by decide +kernel)
        have u3 : (ua == [76, 102]) = false := by rw [HUa.out]; exact lnN_ne ca HCa2.out 3 (by omega) c3 _ (by decide +kernel)
        have u2 : (ua == [67, 114]) = false := by rw [HUa.out]; exact lnN_ne ca HCa2.out 2 (by omega) c2 _ (by decide +kernel)
        have u5 : (ua == [90, 119]) = false := by rw [HUa.out]; exact lnN_ne ca HCa2.out 5 (by omega) c5 _ (by decide +kernel)
        have u4 : (ua == [83, 112]) = false := by rw [HUa.out]; exact lnN_ne ca HCa2.out 4 (by omega) c4 _ (by decide +kernel)
        have u7 : (ua == [71, 108]) = false := by rw [HUa.out]; exact lnN_ne ca HCa2.out 7 (by omega) c7 _ (by decide +kernel)
        have u6 : (ua == [87, 106]) = false := by rw [HUa.out]; exact lnN_ne ca HCa2.out 6 (by omega) c6 _ (by decide +kernel)
        have u0 : (ua == [79, 116, 104, 101, 114]) = false := by rw [HUa.out]; exact lnN_ne ca HCa2.out 0 (by omega) c0 _ (by decide +kernel)
        have u20 : (ua == [78, 117]) = false := by rw [HUa.out]; exact lnN_ne ca HCa2.out 20 (by omega) c20 _ (by decide +kernel)
        clear c1 c3 c2 c5 c4 c7 c6 c0 c20 HZ
        go_wp2_with fail
        refine (HKD.out _ (HT.out.below HBB.out)).mono ?_
        rintro e w5 ⟨rfl, be⟩
        have HB5 := hid (HBB.out.trans (be.mono HBB.out.size))
        have HK5 := hid (HK4.out.below be)
        have HX5 := hid (HX4.out.below be)
        clear be HBB HK4 HX4 HKD y4
        go_wp2_with fail
        refine (among_lit ub L1 _ (by decide)).mono ?_
        rintro e w6 ⟨rfl, be⟩
        have HB6 := hid (HB5.out.trans (be.mono HB5.out.size))
        have HK6 := hid (HK5.out.below be)
        have HX6 := hid (HX5.out.below be)
        clear be HB5 HK5 HX5
        obtain ⟨r1, hr1⟩ : ∃ r, r = amn L1 ub := ⟨_, rfl⟩
        rw [← hr1]
        have HQr1 := hid (show amn L1 (Dc.lnN (cb : Int)) = r1 by rw [← HUb.out, hr1])
        clear hr1
        cases r1 with
        | true =>
          obtain rfl : K = 0 := HKK.out.trans (nv1 l P ca cb HLA.out HLB.out HCb2.out HEN.out HQr1.out)
          go_wp2_with fail
          refine (among_lit ub L2 _ (by decide)).mono ?_
          rintro e w7 ⟨rfl, be⟩
          have HB7 := hid (HB6.out.trans (be.mono HB6.out.size))
          have HK7 := hid (HK6.out.below be)
          have HX7 := hid (HX6.out.below be)
          clear be HB6 HK6 HX6
          obtain ⟨r2, hr2⟩ : ∃ r, r = amn L2 ub := ⟨_, rfl⟩
          rw [← hr2]
          have HQr2 := hid (show amn L2 (Dc.lnN (cb : Int)) = r2 by rw [← HUb.out, hr2])
          clear hr2
          cases r2 with
          | true =>
            go_wp2
            go_roundw
            case rel => exact ⟨i + 1, by omega, by go_num, by rw [Nat.add_sub_cancel, HZI.out], HB7.out, HK7.out, HX7.out⟩
            case measure => simp [intOf]; omega
          | false =>
            go_wp2
            go_roundw
            case rel => exact ⟨i + 1, by omega, by go_num, by rw [Nat.add_sub_cancel, HZI.out], HB7.out, HK7.out, HX7.out⟩
            case measure => simp [intOf]; omega
        | false =>
          go_wp2_with fail
          refine (among_lit ub L2 _ (by decide)).mono ?_
          rintro e w7 ⟨rfl, be⟩
          have HB7 := hid (HB6.out.trans (be.mono HB6.out.size))
          have HK7 := hid (HK6.out.below be)
          have HX7 := hid (HX6.out.below be)
          clear be HB6 HK6 HX6
          obtain ⟨r2, hr2⟩ : ∃ r, r = amn L2 ub := ⟨_, rfl⟩
          rw [← hr2]
          have HQr2 := hid (show amn L2 (Dc.lnN (cb : Int)) = r2 by rw [← HUb.out, hr2])
          clear hr2
          cases r2 with
          | true =>
            obtain rfl : K = 0 := HKK.out.trans (nv2 l P ca cb HLA.out HLB.out HCb2.out HEN.out HZN.out HQr2.out)
            go_wp2
            go_roundw
            case rel => exact ⟨i + 1, by omega, by go_num, by rw [Nat.add_sub_cancel, HZI.out], HB7.out, HK7.out, HX7.out⟩
            case measure => simp [intOf]; omega
          | false =>
            go_wp2
            go_roundw
            case rel => exact ⟨i + 1, by omega, by go_num, by rw [Nat.add_sub_cancel, HZI.out], HB7.out, HK7.out, HX7.out⟩
            case measure => simp [intOf]; omega
end Go.Proofs.YtkophiklkgefnaaDoor.Ln
