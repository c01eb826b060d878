/- Words: the runes beside a place; what holds together. -/
import Derived.Test.YtkophiklkgefnaaDoorTxMath
import Derived.Test.YtkophiklkgefnaaDoorWdFun2Joint
import Derived.Test.YtkophiklkgefnaaDoorWdAny
import Derived.Test.YtkophiklkgefnaaDoorREdgeJoint
import Derived.Test.YtkophiklkgefnaaDoorLiveRun
import Derived.Test.YtkophiklkgefnaaDoorMix
namespace Go.Proofs.YtkophiklkgefnaaDoor.Wd
open Go.RowKit

theorem wlast_at (s : List UInt8) (k : Nat) (x : Nat × Nat) (h : (rl s)[k]? = some x) : wlast (s.take (plc s (k + 1))) = wdcls x.1 := by
  obtain ⟨_, h2, _⟩ := take_last s k x h
  unfold wlast
  rw [h2]
theorem wfirst_at (s : List UInt8) (k : Nat) (x : Nat × Nat) (h : (rl s)[k]? = some x) : wfirst (s.drop (plc s k)) = wdcls x.1 := by
  obtain ⟨hk, hx⟩ := List.getElem?_eq_some_iff.1 h
  have h1 := rl_drop s k (by omega)
  have hne : s.drop (plc s k) ≠ [] := fun e => by
    rw [e, rl_nil, List.drop_eq_getElem_cons hk] at h1
    cases h1
  rw [rl_cons _ hne, List.drop_eq_getElem_cons hk, hx] at h1
  have h2 : dec (s.drop (plc s k)) = x := (List.cons.inj h1).1
  unfold wfirst
  rw [h2]
theorem wdcls_nat (r : Nat) : ∃ c : Nat, wdcls (r : Int) = (c : Int) ∧ c < 20 := by
  obtain ⟨n, h1, h2⟩ := (wdcls_bd (r : Int)).nat
  exact ⟨n, h2, h1⟩
theorem wdN_eq (c : Nat) (h : c < 20) (k : Nat) (hk : k < 20) : (Dc.wdN (c : Int) == Dc.wdN (k : Int)) = decide (c = k) := by
  have H : ∀ a : Fin 20, ∀ b : Fin 20, (Dc.wdN ((a : Nat) : Int) == Dc.wdN ((b : Nat) : Int)) = decide ((a : Nat) = (b : Nat)) := by decide +kernel
  exact H ⟨c, h⟩ ⟨k, hk⟩
theorem wdN_ne (c : Nat) (h : c < 20) (k : Nat) (hk : k < 20) (hne : c ≠ k) (b : List UInt8) (hb : Dc.wdN (k : Int) = b) : (Dc.wdN (c : Int) == b) = false := by
  rw [← hb, wdN_eq c h k hk]
  exact decide_eq_false hne
/-- What the law calls glued. -/
def wgl (a b : Nat) : Bool :=
  ((a == 10 || a == 9) && (b == 10 || b == 9)) || (a == 16 && b == 16) || ((a == 10 || a == 9) && b == 16) || (a == 16 && (b == 10 || b == 9)) || (a == 8 && b == 8) || ((b == 4 || b == 6 || b == 5) && !(a == 3) && !(a == 1) && !(a == 2))
theorem wgl_cases (a b : Nat) (ha : a < 20) (hb : b < 20) (h : wgl a b = true) : wends (a : Int) = false ∧ wends (b : Int) = false ∧ (wclings (b : Int) = true ∨ (wclings (a : Int) = false ∧ wtog (a : Int) (b : Int) = true)) := by
  have H : ∀ a : Fin 20, ∀ b : Fin 20, wgl (a : Nat) (b : Nat) = true → wends ((a : Nat) : Int) = false ∧ wends ((b : Nat) : Int) = false ∧ (wclings ((b : Nat) : Int) = true ∨ (wclings ((a : Nat) : Int) = false ∧ wtog ((a : Nat) : Int) ((b : Nat) : Int) = true)) := by decide +kernel
  exact H ⟨a, ha⟩ ⟨b, hb⟩ h
section
variable (s : List UInt8) (p : Nat) (a b : Nat) (ha : wlast (s.take p) = (a : Int)) (hb : wfirst (s.drop p) = (b : Int))
include ha hb
theorem wh_glued (h0 : s.take p ≠ []) (h1 : a < 20) (h2 : b < 20) (h : wgl a b = true) : wcut s p = false := by
  obtain ⟨e1, e2, e3⟩ := wgl_cases a b h1 h2 h
  unfold wcut
  rw [ha, hb, e1, e2]
  rcases e3 with e3 | ⟨e3, e4⟩
  · rw [e3]
    simp
  · have e5 : wjoin s p = true := by
      unfold wjoin
      rw [wbs_no _ h0 (by rw [ha]; exact e3), ha, hb]
      show (if wtog (a : Int) (b : Int) = true then true else _) = true
      rw [if_pos e4]
    rw [e5]
    simp
theorem wh_crlf (h1 : a = 1) (h2 : b = 2) : wcut s p = false := by
  subst h1 h2
  unfold wcut
  rw [ha, hb]
  rfl
theorem wh_ends (h1 : wends (a : Int) = true ∨ wends (b : Int) = true) (h2 : ¬ (a = 1 ∧ b = 2)) : wcut s p = true := by
  have e1 : ((a : Int) == 1 && (b : Int) == 2) = false := by
    rw [Bool.and_eq_false_iff]
    by_cases c1 : a = 1
    · exact .inr (beq_eq_false_iff_ne.2 (fun e => h2 ⟨c1, by omega⟩))
    · exact .inl (beq_eq_false_iff_ne.2 (fun e => c1 (by omega)))
  unfold wcut
  rw [ha, hb, e1]
  rcases h1 with h1 | h1
  · rw [h1]; simp
  · rw [h1]; simp
end
end Go.Proofs.YtkophiklkgefnaaDoor.Wd
/- The contracts of Is (package word) at an edge within a text, and of glued (the law's own). -/
namespace Go.Proofs.YtkophiklkgefnaaDoor.Wd
open Go.RowKit

set_option maxRecDepth 100000 in
theorem glued_run : ((List.range 20).all fun a => (List.range 20).all fun b => Ev.runA Tryd.prog none7 1000000 60 tabs 18 [.string ⟨(Dc.wdN (a : Int)).toArray⟩, .string ⟨(Dc.wdN (b : Int)).toArray⟩] (.bool (wgl a b))) = true := by kernel_rfl
theorem glued_any (a b : Nat) (ha : a < 20) (hb : b < 20) (w : World) (hw : Ev.Tbs tabs w) :
    Calls Tryd.prog 18 #[.string ⟨(Dc.wdN (a : Int)).toArray⟩, .string ⟨(Dc.wdN (b : Int)).toArray⟩] w fun e w' => e = .returned (.bool (wgl a b)) ∧ Below w.heap.size w w' := by
  have h1 := List.all_eq_true.1 (List.all_eq_true.1 glued_run a (List.mem_range.2 ha)) b (List.mem_range.2 hb)
  exact Ev.closed_args mixed none7_ok tabs_ok rfl h1 w hw
set_option maxHeartbeats 1000000 in
theorem is_edge (s : List UInt8) (p : Nat) (w : World) (ht : TbW w) (hl : s.length ≤ 1000000000) (h0 : 0 < p) (h1 : p < s.length) (he : isE s (p : Int) = true) :
    Calls Tryd.prog 17 #[.string ⟨s.toArray⟩, .int .i64 (p : Int)] w fun e w' => e = .returned (.bool (wcut s p)) ∧ Below w.heap.size w w' := by
  have HT := hid ht
  have HE := hid he
  clear ht he
  have h0' : ¬ (p : Int) ≤ 0 := by omega
  have h1' : ¬ (s.length : Int) ≤ (p : Int) := by omega
  go_enter Tryd.func17, Tryd.ntmps17
  go_wp2_with fail
  refine (is_any s p w (by omega) HT.out.tabs HT.out.two).mono ?_
  rintro e w1 ⟨rfl, be⟩
  rw [HE.out]
  have HB1 := hid be
  clear be
  go_wp2_with fail
  refine (wcut_any s p w1 (HT.out.below HB1.out) hl (by omega)).mono ?_
  rintro e w2 ⟨rfl, be⟩
  have HB2 := hid (HB1.out.trans (be.mono HB1.out.size))
  clear be
  go_wp2
  go_ret
  exact ⟨rfl, HB2.out⟩
theorem isE_plc (s : List UInt8) (k : Nat) (h : k ≤ (rl s).length) : isE s (plc s k) = true := Wt.isE_pos s k h
theorem plc_lt (s : List UInt8) (k : Nat) (h : k < (rl s).length) : plc s k < s.length := Wt.pos_end s k h
theorem plc_pos (s : List UInt8) (k : Nat) (h0 : 0 < k) (h : k ≤ (rl s).length) : 0 < plc s k := by
  have h1 := Wt.pos_mono s k 0 (by omega)
  rw [Nat.zero_add] at h1
  have h2 : plc s k = Wt.pos s k := rfl
  have h3 : Wt.pos s 0 = 0 := rfl
  omega
theorem wis_any (s : List UInt8) (k : Nat) (w : World) (ht : TbW w) (hl : s.length ≤ 1000000000) (h0 : 0 < k) (h1 : k < (rl s).length) :
    Calls Tryd.prog 17 #[.string ⟨s.toArray⟩, .int .i64 (plc s k : Int)] w fun e w' => e = .returned (.bool (wcut s (plc s k))) ∧ Below w.heap.size w w' :=
  is_edge s _ w ht hl (plc_pos s k h0 (by omega)) (plc_lt s k h1) (isE_plc s k (by omega))
end Go.Proofs.YtkophiklkgefnaaDoor.Wd
/- Flags one behind the other: every second place within is a bound. -/
namespace Go.Proofs.YtkophiklkgefnaaDoor.Wd
open Go.RowKit

def flg : Nat → List UInt8
  | 0 => []
  | n + 1 => flg n ++ [240, 159, 135, 166]
theorem flg_len : ∀ n, (flg n).length = 4 * n
  | 0 => rfl
  | n + 1 => by rw [flg, List.length_append, flg_len n]; rfl
theorem flg_cons : ∀ n, flg (n + 1) = [240, 159, 135, 166] ++ flg n
  | 0 => rfl
  | n + 1 => by
    show flg (n + 1) ++ [240, 159, 135, 166] = [240, 159, 135, 166] ++ (flg n ++ [240, 159, 135, 166])
    rw [flg_cons n, List.append_assoc]
theorem dec_flag (t : List UInt8) : dec (240 :: 159 :: 135 :: 166 :: t) = (127462, 4) := by
  rw [dec_c]
  simp only [List.getD_cons_zero, List.getD_cons_succ, List.length_cons]
  have h : ∀ n, Lib.decodeN (n + 3 + 1) (240 : UInt8).toNat (159 : UInt8).toNat (135 : UInt8).toNat (166 : UInt8).toNat = (127462, 4) := fun n => by
    unfold Lib.decodeN
    simp
  exact h t.length
theorem rl_flag (t : List UInt8) : rl (240 :: 159 :: 135 :: 166 :: t) = (127462, 4) :: rl t := by
  rw [rl_cons _ (by simp), dec_flag]
  rfl
theorem rl_flg (t : List UInt8) : ∀ n, rl (flg n ++ t) = List.replicate n (127462, 4) ++ rl t
  | 0 => rfl
  | n + 1 => by
    rw [flg_cons, List.append_assoc]
    show rl (240 :: 159 :: 135 :: 166 :: (flg n ++ t)) = _
    rw [rl_flag, rl_flg t n]
    rfl
theorem rl_fl (s t : List UInt8) (n : Nat) (hn : 1 ≤ n) : rl (s ++ flg n ++ t) = rl s ++ (List.replicate n (127462, 4) ++ rl t) := by
  rw [List.append_assoc, rl_app s.length s (flg n ++ t) (Nat.le_refl _) (.inr ?_), rl_flg]
  obtain ⟨k, rfl⟩ : ∃ k, n = k + 1 := ⟨n - 1, by omega⟩
  rw [flg_cons]
  show Lib.runeStart (((240 : UInt8).toNat : Nat) : Int) = true
  decide
theorem cls_flag : wdcls ((127462 : Nat) : Int) = 7 := by decide +kernel
/-- The last rune is neither a flag nor a mark. -/
def FlOk (s : List UInt8) : Prop := ∀ (m : Nat) (x : Nat × Nat), (rl s).length = m + 1 → (rl s)[m]? = some x → wdcls x.1 ≠ 7 ∧ wclings (wdcls x.1) = false
section
variable (s t : List UInt8) (n : Nat) (hn : 1 ≤ n)
include hn
theorem fl_len : (rl (s ++ flg n ++ t)).length = (rl s).length + n + (rl t).length := by
  rw [rl_fl s t n hn]
  simp
  omega
theorem fl_plc (j : Nat) (hj : j ≤ n) : plc (s ++ flg n ++ t) ((rl s).length + j) = s.length + 4 * j := by
  unfold plc
  rw [rl_fl s t n hn, List.take_append, List.take_of_length_le (by omega), show (rl s).length + j - (rl s).length = j by omega, List.take_append, psm_app, psm_app, rl_sum s.length s (Nat.le_refl _)]
  have h1 : psm (List.take j (List.replicate n (127462, 4))) = 4 * j := by
    rw [List.take_replicate, Nat.min_eq_left hj]
    clear hj
    induction j with
    | zero => rfl
    | succ j ih => rw [List.replicate_succ, psm_cons, ih]; show 4 + 4 * j = _; omega
  have h2 : psm (List.take (j - (List.replicate n ((127462 : Nat), (4 : Nat))).length) (rl t)) = 0 := by
    rw [List.length_replicate, show j - n = 0 by omega]
    rfl
  rw [h1, h2]
  rfl
theorem fl_mid (j : Nat) (hj : j < n) : (rl (s ++ flg n ++ t))[(rl s).length + j]? = some (127462, 4) := by
  rw [rl_fl s t n hn, List.getElem?_append_right (by omega), show (rl s).length + j - (rl s).length = j by omega, List.getElem?_append_left (by simp; omega)]
  simp [hj]
theorem fl_ahead (x : Nat × Nat) (k : Nat) (hx : (rl s)[k]? = some x) : (rl (s ++ flg n ++ t))[k]? = some x := by
  rw [rl_fl s t n hn, List.getElem?_append_left (List.getElem?_eq_some_iff.1 hx).1]
  exact hx
theorem fl_odd (hs : FlOk s) : ∀ (j : Nat) (o : Bool), j ≤ n → wod ((s ++ flg n ++ t).take (s.length + 4 * j)) o = xor o (decide (j % 2 = 1))
  | 0, o, _ => by
    have h2 := fl_plc s t n hn 0 (by omega)
    simp only [Nat.add_zero, Nat.mul_zero] at h2 ⊢
    by_cases h0 : s = []
    · subst h0
      rw [List.length_nil, List.take_zero, wod_nil]
      simp
    · obtain ⟨m, hm⟩ : ∃ m, (rl s).length = m + 1 := ⟨(rl s).length - 1, by have := List.length_pos_iff.2 (rl_ne h0); omega⟩
      have hx := List.getElem?_eq_getElem (show m < (rl s).length by omega)
      obtain ⟨e1, e2⟩ := hs m _ hm hx
      have h3 := fl_ahead s t n hn _ m hx
      obtain ⟨t1, _, _⟩ := take_last _ _ _ h3
      have t4 := wlast_at _ _ _ h3
      rw [← hm, h2] at t1 t4
      rw [wod_step _ _ t1, t4, beq_eq_false_iff_ne.2 e1, e2]
      simp
  | j + 1, o, hj => by
    obtain ⟨h1, h2, h3⟩ := take_last _ _ _ (fl_mid s t n hn j (by omega))
    have h4 := wlast_at _ _ _ (fl_mid s t n hn j (by omega))
    have p1 := fl_plc s t n hn (j + 1) hj
    have p0 := fl_plc s t n hn j (by omega)
    rw [show (rl s).length + j + 1 = (rl s).length + (j + 1) by omega, p1] at h1 h3 h4
    rw [p0] at h3
    have h5 : wlast (List.take (s.length + 4 * (j + 1)) (s ++ flg n ++ t)) = 7 := h4.trans cls_flag
    rw [wod_step _ _ h1, h5, if_pos (by decide), h3, fl_odd hs j (!o) (by omega)]
    rcases Nat.mod_two_eq_zero_or_one j with h | h
    · rw [show (j + 1) % 2 = 1 by omega, h]; cases o <;> decide
    · rw [show (j + 1) % 2 = 0 by omega, h]; cases o <;> decide
theorem fl_cut (hs : FlOk s) (j : Nat) (h0 : 0 < j) (hj : j < n) : wcut (s ++ flg n ++ t) (s.length + 4 * j) = decide (j % 2 = 0) := by
  obtain ⟨k, rfl⟩ : ∃ k, j = k + 1 := ⟨j - 1, by omega⟩
  have hp := fl_plc s t n hn (k + 1) (by omega)
  have hb := wfirst_at _ _ _ (fl_mid s t n hn (k + 1) hj)
  rw [hp] at hb
  have hb' : wfirst (List.drop (s.length + 4 * (k + 1)) (s ++ flg n ++ t)) = 7 := hb.trans cls_flag
  have ha := wlast_at _ _ _ (fl_mid s t n hn k (by omega))
  obtain ⟨h1, _, _⟩ := take_last _ _ _ (fl_mid s t n hn k (by omega))
  rw [show (rl s).length + k + 1 = (rl s).length + (k + 1) by omega, hp] at ha h1
  have ha' : wlast (List.take (s.length + 4 * (k + 1)) (s ++ flg n ++ t)) = 7 := ha.trans cls_flag
  have ho := fl_odd s t n hn hs (k + 1) false (by omega)
  have hj : wjoin (s ++ flg n ++ t) (s.length + 4 * (k + 1)) = decide ((k + 1) % 2 = 1) := by
    unfold wjoin
    rw [wbs_no _ h1 (by rw [ha']; decide), ha', hb', ho]
    simp [wtog]
  unfold wcut
  rw [ha', hb', hj]
  rcases Nat.mod_two_eq_zero_or_one (k + 1) with h | h
  · rw [h]; decide
  · rw [h]; decide
end
end Go.Proofs.YtkophiklkgefnaaDoor.Wd
/- The contracts of marks and cut (the law's own). -/
namespace Go.Proofs.YtkophiklkgefnaaDoor.Wd
open Go.RowKit

def wmk (a : Nat) : Bool := a == 4 || a == 6 || a == 5
set_option maxRecDepth 100000 in
theorem marks_run : ((List.range 20).all fun a => Ev.runA Tryd.prog none7 1000000 60 tabs 19 [.string ⟨(Dc.wdN (a : Int)).toArray⟩] (.bool (wmk a))) = true := by kernel_rfl
theorem marks_any (a : Nat) (ha : a < 20) (w : World) (hw : Ev.Tbs tabs w) :
    Calls Tryd.prog 19 #[.string ⟨(Dc.wdN (a : Int)).toArray⟩] w fun e w' => e = .returned (.bool (wmk a)) ∧ Below w.heap.size w w' :=
  Ev.closed_args mixed none7_ok tabs_ok rfl (List.all_eq_true.1 marks_run a (List.mem_range.2 ha)) w hw
theorem tbs_below {w w' : World} (h : Ev.Tbs tabs w) (hb : Below w.heap.size w w') : Ev.Tbs tabs w' := fun x hx => by
  obtain ⟨c, h1, h2⟩ := h x hx
  exact ⟨c, (hb.block _ (Array.getElem?_eq_some_iff.1 h1).1).trans h1, h2⟩
theorem txt_le (l : List UInt8) : (Dc.txt l).length ≤ l.length := by
  have h2 := Dc.plr_len l l.length 0 (by omega)
  have h3 := Dc.cls_len l.length (Dc.plr l 0)
  have h4 : (Dc.txt l).length = (Dc.plr l 0).length := h3
  omega
theorem bdr (w : World) : Below w.heap.size w w.drew := Dc.bdrew w
theorem bdrN (w : World) (n : Nat) : Below w.heap.size w (w.drewN n) := ⟨rfl, rfl, rfl, Nat.le_refl _, fun _ _ => rfl⟩
theorem fl_live (w w1 : World) (hv : Ev.Tbs tabs w) (hb : Below w.heap.size w w1) : Calls Tryd.prog 11 #[] w1 fun e w' => e = .returned (.bool true) ∧ Below w.heap.size w w' :=
  (lives12 w1 (tbs_below hv hb)).mono fun _ _ ⟨h1, h2⟩ => ⟨h1, hb.trans (h2.mono hb.size)⟩
set_option maxHeartbeats 4000000 in
set_option maxRecDepth 100000 in
theorem cut_some (l : List UInt8) (w : World) (hl : l.length ≤ 1000) :
    Calls Tryd.prog 20 #[.string ⟨l.toArray⟩] w fun e w' => ∃ b, e = .returned (.bool b) ∧ Below w.heap.size w w' := by
  go_enter Tryd.func20, Tryd.ntmps20
  go_wp2_with fail
  refine (Dc.rrunes_rd l w (by omega)).mono ?_
  rintro e w2 ⟨xo, xc, rfl, hr, b2⟩
  have HR := hid hr
  have HB2 := hid b2
  have HN := hid (txt_len l)
  obtain ⟨n, hn⟩ : ∃ n, n = (Dc.txt l).length := ⟨_, rfl⟩
  have n9 : n ≤ 1000 := by have := txt_le l; omega
  rw [← hn] at HN ⊢
  clear hr b2 hn
  go_wp2
  go_loopw [4] (fun x wr => ∃ k : Nat, k ≤ n ∧ x = .int .i64 ((k : Int) - 1) ∧ Hid (Below w.heap.size w wr) ∧ Hid (Dc.RdT wr xo (Dc.txt l))) (fun x _ => (intOf x + 1).toNat)
  case atStart => exact ⟨n, Nat.le_refl _, by simp, HB2.out, HR.out⟩
  case round =>
    obtain ⟨k, hk, rfl, HB, HX⟩ := hrel
    clear HB2 HR
    by_cases h0 : k = 0
    · subst h0
      go_wp2
      go_ret
      exact ⟨false, rfl, HB.out⟩
    · obtain ⟨j, rfl⟩ : ∃ j, k = j + 1 := ⟨k - 1, by omega⟩
      have hj : j < (rl l).length := by have := HN.out; omega
      have HE := hid (List.getElem?_eq_getElem hj)
      obtain ⟨x, hx⟩ : ∃ x, x = (rl l)[j] := ⟨_, rfl⟩
      rw [← hx] at HE
      obtain ⟨g, rfl, hg, z0, z1, z2⟩ := HX.out j _ (txt_at l j x HE.out)
      clear hx hj h0
      have e1 : ((j + 1 : Nat) : Int) - 1 = (j : Int) := by omega
      rw [e1]
      have i0 : (0 : Int) ≤ (j : Int) := by omega
      have i1 : (j : Int) < (n : Int) := by omega
      by_cases hn3 : (n : Int) - 3 ≤ (j : Int)
      · obtain ⟨X0, hX0⟩ : ∃ X0, X0 = (x.1 : Int) := ⟨_, rfl⟩
        obtain ⟨X1, hX1⟩ : ∃ X1, X1 = plc l j := ⟨_, rfl⟩
        obtain ⟨X2, hX2⟩ : ∃ X2, X2 = plc l (j + 1) := ⟨_, rfl⟩
        have b1 : X1 ≤ 1000 := by rw [hX1]; have := plc_le l j; omega
        have b2 : X2 ≤ 1000 := by rw [hX2]; have := plc_le l (j + 1); omega
        rw [← hX0] at z0
        rw [← hX1] at z1
        rw [← hX2] at z2
        clear hX0 hX1 hX2 HE e1
        have wq : IntKind.i64.wrap ((X2 : Int) - (X1 : Int)) = (X2 : Int) - (X1 : Int) := by rw [IntKind.wrap_i64]; omega
        by_cases hx0 : X0 = 65533
        · subst hx0
          by_cases hx1 : (X2 : Int) - (X1 : Int) = 1
          · have hx2 : ((X2 : Int) - (X1 : Int) == 1) = true := by rw [hx1]; rfl
            go_wp2_with fail
            go_quiet (fail)
            go_wp2
            go_ret
            exact ⟨true, rfl, HB.out.trans (Below.mono (bdrN wr _) HB.out.size)⟩
          · have hx2 : ((X2 : Int) - (X1 : Int) == 1) = false := beq_eq_false_iff_ne.2 hx1
            go_wp2_with fail
            go_quiet (fail)
            go_wp2
            go_roundw
            case rel => exact ⟨j, by omega, by simp, HB.out.trans (Below.mono (bdrN wr _) HB.out.size), HX.out.below (bdrN wr _)⟩
            case measure => simp [intOf]
        · have hx2 : (X0 == 65533) = false := beq_eq_false_iff_ne.2 hx0
          go_wp2_with fail
          go_quiet (fail)
          go_wp2
          go_roundw
          case rel => exact ⟨j, by omega, by simp, HB.out.trans (Below.mono (bdrN wr _) HB.out.size), HX.out.below (bdrN wr _)⟩
          case measure => simp [intOf]
      · have hn3' : ¬ (n : Int) - 3 ≤ (j : Int) := hn3
        go_wp2
        go_ret
        first | exact ⟨false, rfl, HB.out⟩ | exact ⟨.inl rfl, HB.out⟩
end Go.Proofs.YtkophiklkgefnaaDoor.Wd
/- WordFlags. -/
namespace Go.Proofs.YtkophiklkgefnaaDoor.Wd
open Go.RowKit

theorem appF (u : List UInt8) : (⟨u.toArray⟩ : ByteArray) ++ ⟨#[240, 159, 135, 166]⟩ = ⟨(u ++ [240, 159, 135, 166]).toArray⟩ := by
  apply ByteArray.ext
  simp
theorem flOk_nil (s : List UInt8) (h : (rl s).length = 0) : FlOk s := fun m x h1 _ => by omega
theorem flOk_of (s : List UInt8) (m : Nat) (x : Nat × Nat) (c : Nat) (hm : (rl s).length = m + 1) (hx : (rl s)[m]? = some x) (hc : wdcls x.1 = (c : Int)) (h7 : c ≠ 7) (hk : wmk c = false) : FlOk s := fun m' x' h1 h2 => by
  obtain rfl : m' = m := by omega
  obtain rfl : x' = x := Option.some.inj (h2.symm.trans hx)
  rw [hc]
  refine ⟨by omega, ?_⟩
  unfold wmk at hk
  unfold wclings
  simp only [Bool.or_eq_false_iff, beq_eq_false_iff_ne] at hk ⊢
  omega
set_option maxHeartbeats 16000000 in
set_option maxRecDepth 100000 in
theorem flags_short (s t : List UInt8) (n : Nat) (w : World) (ht : TbW w) (hv : Ev.Tbs tabs w) (hl : s.length + t.length ≤ 70) (h8 : n ≤ 12) : Calls Tryd.prog 5 #[.string ⟨s.toArray⟩, .int .i64 (n : Int), .string ⟨t.toArray⟩] w fun e w' => e = .returned (.bool true) ∧ Below w.heap.size w w' := by
  have HT := hid ht
  have HV := hid hv
  clear ht hv
  have a1 : ¬ (70 : Int) < (s.length : Int) + (t.length : Int) := by omega
  have a2 : ¬ (n : Int) < 0 := by omega
  have a3 : ¬ (12 : Int) < (n : Int) := by omega
  go_enter Tryd.func5, Tryd.ntmps5
  go_wp2_with fail
  refine (Dc.db12 w).mono ?_
  rintro e w1 ⟨b1, Q, rfl, k1⟩
  have HB1 := hid b1
  have HK1 := hid k1
  clear b1 k1
  go_wp2_with fail
  refine (Dc.rrunes_rd s w1 (by omega)).mono ?_
  rintro e w2 ⟨xo, xc, rfl, hr, b2⟩
  have HX2 := hid hr
  have HB2 := hid (HB1.out.trans (b2.mono HB1.out.size))
  have HK2 := hid (HK1.out.below b2)
  have HN := hid (txt_len s)
  obtain ⟨p, hp⟩ : ∃ p, p = (Dc.txt s).length := ⟨_, rfl⟩
  have p9 : p ≤ 70 := by have := txt_le s; omega
  rw [← hp] at HN ⊢
  clear hr b2 HB1 HK1 hp
  go_wp2_with fail
  refine (Dc.rrunes_rd t w2 (by omega)).mono ?_
  rintro e w3 ⟨yo, yc, rfl, hr, b2⟩
  have HY3 := hid hr
  have HX3 := hid (HX2.out.below b2)
  have HB3 := hid (HB2.out.trans (b2.mono HB2.out.size))
  have HK3 := hid (HK2.out.below b2)
  have HM := hid (txt_len t)
  obtain ⟨q, hq⟩ : ∃ q, q = (Dc.txt t).length := ⟨_, rfl⟩
  have q9 : q ≤ 70 := by have := txt_le t; omega
  rw [← hq] at HM ⊢
  clear hr b2 HB2 HK2 HX2 hq
  by_cases p0 : p = 0
  · have HFL := hid (flOk_nil s (by have := HN.out; omega))
    subst p0
    by_cases q0 : q = 0
    · subst q0
      go_wp2_with fail
      refine (cut_some s _ (by omega)).mono ?_
      rintro e wc ⟨bb, rfl, be⟩
      have HBc := hid (HB3.out.trans (be.mono HB3.out.size))
      clear be HB3 HK3 HX3 HY3
      cases bb with
      | true =>
        go_wp2_with fail
        refine (fl_live w _ HV.out HBc.out).mono ?_
        rintro e w9 ⟨rfl, be⟩
        have HB9 := hid be
        clear be
        go_wp2
        go_ret
        exact ⟨rfl, HB9.out⟩
      | false =>
        go_wp2
        go_loopw [10, 11] (fun u x wr => ∃ i : Nat, i ≤ n ∧ x = .int .i64 (i : Int) ∧ u = .string ⟨(s ++ flg i).toArray⟩ ∧ wr = wc) (fun _ x _ => n - (intOf x).toNat)
        case atStart => exact ⟨0, by omega, rfl, by simp [flg], rfl⟩
        case round =>
          obtain ⟨i, hi, rfl, rfl, rfl⟩ := hrel
          by_cases hin : i < n
          · have i3 : (i : Int) < (n : Int) := by omega
            obtain ⟨u, hu⟩ : ∃ u, u = s ++ flg i := ⟨_, rfl⟩
            have hul : u.length ≤ 120 := by rw [hu, List.length_append, flg_len]; omega
            rw [← hu]
            have HU := hid (show u ++ [240, 159, 135, 166] = s ++ flg (i + 1) by rw [hu, flg, List.append_assoc])
            clear hu
            go_wp2
            go_roundw
            case rel => exact ⟨i + 1, by omega, by go_num, by rw [← HU.out, appF], trivial⟩
            case measure => simp [intOf]; omega
          · have i3 : ¬ (i : Int) < (n : Int) := by omega
            obtain rfl : i = n := by omega
            clear i3 hin
            obtain ⟨u, hu⟩ : ∃ u, u = s ++ flg i := ⟨_, rfl⟩
            have hul : u.length ≤ 120 := by rw [hu, List.length_append, flg_len]; omega
            rw [← hu]
            have HKD := hid (fun (j : Nat) (h0 : 0 < j) (hj : j < i) ww (h : TbW ww) => show Calls Tryd.prog 17 #[.string ⟨(u ++ t).toArray⟩, .int .i64 ((s.length : Int) + 4 * (j : Int))] ww fun e w' => e = .returned (.bool (decide (j % 2 = 0))) ∧ Below ww.heap.size ww w' by
              have hi1 : 1 ≤ i := by omega
              have h5 := wis_any (s ++ flg i ++ t) ((rl s).length + j) ww h (by rw [List.length_append, List.length_append, flg_len]; omega) (by omega) (by rw [fl_len s t i hi1]; omega)
              rw [fl_plc s t i hi1 j (by omega), fl_cut s t i hi1 HFL.out j h0 hj] at h5
              rw [hu]
              simpa using h5)
            clear hu
            go_wp2
            go_loopw [12] (fun x wq => ∃ j : Nat, 1 ≤ j ∧ (j ≤ i ∨ j = 1) ∧ x = .int .i64 (j : Int) ∧ Hid (Below w.heap.size w wq)) (fun x _ => i - (intOf x).toNat)
            case atStart => exact ⟨1, by omega, by omega, rfl, HBc.out⟩
            case round =>
              obtain ⟨j, hj1, hj, rfl, HB⟩ := hrel
              clear HBc
              by_cases hji : j < i
              · have j3 : (j : Int) < (i : Int) := by omega
                have HIS := hid (HKD.out j (by omega) hji)
                rcases Nat.mod_two_eq_zero_or_one j with hm | hm
                · have hm2 : (j : Int).tmod 2 = 0 := by rw [Int.tmod_eq_emod_of_nonneg (by omega)]; omega
                  have hm3 : (j : Int) % 2 = 0 := by omega
                  rw [show decide (j % 2 = 0) = true by rw [hm]; rfl] at HIS
                  go_wp2_with fail
                  refine (HIS.out _ (HT.out.below HB.out)).mono ?_
                  rintro e w6 ⟨rfl, be⟩
                  have HB6 := hid (HB.out.trans (be.mono HB.out.size))
                  clear be
                  go_wp2
                  go_roundw
                  case rel => exact ⟨j + 1, by omega, by omega, by go_num, HB6.out⟩
                  case measure => simp [intOf]; omega
                · have hm2 : (j : Int).tmod 2 = 1 := by rw [Int.tmod_eq_emod_of_nonneg (by omega)]; omega
                  have hm3 : (j : Int) % 2 = 1 := by omega
                  rw [show decide (j % 2 = 0) = false by rw [hm]; rfl] at HIS
                  go_wp2_with fail
                  refine (HIS.out _ (HT.out.below HB.out)).mono ?_
                  rintro e w6 ⟨rfl, be⟩
                  have HB6 := hid (HB.out.trans (be.mono HB.out.size))
                  clear be
                  go_wp2
                  go_roundw
                  case rel => exact ⟨j + 1, by omega, by omega, by go_num, HB6.out⟩
                  case measure => simp [intOf]; omega
              · have j3 : ¬ (j : Int) < (i : Int) := by omega
                go_wp2_with fail
                refine (fl_live w _ HV.out HB.out).mono ?_
                rintro e w9 ⟨rfl, be⟩
                have HB9 := hid be
                clear be
                go_wp2
                go_ret
                exact ⟨rfl, HB9.out⟩
    · have q0p : (0 : Int) < (q : Int) := by omega
      have hrb : 0 < (rl t).length := by have := HM.out; omega
      have HEb := hid (List.getElem?_eq_getElem hrb)
      obtain ⟨xb, hxb⟩ : ∃ x, x = (rl t)[0] := ⟨_, rfl⟩
      rw [← hxb] at HEb
      obtain ⟨cb, hcb, hdb⟩ := wdcls_nat xb.1
      have HCb := hid hcb
      have HDb := hid hdb
      have HRb := hid (rl_rune t xb (by rw [hxb]; exact List.getElem_mem hrb))
      obtain ⟨ub, hub⟩ : ∃ u, u = Dc.wdN (cb : Int) := ⟨_, rfl⟩
      have HUb := hid hub
      have HNMb := hid (fun ww (hh : Dc.Bk Dc.wdU Dc.wdW Q ww) => (show Calls Tryd.prog 16 #[.pointer (some ⟨Q, 0, none⟩), .int .i32 (xb.1 : Int)] ww fun e w' => e = .returned (.string ⟨ub.toArray⟩) ∧ Below ww.heap.size ww w' by
        have h5 := Dc.named_wd Q xb.1 ww hh HRb.out
        rw [HCb.out, ← HUb.out] at h5
        exact h5))
      clear hcb hdb hub hxb hrb
      obtain ⟨gy, rfl, hgy, y0, _, _⟩ := HY3.out 0 _ (txt_at t 0 xb HEb.out)
      simp only [Nat.zero_mul] at y0
      obtain ⟨Y0, hY0⟩ : ∃ Y0, Y0 = (xb.1 : Int) := ⟨_, rfl⟩
      rw [← hY0] at y0 HNMb
      clear hY0
      go_wp2_with fail
      refine (HNMb.out _ HK3.out).mono ?_
      rintro e w4 ⟨rfl, be⟩
      have HB4 := hid (HB3.out.trans (be.mono HB3.out.size))
      have HK4 := hid (HK3.out.below be)
      have HX4 := hid (HX3.out.below be)
      have HY4 := hid (HY3.out.below be)
      clear be HB3 HK3 HX3 HY3
      by_cases cb7 : cb = 7
      · obtain rfl : ub = [82, 101, 103, 105, 111, 110] := HUb.out.trans (by rw [cb7]; decide +kernel)
        clear cb7
        go_wp2_with fail
        refine (fl_live w _ HV.out HB4.out).mono ?_
        rintro e w9 ⟨rfl, be⟩
        have HB9 := hid be
        clear be
        go_wp2
        go_ret
        exact ⟨rfl, HB9.out⟩
      · have r7 : (ub == [82, 101, 103, 105, 111, 110]) = false := by rw [HUb.out]; exact wdN_ne cb HDb.out 7 (by omega) cb7 _ (by decide +kernel)
        clear cb7 y0
        obtain ⟨g7, hg7, _, y0, _, _⟩ := HY4.out 0 _ (txt_at t 0 xb HEb.out)
        cases hg7
        simp only [Nat.zero_mul] at y0
        obtain ⟨Y1, hY1⟩ : ∃ Y1, Y1 = (xb.1 : Int) := ⟨_, rfl⟩
        have HNMc := hid (fun ww (hh : Dc.Bk Dc.wdU Dc.wdW Q ww) => (show Calls Tryd.prog 16 #[.pointer (some ⟨Q, 0, none⟩), .int .i32 (xb.1 : Int)] ww fun e w' => e = .returned (.string ⟨ub.toArray⟩) ∧ Below ww.heap.size ww w' by
          have h5 := Dc.named_wd Q xb.1 ww hh HRb.out
          rw [HCb.out, ← HUb.out] at h5
          exact h5))
        rw [← hY1] at y0 HNMc
        clear hY1 HNMb
        go_wp2_with fail
        refine (HNMc.out _ HK4.out).mono ?_
        rintro e w5 ⟨rfl, be⟩
        have HB5 := hid (HB4.out.trans (be.mono HB4.out.size))
        have HK5 := hid (HK4.out.below be)
        have HX5 := hid (HX4.out.below be)
        have HY5 := hid (HY4.out.below be)
        clear be HB4 HK4 HX4 HY4
        go_wp2_with fail
        refine ((show Calls Tryd.prog 19 #[.string ⟨ub.toArray⟩] _ fun e w' => e = .returned (.bool (wmk cb)) ∧ Below _ _ w' by rw [HUb.out]; exact marks_any cb HDb.out _ (tbs_below HV.out HB5.out))).mono ?_
        rintro e w6 ⟨rfl, be⟩
        have HB6 := hid (HB5.out.trans (be.mono HB5.out.size))
        have HK6 := hid (HK5.out.below be)
        have HX6 := hid (HX5.out.below be)
        have HY6 := hid (HY5.out.below be)
        clear be HB5 HK5 HX5 HY5
        obtain ⟨mk, hmk⟩ : ∃ m, m = wmk cb := ⟨_, rfl⟩
        rw [← hmk]
        clear hmk
        cases mk with
        | true =>
          go_wp2_with fail
          refine (fl_live w _ HV.out HB6.out).mono ?_
          rintro e w9 ⟨rfl, be⟩
          have HB9 := hid be
          clear be
          go_wp2
          go_ret
          exact ⟨rfl, HB9.out⟩
        | false =>
          go_wp2_with fail
          refine (cut_some s _ (by omega)).mono ?_
          rintro e wc ⟨bb, rfl, be⟩
          have HBc := hid (HB6.out.trans (be.mono HB6.out.size))
          clear be HB6 HK6 HX6 HY6
          cases bb with
          | true =>
            go_wp2_with fail
            refine (fl_live w _ HV.out HBc.out).mono ?_
            rintro e w9 ⟨rfl, be⟩
            have HB9 := hid be
            clear be
            go_wp2
            go_ret
            exact ⟨rfl, HB9.out⟩
          | false =>
            go_wp2
            go_loopw [10, 11] (fun u x wr => ∃ i : Nat, i ≤ n ∧ x = .int .i64 (i : Int) ∧ u = .string ⟨(s ++ flg i).toArray⟩ ∧ wr = wc) (fun _ x _ => n - (intOf x).toNat)
            case atStart => exact ⟨0, by omega, rfl, by simp [flg], rfl⟩
            case round =>
              obtain ⟨i, hi, rfl, rfl, rfl⟩ := hrel
              by_cases hin : i < n
              · have i3 : (i : Int) < (n : Int) := by omega
                obtain ⟨u, hu⟩ : ∃ u, u = s ++ flg i := ⟨_, rfl⟩
                have hul : u.length ≤ 120 := by rw [hu, List.length_append, flg_len]; omega
                rw [← hu]
                have HU := hid (show u ++ [240, 159, 135, 166] = s ++ flg (i + 1) by rw [hu, flg, List.append_assoc])
                clear hu
                go_wp2
                go_roundw
                case rel => exact ⟨i + 1, by omega, by go_num, by rw [← HU.out, appF], trivial⟩
                case measure => simp [intOf]; omega
              · have i3 : ¬ (i : Int) < (n : Int) := by omega
                obtain rfl : i = n := by omega
                clear i3 hin
                obtain ⟨u, hu⟩ : ∃ u, u = s ++ flg i := ⟨_, rfl⟩
                have hul : u.length ≤ 120 := by rw [hu, List.length_append, flg_len]; omega
                rw [← hu]
                have HKD := hid (fun (j : Nat) (h0 : 0 < j) (hj : j < i) ww (h : TbW ww) => show Calls Tryd.prog 17 #[.string ⟨(u ++ t).toArray⟩, .int .i64 ((s.length : Int) + 4 * (j : Int))] ww fun e w' => e = .returned (.bool (decide (j % 2 = 0))) ∧ Below ww.heap.size ww w' by
                  have hi1 : 1 ≤ i := by omega
                  have h5 := wis_any (s ++ flg i ++ t) ((rl s).length + j) ww h (by rw [List.length_append, List.length_append, flg_len]; omega) (by omega) (by rw [fl_len s t i hi1]; omega)
                  rw [fl_plc s t i hi1 j (by omega), fl_cut s t i hi1 HFL.out j h0 hj] at h5
                  rw [hu]
                  simpa using h5)
                clear hu
                go_wp2
                go_loopw [12] (fun x wq => ∃ j : Nat, 1 ≤ j ∧ (j ≤ i ∨ j = 1) ∧ x = .int .i64 (j : Int) ∧ Hid (Below w.heap.size w wq)) (fun x _ => i - (intOf x).toNat)
                case atStart => exact ⟨1, by omega, by omega, rfl, HBc.out⟩
                case round =>
                  obtain ⟨j, hj1, hj, rfl, HB⟩ := hrel
                  clear HBc
                  by_cases hji : j < i
                  · have j3 : (j : Int) < (i : Int) := by omega
                    have HIS := hid (HKD.out j (by omega) hji)
                    rcases Nat.mod_two_eq_zero_or_one j with hm | hm
                    · have hm2 : (j : Int).tmod 2 = 0 := by rw [Int.tmod_eq_emod_of_nonneg (by omega)]; omega
                      have hm3 : (j : Int) % 2 = 0 := by omega
                      rw [show decide (j % 2 = 0) = true by rw [hm]; rfl] at HIS
                      go_wp2_with fail
                      refine (HIS.out _ (HT.out.below HB.out)).mono ?_
                      rintro e w6 ⟨rfl, be⟩
                      have HB6 := hid (HB.out.trans (be.mono HB.out.size))
                      clear be
                      go_wp2
                      go_roundw
                      case rel => exact ⟨j + 1, by omega, by omega, by go_num, HB6.out⟩
                      case measure => simp [intOf]; omega
                    · have hm2 : (j : Int).tmod 2 = 1 := by rw [Int.tmod_eq_emod_of_nonneg (by omega)]; omega
                      have hm3 : (j : Int) % 2 = 1 := by omega
                      rw [show decide (j % 2 = 0) = false by rw [hm]; rfl] at HIS
                      go_wp2_with fail
                      refine (HIS.out _ (HT.out.below HB.out)).mono ?_
                      rintro e w6 ⟨rfl, be⟩
                      have HB6 := hid (HB.out.trans (be.mono HB.out.size))
                      clear be
                      go_wp2
                      go_roundw
                      case rel => exact ⟨j + 1, by omega, by omega, by go_num, HB6.out⟩
                      case measure => simp [intOf]; omega
                  · have j3 : ¬ (j : Int) < (i : Int) := by omega
                    go_wp2_with fail
                    refine (fl_live w _ HV.out HB.out).mono ?_
                    rintro e w9 ⟨rfl, be⟩
                    have HB9 := hid be
                    clear be
                    go_wp2
                    go_ret
                    exact ⟨rfl, HB9.out⟩
  · have p0p : (0 : Int) < (p : Int) := by omega
    obtain ⟨m, hm⟩ : ∃ m, p = m + 1 := ⟨p - 1, by omega⟩
    have i0 : (0 : Int) ≤ (m : Int) := by omega
    have i1 : (m : Int) < (p : Int) := by omega
    have i4 : IntKind.i64.wrap ((p : Int) - 1) = (m : Int) := by rw [show (p : Int) - 1 = (m : Int) by omega]; rw [IntKind.wrap_i64]; omega
    have i5 : (p : Int) - 1 = (m : Int) := by omega
    have hra : m < (rl s).length := by have := HN.out; omega
    have HEa := hid (List.getElem?_eq_getElem hra)
    obtain ⟨xa, hxa⟩ : ∃ x, x = (rl s)[m] := ⟨_, rfl⟩
    rw [← hxa] at HEa
    obtain ⟨ca, hca, hda⟩ := wdcls_nat xa.1
    have HCa := hid hca
    have HDa := hid hda
    have HRa := hid (rl_rune s xa (by rw [hxa]; exact List.getElem_mem hra))
    obtain ⟨ua, hua⟩ : ∃ u, u = Dc.wdN (ca : Int) := ⟨_, rfl⟩
    have HUa := hid hua
    have HNMa := hid (fun ww (hh : Dc.Bk Dc.wdU Dc.wdW Q ww) => (show Calls Tryd.prog 16 #[.pointer (some ⟨Q, 0, none⟩), .int .i32 (xa.1 : Int)] ww fun e w' => e = .returned (.string ⟨ua.toArray⟩) ∧ Below ww.heap.size ww w' by
      have h5 := Dc.named_wd Q xa.1 ww hh HRa.out
      rw [HCa.out, ← HUa.out] at h5
      exact h5))
    clear hca hda hua hxa hra
    have HPM := hid hm
    clear hm
    obtain ⟨gx, rfl, hgx, z0, _, _⟩ := HX3.out m _ (txt_at s m xa HEa.out)
    obtain ⟨X0, hX0⟩ : ∃ X0, X0 = (xa.1 : Int) := ⟨_, rfl⟩
    have HNMd := hid HNMa.out
    rw [← hX0] at z0 HNMa HNMd
    have HX0 := hid hX0
    clear hX0
    go_wp2_with fail
    refine (HNMa.out _ HK3.out).mono ?_
    rintro e w4 ⟨rfl, be⟩
    have HB4 := hid (HB3.out.trans (be.mono HB3.out.size))
    have HK4 := hid (HK3.out.below be)
    have HX4 := hid (HX3.out.below be)
    have HY4 := hid (HY3.out.below be)
    clear be HB3 HK3 HX3 HY3
    by_cases ca7 : ca = 7
    · obtain rfl : ua = [82, 101, 103, 105, 111, 110] := HUa.out.trans (by rw [ca7]; decide +kernel)
      clear ca7
      go_wp2_with fail
      refine (fl_live w _ HV.out HB4.out).mono ?_
      rintro e w9 ⟨rfl, be⟩
      have HB9 := hid be
      clear be
      go_wp2
      go_ret
      exact ⟨rfl, HB9.out⟩
    · have r7 : (ua == [82, 101, 103, 105, 111, 110]) = false := by rw [HUa.out]; exact wdN_ne ca HDa.out 7 (by omega) ca7 _ (by decide +kernel)
      have H7 := hid ca7
      clear ca7 z0
      obtain ⟨g7, hg7, _, z0, _, _⟩ := HX4.out m _ (txt_at s m xa HEa.out)
      cases hg7
      rw [← HX0.out] at z0
      go_wp2_with fail
      refine (HNMd.out _ HK4.out).mono ?_
      rintro e w5 ⟨rfl, be⟩
      have HB5 := hid (HB4.out.trans (be.mono HB4.out.size))
      have HK5 := hid (HK4.out.below be)
      have HX5 := hid (HX4.out.below be)
      have HY5 := hid (HY4.out.below be)
      clear be HB4 HK4 HX4 HY4
      go_wp2_with fail
      refine ((show Calls Tryd.prog 19 #[.string ⟨ua.toArray⟩] _ fun e w' => e = .returned (.bool (wmk ca)) ∧ Below _ _ w' by rw [HUa.out]; exact marks_any ca HDa.out _ (tbs_below HV.out HB5.out))).mono ?_
      rintro e w6 ⟨rfl, be⟩
      have HB6 := hid (HB5.out.trans (be.mono HB5.out.size))
      have HK6 := hid (HK5.out.below be)
      have HX6 := hid (HX5.out.below be)
      have HY6 := hid (HY5.out.below be)
      clear be HB5 HK5 HX5 HY5
      obtain ⟨mk, hmk⟩ : ∃ m, m = wmk ca := ⟨_, rfl⟩
      rw [← hmk]
      have HMK := hid hmk
      clear hmk
      cases mk with
      | true =>
        go_wp2_with fail
        refine (fl_live w _ HV.out HB6.out).mono ?_
        rintro e w9 ⟨rfl, be⟩
        have HB9 := hid be
        clear be
        go_wp2
        go_ret
        exact ⟨rfl, HB9.out⟩
      | false =>
        have HFL := hid (flOk_of s m xa ca (by have := HN.out; have := HPM.out; omega) HEa.out HCa.out H7.out HMK.out.symm)
        clear z0 i0 i1 i4 i5 r7
        by_cases q0 : q = 0
        · subst q0
          go_wp2_with fail
          refine (cut_some s _ (by omega)).mono ?_
          rintro e wc ⟨bb, rfl, be⟩
          have HBc := hid (HB6.out.trans (be.mono HB6.out.size))
          clear be HB6 HK6 HX6 HY6
          cases bb with
          | true =>
            go_wp2_with fail
            refine (fl_live w _ HV.out HBc.out).mono ?_
            rintro e w9 ⟨rfl, be⟩
            have HB9 := hid be
            clear be
            go_wp2
            go_ret
            exact ⟨rfl, HB9.out⟩
          | false =>
            go_wp2
            go_loopw [10, 11] (fun u x wr => ∃ i : Nat, i ≤ n ∧ x = .int .i64 (i : Int) ∧ u = .string ⟨(s ++ flg i).toArray⟩ ∧ wr = wc) (fun _ x _ => n - (intOf x).toNat)
            case atStart => exact ⟨0, by omega, rfl, by simp [flg], rfl⟩
            case round =>
              obtain ⟨i, hi, rfl, rfl, rfl⟩ := hrel
              by_cases hin : i < n
              · have i3 : (i : Int) < (n : Int) := by omega
                obtain ⟨u, hu⟩ : ∃ u, u = s ++ flg i := ⟨_, rfl⟩
                have hul : u.length ≤ 120 := by rw [hu, List.length_append, flg_len]; omega
                rw [← hu]
                have HU := hid (show u ++ [240, 159, 135, 166] = s ++ flg (i + 1) by rw [hu, flg, List.append_assoc])
                clear hu
                go_wp2
                go_roundw
                case rel => exact ⟨i + 1, by omega, by go_num, by rw [← HU.out, appF], trivial⟩
                case measure => simp [intOf]; omega
              · have i3 : ¬ (i : Int) < (n : Int) := by omega
                obtain rfl : i = n := by omega
                clear i3 hin
                obtain ⟨u, hu⟩ : ∃ u, u = s ++ flg i := ⟨_, rfl⟩
                have hul : u.length ≤ 120 := by rw [hu, List.length_append, flg_len]; omega
                rw [← hu]
                have HKD := hid (fun (j : Nat) (h0 : 0 < j) (hj : j < i) ww (h : TbW ww) => show Calls Tryd.prog 17 #[.string ⟨(u ++ t).toArray⟩, .int .i64 ((s.length : Int) + 4 * (j : Int))] ww fun e w' => e = .returned (.bool (decide (j % 2 = 0))) ∧ Below ww.heap.size ww w' by
                  have hi1 : 1 ≤ i := by omega
                  have h5 := wis_any (s ++ flg i ++ t) ((rl s).length + j) ww h (by rw [List.length_append, List.length_append, flg_len]; omega) (by omega) (by rw [fl_len s t i hi1]; omega)
                  rw [fl_plc s t i hi1 j (by omega), fl_cut s t i hi1 HFL.out j h0 hj] at h5
                  rw [hu]
                  simpa using h5)
                clear hu
                go_wp2
                go_loopw [12] (fun x wq => ∃ j : Nat, 1 ≤ j ∧ (j ≤ i ∨ j = 1) ∧ x = .int .i64 (j : Int) ∧ Hid (Below w.heap.size w wq)) (fun x _ => i - (intOf x).toNat)
                case atStart => exact ⟨1, by omega, by omega, rfl, HBc.out⟩
                case round =>
                  obtain ⟨j, hj1, hj, rfl, HB⟩ := hrel
                  clear HBc
                  by_cases hji : j < i
                  · have j3 : (j : Int) < (i : Int) := by omega
                    have HIS := hid (HKD.out j (by omega) hji)
                    rcases Nat.mod_two_eq_zero_or_one j with hm | hm
                    · have hm2 : (j : Int).tmod 2 = 0 := by rw [Int.tmod_eq_emod_of_nonneg (by omega)]; omega
                      have hm3 : (j : Int) % 2 = 0 := by omega
                      rw [show decide (j % 2 = 0) = true by rw [hm]; rfl] at HIS
                      go_wp2_with fail
                      refine (HIS.out _ (HT.out.below HB.out)).mono ?_
                      rintro e w6 ⟨rfl, be⟩
                      have HB6 := hid (HB.out.trans (be.mono HB.out.size))
                      clear be
                      go_wp2
                      go_roundw
                      case rel => exact ⟨j + 1, by omega, by omega, by go_num, HB6.out⟩
                      case measure => simp [intOf]; omega
                    · have hm2 : (j : Int).tmod 2 = 1 := by rw [Int.tmod_eq_emod_of_nonneg (by omega)]; omega
                      have hm3 : (j : Int) % 2 = 1 := by omega
                      rw [show decide (j % 2 = 0) = false by rw [hm]; rfl] at HIS
                      go_wp2_with fail
                      refine (HIS.out _ (HT.out.below HB.out)).mono ?_
                      rintro e w6 ⟨rfl, be⟩
                      have HB6 := hid (HB.out.trans (be.mono HB.out.size))
                      clear be
                      go_wp2
                      go_roundw
                      case rel => exact ⟨j + 1, by omega, by omega, by go_num, HB6.out⟩
                      case measure => simp [intOf]; omega
                  · have j3 : ¬ (j : Int) < (i : Int) := by omega
                    go_wp2_with fail
                    refine (fl_live w _ HV.out HB.out).mono ?_
                    rintro e w9 ⟨rfl, be⟩
                    have HB9 := hid be
                    clear be
                    go_wp2
                    go_ret
                    exact ⟨rfl, HB9.out⟩
        · have q0p : (0 : Int) < (q : Int) := by omega
          have hrb : 0 < (rl t).length := by have := HM.out; omega
          have HEb := hid (List.getElem?_eq_getElem hrb)
          obtain ⟨xb, hxb⟩ : ∃ x, x = (rl t)[0] := ⟨_, rfl⟩
          rw [← hxb] at HEb
          obtain ⟨cb, hcb, hdb⟩ := wdcls_nat xb.1
          have HCb := hid hcb
          have HDb := hid hdb
          have HRb := hid (rl_rune t xb (by rw [hxb]; exact List.getElem_mem hrb))
          obtain ⟨ub, hub⟩ : ∃ u, u = Dc.wdN (cb : Int) := ⟨_, rfl⟩
          have HUb := hid hub
          have HNMb := hid (fun ww (hh : Dc.Bk Dc.wdU Dc.wdW Q ww) => (show Calls Tryd.prog 16 #[.pointer (some ⟨Q, 0, none⟩), .int .i32 (xb.1 : Int)] ww fun e w' => e = .returned (.string ⟨ub.toArray⟩) ∧ Below ww.heap.size ww w' by
            have h5 := Dc.named_wd Q xb.1 ww hh HRb.out
            rw [HCb.out, ← HUb.out] at h5
            exact h5))
          clear hcb hdb hub hxb hrb
          obtain ⟨gy, rfl, hgy, y0, _, _⟩ := HY6.out 0 _ (txt_at t 0 xb HEb.out)
          simp only [Nat.zero_mul] at y0
          obtain ⟨Y0, hY0⟩ : ∃ Y0, Y0 = (xb.1 : Int) := ⟨_, rfl⟩
          rw [← hY0] at y0 HNMb
          clear hY0
          go_wp2_with fail
          refine (HNMb.out _ HK6.out).mono ?_
          rintro e w7 ⟨rfl, be⟩
          have HB7 := hid (HB6.out.trans (be.mono HB6.out.size))
          have HK7 := hid (HK6.out.below be)
          have HX7 := hid (HX6.out.below be)
          have HY7 := hid (HY6.out.below be)
          clear be HB6 HK6 HX6 HY6
          by_cases cb7 : cb = 7
          · obtain rfl : ub = [82, 101, 103, 105, 111, 110] := HUb.out.trans (by rw [cb7]; decide +kernel)
            clear cb7
            go_wp2_with fail
            refine (fl_live w _ HV.out HB7.out).mono ?_
            rintro e w9 ⟨rfl, be⟩
            have HB9 := hid be
            clear be
            go_wp2
            go_ret
            exact ⟨rfl, HB9.out⟩
          · have r7 : (ub == [82, 101, 103, 105, 111, 110]) = false := by rw [HUb.out]; exact wdN_ne cb HDb.out 7 (by omega) cb7 _ (by decide +kernel)
            clear cb7 y0
            obtain ⟨g7, hg7, _, y0, _, _⟩ := HY7.out 0 _ (txt_at t 0 xb HEb.out)
            cases hg7
            simp only [Nat.zero_mul] at y0
            obtain ⟨Y1, hY1⟩ : ∃ Y1, Y1 = (xb.1 : Int) := ⟨_, rfl⟩
            have HNMc := hid (fun ww (hh : Dc.Bk Dc.wdU Dc.wdW Q ww) => (show Calls Tryd.prog 16 #[.pointer (some ⟨Q, 0, none⟩), .int .i32 (xb.1 : Int)] ww fun e w' => e = .returned (.string ⟨ub.toArray⟩) ∧ Below ww.heap.size ww w' by
              have h5 := Dc.named_wd Q xb.1 ww hh HRb.out
              rw [HCb.out, ← HUb.out] at h5
              exact h5))
            rw [← hY1] at y0 HNMc
            clear hY1 HNMb
            go_wp2_with fail
            refine (HNMc.out _ HK7.out).mono ?_
            rintro e w8 ⟨rfl, be⟩
            have HB8 := hid (HB7.out.trans (be.mono HB7.out.size))
            have HK8 := hid (HK7.out.below be)
            have HX8 := hid (HX7.out.below be)
            have HY8 := hid (HY7.out.below be)
            clear be HB7 HK7 HX7 HY7
            go_wp2_with fail
            refine ((show Calls Tryd.prog 19 #[.string ⟨ub.toArray⟩] _ fun e w' => e = .returned (.bool (wmk cb)) ∧ Below _ _ w' by rw [HUb.out]; exact marks_any cb HDb.out _ (tbs_below HV.out HB8.out))).mono ?_
            rintro e w9 ⟨rfl, be⟩
            have HB9 := hid (HB8.out.trans (be.mono HB8.out.size))
            have HK9 := hid (HK8.out.below be)
            have HX9 := hid (HX8.out.below be)
            have HY9 := hid (HY8.out.below be)
            clear be HB8 HK8 HX8 HY8
            obtain ⟨mk, hmk⟩ : ∃ m, m = wmk cb := ⟨_, rfl⟩
            rw [← hmk]
            clear hmk
            cases mk with
            | true =>
              go_wp2_with fail
              refine (fl_live w _ HV.out HB9.out).mono ?_
              rintro e w9 ⟨rfl, be⟩
              have HB9 := hid be
              clear be
              go_wp2
              go_ret
              exact ⟨rfl, HB9.out⟩
            | false =>
              go_wp2_with fail
              refine (cut_some s _ (by omega)).mono ?_
              rintro e wc ⟨bb, rfl, be⟩
              have HBc := hid (HB9.out.trans (be.mono HB9.out.size))
              clear be HB9 HK9 HX9 HY9
              cases bb with
              | true =>
                go_wp2_with fail
                refine (fl_live w _ HV.out HBc.out).mono ?_
                rintro e w9 ⟨rfl, be⟩
                have HB9 := hid be
                clear be
                go_wp2
                go_ret
                exact ⟨rfl, HB9.out⟩
              | false =>
                go_wp2
                go_loopw [10, 11] (fun u x wr => ∃ i : Nat, i ≤ n ∧ x = .int .i64 (i : Int) ∧ u = .string ⟨(s ++ flg i).toArray⟩ ∧ wr = wc) (fun _ x _ => n - (intOf x).toNat)
                case atStart => exact ⟨0, by omega, rfl, by simp [flg], rfl⟩
                case round =>
                  obtain ⟨i, hi, rfl, rfl, rfl⟩ := hrel
                  by_cases hin : i < n
                  · have i3 : (i : Int) < (n : Int) := by omega
                    obtain ⟨u, hu⟩ : ∃ u, u = s ++ flg i := ⟨_, rfl⟩
                    have hul : u.length ≤ 120 := by rw [hu, List.length_append, flg_len]; omega
                    rw [← hu]
                    have HU := hid (show u ++ [240, 159, 135, 166] = s ++ flg (i + 1) by rw [hu, flg, List.append_assoc])
                    clear hu
                    go_wp2
                    go_roundw
                    case rel => exact ⟨i + 1, by omega, by go_num, by rw [← HU.out, appF], trivial⟩
                    case measure => simp [intOf]; omega
                  · have i3 : ¬ (i : Int) < (n : Int) := by omega
                    obtain rfl : i = n := by omega
                    clear i3 hin
                    obtain ⟨u, hu⟩ : ∃ u, u = s ++ flg i := ⟨_, rfl⟩
                    have hul : u.length ≤ 120 := by rw [hu, List.length_append, flg_len]; omega
                    rw [← hu]
                    have HKD := hid (fun (j : Nat) (h0 : 0 < j) (hj : j < i) ww (h : TbW ww) => show Calls Tryd.prog 17 #[.string ⟨(u ++ t).toArray⟩, .int .i64 ((s.length : Int) + 4 * (j : Int))] ww fun e w' => e = .returned (.bool (decide (j % 2 = 0))) ∧ Below ww.heap.size ww w' by
                      have hi1 : 1 ≤ i := by omega
                      have h5 := wis_any (s ++ flg i ++ t) ((rl s).length + j) ww h (by rw [List.length_append, List.length_append, flg_len]; omega) (by omega) (by rw [fl_len s t i hi1]; omega)
                      rw [fl_plc s t i hi1 j (by omega), fl_cut s t i hi1 HFL.out j h0 hj] at h5
                      rw [hu]
                      simpa using h5)
                    clear hu
                    go_wp2
                    go_loopw [12] (fun x wq => ∃ j : Nat, 1 ≤ j ∧ (j ≤ i ∨ j = 1) ∧ x = .int .i64 (j : Int) ∧ Hid (Below w.heap.size w wq)) (fun x _ => i - (intOf x).toNat)
                    case atStart => exact ⟨1, by omega, by omega, rfl, HBc.out⟩
                    case round =>
                      obtain ⟨j, hj1, hj, rfl, HB⟩ := hrel
                      clear HBc
                      by_cases hji : j < i
                      · have j3 : (j : Int) < (i : Int) := by omega
                        have HIS := hid (HKD.out j (by omega) hji)
                        rcases Nat.mod_two_eq_zero_or_one j with hm | hm
                        · have hm2 : (j : Int).tmod 2 = 0 := by rw [Int.tmod_eq_emod_of_nonneg (by omega)]; omega
                          have hm3 : (j : Int) % 2 = 0 := by omega
                          rw [show decide (j % 2 = 0) = true by rw [hm]; rfl] at HIS
                          go_wp2_with fail
                          refine (HIS.out _ (HT.out.below HB.out)).mono ?_
                          rintro e w6 ⟨rfl, be⟩
                          have HB6 := hid (HB.out.trans (be.mono HB.out.size))
                          clear be
                          go_wp2
                          go_roundw
                          case rel => exact ⟨j + 1, by omega, by omega, by go_num, HB6.out⟩
                          case measure => simp [intOf]; omega
                        · have hm2 : (j : Int).tmod 2 = 1 := by rw [Int.tmod_eq_emod_of_nonneg (by omega)]; omega
                          have hm3 : (j : Int) % 2 = 1 := by omega
                          rw [show decide (j % 2 = 0) = false by rw [hm]; rfl] at HIS
                          go_wp2_with fail
                          refine (HIS.out _ (HT.out.below HB.out)).mono ?_
                          rintro e w6 ⟨rfl, be⟩
                          have HB6 := hid (HB.out.trans (be.mono HB.out.size))
                          clear be
                          go_wp2
                          go_roundw
                          case rel => exact ⟨j + 1, by omega, by omega, by go_num, HB6.out⟩
                          case measure => simp [intOf]; omega
                      · have j3 : ¬ (j : Int) < (i : Int) := by omega
                        go_wp2_with fail
                        refine (fl_live w _ HV.out HB.out).mono ?_
                        rintro e w9 ⟨rfl, be⟩
                        have HB9 := hid be
                        clear be
                        go_wp2
                        go_ret
                        exact ⟨rfl, HB9.out⟩
theorem flags_main (s t : List UInt8) (n : Int) (w : World) (ht : TbW w) (hv : Ev.Tbs tabs w) (hs : s.length ≤ 1000000000000000) (hs2 : t.length ≤ 1000000000000000) : Calls Tryd.prog 5 #[.string ⟨s.toArray⟩, .int .i64 n, .string ⟨t.toArray⟩] w fun e w' => e = .returned (.bool true) ∧ Below w.heap.size w w' := by
  by_cases h : s.length + t.length ≤ 70 ∧ 0 ≤ n ∧ n ≤ 12
  · obtain ⟨h1, h2, h3⟩ := h
    obtain ⟨k, rfl⟩ : ∃ k : Nat, n = (k : Int) := ⟨n.toNat, by omega⟩
    exact flags_short s t k w ht hv h1 (by omega)
  · have HV := hid hv
    have HB := hid (Below.refl w.heap.size w)
    clear hv ht
    by_cases c1 : 70 < s.length + t.length
    · have a1 : (70 : Int) < (s.length : Int) + (t.length : Int) := by omega
      clear h
      go_enter Tryd.func5, Tryd.ntmps5
      go_wp2_with fail
      refine (fl_live w _ HV.out HB.out).mono ?_
      rintro e w9 ⟨rfl, be⟩
      have HB9 := hid be
      clear be
      go_wp2
      go_ret
      exact ⟨rfl, HB9.out⟩
    · have a1 : ¬ (70 : Int) < (s.length : Int) + (t.length : Int) := by omega
      by_cases c2 : n < 0
      · clear h
        go_enter Tryd.func5, Tryd.ntmps5
        go_wp2_with fail
        refine (fl_live w _ HV.out HB.out).mono ?_
        rintro e w9 ⟨rfl, be⟩
        have HB9 := hid be
        clear be
        go_wp2
        go_ret
        exact ⟨rfl, HB9.out⟩
      · have c3 : (12 : Int) < n := by omega
        clear h
        go_enter Tryd.func5, Tryd.ntmps5
        go_wp2_with fail
        refine (fl_live w _ HV.out HB.out).mono ?_
        rintro e w9 ⟨rfl, be⟩
        have HB9 := hid be
        clear be
        go_wp2
        go_ret
        exact ⟨rfl, HB9.out⟩
end Go.Proofs.YtkophiklkgefnaaDoor.Wd
