/- The classes of words: the database and what it names. -/
import Derived.Test.YtkophiklkgefnaaDoorDbAny
import Derived.Test.YtkophiklkgefnaaDoorWdDb
import Derived.Test.YtkophiklkgefnaaDoorRMath
import Derived.Test.YtkophiklkgefnaaDoorDcE
import Derived.Test.YtkophiklkgefnaaDoorWdFun2Joint
import Derived.Test.YtkophiklkgefnaaDoorLiveRun
namespace Go.Proofs.YtkophiklkgefnaaDoor.Dc
open Go.RowKit
/-- The names of the classes of words. -/
def wdN (c : Int) : List UInt8 := wdU.getD c.toNat []
set_option maxRecDepth 100000 in
theorem wdP_len : wdP.length ≤ 12000 := by decide +kernel
theorem named_wd (Q : Nat) (r : Nat) (w : World) (h : Bk wdU wdW Q w) (hr : r ≤ 1114111) :
    Calls Tryd.prog 16 #[.pointer (some ⟨Q, 0, none⟩), .int .i32 (r : Int)] w fun e w' => e = .returned (.string ⟨(wdN (wdcls (r : Int))).toArray⟩) ∧ Below w.heap.size w w' := by
  have e1 : instd (r : Int) = (r : Int) := by unfold instd; rw [if_neg (by omega)]
  have e2 := wd_get (r : Int) (by omega) (by omega)
  have e3 : gtp (instd (r : Int)) wdW < wdU.length := by
    obtain ⟨i1, i2⟩ := instd_in (r : Int)
    exact gtp_lt wdW _ wd_cov wd_cls _ i1 i2
  refine named12 wdU wdW Q r w h wd_cov wd_cls (by decide) (by decide +kernel) _ ?_
  rw [e1] at e3 ⊢
  unfold wdN
  rw [e2, Int.toNat_natCast, List.getD_eq_getElem?_getD, List.getElem?_eq_getElem e3]
  rfl
set_option maxRecDepth 100000 in
theorem db12 (w : World) : Calls Tryd.prog 14 #[] w fun e w' => Below w.heap.size w w' ∧ ∃ Q, e = .returned (.pointer (some ⟨Q, 0, none⟩)) ∧ Bk wdU wdW Q w' := by
  go_enter Tryd.func14, Tryd.ntmps14
  go_wp2_with fail
  refine (rnew_eq _ wdP w (by kernel_rfl) (.inl wdP_len) wdU wdS wdW wd_nw wd_whl).mono ?_
  rintro e w1 ⟨hb, Q, rfl, hk⟩
  have HB := hid hb
  have HK := hid hk
  clear hb hk
  go_wp2
  go_ret
  exact ⟨HB.out, Q, rfl, HK.out⟩
end Go.Proofs.YtkophiklkgefnaaDoor.Dc
/- The document's runes of a text, said by the list of runes and widths; a text but for its last rune. -/
namespace Go.Proofs.YtkophiklkgefnaaDoor

/-- The entries of a list of runes with widths, from a place on. -/
def ent : Nat → List (Nat × Nat) → List Dc.Trp
  | _, [] => []
  | p, x :: X => ((x.1 : Int), p, p + x.2) :: ent (p + x.2) X
theorem cls_ent (l : List UInt8) : ∀ (n p : Nat), l.length - p ≤ n → p ≤ l.length → Dc.cls l.length (Dc.plr l p) = ent p (rl (l.drop p))
  | 0, p, h, hp => by
    rw [Dc.plr_end l p (by omega), List.drop_of_length_le (by omega)]
    rfl
  | n + 1, p, h, hp => by
    by_cases hlt : p < l.length
    · have hne := drop_ne l p hlt
      have w1 := wid_ge l p hlt
      have w2 := wid_le l p hlt
      have ih := cls_ent l n (p + wid l p) (by omega) w2
      rw [Dc.plr_step l p hlt, decode_place l p hlt, rl_cons _ hne, List.drop_drop]
      show Dc.cls l.length ((p, ((dec (l.drop p)).1 : Int)) :: Dc.plr l (p + wid l p)) = (((dec (l.drop p)).1 : Int), p, p + wid l p) :: ent (p + wid l p) (rl (l.drop (p + wid l p)))
      rw [Dc.cls, ih]
      congr 3
      by_cases h5 : p + wid l p < l.length
      · rw [Dc.plr_step l _ h5]; rfl
      · rw [Dc.plr_end l _ h5]; show l.length = _; omega
    · rw [Dc.plr_end l p hlt, List.drop_of_length_le (by omega)]
      rfl
theorem txt_ent (l : List UInt8) : Dc.txt l = ent 0 (rl l) := by
  have h := cls_ent l l.length 0 (by omega) (by omega)
  rw [List.drop_zero] at h
  exact h
theorem ent_len : ∀ (X : List (Nat × Nat)) (p : Nat), (ent p X).length = X.length
  | [], _ => rfl
  | x :: X, p => by rw [ent, List.length_cons, List.length_cons, ent_len X]
theorem ent_at : ∀ (X : List (Nat × Nat)) (p k : Nat) (x : Nat × Nat), X[k]? = some x → (ent p X)[k]? = some ((x.1 : Int), p + psm (X.take k), p + psm (X.take (k + 1)))
  | [], _, _, _, h => by cases h
  | y :: X, p, 0, x, h => by cases h; simp [ent, psm]
  | y :: X, p, k + 1, x, h => by
    have ih := ent_at X (p + y.2) k x (by simpa using h)
    rw [ent, List.getElem?_cons_succ, ih, List.take_succ_cons, List.take_succ_cons, psm_cons, psm_cons]
    simp only [Option.some.injEq, Prod.mk.injEq, true_and]
    omega
theorem txt_len (l : List UInt8) : (Dc.txt l).length = (rl l).length := by rw [txt_ent, ent_len]
/-- The place behind k runes. -/
def plc (l : List UInt8) (k : Nat) : Nat := psm ((rl l).take k)
theorem plc_zero (l : List UInt8) : plc l 0 = 0 := rfl
theorem plc_all (l : List UInt8) (k : Nat) (h : (rl l).length ≤ k) : plc l k = l.length := by
  unfold plc
  rw [List.take_of_length_le h, rl_sum l.length l (Nat.le_refl _)]
theorem psm_mono (X : List (Nat × Nat)) : ∀ (k : Nat), psm (X.take k) ≤ psm X := fun k => by
  conv => rhs; rw [← List.take_append_drop k X, psm_app]
  omega
theorem plc_le (l : List UInt8) (k : Nat) : plc l k ≤ l.length := by
  have h := psm_mono (rl l) k
  rw [rl_sum l.length l (Nat.le_refl _)] at h
  exact h
theorem plc_succ (l : List UInt8) (k : Nat) (x : Nat × Nat) (h : (rl l)[k]? = some x) : plc l (k + 1) = plc l k + x.2 := by
  obtain ⟨hk, rfl⟩ := List.getElem?_eq_some_iff.1 h
  unfold plc
  rw [List.take_succ_eq_append_getElem hk, psm_app, psm_cons, psm_nil]
  rfl
theorem txt_at (l : List UInt8) (k : Nat) (x : Nat × Nat) (h : (rl l)[k]? = some x) : (Dc.txt l)[k]? = some ((x.1 : Int), plc l k, plc l (k + 1)) := by
  rw [txt_ent, ent_at (rl l) 0 k x h]
  simp [plc]
theorem rl_take (l : List UInt8) (k : Nat) (h : k ≤ (rl l).length) : rl (l.take (plc l k)) = (rl l).take k := (rl_cut k l h).1
theorem rl_drop (l : List UInt8) (k : Nat) (h : k ≤ (rl l).length) : rl (l.drop (plc l k)) = (rl l).drop k := (rl_cut k l h).2
theorem rl_ne {l : List UInt8} (h : l ≠ []) : rl l ≠ [] := by rw [rl_cons l h]; exact fun e => by cases e
theorem rl_rune (l : List UInt8) : ∀ x ∈ rl l, x.1 ≤ 1114111 := by
  have H : ∀ (n : Nat) (l : List UInt8), l.length ≤ n → ∀ x ∈ rl l, x.1 ≤ 1114111 := by
    intro n
    induction n with
    | zero => intro l h x hx; rw [List.length_eq_zero_iff.1 (by omega : l.length = 0)] at hx; cases hx
    | succ n ih =>
      intro l h x hx
      by_cases hl : l = []
      · subst hl; cases hx
      · rw [rl_cons l hl] at hx
        have w1 := dec_ge l hl
        rcases List.mem_cons.1 hx with rfl | hx
        · exact dec_rune l hl
        · exact ih (l.drop (dec l).2) (by rw [List.length_drop]; have : l.length ≠ 0 := fun e => hl (List.length_eq_zero_iff.1 e); omega) x hx
  exact H l.length l (Nat.le_refl _)
/-- The beginning of k + 1 runes: its last rune, and what is left without it. -/
theorem take_last (l : List UInt8) (k : Nat) (x : Nat × Nat) (h : (rl l)[k]? = some x) : l.take (plc l (k + 1)) ≠ [] ∧ decLast (l.take (plc l (k + 1))) = x ∧ ltl (l.take (plc l (k + 1))) = l.take (plc l k) := by
  obtain ⟨hk, hx⟩ := List.getElem?_eq_some_iff.1 h
  have h1 := rl_take l (k + 1) (by omega)
  have h2 : l.take (plc l (k + 1)) ≠ [] := fun e => by
    rw [e, rl_nil, List.take_succ_eq_append_getElem hk] at h1
    have h9 := congrArg List.length h1
    rw [List.length_append] at h9
    simp at h9
  have h3 := rl_snoc _ h2
  rw [h1, List.take_succ_eq_append_getElem hk] at h3
  have h4 : (rl l).take k = rl (ltl (l.take (plc l (k + 1)))) ∧ [(rl l)[k]] = [decLast (l.take (plc l (k + 1)))] := List.append_inj' h3 rfl
  have h5 : decLast (l.take (plc l (k + 1))) = x := by
    have h6 := h4.2
    simp only [List.cons.injEq, and_true] at h6
    rw [← h6, hx]
  refine ⟨h2, h5, ?_⟩
  have h7 := plc_succ l k x h
  have h8 := plc_le l (k + 1)
  unfold ltl
  rw [h5, List.length_take, List.take_take]
  congr 1
  omega
end Go.Proofs.YtkophiklkgefnaaDoor
/- Words: the runes beside a place; what holds together. -/
namespace Go.Proofs.YtkophiklkgefnaaDoor.Wd
open Go.RowKit

theorem wlast_at (s : List UInt8) (k : Nat) (x : Nat × Nat) (h : (rl s)[k]? = some x) : wlast (s.take (plc s (k + 1))) = wdcls x.1 := by
  obtain ⟨_, h2, _⟩ := take_last s k x h
  unfold wlast
  rw [h2]
theorem wfirst_at (s : List UInt8) (k : Nat) (x : Nat × Nat) (h : (rl s)[k]? = some x) : wfirst (s.drop (plc s k)) = wdcls x.1 := by
  obtain ⟨hk, hx⟩ := List.getElem?_eq_some_iff.1 h
  have h1 := rl_drop s k (by omega)
  have hne : s.drop (plc s k) ≠ [] := fun e => by
    rw [e, rl_nil, List.drop_eq_getElem_cons hk] at h1
    cases h1
  rw [rl_cons _ hne, List.drop_eq_getElem_cons hk, hx] at h1
  have h2 : dec (s.drop (plc s k)) = x := (List.cons.inj h1).1
  unfold wfirst
  rw [h2]
theorem wdcls_nat (r : Nat) : ∃ c : Nat, wdcls (r : Int) = (c : Int) ∧ c < 20 := by
  obtain ⟨n, h1, h2⟩ := (wdcls_bd (r : Int)).nat
  exact ⟨n, h2, h1⟩
theorem wdN_eq (c : Nat) (h : c < 20) (k : Nat) (hk : k < 20) : (Dc.wdN (c : Int) == Dc.wdN (k : Int)) = decide (c = k) := by
  have H : ∀ a : Fin 20, ∀ b : Fin 20, (Dc.wdN ((a : Nat) : Int) == Dc.wdN ((b : Nat) : Int)) = decide ((a : Nat) = (b : Nat)) := by decide +kernel
  exact H ⟨c, h⟩ ⟨k, hk⟩
theorem wdN_ne (c : Nat) (h : c < 20) (k : Nat) (hk : k < 20) (hne : c ≠ k) (b : List UInt8) (hb : Dc.wdN (k : Int) = b) : (Dc.wdN (c : Int) == b) = false := by
  rw [← hb, wdN_eq c h k hk]
  exact decide_eq_false hne
/-- What the law calls glued. -/
def wgl (a b : Nat) : Bool :=
  ((a == 10 || a == 9) && (b == 10 || b == 9)) || (a == 16 && b == 16) || ((a == 10 || a == 9) && b == 16) || (a == 16 && (b == 10 || b == 9)) || (a == 8 && b == 8) || ((b == 4 || b == 6 || b == 5) && !(a == 3) && !(a == 1) && !(a == 2))
theorem wgl_cases (a b : Nat) (ha : a < 20) (hb : b < 20) (h : wgl a b = true) : wends (a : Int) = false ∧ wends (b : Int) = false ∧ (wclings (b : Int) = true ∨ (wclings (a : Int) = false ∧ wtog (a : Int) (b : Int) = true)) := by
  have H : ∀ a : Fin 20, ∀ b : Fin 20, wgl (a : Nat) (b : Nat) = true → wends ((a : Nat) : Int) = false ∧ wends ((b : Nat) : Int) = false ∧ (wclings ((b : Nat) : Int) = true ∨ (wclings ((a : Nat) : Int) = false ∧ wtog ((a : Nat) : Int) ((b : Nat) : Int) = true)) := by decide +kernel
  exact H ⟨a, ha⟩ ⟨b, hb⟩ h
section
variable (s : List UInt8) (p : Nat) (a b : Nat) (ha : wlast (s.take p) = (a : Int)) (hb : wfirst (s.drop p) = (b : Int))
include ha hb
theorem wh_glued (h0 : s.take p ≠ []) (h1 : a < 20) (h2 : b < 20) (h : wgl a b = true) : wcut s p = false := by
  obtain ⟨e1, e2, e3⟩ := wgl_cases a b h1 h2 h
  unfold wcut
  rw [ha, hb, e1, e2]
  rcases e3 with e3 | ⟨e3, e4⟩
  · rw [e3]
    simp
  · have e5 : wjoin s p = true := by
      unfold wjoin
      rw [wbs_no _ h0 (by rw [ha]; exact e3), ha, hb]
      show (if wtog (a : Int) (b : Int) = true then true else _) = true
      rw [if_pos e4]
    rw [e5]
    simp
theorem wh_crlf (h1 : a = 1) (h2 : b = 2) : wcut s p = false := by
  subst h1 h2
  unfold wcut
  rw [ha, hb]
  rfl
theorem wh_ends (h1 : wends (a : Int) = true ∨ wends (b : Int) = true) (h2 : ¬ (a = 1 ∧ b = 2)) : wcut s p = true := by
  have e1 : ((a : Int) == 1 && (b : Int) == 2) = false := by
    rw [Bool.and_eq_false_iff]
    by_cases c1 : a = 1
    · exact .inr (beq_eq_false_iff_ne.2 (fun e => h2 ⟨c1, by omega⟩))
    · exact .inl (beq_eq_false_iff_ne.2 (fun e => c1 (by omega)))
  unfold wcut
  rw [ha, hb, e1]
  rcases h1 with h1 | h1
  · rw [h1]; simp
  · rw [h1]; simp
end
end Go.Proofs.YtkophiklkgefnaaDoor.Wd
/- The kind of a text, by the classes of its runes: as the program reckons it, and as the document says it. -/
namespace Go.Proofs.YtkophiklkgefnaaDoor.Wd
open Go.RowKit

/-- The classes of a text's runes. -/
def clL (l : List UInt8) : List Nat := (rl l).map fun x => (wdcls x.1).toNat
def kof (c : Nat) : Nat := if c = 10 ∨ c = 9 ∨ c = 8 then 4 else if c = 16 then 3 else if c = 3 ∨ c = 1 ∨ c = 2 then 2 else if c = 18 then 1 else 0
def odc (c : Nat) : Bool := decide (kof c = 0) && !wclings (c : Int)
def kmx (L : List Nat) : Nat := L.foldl (fun k c => max k (kof c)) 0
def str (L : List Nat) : Bool := L.foldl (fun b c => b || odc c) false
def wkd (L : List Nat) : Nat := if kmx L = 1 ∧ str L = true then 0 else kmx L
theorem kmx_snoc (L : List Nat) (c : Nat) : kmx (L ++ [c]) = max (kmx L) (kof c) := by simp [kmx]
theorem str_snoc (L : List Nat) (c : Nat) : str (L ++ [c]) = (str L || odc c) := by simp [str]
theorem kof_le (c : Nat) : kof c ≤ 4 := by unfold kof; (repeat' split) <;> omega
theorem fold_max : ∀ (L : List Nat) (a v : Nat), v ≤ L.foldl (fun k c => max k (kof c)) a ↔ v ≤ a ∨ ∃ c ∈ L, v ≤ kof c
  | [], a, v => by simp
  | x :: L, a, v => by
    rw [List.foldl_cons, fold_max L (max a (kof x)) v]
    simp only [List.mem_cons, exists_eq_or_imp]
    have h : v ≤ max a (kof x) ↔ v ≤ a ∨ v ≤ kof x := by omega
    rw [h, or_assoc]
theorem fold_or : ∀ (L : List Nat) (a : Bool), L.foldl (fun b c => b || odc c) a = true ↔ a = true ∨ ∃ c ∈ L, odc c = true
  | [], a => by simp
  | x :: L, a => by
    rw [List.foldl_cons, fold_or L (a || odc x)]
    simp only [List.mem_cons, exists_eq_or_imp, Bool.or_eq_true, or_assoc]
theorem kmx_ge (L : List Nat) (v : Nat) (hv : 1 ≤ v) : v ≤ kmx L ↔ ∃ c ∈ L, v ≤ kof c := by
  unfold kmx
  rw [fold_max]
  constructor
  · rintro (h | h)
    · omega
    · exact h
  · exact .inr
theorem kmx_le (L : List Nat) : kmx L ≤ 4 := by
  rcases Nat.lt_or_ge 4 (kmx L) with h | h
  · obtain ⟨c, _, h2⟩ := (kmx_ge L 5 (by omega)).1 h
    have := kof_le c
    omega
  · exact h
/-- A class is there. -/
def hsc (L : List Nat) (k : Nat) : Bool := decide (k ∈ L)
def pln (c : Nat) : Bool := c == 18 || c == 4 || c == 6 || c == 5
def plA (L : List Nat) : Bool := L.all pln
def rkd (L : List Nat) : Nat :=
  if (hsc L 10 || hsc L 9 || hsc L 8) = true then 4 else if hsc L 16 = true then 3 else if (hsc L 3 || hsc L 1 || hsc L 2) = true then 2 else if (hsc L 18 && plA L) = true then 1 else 0
theorem hsc_snoc (L : List Nat) (c k : Nat) : hsc (L ++ [c]) k = (hsc L k || decide (k = c)) := by
  unfold hsc
  rw [← Bool.decide_or]
  simp
theorem plA_snoc (L : List Nat) (c : Nat) : plA (L ++ [c]) = (plA L && pln c) := by simp [plA]
theorem kof4 (c : Nat) : 4 ≤ kof c ↔ c = 10 ∨ c = 9 ∨ c = 8 := by unfold kof; (repeat' split) <;> omega
theorem kof3 (c : Nat) : 3 ≤ kof c ↔ (c = 10 ∨ c = 9 ∨ c = 8) ∨ c = 16 := by unfold kof; (repeat' split) <;> omega
theorem kof2 (c : Nat) : 2 ≤ kof c ↔ (c = 10 ∨ c = 9 ∨ c = 8) ∨ c = 16 ∨ (c = 3 ∨ c = 1 ∨ c = 2) := by unfold kof; (repeat' split) <;> omega
theorem kof1 (c : Nat) : 1 ≤ kof c ↔ (c = 10 ∨ c = 9 ∨ c = 8) ∨ c = 16 ∨ (c = 3 ∨ c = 1 ∨ c = 2) ∨ c = 18 := by unfold kof; (repeat' split) <;> omega
theorem kinds_same (L : List Nat) (hL : ∀ c ∈ L, c < 20) : wkd L = rkd L := by
  have g4 := kmx_ge L 4 (by omega)
  have g3 := kmx_ge L 3 (by omega)
  have g2 := kmx_ge L 2 (by omega)
  have g1 := kmx_ge L 1 (by omega)
  have gl := kmx_le L
  have ex : ∀ {p q : Nat → Prop}, (∀ c, p c ↔ q c) → ((∃ c ∈ L, p c) ↔ ∃ c ∈ L, q c) := fun h => ⟨fun ⟨c, h1, h2⟩ => ⟨c, h1, (h c).1 h2⟩, fun ⟨c, h1, h2⟩ => ⟨c, h1, (h c).2 h2⟩⟩
  rw [ex kof4] at g4
  rw [ex kof3] at g3
  rw [ex kof2] at g2
  rw [ex kof1] at g1
  have m4 : (hsc L 10 || hsc L 9 || hsc L 8) = true ↔ ∃ c ∈ L, c = 10 ∨ c = 9 ∨ c = 8 := by
    unfold hsc
    simp only [Bool.or_eq_true, decide_eq_true_eq]
    constructor
    · rintro ((h | h) | h)
      · exact ⟨10, h, .inl rfl⟩
      · exact ⟨9, h, .inr (.inl rfl)⟩
      · exact ⟨8, h, .inr (.inr rfl)⟩
    · rintro ⟨c, h, rfl | rfl | rfl⟩
      · exact .inl (.inl h)
      · exact .inl (.inr h)
      · exact .inr h
  have m3 : hsc L 16 = true ↔ 16 ∈ L := by unfold hsc; simp
  have m2 : (hsc L 3 || hsc L 1 || hsc L 2) = true ↔ ∃ c ∈ L, c = 3 ∨ c = 1 ∨ c = 2 := by
    unfold hsc
    simp only [Bool.or_eq_true, decide_eq_true_eq]
    constructor
    · rintro ((h | h) | h)
      · exact ⟨3, h, .inl rfl⟩
      · exact ⟨1, h, .inr (.inl rfl)⟩
      · exact ⟨2, h, .inr (.inr rfl)⟩
    · rintro ⟨c, h, rfl | rfl | rfl⟩
      · exact .inl (.inl h)
      · exact .inl (.inr h)
      · exact .inr h
  unfold rkd wkd
  by_cases h4 : ∃ c ∈ L, c = 10 ∨ c = 9 ∨ c = 8
  · rw [if_pos (m4.2 h4)]
    have := g4.2 h4
    rw [if_neg (by omega)]
    omega
  rw [if_neg (fun e => h4 (m4.1 e))]
  have n4 : ¬ 4 ≤ kmx L := fun e => h4 (g4.1 e)
  by_cases h3 : 16 ∈ L
  · rw [if_pos (m3.2 h3)]
    have := g3.2 ⟨16, h3, .inr rfl⟩
    rw [if_neg (by omega)]
    omega
  rw [if_neg (fun e => h3 (m3.1 e))]
  have n3 : ¬ 3 ≤ kmx L := fun e => by
    obtain ⟨c, h1, h2 | rfl⟩ := g3.1 e
    · exact h4 ⟨c, h1, h2⟩
    · exact h3 h1
  by_cases h2 : ∃ c ∈ L, c = 3 ∨ c = 1 ∨ c = 2
  · rw [if_pos (m2.2 h2)]
    obtain ⟨c, h5, h6⟩ := h2
    have := g2.2 ⟨c, h5, .inr (.inr h6)⟩
    rw [if_neg (by omega)]
    omega
  rw [if_neg (fun e => h2 (m2.1 e))]
  have n2 : ¬ 2 ≤ kmx L := fun e => by
    obtain ⟨c, h1, h5 | rfl | h5⟩ := g2.1 e
    · exact h4 ⟨c, h1, h5⟩
    · exact h3 h1
    · exact h2 ⟨c, h1, h5⟩
  by_cases h1 : 18 ∈ L
  · have k1 := g1.2 ⟨18, h1, .inr (.inr (.inr rfl))⟩
    have e18 : hsc L 18 = true := by unfold hsc; simpa using h1
    rw [e18, Bool.true_and]
    have hk : kmx L = 1 := by omega
    have hs : str L = true ↔ ¬ plA L = true := by
      unfold str plA
      rw [fold_or, List.all_eq_true]
      constructor
      · rintro (h | ⟨c, h5, h6⟩) h7
        · cases h
        · have H : ∀ a : Fin 20, odc (a : Nat) = true → pln (a : Nat) = true → False := by decide +kernel
          exact H ⟨c, hL c h5⟩ h6 (h7 c h5)
      · intro h
        refine .inr ?_
        simp only [Classical.not_forall] at h
        obtain ⟨c, h5, h6⟩ := h
        refine ⟨c, h5, ?_⟩
        have q4 : ¬ (c = 10 ∨ c = 9 ∨ c = 8) := fun e => h4 ⟨c, h5, e⟩
        have q3 : c ≠ 16 := fun e => h3 (e ▸ h5)
        have q2 : ¬ (c = 3 ∨ c = 1 ∨ c = 2) := fun e => h2 ⟨c, h5, e⟩
        have H : ∀ a : Fin 20, ¬ ((a : Nat) = 10 ∨ (a : Nat) = 9 ∨ (a : Nat) = 8) → (a : Nat) ≠ 16 → ¬ ((a : Nat) = 3 ∨ (a : Nat) = 1 ∨ (a : Nat) = 2) → ¬ pln (a : Nat) = true → odc (a : Nat) = true := by decide +kernel
        exact H ⟨c, hL c h5⟩ q4 q3 q2 h6
    by_cases hp : plA L = true
    · rw [if_pos hp, if_neg (fun e => absurd hp (hs.1 e.2)), hk]
    · rw [if_neg hp, if_pos ⟨hk, hs.2 hp⟩]
  · have e18 : hsc L 18 = false := by unfold hsc; simpa using h1
    have k0 : ¬ 1 ≤ kmx L := fun e => by
      obtain ⟨c, h5, h6 | rfl | h6 | rfl⟩ := g1.1 e
      · exact h4 ⟨c, h5, h6⟩
      · exact h3 h5
      · exact h2 ⟨c, h5, h6⟩
      · exact h1 h5
    rw [e18, Bool.false_and, if_neg (by omega)]
    simp
    omega
end Go.Proofs.YtkophiklkgefnaaDoor.Wd
/- The contract of Kind (package word). -/
namespace Go.Proofs.YtkophiklkgefnaaDoor.Wd
open Go.RowKit

set_option maxRecDepth 100000 in
theorem kindOf_run : ((List.range 20).all fun a => Ev.runA Tryd.prog none7 1000000 60 tabs 36 [.int .i64 (a : Int)] (.int .i64 (kof a : Int))) = true := by kernel_rfl
theorem kindOf_any (a : Nat) (ha : a < 20) (w : World) (hw : Ev.Tbs tabs w) :
    Calls Tryd.prog 36 #[.int .i64 (a : Int)] w fun e w' => e = .returned (.int .i64 (kof a : Int)) ∧ Below w.heap.size w w' :=
  Ev.closed_args mixed none7_ok tabs_ok rfl (List.all_eq_true.1 kindOf_run a (List.mem_range.2 ha)) w hw
theorem tbs_below {w w' : World} (h : Ev.Tbs tabs w) (hb : Below w.heap.size w w') : Ev.Tbs tabs w' := fun x hx => by
  obtain ⟨c, h1, h2⟩ := h x hx
  exact ⟨c, (hb.block _ (Array.getElem?_eq_some_iff.1 h1).1).trans h1, h2⟩
theorem clL_len (l : List UInt8) : (clL l).length = (rl l).length := by simp [clL]
theorem clL_snoc (l : List UInt8) (k : Nat) (x : Nat × Nat) (c : Nat) (hx : (rl l)[k]? = some x) (hc : wdcls x.1 = (c : Int)) : (clL l).take (k + 1) = (clL l).take k ++ [c] := by
  have h0 : (clL l)[k]? = some c := by
    unfold clL
    rw [List.getElem?_map, hx]
    simp [hc]
  obtain ⟨hk2, h⟩ := List.getElem?_eq_some_iff.1 h0
  rw [List.take_succ_eq_append_getElem hk2, h]
set_option maxHeartbeats 4000000 in
set_option maxRecDepth 100000 in
theorem wkind_any (l : List UInt8) (w : World) (hw : Ev.Tbs tabs w) :
    Calls Tryd.prog 12 #[.string ⟨l.toArray⟩] w fun e w' => e = .returned (.int .i64 (wkd (clL l) : Int)) ∧ Below w.heap.size w w' := by
  have HV := hid hw
  clear hw
  have HSZ := hid (show (⟨l.toArray⟩ : ByteArray).size = l.length by show l.toArray.size = _; simp)
  have HB0 := hid ((Below.refl w.heap.size w).alloc (Nat.le_refl _) (.stringIter ⟨l.toArray⟩ 0))
  have HIT0 := hid (World.iter_heap w ⟨l.toArray⟩ 0)
  go_enter Tryd.func12, Tryd.ntmps12
  go_wp2
  go_loopw [3, 4] (fun a b wr => ∃ k : Nat, k ≤ (rl l).length ∧ a = .int .i64 (kmx ((clL l).take k) : Int) ∧ b = .bool (str ((clL l).take k)) ∧ Hid (wr.heap[w.heap.size]? = some (.stringIter ⟨l.toArray⟩ (plc l k))) ∧ Hid (Below w.heap.size w wr)) (fun _ _ wr => l.length - wr.iterPos w.heap.size)
  case atStart => exact ⟨0, by omega, rfl, rfl, HIT0, HB0⟩
  case round =>
    obtain ⟨k, hk, rfl, rfl, HI, HB⟩ := hrel
    have hin : w.heap.size < wr.heap.size := (Array.getElem?_eq_some_iff.1 HI.out).1
    by_cases hlt : k < (rl l).length
    · have HE := hid (List.getElem?_eq_getElem hlt)
      obtain ⟨x, hx⟩ : ∃ x, x = (rl l)[k] := ⟨_, rfl⟩
      rw [← hx] at HE
      have hpl : plc l k < l.length := by
        have h1 := plc_succ l k x HE.out
        have h2 := plc_le l (k + 1)
        have h3 := rl_pos l.length l (Nat.le_refl _) x (by rw [hx]; exact List.getElem_mem hlt)
        omega
      have hnx := wnext_at (P := Tryd.prog) wr w.heap.size ⟨l.toArray⟩ (plc l k) 0 HI.out (by rw [HSZ.out]; exact hpl)
      rw [decode_place l _ hpl] at hnx
      have hdx : dec (l.drop (plc l k)) = x := by
        have h1 := rl_drop l k (by omega)
        rw [rl_cons _ (drop_ne l _ hpl), List.drop_eq_getElem_cons hlt, ← hx] at h1
        exact (List.cons.inj h1).1
      rw [hdx, ← plc_succ l k x HE.out] at hnx
      have hx2 := rl_pos l.length l (Nat.le_refl _) x (by rw [hx]; exact List.getElem_mem hlt)
      have HM := hid (show l.length - plc l (k + 1) < l.length - wr.iterPos w.heap.size by
        have h1 : wr.iterPos w.heap.size = plc l k := by unfold World.iterPos; rw [HI.out]
        have h2 := plc_succ l k x HE.out
        rw [h1]; omega)
      obtain ⟨c, hc, hc2⟩ := wdcls_nat x.1
      have HS := hid (clL_snoc l k x c HE.out hc)
      have HC2 := hid hc2
      obtain ⟨rr, hrr⟩ : ∃ rr : Int, rr = (x.1 : Int) := ⟨_, rfl⟩
      rw [← hrr] at hnx hc
      obtain ⟨P, hP⟩ : ∃ P, P = plc l (k + 1) := ⟨_, rfl⟩
      obtain ⟨w1, hw1⟩ : ∃ w1, w1 = wr.putObj w.heap.size (.stringIter ⟨l.toArray⟩ (plc l (k + 1))) := ⟨_, rfl⟩
      rw [← hw1] at hnx
      have HI1 := hid (show w1.heap[w.heap.size]? = some (.stringIter ⟨l.toArray⟩ (plc l (k + 1))) by rw [hw1]; exact World.putObj_heap_same hin)
      have HB1 := hid (show Below w.heap.size w w1 by rw [hw1]; exact HB.out.trans ⟨rfl, rfl, rfl, by simp [World.putObj], fun j hj => World.putObj_heap_other (by omega)⟩)
      have HCC := hid hc
      clear hrr hw1 HI HB hdx hpl hx hx2 hP hc hc2
      obtain ⟨K, hK⟩ : ∃ K, K = kmx ((clL l).take k) := ⟨_, rfl⟩
      obtain ⟨b, hb⟩ : ∃ b, b = str ((clL l).take k) := ⟨_, rfl⟩
      have HK1 := hid (show kmx ((clL l).take (k + 1)) = max K (kof c) by rw [HS.out, kmx_snoc, hK])
      have HS1 := hid (show str ((clL l).take (k + 1)) = (b || odc c) by rw [HS.out, str_snoc, hb])
      have HKL := hid (show K ≤ 4 by rw [hK]; exact kmx_le _)
      rw [← hK, ← hb]
      clear hK hb
      go_wp2_with fail
      refine (wdcls_any rr w1).mono ?_
      rintro e w2 ⟨rfl, hw2⟩
      obtain rfl := hw2.symm
      clear hw2 hnx
      rw [HCC.out]
      go_wp2_with fail
      refine (kindOf_any c HC2.out w1 (tbs_below HV.out HB1.out)).mono ?_
      rintro e w2 ⟨rfl, be⟩
      have HB2 := hid (HB1.out.trans (be.mono HB1.out.size))
      have HI2 := hid ((be.block _ (Array.getElem?_eq_some_iff.1 HI1.out).1).trans HI1.out)
      clear be HB1 HI1
      obtain ⟨o, ho⟩ : ∃ o, o = kof c := ⟨_, rfl⟩
      have HO := hid ho
      have HOD := hid (show odc c = (decide (o = 0) && !wclings (c : Int)) by rw [ho]; rfl)
      have ol : o ≤ 4 := by rw [ho]; exact kof_le c
      rw [← ho] at HK1 ⊢
      clear ho
      have kl : K ≤ 4 := HKL.out
      have hmx : (max (K : Int) (o : Int)) = ((max K o : Nat) : Int) := by omega
      have FIN : ∀ (W : World), W.heap[w.heap.size]? = some (.stringIter ⟨l.toArray⟩ (plc l (k + 1))) → l.length - W.iterPos w.heap.size < l.length - wr.iterPos w.heap.size := fun W h => by
        have h1 : W.iterPos w.heap.size = plc l (k + 1) := by unfold World.iterPos; rw [h]
        rw [h1]
        exact HM.out
      have HFIN := hid FIN
      clear FIN
      cases b with
      | true =>
        go_wp2
        go_roundw
        case rel => exact ⟨k + 1, by omega, by rw [HK1.out], by rw [HS1.out]; rfl, HI2, HB2⟩
        case measure => exact HFIN.out _ HI2.out
      | false =>
        by_cases o0 : o = 0
        · subst o0
          go_wp2_with fail
          refine (wclings_any (c : Int) w2).mono ?_
          rintro e w3 ⟨rfl, hw2⟩
          obtain rfl := hw2.symm
          clear hw2
          obtain ⟨q, hq⟩ : ∃ q, q = wclings (c : Int) := ⟨_, rfl⟩
          rw [← hq] at HOD ⊢
          clear hq
          go_wp2
          go_roundw
          case rel => exact ⟨k + 1, by omega, by rw [HK1.out]; first | rfl | (rw [hmx]) | (congr 1; omega), by rw [HS1.out, HOD.out]; cases q <;> rfl, HI2, HB2⟩
          case measure => exact HFIN.out _ HI2.out
        · have o1 : ¬ (o : Int) = 0 := by omega
          have o2 : ((o : Int) == 0) = false := beq_eq_false_iff_ne.2 o1
          have HO3 := hid (show odc c = false by rw [HOD.out, decide_eq_false o0]; rfl)
          go_wp2
          go_roundw
          case rel => exact ⟨k + 1, by omega, by rw [HK1.out], by rw [HS1.out, HO3.out]; rfl, HI2, HB2⟩
          case measure => exact HFIN.out _ HI2.out
    · have hke : k = (rl l).length := by omega
      have hpl : plc l k = l.length := plc_all l k (by omega)
      have hnx := wnext_stop (P := Tryd.prog) wr w.heap.size ⟨l.toArray⟩ (plc l k) 0 HI.out (by rw [HSZ.out, hpl]; omega)
      have htk : (clL l).take k = clL l := List.take_of_length_le (by rw [clL_len]; omega)
      rw [htk]
      have HW := hid (show wkd (clL l) = if kmx (clL l) = 1 ∧ str (clL l) = true then 0 else kmx (clL l) from rfl)
      obtain ⟨K, hK⟩ : ∃ K, K = kmx (clL l) := ⟨_, rfl⟩
      obtain ⟨b, hb⟩ : ∃ b, b = str (clL l) := ⟨_, rfl⟩
      rw [← hK, ← hb] at HW
      rw [← hK, ← hb]
      clear hK hb htk hpl hke
      by_cases k1 : K = 1
      · subst k1
        cases b with
        | true =>
          go_wp2
          go_ret
          exact ⟨by rw [HW.out]; rfl, HB.out⟩
        | false =>
          go_wp2
          go_ret
          exact ⟨by rw [HW.out]; rfl, HB.out⟩
      · have k2 : ¬ (K : Int) = 1 := by omega
        have k3 : ((K : Int) == 1) = false := beq_eq_false_iff_ne.2 k2
        have HW2 := hid (show wkd (clL l) = K by rw [HW.out, if_neg (fun e => k1 e.1)])
        go_wp2
        go_ret
        exact ⟨by rw [HW2.out]; rfl, HB.out⟩
end Go.Proofs.YtkophiklkgefnaaDoor.Wd
