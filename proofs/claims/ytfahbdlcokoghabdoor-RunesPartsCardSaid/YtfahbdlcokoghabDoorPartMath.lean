/- A set and its other side part a text: the mathematics. -/
import Derived.Test.YtfahbdlcokoghabDoorReadMath
import Derived.Test.YtfahbdlcokoghabDoorTextMath
import Derived.Test.YtfahbdlcokoghabDoorSetMath
namespace Go.Proofs.YtfahbdlcokoghabDoor
open Go.RowKit

theorem dec_at (l : List UInt8) (t : Nat) (h : t < l.length) : Utf8.decode ⟨l.toArray⟩ t = dec (l.drop t) := by
  have hne : l.drop t ≠ [] := fun e => by have := congrArg List.length e; rw [List.length_drop] at this; simp only [List.length_nil] at this; omega
  rw [dec_eqL _ hne]
  exact (Lib.decodeL_drop ⟨l.toArray⟩ t).symm
theorem wd_le (l : List UInt8) (t : Nat) (h : t < l.length) : t + (Utf8.decode ⟨l.toArray⟩ t).2 ≤ l.length := by
  rw [dec_at l t h]
  have := dec_in (l.drop t)
  rw [List.length_drop] at this
  omega
theorem nxt_plr (l : List UInt8) (t : Nat) (h : t ≤ l.length) : nxt l.length (plr l t) = t := by
  by_cases c : t < l.length
  · rw [plr_step l t c]; rfl
  · rw [plr_end l t c]; show l.length = t; omega

/-- What is kept on both sides is all there is. -/
theorem rkp_lens (p q : Int → Bool) (l : List UInt8) : ∀ (n t : Nat), l.length - t ≤ n → t ≤ l.length → (∀ x ∈ plr l t, q x.2 = !p x.2) →
    (rkp p l (cls l.length (plr l t))).length + (rkp q l (cls l.length (plr l t))).length = l.length - t
  | 0, t, h, ht, _ => by rw [plr_end l t (by omega)]; simp [cls, rkp]; omega
  | n + 1, t, h, ht, hq => by
    by_cases c : t < l.length
    · have h1 := Lib.width_pos ⟨l.toArray⟩ t
      have h2 := wd_le l t c
      rw [plr_step l t c] at hq ⊢
      generalize (Utf8.decode ⟨l.toArray⟩ t).2 = w at *
      generalize (Utf8.decode ⟨l.toArray⟩ t).1 = r at *
      have ih := rkp_lens p q l n (t + w) (by omega) h2 (fun x hx => hq x (by simp [hx]))
      have hr := hq (t, (r : Int)) (by simp)
      rw [cls, nxt_plr l (t + w) h2]
      have e : ∀ s : Int → Bool, rkp s l (((r : Int), t, t + w) :: cls l.length (plr l (t + w))) = (if s r then (l.drop t).take (t + w - t) else []) ++ rkp s l (cls l.length (plr l (t + w))) := fun s => by simp [rkp]
      rw [e, e, List.length_append, List.length_append]
      have hk : ((l.drop t).take (t + w - t)).length = w := by rw [List.length_take, List.length_drop]; omega
      dsimp only at hr
      cases hp : p (r : Int) with
      | true =>
        rw [hp] at hr
        rw [hr]
        simp only [Bool.not_true, if_true, Bool.false_eq_true, if_false, List.length_nil]
        omega
      | false =>
        rw [hp] at hr
        rw [hr]
        simp only [Bool.not_false, if_true, Bool.false_eq_true, if_false, List.length_nil]
        omega
    · rw [plr_end l t c]; simp [cls, rkp]; omega

/-- The runes alone. -/
def rn (l : List UInt8) : List Int := (plr l 0).map Prod.snd
theorem rn_at : ∀ (n : Nat) (l : List UInt8) (t : Nat), l.length - t ≤ n → (plr l t).map Prod.snd = rn (l.drop t)
  | 0, l, t, h => by
    rw [plr_end l t (by omega)]
    unfold rn
    rw [plr_end (l.drop t) 0 (by rw [List.length_drop]; omega)]
  | n + 1, l, t, h => by
    by_cases c : t < l.length
    · have h1 := Lib.width_pos ⟨l.toArray⟩ t
      have ih := rn_at n l (t + (Utf8.decode ⟨l.toArray⟩ t).2) (by omega)
      have c0 : 0 < (l.drop t).length := by rw [List.length_drop]; omega
      have e : Utf8.decode ⟨(l.drop t).toArray⟩ 0 = Utf8.decode ⟨l.toArray⟩ t := by rw [dec_at l t c, dec_at _ 0 c0]; rfl
      have ih2 := rn_at n (l.drop t) ((Utf8.decode ⟨l.toArray⟩ t).2) (by rw [List.length_drop]; omega)
      show _ = List.map Prod.snd (plr (l.drop t) 0)
      rw [plr_step l t c, plr_step (l.drop t) 0 c0, e, List.map_cons, List.map_cons, ih, Nat.zero_add, ih2, List.drop_drop]
    · rw [plr_end l t c]
      unfold rn
      rw [plr_end (l.drop t) 0 (by rw [List.length_drop]; omega)]
theorem getD_app (x y : List UInt8) (i : Nat) (h : i < x.length) : (x ++ y).getD i 0 = x.getD i 0 := by
  simp [List.getD, List.getElem?_append_left h]
theorem decodeN_full (N M b0 b1 b2 b3 c1 c2 c3 : Nat) (h : (Lib.decodeN N b0 b1 b2 b3).2 = N) (hf : ¬ ((Lib.decodeN N b0 b1 b2 b3).1 = 65533 ∧ N = 1)) (hM : N ≤ M)
    (e1 : 1 < N → c1 = b1) (e2 : 2 < N → c2 = b2) (e3 : 3 < N → c3 = b3) : Lib.decodeN M b0 c1 c2 c3 = Lib.decodeN N b0 b1 b2 b3 := by
  unfold Lib.decodeN at *
  by_cases k0 : b0 < 128
  · simp only [k0, if_true]
  · simp only [k0, if_false] at h hf ⊢
    by_cases k1 : b0 / 32 = 6 ∧ 1 < N ∧ b1 / 64 = 2
    · rw [if_pos k1] at h hf ⊢
      obtain rfl := e1 k1.2.1
      rw [if_pos ⟨k1.1, by omega, k1.2.2⟩]
    · rw [if_neg k1] at h hf ⊢
      by_cases k2 : b0 / 16 = 14 ∧ (1 < N ∧ b1 / 64 = 2) ∧ 2 < N ∧ b2 / 64 = 2
      · rw [if_pos k2] at h hf ⊢
        obtain rfl := e1 k2.2.1.1
        obtain rfl := e2 k2.2.2.1
        rw [if_neg (by omega), if_pos ⟨k2.1, ⟨by omega, k2.2.1.2⟩, by omega, k2.2.2.2⟩]
      · rw [if_neg k2] at h hf ⊢
        by_cases k3 : b0 / 8 = 30 ∧ (1 < N ∧ b1 / 64 = 2) ∧ (2 < N ∧ b2 / 64 = 2) ∧ 3 < N ∧ b3 / 64 = 2
        · rw [if_pos k3] at h hf ⊢
          obtain rfl := e1 k3.2.1.1
          obtain rfl := e2 k3.2.2.1.1
          obtain rfl := e3 k3.2.2.2.1
          rw [if_neg (by omega), if_neg (by omega), if_pos ⟨k3.1, ⟨by omega, k3.2.1.2⟩, ⟨by omega, k3.2.2.1.2⟩, by omega, k3.2.2.2.2⟩]
        · rw [if_neg k3] at h hf
          exact absurd ⟨rfl, h.symm⟩ hf
/-- A rune that is whole stays what it is, whatever stands behind it. -/
theorem dec_app (x y : List UInt8) (hx : x ≠ []) (hw : (dec x).2 = x.length) (hf : ¬ ((dec x).1 = 65533 ∧ x.length = 1)) : dec (x ++ y) = dec x := by
  have hp : 0 < x.length := List.length_pos_iff.2 hx
  have hne : x ++ y ≠ [] := by simp [hx]
  have hd := dec_eqL x hx
  rw [Lib.decodeL_N] at hd
  rw [hd] at hw hf
  rw [hd, dec_eqL _ hne, Lib.decodeL_N, getD_app x y 0 hp]
  exact decodeN_full _ _ _ _ _ _ _ _ _ hw hf (by simp) (fun h => by rw [getD_app x y 1 h]) (fun h => by rw [getD_app x y 2 h]) (fun h => by rw [getD_app x y 3 h])
theorem rn_nil : rn [] = [] := rfl
theorem rn_app (x y : List UInt8) (hx : x ≠ []) (hw : (dec x).2 = x.length) (hf : ¬ ((dec x).1 = 65533 ∧ x.length = 1)) : rn (x ++ y) = ((dec x).1 : Int) :: rn y := by
  have hp : 0 < x.length := List.length_pos_iff.2 hx
  have c : 0 < (x ++ y).length := by rw [List.length_append]; omega
  have e : Utf8.decode ⟨(x ++ y).toArray⟩ 0 = dec x := by rw [dec_at _ 0 c]; exact dec_app x y hx hw hf
  show List.map Prod.snd (plr (x ++ y) 0) = _
  rw [plr_step _ 0 c, e, List.map_cons, Nat.zero_add, rn_at (x ++ y).length (x ++ y) _ (by omega), hw, List.drop_left]
/-- A text of which no byte is invalid. -/
def okT (T : List Trp) : Prop := ∀ x ∈ T, x.1 ≠ 65533 ∨ x.2.2 - x.2.1 = 3
theorem rn_keep (p : Int → Bool) (l : List UInt8) : ∀ (n t : Nat), l.length - t ≤ n → t ≤ l.length → okT (cls l.length (plr l t)) →
    rn (rkp p l (cls l.length (plr l t))) = ((plr l t).map Prod.snd).filter p
  | 0, t, h, ht, _ => by rw [plr_end l t (by omega)]; rfl
  | n + 1, t, h, ht, hok => by
    by_cases c : t < l.length
    · have h1 := Lib.width_pos ⟨l.toArray⟩ t
      have h2 := wd_le l t c
      have hne : l.drop t ≠ [] := fun e => by have := congrArg List.length e; rw [List.length_drop] at this; simp only [List.length_nil] at this; omega
      have hd := dec_at l t c
      have h4 := dec_take (l.drop t) hne (dec (l.drop t)).2 (Nat.le_refl _)
      rw [plr_step l t c] at hok ⊢
      rw [hd] at h1 h2 hok ⊢
      obtain ⟨w, hw⟩ : ∃ w, w = (dec (l.drop t)).2 := ⟨_, rfl⟩
      obtain ⟨r, hr⟩ : ∃ r, r = (dec (l.drop t)).1 := ⟨_, rfl⟩
      rw [← hw] at h1 h2 h4 hok ⊢
      rw [← hr] at hok ⊢
      rw [cls, nxt_plr l (t + w) h2] at hok ⊢
      have ih := rn_keep p l n (t + w) (by omega) h2 (fun x hx => hok x (by simp [hx]))
      have hv := hok ((r : Int), t, t + w) (by simp)
      dsimp only at hv
      have e : rkp p l (((r : Int), t, t + w) :: cls l.length (plr l (t + w))) = (if p r then (l.drop t).take w else []) ++ rkp p l (cls l.length (plr l (t + w))) := by simp [rkp]
      have hk : ((l.drop t).take w).length = w := by rw [List.length_take, List.length_drop]; omega
      rw [e, List.map_cons, List.filter_cons]
      cases hp : p (r : Int) with
      | true =>
        simp only [if_true]
        rw [rn_app _ _ (fun e => by rw [e] at hk; simp at hk; omega) (by rw [hk, h4, hw]) (by rw [hk, h4, ← hr]; omega), h4, ← hr, ih]
      | false =>
        simp only [Bool.false_eq_true, if_false, List.nil_append]
        exact ih
    · rw [plr_end l t c]; rfl
theorem means_sgl (r : Int) (xs : List (Nat × Int)) : means r (sgl xs) ↔ 0 ≤ r ∧ r ≤ top ∧ r ∈ xs.map Prod.snd := by
  unfold means
  rw [isin_iff]
  refine and_congr_right fun _ => and_congr_right fun _ => ?_
  constructor
  · rintro ⟨g, hg, h1, h2⟩
    simp only [sgl, List.mem_map] at hg
    obtain ⟨x, hx, rfl⟩ := hg
    exact List.mem_map.2 ⟨x, hx, by dsimp only at h1 h2; omega⟩
  · intro h
    obtain ⟨x, hx, rfl⟩ := List.mem_map.1 h
    exact ⟨(x.2, x.2), List.mem_map.2 ⟨x, hx, rfl⟩, Int.le_refl _, Int.le_refl _⟩
/-- The set of what is kept. -/
theorem of_keep (g : List Rg) (l : List UInt8) (hok : okT (txt l)) : nrm (sgl (plr (rkp (fun r => hasB r (nrm g)) l (txt l)) 0)) = andN (nrm (sgl (plr l 0))) g := by
  refine nf_same (nrm_nf _) (andN_nf _ _) fun r => ?_
  have hk := rn_keep (fun r => hasB r (nrm g)) l l.length 0 (by omega) (by omega) hok
  rw [means_nrm, means_and, means_nrm, means_sgl, means_sgl]
  have e : List.map Prod.snd (plr (rkp (fun r => hasB r (nrm g)) l (txt l)) 0) = ((plr l 0).map Prod.snd).filter (fun r => hasB r (nrm g)) := hk
  rw [e, List.mem_filter, ← hasR_nrmB, hasR_iff]
  constructor
  · rintro ⟨a, b, c, d⟩; exact ⟨⟨a, b, c⟩, d⟩
  · rintro ⟨⟨a, b, c⟩, d⟩; exact ⟨a, b, c, d⟩

/-- Where a run ends, and what the other side's runs are from there on. -/
theorem run_end (p q : Int → Bool) (l : List UInt8) (f : Nat) : ∀ (n u : Nat), l.length - u ≤ n → u ≤ l.length → (∀ x ∈ plr l u, q x.2 = !p x.2) →
    ∃ e, u ≤ e ∧ e ≤ l.length ∧ rnF p l.length (some f) (plr l u) = (f, e) :: rnF p l.length none (plr l e) ∧ rnF q l.length none (plr l u) = rnF q l.length none (plr l e) ∧ (e < l.length → p ((Utf8.decode ⟨l.toArray⟩ e).1 : Int) = false)
  | 0, u, h, hu, _ => by
    have e : u = l.length := by omega
    subst e
    exact ⟨l.length, Nat.le_refl _, Nat.le_refl _, by rw [plr_end l _ (by omega)]; rfl, rfl, fun h => by omega⟩
  | n + 1, u, h, hu, hq => by
    by_cases c : u < l.length
    · have h1 := Lib.width_pos ⟨l.toArray⟩ u
      have h2 := wd_le l u c
      cases hp : p ((Utf8.decode ⟨l.toArray⟩ u).1 : Int) with
      | true =>
        rw [plr_step l u c] at hq ⊢
        have hr := hq (u, ((Utf8.decode ⟨l.toArray⟩ u).1 : Int)) (by simp)
        dsimp only at hr
        rw [hp] at hr
        obtain ⟨e, a1, a2, a3, a4, a5⟩ := run_end p q l f n (u + (Utf8.decode ⟨l.toArray⟩ u).2) (by omega) h2 (fun x hx => hq x (by simp [hx]))
        refine ⟨e, by omega, a2, ?_, ?_, a5⟩
        · rw [rnF, if_pos hp, a3]
        · rw [rnF, if_neg (by rw [hr]; decide), a4]
      | false =>
        refine ⟨u, Nat.le_refl _, hu, ?_, rfl, fun _ => hp⟩
        rw [plr_step l u c, rnF, if_neg (by rw [hp]; decide), rnF, if_neg (by rw [hp]; decide)]
    · have e : u = l.length := by omega
      subst e
      exact ⟨l.length, Nat.le_refl _, Nat.le_refl _, by rw [plr_end l _ (by omega)]; rfl, rfl, fun h => by omega⟩
theorem runs_ge (p : Int → Bool) (l : List UInt8) : ∀ (n u : Nat) (o : Option Nat) (b : Nat), l.length - u ≤ n → b ≤ u → (∀ f, o = some f → b ≤ f) → ∀ y ∈ rnF p l.length o (plr l u), b ≤ y.1
  | 0, u, o, b, h, hb, ho, y, hy => by
    rw [plr_end l u (by omega)] at hy
    cases o with
    | none => simp [rnF] at hy
    | some f => simp [rnF] at hy; subst hy; exact ho f rfl
  | n + 1, u, o, b, h, hb, ho, y, hy => by
    by_cases c : u < l.length
    · have h1 := Lib.width_pos ⟨l.toArray⟩ u
      rw [plr_step l u c] at hy
      cases o with
      | none =>
        rw [rnF] at hy
        split at hy
        · exact runs_ge p l n _ _ b (by omega) (by omega) (fun f hf => by injection hf with hf; subst hf; exact hb) y hy
        · exact runs_ge p l n _ _ b (by omega) (by omega) (fun f hf => by cases hf) y hy
      | some f =>
        rw [rnF] at hy
        split at hy
        · exact runs_ge p l n _ _ b (by omega) (by omega) ho y hy
        · rcases List.mem_cons.1 hy with hy | hy
          · subst hy; exact ho f rfl
          · exact runs_ge p l n _ _ b (by omega) (by omega) (fun f hf => by cases hf) y hy
    · rw [plr_end l u c] at hy
      cases o with
      | none => simp [rnF] at hy
      | some f => simp [rnF] at hy; subst hy; exact ho f rfl
/-- The runs from a place on. -/
def rnA (p : Int → Bool) (l : List UInt8) (u : Nat) : List (Nat × Nat) := rnF p l.length none (plr l u)
theorem rnA_off (p : Int → Bool) (l : List UInt8) (u : Nat) (h : u < l.length → p ((Utf8.decode ⟨l.toArray⟩ u).1 : Int) = false) : ∀ y ∈ rnA p l u, u < y.1 := by
  intro y hy
  unfold rnA at hy
  by_cases c : u < l.length
  · have h1 := Lib.width_pos ⟨l.toArray⟩ u
    rw [plr_step l u c, rnF, if_neg (by rw [h c]; decide)] at hy
    have := runs_ge p l l.length _ none (u + 1) (by omega) (by omega : u + 1 ≤ u + (Utf8.decode ⟨l.toArray⟩ u).2) (fun f hf => by cases hf) y hy
    omega
  · rw [plr_end l u c] at hy
    simp [rnF] at hy
/-- One step of parting. -/
theorem part_step (p q : Int → Bool) (l : List UInt8) (u : Nat) (hu : u < l.length) (hq : ∀ x : Int, 0 ≤ x → x ≤ top → q x = !p x) :
    (∃ e, u < e ∧ e ≤ l.length ∧ rnA p l u = (u, e) :: rnA p l e ∧ rnA q l u = rnA q l e ∧ ∀ y ∈ rnA p l e, e < y.1) ∨
    (∃ e, u < e ∧ e ≤ l.length ∧ rnA q l u = (u, e) :: rnA q l e ∧ rnA p l u = rnA p l e ∧ (∀ y ∈ rnA q l e, e < y.1) ∧ ∀ y ∈ rnA p l u, u < y.1) := by
  have h1 := Lib.width_pos ⟨l.toArray⟩ u
  have h2 := wd_le l u hu
  have hin : ∀ v, ∀ x ∈ plr l v, q x.2 = !p x.2 := fun v x hx => by
    have := plr_in l l.length v (by omega) x hx
    exact hq x.2 this.1 this.2
  have hin' : ∀ v, ∀ x ∈ plr l v, p x.2 = !q x.2 := fun v x hx => by rw [hin v x hx, Bool.not_not]
  have hr := hin u (u, ((Utf8.decode ⟨l.toArray⟩ u).1 : Int)) (by rw [plr_step l u hu]; simp)
  dsimp only at hr
  cases hp : p ((Utf8.decode ⟨l.toArray⟩ u).1 : Int) with
  | true =>
    rw [hp] at hr
    obtain ⟨e, a1, a2, a3, a4, a5⟩ := run_end p q l u l.length (u + (Utf8.decode ⟨l.toArray⟩ u).2) (by omega) h2 (hin _)
    refine .inl ⟨e, by omega, a2, ?_, ?_, rnA_off p l e a5⟩
    · show rnF p l.length none (plr l u) = _
      rw [plr_step l u hu, rnF, if_pos hp]; exact a3
    · show rnF q l.length none (plr l u) = _
      rw [plr_step l u hu, rnF, if_neg (by rw [hr]; decide)]; exact a4
  | false =>
    rw [hp] at hr
    obtain ⟨e, a1, a2, a3, a4, a5⟩ := run_end q p l u l.length (u + (Utf8.decode ⟨l.toArray⟩ u).2) (by omega) h2 (hin' _)
    refine .inr ⟨e, by omega, a2, ?_, ?_, rnA_off q l e a5, rnA_off p l u (fun _ => hp)⟩
    · show rnF q l.length none (plr l u) = _
      rw [plr_step l u hu, rnF, if_pos (show q ((Utf8.decode ⟨l.toArray⟩ u).1 : Int) = true from hr)]; exact a3
    · show rnF p l.length none (plr l u) = _
      rw [plr_step l u hu, rnF, if_neg (by rw [hp]; decide)]; exact a4
theorem rnA_end (p : Int → Bool) (l : List UInt8) (u : Nat) (h : ¬ u < l.length) : rnA p l u = [] := by
  unfold rnA; rw [plr_end l u h]; rfl
/-- A set and its other side. -/
theorem both_sides (g : List Rg) (x : Int) (h0 : 0 ≤ x) (h1 : x ≤ top) : hasB x (nrm (nt g)) = !hasB x (nrm g) := by
  rw [← hasR_nrmB, ← hasR_nrmB, has_nt]
  unfold top at h1
  simp [h0, h1]
theorem keep_lens (g : List Rg) (l : List UInt8) : (rkp (fun r => hasB r (nrm g)) l (txt l)).length + (rkp (fun r => hasB r (nrm (nt g))) l (txt l)).length = l.length := by
  have h := rkp_lens (fun r => hasB r (nrm g)) (fun r => hasB r (nrm (nt g))) l l.length 0 (by omega) (by omega) (fun x hx => by
    have := plr_in l l.length 0 (by omega) x hx
    exact both_sides g x.2 this.1 this.2)
  rw [Nat.sub_zero] at h
  exact h
end Go.Proofs.YtfahbdlcokoghabDoor
