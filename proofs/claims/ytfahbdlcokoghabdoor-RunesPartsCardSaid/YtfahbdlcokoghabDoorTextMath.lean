/- What is kept and what is trimmed, by runs and rune by rune: the mathematics. -/
import Derived.Test.YtfahbdlcokoghabDoorRKeep
namespace Go.Proofs.YtfahbdlcokoghabDoor
open Go.RowKit

/-- Runs that lie in a text up to a place. -/
def okR (e : Nat) (ys : List (Nat × Nat)) : Prop := ∀ x ∈ ys, x.1 ≤ x.2 ∧ x.2 ≤ e
theorem pre_bd {l : List UInt8} {xs ys : List (Nat × Int)} {x : Nat × Int} (h : plr l 0 = xs ++ x :: ys) : x.1 < nxt l.length ys ∧ nxt l.length ys ≤ l.length ∧ x.1 < l.length := by
  have hu := plr_up l l.length 0 (by omega)
  rw [h] at hu
  obtain ⟨_, _, u3, u4⟩ := upF_app hu
  have hn := nxt_bd u4 (by omega)
  exact ⟨by omega, hn.2, u3⟩
theorem rnE_ok (p : Int → Bool) (l : List UInt8) : ∀ (n : Nat) (xs ys : List (Nat × Int)), xs.length = n → plr l 0 = xs ++ ys → okR (nxt l.length ys) (rnE p (nxt l.length ys) xs)
  | 0, xs, ys, hn, _ => by
    have : xs = [] := List.length_eq_zero_iff.1 hn
    subst this
    intro x hx
    simp [rnE, clo, endO, tlo] at hx
  | n + 1, xs, ys, hn, h => by
    rcases List.eq_nil_or_concat xs with rfl | ⟨Q, z, rfl⟩
    · simp at hn
    · rw [List.concat_eq_append] at *
      have h' : plr l 0 = Q ++ z :: ys := by rw [h, List.append_assoc]; rfl
      have ih := rnE_ok p l n Q (z :: ys) (by simp at hn; exact hn) h'
      obtain ⟨b1, b2, b3⟩ := pre_bd h'
      have ih' : okR z.1 (rnE p z.1 Q) := ih
      by_cases hp : p z.2 = true
      · cases ho : endO p none Q with
        | none =>
          rw [rnE_new p _ Q z hp ho]
          intro x hx
          rcases List.mem_append.1 hx with hx | hx
          · have := ih' x hx; omega
          · simp at hx; subst hx; exact ⟨by dsimp only; omega, Nat.le_refl _⟩
        | some f =>
          obtain ⟨m1, m2⟩ := rnE_more p (nxt l.length ys) Q z f hp ho
          rw [m1]
          rw [m2] at ih'
          have hf := ih' (f, z.1) (by simp)
          dsimp only at hf
          intro x hx
          rcases List.mem_append.1 hx with hx | hx
          · have := ih' x (List.mem_append.2 (.inl hx)); omega
          · simp at hx; subst hx; exact ⟨by dsimp only; omega, Nat.le_refl _⟩
      · rw [rnE_no p _ Q z (by simpa using hp)]
        intro x hx
        have := ih' x hx
        omega

def kpN (l : List UInt8) (ys : List (Nat × Nat)) : List UInt8 := ys.flatMap fun x => (l.drop x.1).take (x.2 - x.1)
theorem kpN_app (l : List UInt8) (a b : List (Nat × Nat)) : kpN l (a ++ b) = kpN l a ++ kpN l b := by simp [kpN]
theorem take_two (l : List UInt8) (a b c : Nat) (h1 : a ≤ b) (h2 : b ≤ c) : (l.drop a).take (c - a) = (l.drop a).take (b - a) ++ (l.drop b).take (c - b) := by
  have e : c - a = (b - a) + (c - b) := by omega
  rw [e, List.take_add, List.drop_drop, show a + (b - a) = b by omega]
theorem kpN_rkp (p : Int → Bool) (l : List UInt8) : ∀ (n : Nat) (xs ys : List (Nat × Int)), xs.length = n → plr l 0 = xs ++ ys → kpN l (rnE p (nxt l.length ys) xs) = rkp p l (cls (nxt l.length ys) xs)
  | 0, xs, ys, hn, _ => by
    have : xs = [] := List.length_eq_zero_iff.1 hn
    subst this
    rfl
  | n + 1, xs, ys, hn, h => by
    rcases List.eq_nil_or_concat xs with rfl | ⟨Q, z, rfl⟩
    · simp at hn
    · rw [List.concat_eq_append] at *
      have h' : plr l 0 = Q ++ z :: ys := by rw [h, List.append_assoc]; rfl
      have ih : kpN l (rnE p z.1 Q) = rkp p l (cls z.1 Q) := kpN_rkp p l n Q (z :: ys) (by simp at hn; exact hn) h'
      have ok : okR z.1 (rnE p z.1 Q) := rnE_ok p l n Q (z :: ys) (by simp at hn; exact hn) h'
      obtain ⟨b1, b2, b3⟩ := pre_bd h'
      rw [cls_snoc, rkp_snoc, ← ih]
      by_cases hp : p z.2 = true
      · rw [if_pos hp]
        cases ho : endO p none Q with
        | none =>
          rw [rnE_new p _ Q z hp ho, kpN_app]
          simp [kpN]
        | some f =>
          obtain ⟨m1, m2⟩ := rnE_more p (nxt l.length ys) Q z f hp ho
          rw [m1, m2, kpN_app, kpN_app]
          rw [m2] at ok
          have hf := ok (f, z.1) (by simp)
          dsimp only at hf
          have e := take_two l f z.1 (nxt l.length ys) hf.1 (by omega)
          simp only [kpN, List.flatMap_cons, List.flatMap_nil, List.append_nil, List.append_assoc]
          rw [e]
      · rw [if_neg hp, List.append_nil, rnE_no p _ Q z (by simpa using hp)]
theorem kps_tws (l : List UInt8) : ∀ (ys : List (Nat × Nat)), okR l.length ys → kps l (tws l ys) = kpN l ys
  | [], _ => rfl
  | y :: t, h => by
    have h1 := h y (by simp)
    have ih := kps_tws l t (fun x hx => h x (by simp [hx]))
    rw [tws_cons l y t h1]
    show (l.drop y.1).take (y.2 - y.1) ++ kps l (tws l t) = _
    rw [ih]
    rfl
theorem rnl_ok (p : Int → Bool) (l : List UInt8) : okR l.length (rnl p l) := by
  rw [rnE_all]
  exact rnE_ok p l _ (plr l 0) [] rfl (by rw [List.append_nil])
/-- What is kept, by runs and rune by rune. -/
theorem keep_same (p : Int → Bool) (l : List UInt8) : kps l (rst p l none 0) = rkp p l (txt l) := by
  show kps l (tws l (rnl p l)) = _
  rw [kps_tws l _ (rnl_ok p l), rnE_all]
  exact kpN_rkp p l _ (plr l 0) [] rfl (by rw [List.append_nil])

/-- The places of the triples lie in the text. -/
theorem trm_snoc (p : Int → Bool) (N : Nat) (x : Trp) (hx : x.2.1 < N) : ∀ (T : List Trp), (∀ y ∈ T, y.2.1 < N) → trm p N (T ++ [x]) = if p x.1 then trm p N T else (if (trm p N T).1 = N then x.2.1 else (trm p N T).1, x.2.2)
  | [], _ => by
    show (if p x.1 then trm p N [] else (x.2.1, if (trm p N []).1 = N then x.2.2 else (trm p N []).2)) = _
    split
    · rfl
    · simp [trm]
  | y :: T, h => by
    have ih := trm_snoc p N x hx T (fun z hz => h z (by simp [hz]))
    have hy := h y (by simp)
    rw [List.cons_append, trm, ih, trm]
    by_cases hp : p y.1 = true
    · rw [if_pos hp, if_pos hp]
    · rw [if_neg hp, if_neg hp]
      by_cases hpx : p x.1 = true
      · rw [if_pos hpx, if_pos hpx]
      · rw [if_neg hpx, if_neg hpx]
        dsimp only
        rw [if_neg (show ¬ y.2.1 = N by omega)]
        congr 1
        rw [if_neg]
        split
        · omega
        · assumption
def tbN (N : Nat) (ys : List (Nat × Nat)) : Nat := ys.foldl (fun b x => min b x.1) N
def teN (N : Nat) (ys : List (Nat × Nat)) : Nat := ys.foldl (fun _ x => x.2) N
theorem tbN_snoc (N : Nat) (ys : List (Nat × Nat)) (x : Nat × Nat) : tbN N (ys ++ [x]) = min (tbN N ys) x.1 := by simp [tbN]
theorem teN_snoc (N : Nat) (ys : List (Nat × Nat)) (x : Nat × Nat) : teN N (ys ++ [x]) = x.2 := by simp [teN]
theorem tbN_le (N e : Nat) (ys : List (Nat × Nat)) (h : okR e ys) : tbN N ys = N ∨ tbN N ys ≤ e := by
  rcases List.eq_nil_or_concat ys with rfl | ⟨Q, z, rfl⟩
  · exact .inl rfl
  · rw [List.concat_eq_append] at *
    have := h z (by simp)
    rw [tbN_snoc]
    right
    omega
theorem cls_in {l : List UInt8} : ∀ (xs ys : List (Nat × Int)) (e : Nat), plr l 0 = xs ++ ys → ∀ y ∈ cls e xs, y.2.1 < l.length := by
  intro xs ys e h y hy
  have hu := plr_up l l.length 0 (by omega)
  rw [h] at hu
  have gen : ∀ (xs : List (Nat × Int)) (b : Nat), upF b l.length (xs ++ ys) → ∀ y ∈ cls e xs, y.2.1 < l.length := by
    intro xs
    induction xs with
    | nil => intro b _ y hy; simp [cls] at hy
    | cons x t ih =>
      intro b hb y hy
      rw [cls] at hy
      rcases List.mem_cons.1 hy with rfl | hy
      · exact hb.2.1
      · exact ih _ hb.2.2 y hy
  exact gen xs 0 hu y hy
theorem trim_pre (p q : Int → Bool) (l : List UInt8) (hq : ∀ x ∈ plr l 0, q x.2 = !p x.2) : ∀ (n : Nat) (xs ys : List (Nat × Int)), xs.length = n → plr l 0 = xs ++ ys →
    trm p l.length (cls (nxt l.length ys) xs) = (tbN l.length (rnE q (nxt l.length ys) xs), teN l.length (rnE q (nxt l.length ys) xs))
  | 0, xs, ys, hn, _ => by
    have : xs = [] := List.length_eq_zero_iff.1 hn
    subst this
    rfl
  | n + 1, xs, ys, hn, h => by
    rcases List.eq_nil_or_concat xs with rfl | ⟨Q, z, rfl⟩
    · simp at hn
    · rw [List.concat_eq_append] at *
      have h' : plr l 0 = Q ++ z :: ys := by rw [h, List.append_assoc]; rfl
      have ih : trm p l.length (cls z.1 Q) = (tbN l.length (rnE q z.1 Q), teN l.length (rnE q z.1 Q)) := trim_pre p q l hq n Q (z :: ys) (by simp at hn; exact hn) h'
      have ok : okR z.1 (rnE q z.1 Q) := rnE_ok q l n Q (z :: ys) (by simp at hn; exact hn) h'
      obtain ⟨b1, b2, b3⟩ := pre_bd h'
      have hz : q z.2 = !p z.2 := hq z (by rw [h']; simp)
      rw [cls_snoc, trm_snoc p l.length (z.2, z.1, nxt l.length ys) b3 _ (cls_in Q (z :: ys) z.1 h'), ih]
      dsimp only
      by_cases hp : p z.2 = true
      · rw [if_pos hp, rnE_no q _ Q z (by rw [hz, hp]; rfl)]
      · have hqz : q z.2 = true := by rw [hz]; simpa using hp
        rw [if_neg hp]
        cases ho : endO q none Q with
        | none =>
          rw [rnE_new q _ Q z hqz ho, tbN_snoc, teN_snoc]
          congr 1
          rcases tbN_le l.length z.1 _ ok with hh | hh
          · rw [if_pos hh, hh]; dsimp only; omega
          · rw [if_neg (by omega)]; dsimp only; omega
        | some f =>
          obtain ⟨m1, m2⟩ := rnE_more q (nxt l.length ys) Q z f hqz ho
          rw [m2] at ok
          have hf := ok (f, z.1) (by simp)
          dsimp only at hf
          have e1 : tbN l.length (rnE q z.1 Q) = min (tbN l.length (clo q none Q)) f := by rw [m2, tbN_snoc]
          have e2 : tbN l.length (rnE q (nxt l.length ys) (Q ++ [z])) = min (tbN l.length (clo q none Q)) f := by rw [m1, tbN_snoc]
          have e3 : teN l.length (rnE q (nxt l.length ys) (Q ++ [z])) = nxt l.length ys := by rw [m1, teN_snoc]
          rw [e1, e2, e3, if_neg (by omega)]
theorem tb_tws (l : List UInt8) (ys : List (Nat × Nat)) (h : okR l.length ys) : tbg (tws l ys) = tbN l.length ys ∧ ten (tws l ys) = teN l.length ys := by
  have gen : ∀ (ys : List (Nat × Nat)) (a b : Nat), okR l.length ys → (tws l ys).foldl (fun b x => min b x.val.1) a = ys.foldl (fun b x => min b x.1) a ∧ (tws l ys).foldl (fun _ x => x.val.2) b = ys.foldl (fun _ x => x.2) b := by
    intro ys
    induction ys with
    | nil => intro a b _; exact ⟨rfl, rfl⟩
    | cons y t ih =>
      intro a b h
      rw [tws_cons l y t (h y (by simp))]
      exact ih _ _ (fun x hx => h x (by simp [hx]))
  exact gen ys _ _ h
theorem plr_in (l : List UInt8) : ∀ (n t : Nat), l.length - t ≤ n → ∀ x ∈ plr l t, 0 ≤ x.2 ∧ x.2 ≤ top
  | 0, t, h, x, hx => by rw [plr_end l t (by omega)] at hx; cases hx
  | n + 1, t, h, x, hx => by
    by_cases ht : t < l.length
    · have hw := Lib.width_pos ⟨l.toArray⟩ t
      have hr := Lib.rune_le ⟨l.toArray⟩ t
      rw [plr_step l t ht] at hx
      rcases List.mem_cons.1 hx with rfl | hx
      · unfold top; dsimp only; omega
      · exact plr_in l n _ (by omega) x hx
    · rw [plr_end l t ht] at hx; cases hx
/-- What is trimmed, by runs and from behind. -/
theorem trim_same (g : List Rg) (l : List UInt8) : trm (fun r => hasB r (nrm g)) l.length (txt l) = (tbg (ntr g l), ten (ntr g l)) := by
  have hq : ∀ x ∈ plr l 0, hasB x.2 (nrm (nt g)) = !hasB x.2 (nrm g) := by
    intro x hx
    have hb : 0 ≤ x.2 ∧ x.2 ≤ top := plr_in l l.length 0 (by omega) x hx
    rw [← hasR_nrmB, ← hasR_nrmB]
    refine Bool.eq_iff_iff.2 ?_
    rw [hasR_iff]
    unfold means
    rw [nt_in]
    have := hasR_iff x.2 g
    cases hh : hasR x.2 g with
    | true => rw [hh] at this; simp [this.1 rfl]
    | false => rw [hh] at this; simp; exact ⟨hb.1, hb.2, hb.1, hb.2, fun c => by have := this.2 c; cases this⟩
  have h := trim_pre (fun r => hasB r (nrm g)) (fun r => hasB r (nrm (nt g))) l hq _ (plr l 0) [] rfl (by rw [List.append_nil])
  obtain ⟨t1, t2⟩ := tb_tws l (rnl (fun r => hasB r (nrm (nt g))) l) (rnl_ok _ l)
  have t1' : tbg (ntr g l) = _ := t1
  have t2' : ten (ntr g l) = _ := t2
  rw [t1', t2', rnE_all]
  exact h
end Go.Proofs.YtfahbdlcokoghabDoor

