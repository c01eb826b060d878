/- A text that is cut at an edge: its marks, its faults, its edges. -/
import Derived.Test.YtflehkdijfhmgaaDoorLastMath
import Derived.Test.YtflehkdijfhmgaaDoorEdgeLists
namespace Go.Proofs.YtflehkdijfhmgaaDoor

/-- A mark, so many bytes further on. -/
def Mk.on (e : Nat) (m : Mk) : Mk := { m with pl := m.pl + e }

theorem mks_shift (e : Nat) : ∀ (n k : Nat) (l : List UInt8), l.length ≤ n → mks (e + k) l = (mks k l).map (Mk.on e)
  | 0, k, l, h => by
    have : l = [] := List.length_eq_zero_iff.1 (by omega)
    subst this; rfl
  | n + 1, k, l, h => by
    by_cases hl : l = []
    · subst hl; rfl
    · have h1 := dec_ge l hl
      have hp : 0 < l.length := List.length_pos_iff.2 hl
      rw [mks_cons _ l hl, mks_cons k l hl, Nat.add_assoc, mks_shift e n (k + (dec l).2) (l.drop (dec l).2) (by simp; omega), List.map_cons]
      congr 1
      unfold mk1 Mk.on
      simp
      omega

theorem mks_cut (l : List UInt8) (e : Nat) (he : e ≤ l.length) : ∀ (n t : Nat), l.length - t ≤ n → t ≤ e → (e = l.length ∨ ∃ m ∈ mks t (l.drop t), m.pl = (e : Int)) →
    mks t (l.drop t) = mks t ((l.take e).drop t) ++ mks e (l.drop e)
  | 0, t, h, ht, hm => by
    obtain rfl : t = e := by omega
    rw [show (l.take t).drop t = [] from List.drop_of_length_le (by simp; omega), mks_nil]; rfl
  | n + 1, t, h, ht, hm => by
    by_cases hte : t = e
    · subst hte
      rw [show (l.take t).drop t = [] from List.drop_of_length_le (by simp; omega), mks_nil]; rfl
    · have htl : t < l.length := by omega
      have h1 := wid_ge l t htl
      have h2 := wid_le l t htl
      have hm' : e = l.length ∨ ∃ m ∈ mks (t + wid l t) (l.drop (t + wid l t)), m.pl = (e : Int) := by
        rcases hm with hm | ⟨m, hm, hme⟩
        · exact .inl hm
        · rw [mks_at l t htl] at hm
          rcases List.mem_cons.1 hm with rfl | hm
          · exfalso
            have : (t : Int) = e := hme
            omega
          · exact .inr ⟨m, hm, hme⟩
      have hge : t + wid l t ≤ e := by
        rcases hm' with hm' | ⟨m, hm', hme⟩
        · omega
        · have := (mks_ge l (l.length - (t + wid l t)) (t + wid l t) (Nat.le_refl _) m hm').1
          omega
      have hn' : l.length - (t + wid l t) ≤ n := by clear hm hm'; omega
      have g4 := mks_cut l e he n (t + wid l t) hn' hge hm'
      clear hm hm'
      have hd : (l.take e).drop t = (l.drop t).take (e - t) := List.drop_take ..
      have hl : (l.take e).length = e := by simp; omega
      have hdec : dec ((l.take e).drop t) = dec (l.drop t) := by rw [hd]; exact dec_take _ (drop_ne l t htl) _ (by unfold wid at hge; omega)
      have hw : wid (l.take e) t = wid l t := by unfold wid; rw [hdec]
      rw [mks_at l t htl, g4, mks_at (l.take e) t (by omega), hw]
      have hmk : mk1 t ((l.take e).drop t) = mk1 t (l.drop t) := by unfold mk1; rw [hdec]
      rw [hmk]; rfl

theorem cut_edge (l : List UInt8) (e : Nat) (h : isE l e = true) : e ≤ l.length ∧ (e : Int) ∈ edg l := by
  rw [is_eq] at h
  unfold isL at h
  obtain ⟨x, hx, he⟩ := List.any_eq_true.1 h
  have : x = (e : Int) := by simpa using he
  subst this
  have := edg_bd l _ hx
  exact ⟨by omega, hx⟩

theorem cut_mks (l : List UInt8) (e : Nat) (h : isE l e = true) : mks 0 l = mks 0 (l.take e) ++ (mks 0 (l.drop e)).map (Mk.on e) := by
  obtain ⟨he, hx⟩ := cut_edge l e h
  have hm : e = l.length ∨ ∃ m ∈ mks 0 (l.drop 0), m.pl = (e : Int) := by
    unfold edg at hx
    rcases List.mem_append.1 hx with hx | hx
    · obtain ⟨m, hm, hp⟩ := List.mem_map.1 hx
      exact .inr ⟨m, by simpa using hm, hp⟩
    · simp at hx; exact .inl (by omega)
  have := mks_cut l e he l.length 0 (by omega) (Nat.zero_le _) hm
  rw [List.drop_zero, List.drop_zero] at this
  rw [this, ← mks_shift e (l.drop e).length 0 (l.drop e) (Nat.le_refl _)]; rfl

/-- The runes of a text; the places of its faults. -/
def rns (l : List UInt8) : List Int := (mks 0 l).map (·.ru)
def flt (l : List UInt8) : List Int := ((mks 0 l).filter (·.bad)).map (·.pl)

theorem cut_rns (l : List UInt8) (e : Nat) (h : isE l e = true) : rns l = rns (l.take e) ++ rns (l.drop e) := by
  unfold rns
  rw [cut_mks l e h, List.map_append, List.map_map]; rfl
theorem cut_flt (l : List UInt8) (e : Nat) (h : isE l e = true) : flt l = flt (l.take e) ++ (flt (l.drop e)).map (· + (e : Int)) := by
  unfold flt
  rw [cut_mks l e h, List.filter_append, List.map_append, List.filter_map, List.map_map, List.map_map]; rfl

theorem cut_is (l : List UInt8) (e : Nat) (h : isE l e = true) (i : Nat) : isE l i = (decide (i ≤ e) && isE (l.take e) i || decide (e ≤ i) && isE (l.drop e) ((i : Int) - e)) := by
  obtain ⟨he, hx⟩ := cut_edge l e h
  have hc := cut_mks l e h
  have hl : (l.take e).length = e := by simp; omega
  rw [is_eq, is_eq, is_eq]
  have key : ∀ (E : List Int) (p : Int), isL E p = true ↔ p ∈ E := fun E p => by
    unfold isL
    rw [List.any_eq_true]
    exact ⟨fun ⟨x, hx, hp⟩ => by have : x = p := by simpa using hp
                                 exact this ▸ hx, fun hp => ⟨p, hp, by simp⟩⟩
  apply Bool.eq_iff_iff.2
  rw [Bool.or_eq_true, Bool.and_eq_true, Bool.and_eq_true, decide_eq_true_eq, decide_eq_true_eq, key, key, key]
  constructor
  · intro hi
    unfold edg at hi
    rw [hc, List.map_append, List.map_map] at hi
    rcases List.mem_append.1 hi with hi | hi
    · rcases List.mem_append.1 hi with hi | hi
      · left
        obtain ⟨m, hm, hp⟩ := List.mem_map.1 hi
        have := pl_ge (l.take e) m hm
        exact ⟨by omega, by unfold edg; exact List.mem_append_left _ hi⟩
      · right
        obtain ⟨m, hm, hp⟩ := List.mem_map.1 hi
        have := pl_ge (l.drop e) m hm
        have hp' : m.pl + e = (i : Int) := hp
        refine ⟨by omega, ?_⟩
        unfold edg
        exact List.mem_append_left _ (List.mem_map.2 ⟨m, hm, by omega⟩)
    · right
      simp at hi
      refine ⟨by omega, ?_⟩
      unfold edg
      refine List.mem_append_right _ ?_
      simp; omega
  · rintro (⟨h1, h2⟩ | ⟨h1, h2⟩)
    · unfold edg at h2
      rcases List.mem_append.1 h2 with h2 | h2
      · unfold edg
        rw [hc, List.map_append]
        exact List.mem_append_left _ (List.mem_append_left _ h2)
      · rw [hl] at h2
        simp at h2
        have hie : i = e := by omega
        subst hie
        exact hx
    · unfold edg at h2
      rcases List.mem_append.1 h2 with h2 | h2
      · unfold edg
        rw [hc, List.map_append, List.map_map]
        obtain ⟨m, hm, hp⟩ := List.mem_map.1 h2
        refine List.mem_append_left _ (List.mem_append_right _ (List.mem_map.2 ⟨m, hm, ?_⟩))
        show m.pl + e = (i : Int)
        omega
      · simp at h2
        have : i = l.length := by omega
        subst this
        exact edg_len l

/-- A rune that reads as the stand-in is a fault just where its three bytes do not stand. -/
theorem dec_instead (l : List UInt8) (h : l ≠ []) (hr : (dec l).1 = 65533) : l.take 3 = [239, 191, 189] ↔ ¬ (dec l).2 = 1 := by
  rw [dec_numbers l h] at *
  have g0 := (l.getD 0 0).toNat_lt
  have g1 := (l.getD 1 0).toNat_lt
  have g2 := (l.getD 2 0).toNat_lt
  have key : l.take 3 = [239, 191, 189] ↔ 3 ≤ l.length ∧ (l.getD 0 0).toNat = 239 ∧ (l.getD 1 0).toNat = 191 ∧ (l.getD 2 0).toNat = 189 := by
    match l, h with
    | [a], _ => simp
    | [a, b], _ => simp
    | a :: b :: c :: r, _ =>
      simp [← UInt8.toNat_inj]
  rw [key]
  clear key
  generalize (l.getD 0 0).toNat = b0 at *
  generalize (l.getD 1 0).toNat = b1 at *
  generalize (l.getD 2 0).toNat = b2 at *
  generalize (l.getD 3 0).toNat = b3 at *
  unfold Lib.decodeN at hr ⊢
  split at hr
  · rename_i c; simp only [c, if_true]; simp at hr; omega
  · rename_i c
    simp only [c, if_false]
    split at hr
    · rename_i c1; simp only [c1]
      split at hr
      · rename_i c2; simp at hr; omega
      · rename_i c2; simp only [c2, if_false]; simp; omega
    · rename_i c1; simp only [c1, if_false]
      split at hr
      · rename_i c2; simp only [c2]
        split at hr
        · rename_i c3; simp only [c3]; simp at hr ⊢; omega
        · rename_i c3; simp only [c3, if_false]; simp; omega
      · rename_i c2; simp only [c2, if_false]
        split at hr
        · rename_i c3; simp only [c3]
          split at hr
          · rename_i c4; simp at hr; omega
          · rename_i c4; simp only [c4, if_false]; simp; omega
        · rename_i c3; simp only [c3, if_false]; simp; omega
end Go.Proofs.YtflehkdijfhmgaaDoor
