/- The places of a text: where its runes, units, letters and line ends begin; counting from a first one on. Mathematics alone. -/
import Derived.Test.YtffbdnlfknomnaaDoorGrBnd
namespace Go.Proofs.YtffbdnlfknomnaaDoor.Wt

/-- Runes with their places. -/
def rpN : Nat → List (Nat × Nat) → List (Nat × Nat)
  | _, [] => []
  | p, x :: L => (p, x.1) :: rpN (p + x.2) L
def rp (l : List UInt8) (t : Nat) : List (Nat × Nat) := rpN t (rl (l.drop t))
theorem rp_step (l : List UInt8) (t : Nat) (h : t < l.length) : rp l t = (t, (dec (l.drop t)).1) :: rp l (t + (dec (l.drop t)).2) := by
  unfold rp
  rw [rl_cons _ (drop_ne l t h), rpN, List.drop_drop]
theorem rp_end (l : List UInt8) (t : Nat) (h : ¬ t < l.length) : rp l t = [] := by
  unfold rp
  rw [List.drop_of_length_le (by omega)]; rfl
theorem rpN_app : ∀ (A B : List (Nat × Nat)) (p : Nat), rpN p (A ++ B) = rpN p A ++ rpN (p + psm A) B
  | [], B, p => by simp [rpN, psm]
  | x :: A, B, p => by rw [List.cons_append, rpN, rpN_app A B, rpN, psm_cons, List.cons_append, Nat.add_assoc]
theorem rpN_len : ∀ (A : List (Nat × Nat)) (p : Nat), (rpN p A).length = A.length
  | [], _ => rfl
  | x :: A, p => by rw [rpN, List.length_cons, List.length_cons, rpN_len A]
theorem rpN_shift (b : Nat) : ∀ (A : List (Nat × Nat)) (p : Nat), rpN (b + p) A = (rpN p A).map fun y => (b + y.1, y.2)
  | [], _ => rfl
  | x :: A, p => by rw [rpN, rpN, List.map_cons, Nat.add_assoc, rpN_shift b A]
theorem rp_shift (l : List UInt8) (b : Nat) : rp l b = (rp (l.drop b) 0).map fun y => (b + y.1, y.2) := by
  have := rpN_shift b (rl (l.drop b)) 0
  rw [Nat.add_zero] at this
  exact this
/-- What stands behind a part of the runes. -/
theorem rp_at (l : List UInt8) (U V : List (Nat × Nat)) (y : Nat × Nat) (h : rp l 0 = U ++ y :: V) : ∃ (k : Nat) (hk : k < (rl l).length), k = U.length ∧ y.1 = pos l k ∧ y.2 = ((rl l)[k]).1 ∧ y :: V = rp l (pos l k) := by
  have hl := congrArg List.length h
  have e0 : rp l 0 = rpN 0 (rl l) := rfl
  rw [e0, rpN_len, List.length_append, List.length_cons] at hl
  have hk : U.length < (rl l).length := by omega
  refine ⟨U.length, hk, rfl, ?_⟩
  have h1 := rpN_app ((rl l).take U.length) ((rl l).drop U.length) 0
  rw [List.take_append_drop, Nat.zero_add] at h1
  rw [e0, h1] at h
  have hlen : (rpN 0 ((rl l).take U.length)).length = U.length := by rw [rpN_len, List.length_take]; omega
  obtain ⟨_, h3⟩ := List.append_inj h hlen
  have h4 : rp l (pos l U.length) = y :: V := by
    unfold rp
    rw [rl_drop l U.length (Nat.le_of_lt hk)]
    exact h3
  have h5 : y = (pos l U.length, ((rl l)[U.length]).1) := by
    rw [List.drop_eq_getElem_cons hk, rpN] at h3
    exact (List.cons.inj h3).1.symm
  exact ⟨by rw [h5], by rw [h5], h4.symm⟩
theorem rpN_bd : ∀ (A : List (Nat × Nat)) (p : Nat), (∀ x ∈ A, 1 ≤ x.2) → ∀ y ∈ rpN p A, p ≤ y.1 ∧ y.1 < p + psm A
  | [], _, _, _, h => by cases h
  | x :: A, p, hA, y, h => by
    rw [psm_cons]
    have h1 := hA x (List.mem_cons_self ..)
    rw [rpN] at h
    rcases List.mem_cons.1 h with rfl | h
    · exact ⟨Nat.le_refl _, by show p < _; omega⟩
    · have := rpN_bd A _ (fun z hz => hA z (List.mem_cons_of_mem _ hz)) y h
      omega
theorem rp_bd (l : List UInt8) : ∀ y ∈ rp l 0, y.1 < l.length := fun y hy => by
  have := (rpN_bd (rl l) 0 (rl_pos _ l (Nat.le_refl _)) y hy).2
  rw [rl_sum _ l (Nat.le_refl _)] at this
  omega
/-- A rune above hex ffff has several bytes. -/
theorem dn_wide (n b0 b1 b2 b3 : Nat) : 65535 < (Lib.decodeN n b0 b1 b2 b3).1 → 2 ≤ (Lib.decodeN n b0 b1 b2 b3).2 := by
  unfold Lib.decodeN
  repeat' split
  all_goals (intro h; simp only [] at h ⊢; omega)
theorem dec_wide (l : List UInt8) (h : 65535 < (dec l).1) : 2 ≤ (dec l).2 := by
  by_cases hl : l = []
  · rw [hl] at h; simp [dec] at h
  rw [dec_numbers l hl] at h ⊢
  exact dn_wide _ _ _ _ _ h
theorem dn_low (n b0 b1 b2 b3 : Nat) : (Lib.decodeN n b0 b1 b2 b3).1 < 128 → b0 = (Lib.decodeN n b0 b1 b2 b3).1 ∧ (Lib.decodeN n b0 b1 b2 b3).2 = 1 := by
  unfold Lib.decodeN
  repeat' split
  all_goals (intro h; first | exact ⟨rfl, rfl⟩ | (simp only [] at h ⊢; omega))
/-- A rune below hex 80 is its byte. -/
theorem dec_low (l : List UInt8) (hl : l ≠ []) (h : (dec l).1 < 128) : byt l 0 = ((dec l).1 : Nat) ∧ (dec l).2 = 1 := by
  rw [dec_numbers l hl] at h ⊢
  obtain ⟨h1, h2⟩ := dn_low _ _ _ _ _ h
  exact ⟨by unfold byt; rw [← h1], h2⟩
theorem rl_wide : ∀ (n : Nat) (l : List UInt8), l.length ≤ n → ∀ x ∈ rl l, 65535 < x.1 → 2 ≤ x.2
  | n, l, hn, x, hx, h => by
    by_cases hl : l = []
    · rw [hl, rl_nil] at hx; cases hx
    · have h1 := dec_ge l hl
      have hp : 0 < l.length := List.length_pos_iff.2 hl
      rw [rl_cons l hl] at hx
      rcases List.mem_cons.1 hx with rfl | hx
      · exact dec_wide l h
      · cases n with
        | zero => omega
        | succ n => exact rl_wide n _ (by rw [List.length_drop]; omega) x hx h
/-- The units of a rune. -/
def un (y : Nat × Nat) : List Nat := if 65535 < y.2 then [y.1, y.1 + 1] else [y.1]
/-- Whether a rune ends a line. -/
def isN (r : Nat) : Bool := r == 10 || r == 11 || r == 12 || r == 13 || r == 133 || r == 8232 || r == 8233
/-- The LF of a CR LF. -/
def sec (l : List UInt8) (p : Nat) : Bool := byt l p == 10 && decide (0 < p) && byt l (p - 1) == 13
def runesL (l : List UInt8) : List Nat := (rp l 0).map (·.1)
def unitsL (l : List UInt8) : List Nat := (rp l 0).flatMap un
def lettersL (l : List UInt8) : List Nat := (gpF l 0).map (·.1)
def endP (l : List UInt8) (y : Nat × Nat) : Bool := isN y.2 && !sec l y.1
def endsL (l : List UInt8) : List Nat := ((rp l 0).filter (endP l)).map (·.1)
/-- What a count's places are. -/
structure Scl (E : List UInt8 → List Nat) : Prop where
  lt : ∀ l, ∀ p ∈ E l, p < l.length
  rise : ∀ l, (E l).Pairwise (· < ·)
  edge : ∀ l p t, E l = p :: t → isE l p = true
  cut : ∀ l p t, E l = p :: t → (E (l.drop p)).map (p + ·) = E l
theorem rpN_rise : ∀ (A : List (Nat × Nat)) (p : Nat), (∀ x ∈ A, 1 ≤ x.2) → (rpN p A).Pairwise fun y z => y.1 < z.1
  | [], _, _ => .nil
  | x :: A, p, hA => by
    rw [rpN]
    have h1 := hA x (List.mem_cons_self ..)
    have hA' := fun z hz => hA z (List.mem_cons_of_mem _ hz)
    refine .cons (fun z hz => ?_) (rpN_rise A _ hA')
    have := (rpN_bd A _ hA' z hz).1
    show p < z.1
    omega
theorem rp_rise (l : List UInt8) : (rp l 0).Pairwise fun y z => y.1 < z.1 := rpN_rise _ 0 (rl_pos _ l (Nat.le_refl _))
theorem isE_0 (l : List UInt8) : isE l (0 : Nat) = true := isE_pos l 0 (Nat.zero_le _)
theorem cut_0 (E : List UInt8 → List Nat) (l : List UInt8) : (E (l.drop 0)).map (0 + ·) = E l := by simp
theorem runes_scl : Scl runesL where
  lt l p hp := by
    obtain ⟨y, hy, rfl⟩ := List.mem_map.1 hp
    exact rp_bd l y hy
  rise l := List.pairwise_map.2 (rp_rise l)
  edge l p t h := by
    obtain ⟨y, V, hV, rfl, _⟩ := List.map_eq_cons_iff.1 h
    obtain ⟨k, hk, hk0, e, _⟩ := rp_at l [] V y hV
    rw [e]; exact isE_pos l k (Nat.le_of_lt hk)
  cut l p t h := by
    obtain ⟨y, V, hV, rfl, _⟩ := List.map_eq_cons_iff.1 h
    obtain ⟨k, hk, hk0, e, _⟩ := rp_at l [] V y hV
    have : y.1 = 0 := by rw [e, hk0]; rfl
    rw [this]; exact cut_0 runesL l
theorem un_head (y : Nat × Nat) : ∃ r, un y = y.1 :: r := by
  unfold un
  split
  · exact ⟨_, rfl⟩
  · exact ⟨_, rfl⟩
theorem un_mem (y : Nat × Nat) (p : Nat) (h : p ∈ un y) : p = y.1 ∨ (p = y.1 + 1 ∧ 65535 < y.2) := by
  unfold un at h
  split at h
  · rename_i hw
    simp only [List.mem_cons, List.not_mem_nil, or_false] at h
    rcases h with h | h
    · exact .inl h
    · exact .inr ⟨h, hw⟩
  · simp only [List.mem_cons, List.not_mem_nil, or_false] at h
    exact .inl h
theorem units_bd : ∀ (A : List (Nat × Nat)) (p : Nat), (∀ x ∈ A, 1 ≤ x.2 ∧ (65535 < x.1 → 2 ≤ x.2)) → (∀ z ∈ (rpN p A).flatMap un, p ≤ z ∧ z < p + psm A) ∧ ((rpN p A).flatMap un).Pairwise (· < ·)
  | [], _, _ => ⟨fun _ h => by simp [rpN] at h, .nil⟩
  | x :: A, p, hA => by
    obtain ⟨h1, h2⟩ := hA x (List.mem_cons_self ..)
    obtain ⟨i1, i2⟩ := units_bd A (p + x.2) (fun z hz => hA z (List.mem_cons_of_mem _ hz))
    have hu : ∀ z ∈ un (p, x.1), p ≤ z ∧ z < p + x.2 := fun z hz => by
      rcases un_mem _ z hz with h | ⟨h, hw⟩
      · have : z = p := h
        omega
      · have : z = p + 1 := h
        have := h2 hw
        omega
    rw [rpN, List.flatMap_cons, psm_cons]
    refine ⟨fun z hz => ?_, List.pairwise_append.2 ⟨?_, i2, fun a ha b hb => ?_⟩⟩
    · rcases List.mem_append.1 hz with hz | hz
      · have := hu z hz; omega
      · have := i1 z hz; omega
    · unfold un
      split
      · simp
      · simp
    · have := hu a ha
      have := i1 b hb
      omega
theorem rl_uni (l : List UInt8) : ∀ x ∈ rl l, 1 ≤ x.2 ∧ (65535 < x.1 → 2 ≤ x.2) := fun x hx => ⟨rl_pos _ l (Nat.le_refl _) x hx, rl_wide _ l (Nat.le_refl _) x hx⟩
theorem units_scl : Scl unitsL where
  lt l p hp := by
    have := ((units_bd (rl l) 0 (rl_uni l)).1 p hp).2
    rw [rl_sum _ l (Nat.le_refl _)] at this
    omega
  rise l := (units_bd (rl l) 0 (rl_uni l)).2
  edge l p t h := by
    have h0 : p = 0 := by
      unfold unitsL at h
      cases hr : rp l 0 with
      | nil => rw [hr] at h; cases h
      | cons y V =>
        obtain ⟨k, hk, hk0, e, _⟩ := rp_at l [] V y hr
        obtain ⟨r, hu⟩ := un_head y
        rw [hr, List.flatMap_cons, hu] at h
        rw [← (List.cons.inj h).1, e, hk0]; rfl
    rw [h0]; exact isE_0 l
  cut l p t h := by
    have h0 : p = 0 := by
      unfold unitsL at h
      cases hr : rp l 0 with
      | nil => rw [hr] at h; cases h
      | cons y V =>
        obtain ⟨k, hk, hk0, e, _⟩ := rp_at l [] V y hr
        obtain ⟨r, hu⟩ := un_head y
        rw [hr, List.flatMap_cons, hu] at h
        rw [← (List.cons.inj h).1, e, hk0]; rfl
    rw [h0]; exact cut_0 unitsL l
theorem plc_rise : ∀ (M : List (List (Nat × Nat))) (q : Nat), (∀ x ∈ M, 1 ≤ psm x) → (plc q M).Pairwise fun y z => y.1 < z.1
  | [], _, _ => .nil
  | x :: M, q, hM => by
    rw [plc]
    have h1 := hM x (List.mem_cons_self ..)
    refine .cons (fun z hz => ?_) (plc_rise M _ fun z hz => hM z (List.mem_cons_of_mem _ hz))
    have := (plc_bd M _ z hz).1
    show q < z.1
    omega
theorem gp_rise (l : List UInt8) : (gpF l 0).Pairwise fun y z => y.1 < z.1 := by
  rw [gpF_0]
  refine plc_rise _ 0 fun x hx => ?_
  have hne := pcl_ne gc _ (rl l) (Nat.le_refl _) x hx
  obtain ⟨z, R, rfl⟩ := List.exists_cons_of_ne_nil hne
  have hm : z ∈ rl l := by
    rw [← pcl_all gc _ (rl l) (Nat.le_refl _)]
    exact List.mem_flatten.2 ⟨_, hx, List.mem_cons_self ..⟩
  have := rl_pos _ l (Nat.le_refl _) z hm
  rw [psm_cons]; omega
theorem gp_le (l : List UInt8) : ∀ y ∈ gpF l 0, y.2 ≤ l.length := by
  obtain ⟨L, hL, _⟩ := gp_all l _ 0 (Nat.le_refl _)
  intro y hy
  rw [← hL] at hy
  obtain ⟨x, _, rfl⟩ := List.mem_map.1 hy
  exact x.le
theorem gp_first (l : List UInt8) (y : Nat × Nat) (V : List (Nat × Nat)) (h : gpF l 0 = y :: V) : y.1 = 0 := by
  rw [gpF_0] at h
  cases hp : pcl gc (rl l) with
  | nil => rw [hp] at h; cases h
  | cons x M => rw [hp, plc] at h; rw [← (List.cons.inj h).1]
theorem letters_scl : Scl lettersL where
  lt l p hp := by
    obtain ⟨y, hy, rfl⟩ := List.mem_map.1 hp
    have := gp_lt l y hy
    have := gp_le l y hy
    omega
  rise l := List.pairwise_map.2 (gp_rise l)
  edge l p t h := by
    obtain ⟨y, V, hV, rfl, _⟩ := List.map_eq_cons_iff.1 h
    rw [gp_first l y V hV]; exact isE_0 l
  cut l p t h := by
    obtain ⟨y, V, hV, rfl, _⟩ := List.map_eq_cons_iff.1 h
    rw [gp_first l y V hV]; exact cut_0 lettersL l
theorem sec_drop (l : List UInt8) (b q : Nat) (h : 0 < q) : sec (l.drop b) q = sec l (b + q) := by
  unfold sec
  rw [byt_drop, byt_drop, show b + (q - 1) = b + q - 1 by omega]
  congr 2
  simp only [decide_eq_decide]; omega
theorem sec_0 (l : List UInt8) : sec l 0 = false := by simp [sec]
theorem ends_cut (l : List UInt8) (p : Nat) (t : List Nat) (h : endsL l = p :: t) : (∃ k, k < (rl l).length ∧ p = pos l k) ∧ (endsL (l.drop p)).map (p + ·) = endsL l := by
  have h0 := h
  unfold endsL at h
  obtain ⟨y, V, hV, rfl, ht⟩ := List.map_eq_cons_iff.1 h
  obtain ⟨U, R, hR, hU, hy, hfR⟩ := List.filter_eq_cons_iff.1 hV
  obtain ⟨k, hk, hk0, e, er, hd⟩ := rp_at l U R y hR
  refine ⟨⟨k, hk, e⟩, ?_⟩
  rw [h0]
  have hys : sec l y.1 = false := by
    unfold endP at hy
    simp only [Bool.and_eq_true, Bool.not_eq_true'] at hy
    exact hy.2
  have h1 : rp l y.1 = y :: R := by rw [e]; exact hd.symm
  have h2 : (rp l y.1).filter (endP l) = y :: V := by rw [h1, List.filter_cons_of_pos hy, hfR]
  rw [rp_shift, List.filter_map] at h2
  have h3 : (rp (l.drop y.1) 0).filter (endP l ∘ fun z => (y.1 + z.1, z.2)) = (rp (l.drop y.1) 0).filter (endP (l.drop y.1)) := by
    refine List.filter_congr fun z _ => ?_
    show endP l (y.1 + z.1, z.2) = _
    unfold endP
    rcases Nat.eq_zero_or_pos z.1 with hz | hz
    · rw [hz, sec_0]
      show (isN z.2 && !sec l (y.1 + 0)) = _
      rw [Nat.add_zero, hys]
    · rw [sec_drop l y.1 z.1 hz]
  rw [h3] at h2
  have h4 := congrArg (List.map (·.1)) h2
  rw [List.map_map, List.map_cons, ht] at h4
  rw [← h4]
  unfold endsL
  rw [List.map_map]; rfl
theorem ends_scl : Scl endsL where
  lt l p hp := by
    obtain ⟨y, hy, rfl⟩ := List.mem_map.1 hp
    exact rp_bd l y (List.mem_filter.1 hy).1
  rise l := List.pairwise_map.2 ((rp_rise l).filter _)
  edge l p t h := by
    obtain ⟨⟨k, hk, rfl⟩, _⟩ := ends_cut l p t h
    exact isE_pos l k (Nat.le_of_lt hk)
  cut l p t h := (ends_cut l p t h).2
end Go.Proofs.YtffbdnlfknomnaaDoor.Wt
