/- Lines of a text: what ends a line begins a letter; where lines begin and end. Mathematics alone. -/
import Derived.Test.YtffbdnlfknomnaaDoorPcRch0
import Derived.Test.YtffbdnlfknomnaaDoorGrAro
namespace Go.Proofs.YtffbdnlfknomnaaDoor.Wt

/-- What a class of a CR or of an LF tells. -/
def C12 (r c : Int) : Prop := (c = 1 → r = 13) ∧ (c = 2 → r = 10)
theorem c12_ite {p : Prop} [Decidable p] {r a b : Int} (ha : C12 r a) (hb : C12 r b) : C12 r (if p then a else b) := by
  split
  · exact ha
  · exact hb
theorem gp_12 (r : Int) : C12 r (gpcls r) := by
  have h1 : C12 r (gplatin r) := by
    unfold gplatin C12
    constructor <;> (intro h; repeat' split at h; all_goals omega)
  have h2 : C12 r (gpmarks r) := by
    unfold gpmarks
    repeat (refine c12_ite ⟨fun h => (by cases h), fun h => (by cases h)⟩ ?_)
    exact ⟨fun h => (by cases h), fun h => (by cases h)⟩
  have h3 : C12 r (gpjamo r) := by
    unfold gpjamo
    repeat (refine c12_ite ⟨fun h => (by cases h), fun h => (by cases h)⟩ ?_)
    exact ⟨fun h => (by cases h), fun h => (by cases h)⟩
  have h4 : C12 r (gppunct r) := by
    unfold gppunct
    repeat (refine c12_ite ⟨fun h => (by cases h), fun h => (by cases h)⟩ ?_)
    exact ⟨fun h => (by cases h), fun h => (by cases h)⟩
  have h5 : C12 r (gpsigns r) := by
    unfold gpsigns
    repeat (refine c12_ite ⟨fun h => (by cases h), fun h => (by cases h)⟩ ?_)
    exact ⟨fun h => (by cases h), fun h => (by cases h)⟩
  have h6 : C12 r (gphigh r) := by
    unfold gphigh
    repeat (refine c12_ite ⟨fun h => (by cases h), fun h => (by cases h)⟩ ?_)
    exact ⟨fun h => (by cases h), fun h => (by cases h)⟩
  unfold gpcls
  split
  · exact h1
  split
  · exact h2
  split
  · exact h3
  split
  · exact h4
  split
  · exact h5
  split
  · exact ⟨fun h => (by cases h), fun h => (by cases h)⟩
  · exact h6
theorem isN_cases (r : Nat) (h : isN r = true) : r = 10 ∨ r = 11 ∨ r = 12 ∨ r = 13 ∨ r = 133 ∨ r = 8232 ∨ r = 8233 := by
  unfold isN at h
  simp only [Bool.or_eq_true, beq_iff_eq] at h
  omega
theorem isN_alone (r : Nat) (h : isN r = true) : galone (gpcls (r : Int)) = true := by
  rcases isN_cases r h with rfl | rfl | rfl | rfl | rfl | rfl | rfl <;> decide
theorem gbt_alone (a c : Int) (h : galone c = true) (hn : ¬ (a = 1 ∧ c = 2)) : gbt a c = 0 := by
  unfold gbt
  rw [if_neg hn, if_pos (.inr h)]
/-- A rune by its number, and its bytes. -/
theorem rune_low (l : List UInt8) (k : Nat) (hk : k < (rl l).length) (c : Nat) (hc : c < 128) (h : ((rl l)[k]).1 = c) : byt l (pos l k) = (c : Nat) ∧ pos l (k + 1) = pos l k + 1 := by
  have hd := dec_pos l k hk
  have hne := drop_ne l _ (pos_end l k hk)
  obtain ⟨h1, h2⟩ := dec_low (l.drop (pos l k)) hne (by rw [hd, h]; exact hc)
  rw [byt_drop, Nat.add_zero, hd, h] at h1
  refine ⟨h1, ?_⟩
  rw [← pos_step l k hk, h2]
/-- What ends a line begins a letter. -/
theorem ends_letter (l : List UInt8) (e : Nat) (h : e ∈ endsL l) : ∃ k, ∃ hk : k < (rl l).length, e = pos l k ∧ isN ((rl l)[k]).1 = true ∧ sec l e = false ∧ gpF l 0 = plc 0 (pcl gc ((rl l).take k)) ++ plc e (pcl gc ((rl l).drop k)) := by
  obtain ⟨y, hy, rfl⟩ := List.mem_map.1 h
  obtain ⟨hm, hp⟩ := List.mem_filter.1 hy
  obtain ⟨U, V, hUV⟩ := List.append_of_mem hm
  obtain ⟨k, hk, _, e1, e2, _⟩ := rp_at l U V y hUV
  unfold endP at hp
  simp only [Bool.and_eq_true, Bool.not_eq_true'] at hp
  refine ⟨k, hk, e1, by rw [← e2]; exact hp.1, hp.2, ?_⟩
  have hsp : pcl gc (rl l) = pcl gc ((rl l).take k) ++ pcl gc ((rl l).drop k) := by
    rcases Nat.eq_zero_or_pos k with hz | hz
    · rw [hz]; rfl
    · obtain ⟨j, rfl⟩ : ∃ j, k = j + 1 := ⟨k - 1, by omega⟩
      have hjl : j < (rl l).length := by omega
      have hs := pcl_sure gc gc_cl _ ((rl l).take (j + 1)) ((rl l)[j + 1]) ((rl l).drop (j + 1 + 1)) (Nat.le_refl _) (fun e => by
        have := congrArg List.length e
        rw [List.length_take] at this
        simp only [List.length_nil] at this
        omega) (by
        have hal : galone (gc (rl l)[j + 1]) = true := isN_alone ((rl l)[j + 1]).1 (by rw [← e2]; exact hp.1)
        refine gbt_alone _ _ hal fun hh => ?_
        have hl : (((rl l).take (j + 1)).map gc).getLastD 0 = gc (rl l)[j] := by
          rw [List.take_succ_eq_append_getElem hjl, List.map_append, List.map_cons, List.map_nil, List.getLastD_concat]
        rw [hl] at hh
        have h13 : ((rl l)[j]).1 = 13 := by have := (gp_12 _).1 hh.1; omega
        have h10 : ((rl l)[j + 1]).1 = 10 := by have := (gp_12 _).2 hh.2; omega
        obtain ⟨b1, b2⟩ := rune_low l j hjl 13 (by decide) h13
        obtain ⟨b3, _⟩ := rune_low l (j + 1) hk 10 (by decide) h10
        have hsec : sec l y.1 = true := by
          unfold sec
          rw [e1, b3, b2, Nat.add_sub_cancel, b1]
          simp
        rw [hsec] at hp
        exact absurd hp.2 (by decide))
      rw [← List.drop_eq_getElem_cons hk, List.take_append_drop] at hs
      exact hs
  rw [gpF_0, hsp, plc_app, pcl_all gc _ _ (Nat.le_refl _), Nat.zero_add, e1]
  rfl
theorem ends_in (l : List UInt8) (e : Nat) (h : e ∈ endsL l) : e ∈ lettersL l := by
  obtain ⟨k, hk, rfl, _, _, hg⟩ := ends_letter l e h
  have hne : (rl l).drop k ≠ [] := fun e => by
    have := congrArg List.length e
    rw [List.length_drop, List.length_nil] at this
    omega
  unfold lettersL
  rw [hg, pcl_cons gc _ hne, plc]
  simp
/-- The place behind the letter around a place. -/
def nxl (l : List UInt8) (p : Nat) : Nat := (((gpF l 0).find? fun y => decide (p < y.2)).map (·.2)).getD l.length
theorem gp_next (l : List UInt8) (U V : List (Nat × Nat)) (x : Nat × Nat) (h : gpF l 0 = U ++ x :: V) : (∀ y ∈ U, y.2 ≤ x.1) ∧ ∀ y ∈ V, x.2 ≤ y.1 := by
  refine ⟨fun y hy => ?_, plc_next _ _ U V x h⟩
  obtain ⟨U1, U2, rfl⟩ := List.append_of_mem hy
  rw [List.append_assoc, List.cons_append] at h
  exact plc_next _ _ U1 (U2 ++ x :: V) y h x (by simp)
theorem nxl_of (l : List UInt8) (p f t : Nat) (h : (f, t) ∈ gpF l 0) (hf : f ≤ p) (ht : p < t) : nxl l p = t := by
  obtain ⟨U, V, hUV⟩ := List.append_of_mem h
  obtain ⟨h1, _⟩ := gp_next l U V _ hUV
  unfold nxl
  rw [hUV, List.find?_append, List.find?_eq_none.2 (fun y hy => by have := h1 y hy; simp only [decide_eq_true_eq]; simp only [] at this; omega), List.find?_cons_of_pos (by simpa using ht)]
  rfl
theorem nxl_end (l : List UInt8) (p : Nat) (h : l.length ≤ p) : nxl l p = l.length := by
  unfold nxl
  rw [List.find?_eq_none.2 (fun y hy => by have := gp_le l y hy; simp only [decide_eq_true_eq]; omega)]
  rfl
/-- Around a place there is a letter. -/
theorem letter_at (l : List UInt8) (p : Nat) (h : p < l.length) : ∃ f, (f, nxl l p) ∈ gpF l 0 ∧ f ≤ p ∧ p < nxl l p := by
  obtain ⟨y, hy, he⟩ := gp_last l (fun e => by rw [e] at h; simp at h)
  have hs : (gpF l 0).find? (fun y => decide (p < y.2)) ≠ none := fun e => by
    have := List.find?_eq_none.1 e y hy
    simp only [decide_eq_true_eq] at this
    omega
  obtain ⟨z, hz⟩ := Option.ne_none_iff_exists'.1 hs
  have hm := List.mem_of_find?_eq_some hz
  have hp := List.find?_some hz
  simp only [decide_eq_true_eq] at hp
  have hn : nxl l p = z.2 := by unfold nxl; rw [hz]; rfl
  rw [hn]
  refine ⟨z.1, hm, ?_, hp⟩
  obtain ⟨U, V, hUV, hno⟩ : ∃ U V, gpF l 0 = U ++ z :: V ∧ ∀ y ∈ U, ¬ p < y.2 := by
    obtain ⟨_, U, V, h1, h2⟩ := List.find?_eq_some_iff_append.1 hz
    exact ⟨U, V, h1, fun y hy => by simpa using h2 y hy⟩
  rcases plc_begin _ _ U V z hUV with e | ⟨y, hy, e⟩
  · omega
  · have := hno y hy
    omega
theorem nxl_le (l : List UInt8) (p : Nat) : nxl l p ≤ l.length := by
  by_cases h : p < l.length
  · obtain ⟨f, h1, _⟩ := letter_at l p h
    exact gp_le l _ h1
  · rw [nxl_end l p (by omega)]; exact Nat.le_refl _
/-- It is a letter's beginning, or the text's end. -/
theorem nxl_is (l : List UInt8) (p : Nat) (h : nxl l p < l.length) : nxl l p ∈ lettersL l := by
  have hp : p < l.length := by
    rcases Nat.lt_or_ge p l.length with h1 | h1
    · exact h1
    · rw [nxl_end l p h1] at h; omega
  obtain ⟨f, h1, _⟩ := letter_at l p hp
  obtain ⟨U, V, hUV⟩ := List.append_of_mem h1
  cases V with
  | nil =>
    exfalso
    obtain ⟨y, hy, he⟩ := gp_last l (fun e => by rw [e] at hp; simp at hp)
    obtain ⟨h2, _⟩ := gp_next l U [] _ hUV
    have hlt := gp_lt l _ h1
    rw [hUV] at hy
    rcases List.mem_append.1 hy with hy | hy
    · have := h2 y hy
      simp only [] at this hlt
      omega
    · have : y = (f, nxl l p) := by simpa using hy
      rw [this] at he
      simp only [] at he
      omega
  | cons z V =>
    have hUV2 : gpF l 0 = (U ++ [(f, nxl l p)]) ++ z :: V := by rw [hUV]; simp
    have hz : z.1 = nxl l p := by
      rcases plc_begin _ _ _ V z hUV2 with e | ⟨y, hy, e⟩
      · have h3 := (gp_next l U (z :: V) _ hUV).2 z (List.mem_cons_self ..)
        have := gp_lt l _ h1
        simp only [] at h3 this
        omega
      · rcases List.mem_append.1 hy with hy | hy
        · have h3 := (gp_next l U (z :: V) _ hUV).1 y hy
          have h4 := (gp_next l U (z :: V) _ hUV).2 z (List.mem_cons_self ..)
          have := gp_lt l _ h1
          simp only [] at h3 h4 this
          omega
        · have : y = (f, nxl l p) := by simpa using hy
          rw [e, this]
    unfold lettersL
    rw [hUV2, ← hz]
    simp
/-- A letter that begins behind a place begins not ahead of what stands behind that place's letter. -/
theorem nxl_min (l : List UInt8) (p q : Nat) (hp : p < l.length) (hq : q ∈ lettersL l) (h : p < q) : nxl l p ≤ q := by
  obtain ⟨f, h1, h2, h3⟩ := letter_at l p hp
  obtain ⟨U, V, hUV⟩ := List.append_of_mem h1
  obtain ⟨n1, n2⟩ := gp_next l U V _ hUV
  obtain ⟨y, hy, rfl⟩ := List.mem_map.1 hq
  rw [hUV] at hy
  rcases List.mem_append.1 hy with hy | hy
  · have := n1 y hy
    have h5 := gp_lt l y (by rw [hUV]; exact List.mem_append_left _ hy)
    simp only [] at this
    omega
  · rcases List.mem_cons.1 hy with rfl | hy
    · simp only [] at h
      omega
    · exact n2 y hy
/-- Where a line begins; where it ends without what ends it. -/
def lnT (l : List UInt8) (i : Nat) : Nat := (endsL l)[i]?.getD l.length
def lnF (l : List UInt8) (i : Nat) : Nat := if i = 0 then 0 else nxl l (lnT l (i - 1))
theorem plc_T (l : List UInt8) (i : Nat) : plcB (endsL l) (i : Nat) l.length = lnT l i := by
  unfold plcB lnT
  rw [if_neg (by omega), Int.toNat_natCast]
theorem lnT_le (l : List UInt8) (i : Nat) : lnT l i ≤ l.length := by
  unfold lnT
  cases h : (endsL l)[i]? with
  | none => exact Nat.le_refl _
  | some e => exact Nat.le_of_lt (ends_scl.lt l e (List.mem_of_getElem? h))
theorem lnT_lt (l : List UInt8) (i : Nat) (h : i < (endsL l).length) : lnT l i = (endsL l)[i] := by
  unfold lnT; rw [List.getElem?_eq_getElem h]; rfl
theorem lnT_end (l : List UInt8) (i : Nat) (h : (endsL l).length ≤ i) : lnT l i = l.length := by
  unfold lnT; rw [List.getElem?_eq_none h]; rfl
theorem lnF_succ (l : List UInt8) (i : Nat) : lnF l (i + 1) = nxl l (lnT l i) := rfl
theorem ends_rise (l : List UInt8) (i j : Nat) (hij : i < j) (hj : j < (endsL l).length) : (endsL l)[i] < (endsL l)[j] := List.pairwise_iff_getElem.1 (ends_scl.rise l) i j (by omega) hj hij
theorem lnF_le (l : List UInt8) (i : Nat) (h : i ≤ (endsL l).length) : lnF l i ≤ lnT l i := by
  cases i with
  | zero => exact Nat.zero_le _
  | succ i =>
    rw [lnF_succ, lnT_lt l i (by omega)]
    have hlt := ends_scl.lt l _ (List.getElem_mem (show i < (endsL l).length by omega))
    rcases Nat.lt_or_ge (i + 1) (endsL l).length with h1 | h1
    · rw [lnT_lt l (i + 1) h1]
      exact nxl_min l _ _ hlt (ends_in l _ (List.getElem_mem h1)) (ends_rise l i (i + 1) (by omega) h1)
    · rw [lnT_end l (i + 1) h1]; exact nxl_le l _
theorem lnF_gt (l : List UInt8) (i : Nat) (h : i < (endsL l).length) : (endsL l)[i] < lnF l (i + 1) := by
  rw [lnF_succ, lnT_lt l i h]
  obtain ⟨f, _, _, h3⟩ := letter_at l _ (ends_scl.lt l _ (List.getElem_mem h))
  exact h3
/-- How many line ends begin ahead of a line's beginning, or of its end. -/
theorem cnt_line (l : List UInt8) (i : Nat) (h : i ≤ (endsL l).length) (z : Nat) (h1 : lnF l i ≤ z) (h2 : z ≤ lnT l i) : cntB (endsL l) (z : Nat) = i := by
  unfold cntB
  have hs : endsL l = (endsL l).take i ++ (endsL l).drop i := (List.take_append_drop i _).symm
  rw [hs, List.filter_append, List.filter_eq_self.2 (fun q hq => ?_), List.filter_eq_nil_iff.2 (fun q hq => ?_), List.append_nil, List.length_take, Nat.min_eq_left h]
  · obtain ⟨j, hj, rfl⟩ := List.mem_iff_getElem.1 hq
    rw [List.length_drop] at hj
    rw [List.getElem_drop]
    rw [lnT_lt l i (by omega)] at h2
    have h4 : (endsL l)[i] ≤ (endsL l)[i + j] := by
      rcases Nat.eq_zero_or_pos j with e | e
      · subst e; exact Nat.le_refl _
      · exact Nat.le_of_lt (ends_rise l i (i + j) (by omega) (by omega))
    simp only [decide_eq_true_eq]
    omega
  · obtain ⟨j, hj, rfl⟩ := List.mem_iff_getElem.1 hq
    rw [List.length_take] at hj
    rw [List.getElem_take]
    obtain ⟨k, rfl⟩ : ∃ k, i = k + 1 := ⟨i - 1, by omega⟩
    have h3 := lnF_gt l k (by omega)
    have h4 : (endsL l)[j] ≤ (endsL l)[k] := by
      rcases Nat.eq_or_lt_of_le (show j ≤ k by omega) with e | e
      · subst e; exact Nat.le_refl _
      · exact Nat.le_of_lt (ends_rise l j k e (by omega))
    simp only [decide_eq_true_eq]
    omega
/-- A line begins a letter, or at the text's end. -/
theorem lnF_is (l : List UInt8) (i : Nat) (h : lnF l i < l.length) : lnF l i ∈ lettersL l := by
  cases i with
  | zero =>
    have hne : l ≠ [] := fun e => by rw [e] at h; simp at h
    have hrn : rl l ≠ [] := by rw [rl_cons l hne]; simp
    show 0 ∈ _
    unfold lettersL
    rw [gpF_0, pcl_cons gc _ hrn, plc]
    simp
  | succ i => exact nxl_is l _ h
/-- Numbers of a rising list there and back. -/
theorem cnt_at (B : List Nat) (hB : B.Pairwise (· < ·)) (j : Nat) (h : j < B.length) : cntB B (B[j] : Nat) = j := by
  have hr := List.pairwise_iff_getElem.1 hB
  obtain ⟨v, hv⟩ : ∃ v, v = B[j] := ⟨_, rfl⟩
  rw [← hv]
  unfold cntB
  have h2 : (B.take j).filter (fun (q : Nat) => decide ((q : Int) < (v : Nat))) = B.take j := List.filter_eq_self.2 fun q hq => by
    obtain ⟨i, hi, rfl⟩ := List.mem_iff_getElem.1 hq
    rw [List.length_take] at hi
    rw [List.getElem_take]
    have := hr i j (by omega) h (by omega)
    simp only [decide_eq_true_eq]
    omega
  have h4 : (B.drop j).filter (fun (q : Nat) => decide ((q : Int) < (v : Nat))) = [] := List.filter_eq_nil_iff.2 fun q hq => by
    obtain ⟨i, hi, rfl⟩ := List.mem_iff_getElem.1 hq
    rw [List.length_drop] at hi
    rw [List.getElem_drop]
    simp only [decide_eq_true_eq]
    rcases Nat.eq_zero_or_pos i with e | e
    · subst e
      simp only [Nat.add_zero]
      omega
    · have := hr j (j + i) h (by omega) (by omega)
      omega
  have h3 : (B.filter fun (q : Nat) => decide ((q : Int) < (v : Nat))).length = ((B.take j).filter fun (q : Nat) => decide ((q : Int) < (v : Nat))).length + ((B.drop j).filter fun (q : Nat) => decide ((q : Int) < (v : Nat))).length := by
    rw [← List.length_append, ← List.filter_append, List.take_append_drop]
  rw [h3, h2, h4, List.length_take, List.length_nil]
  omega
theorem cnt_all (B : List Nat) (n : Nat) (h : ∀ q ∈ B, q < n) : cntB B (n : Nat) = B.length := by
  unfold cntB
  rw [List.filter_eq_self.2 (fun q hq => by have := h q hq; simp only [decide_eq_true_eq]; omega)]
theorem cnt_back (B : List Nat) (d : Nat) (hB : B.Pairwise (· < ·)) (hd : ∀ q ∈ B, q < d) (n : Nat) (h : n ≤ B.length) : cntB B (plcB B (n : Nat) d : Nat) = n := by
  unfold plcB
  rw [if_neg (by omega), Int.toNat_natCast]
  rcases Nat.lt_or_ge n B.length with h1 | h1
  · rw [List.getElem?_eq_getElem h1]
    exact cnt_at B hB n h1
  · rw [List.getElem?_eq_none h1]
    have : n = B.length := by omega
    rw [this]
    exact cnt_all B d hd
theorem cnt_mono (B : List Nat) (a b : Int) (h : a ≤ b) : cntB B a ≤ cntB B b := by
  unfold cntB
  rw [← List.countP_eq_length_filter, ← List.countP_eq_length_filter]
  exact List.countP_mono_left fun q _ hq => by simp only [decide_eq_true_eq] at hq ⊢; omega
/-- A place of a list is where its number says. -/
theorem plc_back (B : List Nat) (d q : Nat) (hB : B.Pairwise (· < ·)) (h : q ∈ B) : plcB B (cntB B (q : Nat) : Nat) d = q := by
  obtain ⟨j, hj, rfl⟩ := List.mem_iff_getElem.1 h
  rw [cnt_at B hB j hj]
  unfold plcB
  rw [if_neg (by omega), Int.toNat_natCast, List.getElem?_eq_getElem hj]; rfl
theorem cnt_gt (B : List Nat) (q t : Nat) (hB : B.Pairwise (· < ·)) (h : q ∈ B) (ht : q < t) : cntB B (q : Nat) < cntB B (t : Nat) := by
  obtain ⟨j, hj, rfl⟩ := List.mem_iff_getElem.1 h
  rw [cnt_at B hB j hj]
  have h1 : cntB B ((B[j] + 1 : Nat) : Int) ≤ cntB B (t : Nat) := cnt_mono B _ _ (by omega)
  refine Nat.lt_of_lt_of_le ?_ h1
  unfold cntB
  have hs : B = B.take (j + 1) ++ B.drop (j + 1) := (List.take_append_drop (j + 1) _).symm
  have hr := List.pairwise_iff_getElem.1 hB
  have h2 : (B.take (j + 1)).filter (fun (q : Nat) => decide ((q : Int) < ((B[j] + 1 : Nat) : Int))) = B.take (j + 1) := List.filter_eq_self.2 fun q hq => by
    obtain ⟨i, hi, rfl⟩ := List.mem_iff_getElem.1 hq
    rw [List.length_take] at hi
    rw [List.getElem_take]
    have : B[i] ≤ B[j] := by
      rcases Nat.eq_or_lt_of_le (show i ≤ j by omega) with e | e
      · subst e; exact Nat.le_refl _
      · exact Nat.le_of_lt (hr i j (by omega) hj e)
    simp only [decide_eq_true_eq]
    omega
  have h3 : (B.filter fun (q : Nat) => decide ((q : Int) < ((B[j] + 1 : Nat) : Int))).length = ((B.take (j + 1)).filter fun (q : Nat) => decide ((q : Int) < ((B[j] + 1 : Nat) : Int))).length + ((B.drop (j + 1)).filter fun (q : Nat) => decide ((q : Int) < ((B[j] + 1 : Nat) : Int))).length := by
    rw [← List.length_append, ← List.filter_append, List.take_append_drop]
  rw [h3, h2, List.length_take]
  omega
end Go.Proofs.YtffbdnlfknomnaaDoor.Wt
