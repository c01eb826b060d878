/- The walk of WrapAll. -/
import Derived.Test.YtkopefljnhgdkaaDoorWpFew
import Derived.Test.YtkopefljnhgdkaaDoorWpCpy
namespace Go.Proofs.YtkopefljnhgdkaaDoor
open Go.RowKit Go.Shelf
variable {W : Wr} {L : List Bx}

/-- What all answers: the best of what it was given and of all breakings that begin so. -/
structure AR (W : Wr) (L : List Bx) (es : List Int) (best r : Int) : Prop where
  is : r = best ∨ ∃ t, Brk W L 0 (es ++ t) ∧ r = cst W L 0 (es ++ t)
  le : 0 ≤ best → 0 ≤ r ∧ r ≤ best
  all : ∀ t, Brk W L 0 (es ++ t) → 0 ≤ r ∧ r ≤ cst W L 0 (es ++ t)
/-- What stands between the rounds: the lines up to boxes below j were tried. -/
structure AJ (W : Wr) (L : List Bx) (es : List Int) (from_ : Nat) (best : Int) (j : Nat) (r : Int) : Prop where
  run : Run L from_ j
  is : r = best ∨ ∃ t, Brk W L 0 (es ++ t) ∧ r = cst W L 0 (es ++ t)
  le : 0 ≤ best → 0 ≤ r ∧ r ≤ best
  all : ∀ (i : Nat) t, i < j → Brk W L 0 (es ++ (i : Int) :: t) → 0 ≤ r ∧ r ≤ cst W L 0 (es ++ (i : Int) :: t)
theorem AJ.start (es : List Int) (from_ : Nat) (best : Int) (hA : ∀ t, Brk W L 0 (es ++ t) → Brk W L from_ t) : AJ W L es from_ best from_ best :=
  ⟨Run.self L from_, .inl rfl, fun h => ⟨h, Int.le_refl _⟩, fun i t hi hb => by
    obtain ⟨k, e, hl, _⟩ := hA _ hb
    have := hl.1.1
    omega⟩
/-- Behind a turn: r2 is the best with the lines up to j. -/
structure AK (W : Wr) (L : List Bx) (es : List Int) (from_ : Nat) (best : Int) (j : Nat) (r : Int) : Prop where
  hA : ∀ t, Brk W L 0 (es ++ t) → Brk W L from_ t
  hf : from_ < L.length
  run : Run L from_ j
  is : r = best ∨ ∃ t, Brk W L 0 (es ++ t) ∧ r = cst W L 0 (es ++ t)
  le : 0 ≤ best → 0 ≤ r ∧ r ≤ best
  all : ∀ (i : Nat) t, i ≤ j → Brk W L 0 (es ++ (i : Int) :: t) → 0 ≤ r ∧ r ≤ cst W L 0 (es ++ (i : Int) :: t)
theorem AJ.turn {es : List Int} {from_ : Nat} {best : Int} {j : Nat} {r r2 : Int} (h : AJ W L es from_ best j r) (hA : ∀ t, Brk W L 0 (es ++ t) → Brk W L from_ t) (hf : from_ < L.length) (h2 : AR W L (es ++ [(j : Int)]) r r2) : AK W L es from_ best j r2 := by
  refine ⟨hA, hf, h.run, ?_, fun hb => ?_, fun i t hi hb => ?_⟩
  · rcases h2.is with e | ⟨t, h3, h4⟩
    · rw [e]; exact h.is
    · exact .inr ⟨(j : Int) :: t, by rw [List.append_assoc] at h3; exact h3, by rw [List.append_assoc] at h4; exact h4⟩
  · have h3 := h.le hb
    have h4 := h2.le h3.1
    omega
  · rcases Nat.eq_or_lt_of_le hi with e | e
    · subst e
      have h3 := h2.all t (by rw [List.append_assoc]; exact hb)
      rw [List.append_assoc] at h3
      exact h3
    · have h3 := h.all i t e hb
      have h4 := h2.le h3.1
      omega
theorem AK.fin {es : List Int} {from_ : Nat} {best : Int} {j : Nat} {r : Int} (h : AK W L es from_ best j r) (hj : ∀ i, Lin W L from_ i → i ≤ j) : AR W L es best r :=
  ⟨h.is, h.le, fun t hb => by
    have hb' := h.hA t hb
    cases t with
    | nil =>
      have e : from_ = L.length := hb'
      have := h.hf
      omega
    | cons e t =>
      obtain ⟨i, rfl, hl, _⟩ := hb'
      exact h.all i t (hj i hl) hb⟩
theorem AK.stop {es : List Int} {from_ : Nat} {best : Int} {j : Nat} {r : Int} (h : AK W L es from_ best j r) (hm : (bx L j).m = true) : AR W L es best r :=
  h.fin fun i hl => by
    rcases Nat.lt_or_ge j i with h1 | h1
    · have h2 := hl.1.2.2 j h.run.1 h1
      unfold en at h2
      rw [hm] at h2
      cases h2
    · exact h1
/-- What the loop holds: the turns so far, or, at the end of the boxes, all of it. -/
def AG (W : Wr) (L : List Bx) (es : List Int) (from_ : Nat) (best : Int) (j : Nat) (r : Int) : Prop := (j < L.length → AJ W L es from_ best j r) ∧ (j = L.length → AR W L es best r)
theorem AK.next {es : List Int} {from_ : Nat} {best : Int} {j : Nat} {r : Int} (h : AK W L es from_ best j r) (hm : (bx L j).m = false) : AG W L es from_ best (j + 1) r := by
  refine ⟨fun h1 => ?_, fun h1 => h.fin fun i hl => by have := hl.1.2.1; omega⟩
  exact ⟨h.run.next (by unfold en; rw [hm]; simp; omega), h.is, h.le, fun i t hi hb => h.all i t (by omega) hb⟩
theorem AR.base (o : Okb W L) {es : List Int} {best c : Int} {b : Bool} (hA : ∀ t, Brk W L 0 (es ++ t) → Brk W L L.length t) (hb : b = true ↔ Brk W L 0 es) (hc : c = if b = true then cst W L 0 es else 0) :
    (b = true → best < 0 → AR W L es best c) ∧ (b = true → c < best → AR W L es best c) ∧ (b = true → ¬ best < 0 → ¬ c < best → AR W L es best best) ∧ (b = false → AR W L es best best) := by
  have hnil : ∀ t, Brk W L 0 (es ++ t) → t = [] := fun t ht => by
    have h1 := hA t ht
    cases t with
    | nil => rfl
    | cons e t =>
      obtain ⟨j, _, hl, _⟩ := h1
      have := hl.1.1; have := hl.1.2.1
      omega
  have hall : b = true → ∀ r : Int, 0 ≤ r → r ≤ c → ∀ t, Brk W L 0 (es ++ t) → 0 ≤ r ∧ r ≤ cst W L 0 (es ++ t) := fun hbt r h0 hr t ht => by
    have e := hnil t ht
    subst e
    rw [List.append_nil]
    rw [if_pos hbt] at hc
    omega
  have hcn : b = true → 0 ≤ c := fun hbt => by
    rw [if_pos hbt] at hc
    rw [hc]
    exact (o.cost es 0 (hb.1 hbt)).1
  have hex : b = true → ∃ t, Brk W L 0 (es ++ t) ∧ c = cst W L 0 (es ++ t) := fun hbt => ⟨[], by rw [List.append_nil]; exact hb.1 hbt, by rw [List.append_nil, hc, if_pos hbt]⟩
  refine ⟨fun hbt h1 => ⟨.inr (hex hbt), fun h => by omega, hall hbt c (hcn hbt) (Int.le_refl _)⟩, fun hbt h1 => ⟨.inr (hex hbt), fun h => ⟨hcn hbt, by omega⟩, hall hbt c (hcn hbt) (Int.le_refl _)⟩, fun hbt h1 h2 => ⟨.inl rfl, fun h => ⟨h, Int.le_refl _⟩, hall hbt best (by omega) (by omega)⟩, fun hbf => ⟨.inl rfl, fun h => ⟨h, Int.le_refl _⟩, fun t ht => ?_⟩⟩
  have e := hnil t ht
  subst e
  rw [List.append_nil] at ht
  have := hb.2 ht
  rw [hbf] at this
  cases this
end Go.Proofs.YtkopefljnhgdkaaDoor
/- The contract of all (of the statements of stage 16). -/
namespace Go.Proofs.YtkopefljnhgdkaaDoor
open Go.RowKit Go.Shelf

def AlQ (w : World) (W : Wr) (L : List Bx) (es : List Int) (best : Int) (e : Ending) (w' : World) : Prop := ∃ r : Int, e = .returned (.int .i64 r) ∧ AR W L es best r ∧ Below w.heap.size w w'
set_option maxHeartbeats 8000000 in
theorem all_base (lo : Option Addr) (n c : Nat) (wd fi re ho : Int) (L : List Bx) (hn : n = L.length) (hok : (chk ⟨wd, fi, re, ho⟩ L).1 = 0) (eo : Option Addr) (el ec : Nat) (es : List Int) (best : Int) (w : World) (hr : RdB w lo L) (hel : el = es.length) (hre : RdI w eo es) (h9 : el ≤ 9) (hA : ∀ t, Brk ⟨wd, fi, re, ho⟩ L 0 (es ++ t) → Brk ⟨wd, fi, re, ho⟩ L n t) :
    Calls Tryd.prog 12 #[.slice lo n c, .agg #[.int .i64 wd, .int .i64 fi, .int .i64 re, .int .i64 ho], .slice eo el ec, .int .i64 n, .int .i64 best] w fun e w' => AlQ w ⟨wd, fi, re, ho⟩ L es best e w' := by
  have HS := hid (Wrs.new w wd fi re ho)
  have HB := hid (below_box (w := w) (o := .cells #[.int .i64 wd, .int .i64 fi, .int .i64 re, .int .i64 ho] 24))
  have HC := hid (costs_any lo n c wd fi re ho L eo el ec es _ hn (hr.below HB.out) hel (hre.below HB.out) (by omega))
  have HAB := hid (fun (b : Bool) (z : Int) (hb : b = true ↔ (chk ⟨wd, fi, re, ho⟩ L).1 = 0 ∧ Brk ⟨wd, fi, re, ho⟩ L 0 es) (hz : z = if b = true then cst ⟨wd, fi, re, ho⟩ L 0 es else 0) => AR.base (best := best) (chk_ok hok) (fun t ht => by have := hA t ht; rwa [hn] at this) (b := b) (c := z) ⟨fun h => (hb.1 h).2, fun h => hb.2 ⟨hok, h⟩⟩ hz)
  have b0 : ((n : Int) == (n : Int)) = true := beq_iff_eq.2 rfl
  clear hn hr hel hre hok hA
  obtain ⟨c0, c1, c2, c3⟩ := HS.out.cell
  go_enter Tryd.func12, Tryd.ntmps12
  go_wp2_with fail
  refine HC.out.mono ?_
  rintro e w2 ⟨⟨y, b, rfl, hb, hy⟩, be2⟩
  have HQ := hid (HAB.out b y hb hy)
  have HB2 := hid (HB.out.trans (be2.mono HB.out.size))
  clear hb hy be2 c0 c1 c2 c3
  cases b with
  | false =>
    have HF := hid (HQ.out.2.2.2 rfl)
    clear HQ
    go_wp2
    go_ret
    exact ⟨best, rfl, HF.out, HB2.out⟩
  | true =>
    by_cases q1 : best < 0
    · have HF := hid (HQ.out.1 rfl (by omega))
      clear HQ
      go_wp2
      go_ret
      exact ⟨y, rfl, HF.out, HB2.out⟩
    · by_cases q2 : y < best
      · have HF := hid (HQ.out.2.1 rfl (by omega))
        clear HQ
        go_wp2
        go_ret
        exact ⟨y, rfl, HF.out, HB2.out⟩
      · have HF := hid (HQ.out.2.2.1 rfl (by omega) (by omega))
        clear HQ
        go_wp2
        go_ret
        exact ⟨best, rfl, HF.out, HB2.out⟩
set_option maxHeartbeats 8000000 in
theorem all_any (lo : Option Addr) (n c : Nat) (wd fi re ho : Int) (L : List Bx) (hn : n = L.length) (h9 : n ≤ 9) (hok : (chk ⟨wd, fi, re, ho⟩ L).1 = 0) : ∀ (d fr : Nat), n - fr ≤ d → fr ≤ n → ∀ (eo : Option Addr) (el ec : Nat) (es : List Int) (best : Int) (w : World), RdB w lo L → el = es.length → RdI w eo es → el ≤ fr → (∀ t, Brk ⟨wd, fi, re, ho⟩ L 0 (es ++ t) → Brk ⟨wd, fi, re, ho⟩ L fr t) →
    Calls Tryd.prog 12 #[.slice lo n c, .agg #[.int .i64 wd, .int .i64 fi, .int .i64 re, .int .i64 ho], .slice eo el ec, .int .i64 fr, .int .i64 best] w fun e w' => AlQ w ⟨wd, fi, re, ho⟩ L es best e w' := by
  intro d
  induction d with
  | zero =>
    intro fr hd hfr eo el ec es best w hr hel hre hef hA
    obtain rfl : fr = n := by omega
    exact all_base lo fr c wd fi re ho L hn hok eo el ec es best w hr hel hre (by omega) hA
  | succ d ih =>
    intro fr hd hfr eo el ec es best w hr hel hre hef hA
    by_cases hfn : fr = n
    · subst hfn
      exact all_base lo fr c wd fi re ho L hn hok eo el ec es best w hr hel hre (by omega) hA
    have hflt : fr < n := by omega
    have HS := hid (Wrs.new w wd fi re ho)
    have HB := hid (below_box (w := w) (o := .cells #[.int .i64 wd, .int .i64 fi, .int .i64 re, .int .i64 ho] 24))
    have HR0 := hid hr
    have HRE0 := hid hre
    have HN := hid hn
    have HEL := hid hel
    have HA := hid hA
    have HIH := hid ih
    have b0 : ((fr : Int) == (n : Int)) = false := by rw [beq_eq_false_iff_ne]; omega
    obtain ⟨i0, hi3, hz0, hz1, hz2⟩ := info_parts Tryd.info3
    have HI := hid (And.intro hi3 (And.intro hz0 (And.intro hz1 hz2)))
    clear hi3 hz0 hz1 hz2 hn hr hel hre hA ih hfn
    obtain ⟨c0, c1, c2, c3⟩ := HS.out.cell
    go_enter Tryd.func12, Tryd.ntmps12
    go_wp2
    clear c0 c1 c2 c3
    go_loopw [4, 13] (fun v4 v13 wr => ∃ (j : Nat) (r : Int), v4 = .int .i64 r ∧ v13 = .int .i64 j ∧ (fr ≤ j ∧ j ≤ n) ∧ Hid (AG ⟨wd, fi, re, ho⟩ L es fr best j r) ∧ Hid (Below (w.heap.size + 1) (w.alloc (.cells #[.int .i64 wd, .int .i64 fi, .int .i64 re, .int .i64 ho] 24)) wr)) (fun _ v13 _ => n - (intOf v13).toNat)
    case atStart => exact ⟨fr, best, rfl, rfl, ⟨Nat.le_refl _, hfr⟩, ⟨fun _ => AJ.start es fr best HA.out, fun h => by have := HN.out; omega⟩, box_self⟩
    case round =>
      obtain ⟨j, best', rfl, rfl, ⟨hfj, hjn⟩, HAG, HBr⟩ := hrel
      have HWR := hid (show Wrs wr w.heap.size wd fi re ho from (HBr.out.block _ (by omega)).trans HS.out)
      have HBW0 := hid (box_trans HBr.out)
      have hws : w.heap.size + 1 ≤ wr.heap.size := by have := HBr.out.size; simpa using this
      by_cases hlt : j < n
      · have hlti : (j : Int) < (n : Int) := by omega
        have i0' : (0 : Int) ≤ (j : Int) := by omega
        have HJL := hid (show j < L.length by have := HN.out; omega)
        have HAJ := hid (HAG.out.1 HJL.out)
        have HNXT := hid (show ∀ r, AR ⟨wd, fi, re, ho⟩ L (es ++ [(j : Int)]) best' r → AK ⟨wd, fi, re, ho⟩ L es fr best j r from fun r h => HAJ.out.turn HA.out (by have := HN.out; omega) h)
        obtain ⟨u, hu⟩ : ∃ u, u = wr.drew := ⟨_, rfl⟩
        obtain ⟨M, hM⟩ : ∃ M, M = wr.heap.size := ⟨_, rfl⟩
        have HUS := hid (show u.heap.size = M by rw [hu, hM]; rfl)
        have HUB := hid (show ∀ V, Below M u V → Below w.heap.size w V from fun V h => (HBW0.out.trans ((Below.refl _ wr).drew)).trans (by rw [← hu]; exact h.mono (by rw [hM]; omega)))
        have HUB1 := hid (show ∀ V, Below M u V → Below (w.heap.size + 1) (w.alloc (.cells #[.int .i64 wd, .int .i64 fi, .int .i64 re, .int .i64 ho] 24)) V from fun V h => (HBr.out.trans ((Below.refl _ wr).drew)).trans (by rw [← hu]; exact h.mono (by rw [hM]; omega)))
        have HWT := hid (show ∀ V, Below M u V → Wrs V w.heap.size wd fi re ho from fun V h => (h.block _ (by rw [hM]; omega)).trans (by rw [hu]; exact HWR.out))
        have HRI := hid (show ∀ V, Below M u V → RdI V eo es from fun V h => HRE0.out.below (HUB.out V h))
        have HREC := hid (show ∀ (V : World) (ad : Addr) (c7 : Nat), Below M u V → RdI V (some ad) (es ++ [(j : Int)]) → Calls Tryd.prog 12 #[.slice lo n c, .agg #[.int .i64 wd, .int .i64 fi, .int .i64 re, .int .i64 ho], .slice (some ad) (el + 1) c7, .int .i64 ((j : Int) + 1), .int .i64 best'] V fun e w' => AlQ V ⟨wd, fi, re, ho⟩ L (es ++ [(j : Int)]) best' e w' from fun V ad c7 h hri => by
          have h1 := HIH.out (j + 1) (by omega) (by omega) (some ad) (el + 1) c7 (es ++ [(j : Int)]) best' V (HR0.out.below (HUB.out V h)) (by rw [List.length_append, ← HEL.out]; rfl) hri (by omega) (fun t ht => by
            rw [List.append_assoc] at ht
            obtain ⟨k, e, _, h2⟩ := HA.out _ ht
            have : k = j := by omega
            subst this
            exact h2)
          exact h1)
        have e9 : IntKind.i64.wrap ((j : Int) + 1) = (j : Int) + 1 := by rw [IntKind.wrap_i64]; omega
        clear HIH
        go_wp2_with fail
        refine wp_region_mixT (.one 0 1 (.one 1 1 (.one 3 1 (.one 5 1 (.one 8 1 (.one 9 1 (.one 10 1 (.two 2 6 (.two 4 6 (.one 6 2 (.one 7 2 (.one 11 2 (.one 12 1 .nil)))) (.one 4 2 (.one 7 2 (.one 11 2 (.one 12 1 .nil))))) (.one 2 2 (.one 4 2 (.one 7 2 (.one 11 2 (.one 12 1 .nil))))))))))))) (fun _ => True) (fun w' => Below M u w') (fun _ => false) (by kernel_rfl) (by kernel_rfl) (fun j hj => by cases hj) rfl (by kernel_rfl) trivial (by rw [hu]; exact Below.refl _ _) ?_
        rw [← hu]
        clear hu hM
        iterate 7 (refine mixT_t ?_ rfl (by kernel_rfl) (fun w' hS => ?_) ?_; (rotate_left; (obtain ⟨s0, s1, s2, s3⟩ := (HWT.out _ hS).cell; go_simp; with_reducible rfl); rotate_left))
        refine mixT_two ?xA ?xB
        case xA =>
          refine hand_go rfl (by kernel_rfl) fun KK hKK => ?_
          go_simp
          have HB1 := hid (show Below M u (u.alloc (.cells #[] 3)) from (Below.refl _ _).alloc (by rw [HUS.out]; exact Nat.le_refl _) _)
          refine hKK _ _ (fun _ => trivial) HB1.out ?_
          clear hKK KK
          have HO1 := hid (show (u.alloc (.cells #[] 3)).ownsRow M 3 1 (.slice (some ⟨M, 0, none⟩) 0 0) 0 [] by
            have h := World.ownsRow_lit (e := 3) (size := 1) (base := M) u #[] 0 (by rw [HUS.out]; exact Nat.le_refl _) (by decide) (by simp)
            rw [HUS.out] at h
            exact h)
          obtain ⟨v1, hv1⟩ : ∃ v1, v1 = u.alloc (.cells #[] 3) := ⟨_, rfl⟩
          have HZ1 := hid (show v1.heap.size = M + 1 by rw [hv1]; simp [HUS.out])
          have HM1 := hid (show M ≤ v1.heap.size by rw [HZ1.out]; omega)
          rw [← hv1] at HB1 HO1
          rw [← hv1, HUS.out]
          clear hv1
          refine mixT_two ?a4 ?a6
          case a4 =>
            refine hand_go rfl (by kernel_rfl) fun KK hKK => ?_
            refine wp_copy _ _ rfl M M rfl HO1.out eo el ec es rfl (HRI.out _ HB1.out) HEL.out (by omega) HM1.out ?_
            intro g4 c4 v2 o2 gr2 hg2 hlt2
            have HB2 := hid (show Below M u v2 from HB1.out.grown gr2 HM1.out (fun k e => by cases e; exact Nat.le_refl _))
            have HO2 := hid o2
            have HS2 := hid (show M + 1 ≤ v2.heap.size by have := gr2.size; have := HZ1.out; omega)
            have HG4 := hid (show g4 < v2.heap.size from hlt2)
            refine hKK _ _ (fun _ => trivial) HB2.out ?_
            clear hKK KK o2 gr2 hg2 hlt2
            refine mixT_go rfl (by kernel_rfl) fun KK hKK => ?_
            go_simp
            have HB3 := hid (HB2.out.alloc (by have := HS2.out; omega) (.cells #[.int .i64 (j : Int)] 3))
            refine hKK _ _ (fun _ => trivial) HB3.out ?_
            clear hKK KK
            have HNW := hid (news_one v2 (.int .i64 (j : Int)) 3)
            have HO3 := hid (HO2.out.alloc (.cells #[.int .i64 (j : Int)] 3))
            have HS3 := hid (show M ≤ (v2.alloc (.cells #[.int .i64 (j : Int)] 3)).heap.size by have := HS2.out; simp; omega)
            obtain ⟨ad, had⟩ : ∃ ad : Nat, ad = v2.heap.size := ⟨_, rfl⟩
            obtain ⟨v3, hv3⟩ : ∃ v3, v3 = v2.alloc (.cells #[.int .i64 (j : Int)] 3) := ⟨_, rfl⟩
            rw [← hv3] at HB3 HNW HO3 HS3
            rw [← had] at HNW
            rw [← hv3, ← had]
            clear hv3 had HB2 HO2 HS2 HG4
            refine mixT_go rfl (by kernel_rfl) fun KK hKK => ?_
            refine wp_append_lies (P := Tryd.prog) v3 _ _ 25 rfl M 3 i0 (.int .i64 0) 1 8 Tryd.underlying25 HI.out.1 HI.out.2.1 HI.out.2.2.1 HI.out.2.2.2 rfl (by decide) (.slice (some ⟨g4, 0, none⟩) el c4) el (i64s es) rfl HO3.out ⟨ad, 0, none⟩ 1 1 [.int .i64 (j : Int)] rfl rfl HNW.out (i64s_one [(j : Int)]) (by decide) (by unfold maxLen; omega) (by omega) HS3.out v3.heap.size rfl ?_
            intro g7 c7 v4 o4 gr4 hg4 hlt4
            have HB4 := hid (show Below M u v4 from HB3.out.grown gr4 HS3.out (fun k hk => (HO3.out.lt k hk).1))
            have HRN := hid (show RdI v4 (some ⟨g7, 0, none⟩) (es ++ [(j : Int)]) from rdi_own (B := M) (m := el + 1) (vc := c7) (by rw [i64s_snoc]; exact o4))
            refine hKK _ _ (fun _ => trivial) HB4.out ?_
            clear hKK KK o4 gr4 hg4 hlt4 HB3 HO3 HS3 HNW
            refine mixT_go rfl (by kernel_rfl) fun KK hKK => ?_
            go_simp
            refine (HREC.out v4 ⟨g7, 0, none⟩ c7 HB4.out HRN.out).mono ?_
            rintro e v5 ⟨r, rfl, hAR, be5⟩
            have HB5 := hid (show Below M u v5 from HB4.out.trans (be5.mono (by have := HB4.out.size; have := HUS.out; omega)))
            refine hKK _ _ (fun _ => trivial) HB5.out ?_
            clear hKK KK be5 HB4 HRN
            refine mixT_t ?_ rfl (by kernel_rfl) (fun w' hS => ?_) ?_; (rotate_left; (go_simp; with_reducible rfl); rotate_left)
            refine mixT_end (NoPanic.normal ?_)
            go_simp
            have HBW := hid (show Below w.heap.size w v5 from HUB.out v5 HB5.out)
            have HRQ := hid (HNXT.out r hAR)
            clear hAR
            obtain ⟨a, rfl, ha, a0, a1, a2, a3⟩ := (HR0.out.below HBW.out).at HJL.out
            cases hm : (bx L j).m with
            | true =>
              have HFIN := hid (HRQ.out.stop hm)
              rw [hm] at a3
              clear hm a0 a1 a2 ha
              go_wp2
              go_ret
              exact ⟨r, rfl, HFIN.out, HBW.out⟩
            | false =>
              have HGO := hid (HRQ.out.next hm)
              rw [hm] at a3
              clear hm a0 a1 a2 ha
              go_wp2
              go_roundw
              case rel => exact ⟨j + 1, r, rfl, by go_num, ⟨by omega, by omega⟩, HGO, HUB1.out v5 HB5.out⟩
              case measure => simp [intOf]; omega
          case a6 =>
            refine hand_go rfl (by kernel_rfl) fun KK hKK => ?_
            go_simp
            have HB2 := hid (HB1.out.alloc HM1.out (.cells #[.int .i64 (j : Int)] 3))
            refine hKK _ _ (fun _ => trivial) HB2.out ?_
            clear hKK KK
            have HNW2 := hid (news_one v1 (.int .i64 (j : Int)) 3)
            have HO2 := hid (HO1.out.alloc (.cells #[.int .i64 (j : Int)] 3))
            have HS2 := hid (show M + 2 ≤ (v1.alloc (.cells #[.int .i64 (j : Int)] 3)).heap.size by have := HZ1.out; simp; omega)
            obtain ⟨ad, had⟩ : ∃ ad : Nat, ad = v1.heap.size := ⟨_, rfl⟩
            have HAD := hid (show ad = M + 1 by rw [had, HZ1.out])
            obtain ⟨v2, hv2⟩ : ∃ v2, v2 = v1.alloc (.cells #[.int .i64 (j : Int)] 3) := ⟨_, rfl⟩
            rw [← hv2] at HB2 HNW2 HO2 HS2
            rw [← had] at HNW2
            rw [← hv2, ← had]
            clear hv2 had
            refine mixT_go rfl (by kernel_rfl) fun KK hKK => ?_
            refine wp_copy _ _ rfl M M rfl HO2.out eo el ec es rfl (HRI.out _ HB2.out) HEL.out (by omega) (by have := HS2.out; omega) ?_
            intro g4 c4 v3 o3 gr3 hg3 hlt3
            have HB3 := hid (show Below M u v3 from HB2.out.grown gr3 (by have := HS2.out; omega) (fun k e => by cases e; exact Nat.le_refl _))
            have HO3 := hid o3
            have HS3 := hid (show M ≤ v3.heap.size by have := gr3.size; have := HS2.out; omega)
            have HNW := hid (show ∀ j' u, [Value.int .i64 (j : Int)][j']? = some u → v3.cell? ((⟨ad, 0, none⟩ : Addr).add j') = some u from fun j' u hj' => (World.cell?_of_block (w := v2) (a := (⟨ad, 0, none⟩ : Addr).add j') (by rw [add_blk]; exact gr3.block ad (by have := HAD.out; have := HS2.out; omega) (fun e => by cases e; have := HAD.out; omega))).trans (HNW2.out j' u hj'))
            refine hKK _ _ (fun _ => trivial) HB3.out ?_
            clear hKK KK o3 gr3 hg3 hlt3 HB2 HO2 HS2 HNW2 HAD
            refine mixT_go rfl (by kernel_rfl) fun KK hKK => ?_
            refine wp_append_lies (P := Tryd.prog) v3 _ _ 25 rfl M 3 i0 (.int .i64 0) 1 8 Tryd.underlying25 HI.out.1 HI.out.2.1 HI.out.2.2.1 HI.out.2.2.2 rfl (by decide) (.slice (some ⟨g4, 0, none⟩) el c4) el (i64s es) rfl HO3.out ⟨ad, 0, none⟩ 1 1 [.int .i64 (j : Int)] rfl rfl HNW.out (i64s_one [(j : Int)]) (by decide) (by unfold maxLen; omega) (by omega) HS3.out v3.heap.size rfl ?_
            intro g7 c7 v4 o4 gr4 hg4 hlt4
            have HB4 := hid (show Below M u v4 from HB3.out.grown gr4 HS3.out (fun k hk => (HO3.out.lt k hk).1))
            have HRN := hid (show RdI v4 (some ⟨g7, 0, none⟩) (es ++ [(j : Int)]) from rdi_own (B := M) (m := el + 1) (vc := c7) (by rw [i64s_snoc]; exact o4))
            refine hKK _ _ (fun _ => trivial) HB4.out ?_
            clear hKK KK o4 gr4 hg4 hlt4 HB3 HO3 HS3 HNW
            refine mixT_go rfl (by kernel_rfl) fun KK hKK => ?_
            go_simp
            refine (HREC.out v4 ⟨g7, 0, none⟩ c7 HB4.out HRN.out).mono ?_
            rintro e v5 ⟨r, rfl, hAR, be5⟩
            have HB5 := hid (show Below M u v5 from HB4.out.trans (be5.mono (by have := HB4.out.size; have := HUS.out; omega)))
            refine hKK _ _ (fun _ => trivial) HB5.out ?_
            clear hKK KK be5 HB4 HRN
            refine mixT_t ?_ rfl (by kernel_rfl) (fun w' hS => ?_) ?_; (rotate_left; (go_simp; with_reducible rfl); rotate_left)
            refine mixT_end (NoPanic.normal ?_)
            go_simp
            have HBW := hid (show Below w.heap.size w v5 from HUB.out v5 HB5.out)
            have HRQ := hid (HNXT.out r hAR)
            clear hAR
            obtain ⟨a, rfl, ha, a0, a1, a2, a3⟩ := (HR0.out.below HBW.out).at HJL.out
            cases hm : (bx L j).m with
            | true =>
              have HFIN := hid (HRQ.out.stop hm)
              rw [hm] at a3
              clear hm a0 a1 a2 ha
              go_wp2
              go_ret
              exact ⟨r, rfl, HFIN.out, HBW.out⟩
            | false =>
              have HGO := hid (HRQ.out.next hm)
              rw [hm] at a3
              clear hm a0 a1 a2 ha
              go_wp2
              go_roundw
              case rel => exact ⟨j + 1, r, rfl, by go_num, ⟨by omega, by omega⟩, HGO, HUB1.out v5 HB5.out⟩
              case measure => simp [intOf]; omega
        case xB =>
          refine hand_go rfl (by kernel_rfl) fun KK hKK => ?_
          go_simp
          have HB1 := hid (show Below M u (u.alloc (.cells #[.int .i64 (j : Int)] 3)) from (Below.refl _ _).alloc (by rw [HUS.out]; exact Nat.le_refl _) _)
          refine hKK _ _ (fun _ => trivial) HB1.out ?_
          clear hKK KK
          have HNW1 := hid (news_one u (.int .i64 (j : Int)) 3)
          obtain ⟨v1, hv1⟩ : ∃ v1, v1 = u.alloc (.cells #[.int .i64 (j : Int)] 3) := ⟨_, rfl⟩
          have HZ1 := hid (show v1.heap.size = M + 1 by rw [hv1]; simp [HUS.out])
          rw [← hv1] at HB1 HNW1
          rw [HUS.out] at HNW1
          rw [← hv1, HUS.out]
          clear hv1
          refine mixT_go rfl (by kernel_rfl) fun KK hKK => ?_
          go_simp
          have HB2 := hid (HB1.out.alloc (by rw [HZ1.out]; omega) (.cells #[] 3))
          refine hKK _ _ (fun _ => trivial) HB2.out ?_
          clear hKK KK
          have HO2 := hid (show (v1.alloc (.cells #[] 3)).ownsRow M 3 1 (.slice (some ⟨v1.heap.size, 0, none⟩) 0 0) 0 [] from World.ownsRow_lit v1 #[] 0 (by rw [HZ1.out]; omega) (by decide) (by simp))
          have HNW2 := hid (show ∀ j' u', [Value.int .i64 (j : Int)][j']? = some u' → (v1.alloc (.cells #[] 3)).cell? ((⟨M, 0, none⟩ : Addr).add j') = some u' from fun j' u' hj' => (World.cell?_of_block (w := v1) (a := (⟨M, 0, none⟩ : Addr).add j') (by rw [add_blk]; exact Below.heap_alloc _ _ _ (by rw [HZ1.out]; exact Nat.lt_succ_self _))).trans (HNW1.out j' u' hj'))
          have HS2 := hid (show (v1.alloc (.cells #[] 3)).heap.size = M + 2 by simp [HZ1.out])
          obtain ⟨hh, hhh⟩ : ∃ hh : Nat, hh = v1.heap.size := ⟨_, rfl⟩
          have HHH := hid (show hh = M + 1 by rw [hhh, HZ1.out])
          obtain ⟨v2, hv2⟩ : ∃ v2, v2 = v1.alloc (.cells #[] 3) := ⟨_, rfl⟩
          rw [← hv2] at HB2 HO2 HNW2 HS2
          rw [← hhh] at HO2
          rw [← hv2, ← hhh]
          clear hv2 hhh
          refine mixT_go rfl (by kernel_rfl) fun KK hKK => ?_
          refine wp_copy _ _ rfl M hh rfl HO2.out eo el ec es rfl (HRI.out _ HB2.out) HEL.out (by omega) (by have := HS2.out; omega) ?_
          intro g4 c4 v3 o3 gr3 hg3 hlt3
          have HB3 := hid (show Below M u v3 from HB2.out.grown gr3 (by have := HS2.out; omega) (fun k e => by cases e; have := HHH.out; omega))
          have HO3 := hid o3
          have HS3 := hid (show M ≤ v3.heap.size by have := gr3.size; have := HS2.out; omega)
          have HNW := hid (show ∀ j' u, [Value.int .i64 (j : Int)][j']? = some u → v3.cell? ((⟨M, 0, none⟩ : Addr).add j') = some u from fun j' u hj' => (World.cell?_of_block (w := v2) (a := (⟨M, 0, none⟩ : Addr).add j') (by rw [add_blk]; exact gr3.block M (by have := HS2.out; omega) (fun e => by cases e; have := HHH.out; omega))).trans (HNW2.out j' u hj'))
          refine hKK _ _ (fun _ => trivial) HB3.out ?_
          clear hKK KK o3 gr3 hg3 hlt3 HB2 HO2 HS2 HNW2 HHH HNW1
          refine mixT_go rfl (by kernel_rfl) fun KK hKK => ?_
          refine wp_append_lies (P := Tryd.prog) v3 _ _ 25 rfl M 3 i0 (.int .i64 0) 1 8 Tryd.underlying25 HI.out.1 HI.out.2.1 HI.out.2.2.1 HI.out.2.2.2 rfl (by decide) (.slice (some ⟨g4, 0, none⟩) el c4) el (i64s es) rfl HO3.out ⟨M, 0, none⟩ 1 1 [.int .i64 (j : Int)] rfl rfl HNW.out (i64s_one [(j : Int)]) (by decide) (by unfold maxLen; omega) (by omega) HS3.out v3.heap.size rfl ?_
          intro g7 c7 v4 o4 gr4 hg4 hlt4
          have HB4 := hid (show Below M u v4 from HB3.out.grown gr4 HS3.out (fun k hk => (HO3.out.lt k hk).1))
          have HRN := hid (show RdI v4 (some ⟨g7, 0, none⟩) (es ++ [(j : Int)]) from rdi_own (B := M) (m := el + 1) (vc := c7) (by rw [i64s_snoc]; exact o4))
          refine hKK _ _ (fun _ => trivial) HB4.out ?_
          clear hKK KK o4 gr4 hg4 hlt4 HB3 HO3 HS3 HNW
          refine mixT_go rfl (by kernel_rfl) fun KK hKK => ?_
          go_simp
          refine (HREC.out v4 ⟨g7, 0, none⟩ c7 HB4.out HRN.out).mono ?_
          rintro e v5 ⟨r, rfl, hAR, be5⟩
          have HB5 := hid (show Below M u v5 from HB4.out.trans (be5.mono (by have := HB4.out.size; have := HUS.out; omega)))
          refine hKK _ _ (fun _ => trivial) HB5.out ?_
          clear hKK KK be5 HB4 HRN
          refine mixT_t ?_ rfl (by kernel_rfl) (fun w' hS => ?_) ?_; (rotate_left; (go_simp; with_reducible rfl); rotate_left)
          refine mixT_end (NoPanic.normal ?_)
          go_simp
          have HBW := hid (show Below w.heap.size w v5 from HUB.out v5 HB5.out)
          have HRQ := hid (HNXT.out r hAR)
          clear hAR
          obtain ⟨a, rfl, ha, a0, a1, a2, a3⟩ := (HR0.out.below HBW.out).at HJL.out
          cases hm : (bx L j).m with
          | true =>
            have HFIN := hid (HRQ.out.stop hm)
            rw [hm] at a3
            clear hm a0 a1 a2 ha
            go_wp2
            go_ret
            exact ⟨r, rfl, HFIN.out, HBW.out⟩
          | false =>
            have HGO := hid (HRQ.out.next hm)
            rw [hm] at a3
            clear hm a0 a1 a2 ha
            go_wp2
            go_roundw
            case rel => exact ⟨j + 1, r, rfl, by go_num, ⟨by omega, by omega⟩, HGO, HUB1.out v5 HB5.out⟩
            case measure => simp [intOf]; omega
      · have hlti : ¬ (j : Int) < (n : Int) := by omega
        have HF := hid (HAG.out.2 (by have := HN.out; omega))
        go_wp2
        go_ret
        exact ⟨best', rfl, HF.out, HBW0.out⟩
end Go.Proofs.YtkopefljnhgdkaaDoor
/- The walk of WrapAll. -/
namespace Go.Proofs.YtkopefljnhgdkaaDoor
open Go.RowKit Go.Shelf

set_option maxHeartbeats 4000000 in
theorem all_main (lo : Option Addr) (n c : Nat) (wd fi re ho : Int) (L : List Bx) (w : World) (hn : n = L.length) (hr : RdB w lo L) (htb : Ev.Tbs tabs w) :
    Calls Tryd.prog 5 #[.slice lo n c, .agg #[.int .i64 wd, .int .i64 fi, .int .i64 re, .int .i64 ho]] w fun e w' => e = .returned (.bool true) ∧ Below w.heap.size w w' := by
  have HTB := hid (fun W (h : Below w.heap.size w W) => lives W (tbs_below htb h))
  clear htb
  by_cases hbig : 9 < n
  · have HB := hid (below_box (w := w) (o := .cells #[.int .i64 wd, .int .i64 fi, .int .i64 re, .int .i64 ho] 24))
    have j1 : (9 : Int) < (n : Int) := by omega
    clear hbig hn hr
    go_enter Tryd.func5, Tryd.ntmps5
    go_wp2_with fail
    refine (HTB.out _ HB.out).mono ?_
    rintro e w2 ⟨rfl, be2⟩
    have HB2 := hid (HB.out.trans (be2.mono HB.out.size))
    clear be2
    go_wp2
    go_ret
    exact ⟨rfl, HB2.out⟩
  · have j1 : ¬ (9 : Int) < (n : Int) := by omega
    have h9 : n ≤ 9 := by omega
    have HN := hid hn
    have HR0 := hid hr
    clear hbig hn hr
    go_enter Tryd.func5, Tryd.ntmps5
    go_wp2_with fail
    have HB := hid (below_box (w := w) (o := .cells #[.int .i64 wd, .int .i64 fi, .int .i64 re, .int .i64 1] 24))
    have HS := hid (Wrs.new w wd fi re 1)
    refine (lines_any lo n c wd fi re 1 L _ HN.out (HR0.out.below HB.out)).mono ?_
    rintro e w1 ⟨⟨ga, gao, gal, gac, rfl, hgl, hgo, hne, hok⟩, be1⟩
    have HGL := hid hgl
    have HOK := hid hok
    have HB1 := hid (HB.out.trans (be1.mono HB.out.size))
    have HS1 := hid (HS.out.kept be1)
    have HRA := hid (rdi_own hgo)
    obtain ⟨d0, d1, d2, d3⟩ := HS1.out.cell
    by_cases hz : (chk ⟨wd, fi, re, 1⟩ L).1 = 0
    · rw [hz]
      have HO := hid (chk_ok hz)
      obtain ⟨T, hGD, hEV⟩ := (HOK.out hz).ev rfl
      have HGD := hid hGD
      obtain ⟨ev1, ev2, ev3⟩ := evl_is hGD hEV
      have HE1 := hid ev1
      have HE2 := hid ev2
      have HCK := hid hz
      have hbr := brk_le ga 0 ev1
      have hgal : gal ≤ 9 := by have := HGL.out; have := HN.out; omega
      clear hgl hgo hne hok be1 hz hGD hEV ev1 ev2 ev3 hbr
      go_wp2_with fail
      refine (num_any 0 w1).mono ?_
      rintro e w1' ⟨rfl, hw3⟩
      obtain rfl := hw3.symm
      clear hw3
      go_wp2_with fail
      refine (costs_any lo n c wd fi re 1 L gao gal gac ga _ HN.out (HR0.out.below HB1.out) HGL.out HRA.out (by omega)).mono ?_
      rintro e w2 ⟨⟨y, b, rfl, hb, hy⟩, be2⟩
      have hbt : b = true := hb.2 ⟨HCK.out, HE1.out⟩
      subst hbt
      rw [if_pos rfl] at hy
      have HY := hid hy
      have HB2 := hid (HB1.out.trans (be2.mono HB1.out.size))
      have HS2 := hid (HS1.out.kept be2)
      clear d0 d1 d2 d3
      obtain ⟨d0, d1, d2, d3⟩ := HS2.out.cell
      clear hb be2 hy
      go_wp2_with fail
      refine (all_any lo n c wd fi re 1 L HN.out h9 HCK.out n 0 (by omega) (by omega) none 0 0 [] (-1) w2 (HR0.out.below HB2.out) rfl (fun k z hk => by cases hk) (Nat.le_refl _) (fun t ht => ht)).mono ?_
      rintro e w3 ⟨r, rfl, hAR, be3⟩
      have hry : r = y := by
        have h1 := hAR.all ga HE1.out
        rw [List.nil_append, ← HY.out] at h1
        rcases hAR.is with e | ⟨t, h2, h3⟩
        · omega
        · rw [List.nil_append] at h2 h3
          have h4 := good_least HGD.out t 0 h2
          rw [← h3, ← HE2.out, ← HY.out] at h4
          omega
      subst hry
      have HB3 := hid (HB2.out.trans (be3.mono HB2.out.size))
      have b0 : (r == r) = true := beq_iff_eq.2 rfl
      clear hAR be3 d0 d1 d2 d3
      go_wp2_with fail
      refine (HTB.out _ HB3.out).mono ?_
      rintro e w4 ⟨rfl, be4⟩
      have HB4 := hid (HB3.out.trans (be4.mono HB3.out.size))
      clear be4
      go_wp2
      go_ret
      exact ⟨rfl, HB4.out⟩
    · obtain ⟨z, hz'⟩ : ∃ z, z = (chk ⟨wd, fi, re, 1⟩ L).1 := ⟨_, rfl⟩
      rw [← hz']
      have b1 : (z != 0) = true := by rw [hz']; exact bne_iff_ne.2 hz
      clear hgl hgo hne hok be1 hz hz'
      go_wp2_with fail
      refine (num_any z w1).mono ?_
      rintro e w1' ⟨rfl, hw3⟩
      obtain rfl := hw3.symm
      clear hw3
      go_wp2_with fail
      refine (HTB.out _ HB1.out).mono ?_
      rintro e w2 ⟨rfl, be2⟩
      have HB2 := hid (HB1.out.trans (be2.mono HB1.out.size))
      clear be2
      go_wp2
      go_ret
      exact ⟨rfl, HB2.out⟩
end Go.Proofs.YtkopefljnhgdkaaDoor
