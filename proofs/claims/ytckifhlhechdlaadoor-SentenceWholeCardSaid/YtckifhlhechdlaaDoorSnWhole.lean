/- The walk of SentenceWhole. -/
import Derived.Test.YtckifhlhechdlaaDoorSnWk
import Derived.Test.YtckifhlhechdlaaDoorMixIn
import Derived.Laws.EntriesVeiled
import Derived.RegionIn
import Derived.OrdersIn
namespace Go.Proofs.YtckifhlhechdlaaDoor
open Go.RowKit Go.Shelf
attribute [local go_sem] Oper.semAt_some

theorem eq_nilf (lb : Array Value) (w : World) : (binOp .eql 29 (.func (.func 30) #[] lb) .nilFunc).run Tryd.prog w = .ok (.bool false) w := by kernel_rfl
attribute [local go_sem] eq_nilf

theorem waAt_from {α : Type} (B Bs : Nat) (l : List UInt8) (hB : 2 ≤ B) : OwnFrom B (fun (_ : List α) W => WaAt Bs l W) := fun _ A C row h hg hr => by
  refine h.keeps hg.size fun k hk => hg.block k (h.lt k hk) fun e => ?_
  obtain ⟨hle, o, ho, hc⟩ := hr k e.symm
  rcases hk with rfl | hk
  · have := h.bs; unfold Boxed at this; rw [this] at ho; cases ho; cases hc
  · omega
theorem boxed_below0 {B : Nat} {t : TypeId} {v : Value} {W W' : World} (h : Boxed W B t v) (hB : Below W.heap.size W W') (hlt : B < W.heap.size) : Boxed W' B t v := (hB.block B hlt).trans h
set_option maxHeartbeats 8000000 in
set_option maxRecDepth 100000 in
theorem whole_in (l : List UInt8) (w : World) (hw : Ev.Tbs tabs w) (ht : TbW w) (hl : l.length ≤ 100) :
    CallsIn Fence.wide 9 Tryd.prog 3 #[.string ⟨l.toArray⟩] w fun e W' => e = .returned (.bool true) ∧ Below w.heap.size w W' := by
  have HT := hid ht
  have HW := hid hw
  have h2 := ht.two
  obtain ⟨L, hL0, hLl0⟩ := chn_all l _ 0 (Nat.le_refl _) (Nat.zero_le _) (.inr (.inl rfl))
  have HL := hid hL0
  obtain ⟨n, hn⟩ : ∃ n, n = (rl l).length := ⟨_, rfl⟩
  have hn100 : n ≤ 100 := by
    have h := prs_len l
    rw [prs_len2, ← hn] at h
    omega
  have HN := hid hn
  have hLl : L.length ≤ 100 := by rw [← hn] at hLl0; omega
  clear ht hw hn hL0 hLl0
  refine callsIn_of_wp_marks Tryd.func3 rfl trivial ?_ rfl
  simp only [Tryd.ntmps3, List.size_toArray, List.length_cons, List.length_nil, Nat.reduceAdd, Nat.reduceSub, Array.replicate_succ, Array.replicate_zero, List.push_toArray, List.append_toArray, List.nil_append, List.cons_append]
  gi_wp2_with fail
  have hA0 : Below w.heap.size w ((w.alloc (.cells #[.string ⟨l.toArray⟩] 9)).alloc (.cells #[.bool false] 4)) := ((Below.refl _ w).alloc (Nat.le_refl _) _).alloc (by simp) _
  have e0 := (Boxed.new w 9 (.string ⟨l.toArray⟩)).alloc (.cells #[.bool false] 4)
  have e1 := Boxed.new (w.alloc (.cells #[.string ⟨l.toArray⟩] 9)) 4 (.bool false)
  rw [World.size_alloc] at e1
  refine ⟨trivial, (callsIn_wide.2 (runes_any l _ (by omega))).mono ?_⟩
  rintro e w1 ⟨v, rfl, hown, be⟩
  rw [prs_len2, ← HN.out] at hown
  obtain ⟨vo, vc, rfl⟩ := wown_slice hown
  have HR1 := hid (rdq_own hown HN.out)
  have HS1 := hid (show Boxed w1 w.heap.size 9 (.string ⟨l.toArray⟩) from (be.block _ (by simp; omega)).trans e0)
  have HF1 := hid (show Boxed w1 (w.heap.size + 1) 4 (.bool false) from (be.block _ (by simp)).trans e1)
  have HB1 := hid (show Below w.heap.size w w1 from hA0.trans (be.mono hA0.size))
  have hs1 : w.heap.size + 2 ≤ w1.heap.size := by have := be.size; simp at this; omega
  clear hown be hA0 e0 e1
  gi_wp2
  gi_loopw [4, 5] (fun av iv wr => ∃ (P k : Nat), av = .int .i64 P ∧ iv = .int .i64 k ∧ k ≤ n ∧ Hid (P = pos l k) ∧ Hid (Below w1.heap.size w1 wr)) (fun _ iv _ => n - (intOf iv).toNat)
  case atStart => exact ⟨0, 0, rfl, rfl, Nat.zero_le _, rfl, Below.refl _ _⟩
  case round =>
    obtain ⟨P, k, rfl, rfl, hk, HP, HB⟩ := hrel
    have hcs := boxed_below0 HS1.out HB.out (by omega)
    have HCS := hid hcs
    have cs := hcs.cell
    clear hcs
    by_cases hlt : k < n
    · have hlti : (k : Int) < (n : Int) := by omega
      have hkl : k < (rl l).length := by rw [← HN.out]; exact hlt
      obtain ⟨a, rfl, ha, a0⟩ := HR1.out.below HB.out k (rl l)[k] (List.getElem?_eq_getElem hkl)
      have HON := hid (show onE l P = (pos l (k + 1) : Nat) by rw [HP.out]; exact on_pos l k hkl)
      obtain ⟨P', hP'⟩ : ∃ P', P' = pos l (k + 1) := ⟨_, rfl⟩
      have HP' := hid hP'
      rw [← hP'] at HON
      clear hP'
      have HTW := hid (show ∀ W, Below w1.heap.size w1 W → TbW W from fun W hW => (HT.out.below HB1.out).below hW)
      have HIS := hid (show 0 < k → ∀ W, Below w1.heap.size w1 W → Calls Tryd.prog 7 #[.string ⟨l.toArray⟩, .int .i64 P] W fun e w' => e = .returned (.bool (scut l (pos l k))) ∧ Below W.heap.size W w' from fun h0 W hW => by
        rw [HP.out]
        exact sis_any l k W (HTW.out W hW) (by omega) h0 hkl)
      obtain ⟨r, hr⟩ : ∃ r : Int, r = ((rl l)[k].1 : Int) := ⟨_, rfl⟩
      rw [← hr] at a0
      obtain ⟨c, hc⟩ : ∃ c : Int, c = sncls r := ⟨_, rfl⟩
      have HC := hid (show sncls ((rl l)[k].1 : Int) = c by rw [hc, hr])
      have HKL := hid hkl
      clear hr
      gi_wp2_with fail
      refine ⟨trivial, (callsIn_wide.2 (sncls_any r wr)).mono ?_⟩
      rintro e w2 ⟨rfl, hw2⟩
      obtain rfl := hw2.symm
      clear hw2
      rw [← hc]
      clear hc
      by_cases hk0 : 0 < k
      · have hk0i : (0 : Int) < (k : Int) := by omega
        obtain ⟨a', ha', hab, a1⟩ := HR1.out.below HB.out (k - 1) ((rl l)[k - 1]'(by have := HKL.out; omega)) (List.getElem?_eq_getElem _)
        obtain rfl := Option.some.inj ha'
        obtain ⟨r', hr'⟩ : ∃ r' : Int, r' = ((rl l)[k - 1]'(by have := HKL.out; omega)).1 := ⟨_, rfl⟩
        rw [← hr'] at a1
        obtain ⟨p, hp⟩ : ∃ p : Int, p = sncls r' := ⟨_, rfl⟩
        have HPP := hid (show sncls (((rl l)[k - 1]'(by have := HKL.out; omega)).1 : Int) = p by rw [hp, hr'])
        have hk1 : ((k : Int) - 1) = ((k - 1 : Nat) : Int) := by omega
        clear hr' ha' hab
        gi_wp2_with fail
        refine ⟨trivial, (callsIn_wide.2 (sncls_any r' wr)).mono ?_⟩
        rintro e w2 ⟨rfl, hw2⟩
        obtain rfl := hw2.symm
        clear hw2
        rw [← hp]
        clear hp a0 a1
        by_cases hp2 : p = 2
        · subst hp2
          by_cases hc13 : c = 13
          · subst hc13
            gi_wp2_with fail
            refine ⟨trivial, (callsIn_wide.2 (HIS.out hk0 wr HB.out)).mono ?_⟩
            rintro e w4 ⟨rfl, be⟩
            rw [show scut l (pos l k) = true from sc_line l k hk0 HKL.out 2 13 HPP.out HC.out (.inl rfl)]
            have HB4 := hid (HB.out.trans (be.mono HB.out.size))
            have cs4 := (boxed_below0 HS1.out HB4.out (by omega)).cell
            clear be
            gi_wp2_with fail
            refine ⟨trivial, ?_⟩
            gi_wp2_with fail
            refine ⟨trivial, ?_⟩
            gi_wp2_with fail
            refine ⟨trivial, (callsIn_wide.2 (on_any l P w4 (by omega) (HTW.out w4 HB4.out).tabs (HTW.out w4 HB4.out).two)).mono ?_⟩
            rintro e w5 ⟨rfl, be⟩
            rw [HON.out]
            have HB5 := hid (HB4.out.trans (be.mono HB4.out.size))
            clear be
            gi_wp2
            go_roundw
            case rel => exact ⟨P', k + 1, rfl, by go_num, by omega, HP', HB5⟩
            case measure => simp [intOf]; omega
          · have bc : (c == 13) = false := beq_eq_false_iff_ne.2 hc13
            gi_wp2_with fail
            refine ⟨trivial, (callsIn_wide.2 (HIS.out hk0 wr HB.out)).mono ?_⟩
            rintro e w4 ⟨rfl, be⟩
            rw [show scut l (pos l k) = true from sc_line l k hk0 HKL.out 2 c HPP.out HC.out (.inl rfl)]
            have HB4 := hid (HB.out.trans (be.mono HB.out.size))
            have cs4 := (boxed_below0 HS1.out HB4.out (by omega)).cell
            clear be
            gi_wp2_with fail
            refine ⟨trivial, ?_⟩
            gi_wp2_with fail
            refine ⟨trivial, ?_⟩
            gi_wp2_with fail
            refine ⟨trivial, (callsIn_wide.2 (on_any l P w4 (by omega) (HTW.out w4 HB4.out).tabs (HTW.out w4 HB4.out).two)).mono ?_⟩
            rintro e w5 ⟨rfl, be⟩
            rw [HON.out]
            have HB5 := hid (HB4.out.trans (be.mono HB4.out.size))
            clear be
            gi_wp2
            go_roundw
            case rel => exact ⟨P', k + 1, rfl, by go_num, by omega, HP', HB5⟩
            case measure => simp [intOf]; omega
        have bp2 : (p == 2) = false := beq_eq_false_iff_ne.2 hp2
        have np2 : (p != 2) = true := bne_iff_ne.2 hp2
        by_cases hp3 : p = 3
        · subst hp3
          by_cases hc13 : c = 13
          · subst hc13
            gi_wp2_with fail
            refine ⟨trivial, (callsIn_wide.2 (HIS.out hk0 wr HB.out)).mono ?_⟩
            rintro e w4 ⟨rfl, be⟩
            rw [show scut l (pos l k) = true from sc_line l k hk0 HKL.out 3 13 HPP.out HC.out (.inr (.inl rfl))]
            have HB4 := hid (HB.out.trans (be.mono HB.out.size))
            have cs4 := (boxed_below0 HS1.out HB4.out (by omega)).cell
            clear be
            gi_wp2_with fail
            refine ⟨trivial, ?_⟩
            gi_wp2_with fail
            refine ⟨trivial, ?_⟩
            gi_wp2_with fail
            refine ⟨trivial, (callsIn_wide.2 (on_any l P w4 (by omega) (HTW.out w4 HB4.out).tabs (HTW.out w4 HB4.out).two)).mono ?_⟩
            rintro e w5 ⟨rfl, be⟩
            rw [HON.out]
            have HB5 := hid (HB4.out.trans (be.mono HB4.out.size))
            clear be
            gi_wp2
            go_roundw
            case rel => exact ⟨P', k + 1, rfl, by go_num, by omega, HP', HB5⟩
            case measure => simp [intOf]; omega
          · have bc : (c == 13) = false := beq_eq_false_iff_ne.2 hc13
            gi_wp2_with fail
            refine ⟨trivial, (callsIn_wide.2 (HIS.out hk0 wr HB.out)).mono ?_⟩
            rintro e w4 ⟨rfl, be⟩
            rw [show scut l (pos l k) = true from sc_line l k hk0 HKL.out 3 c HPP.out HC.out (.inr (.inl rfl))]
            have HB4 := hid (HB.out.trans (be.mono HB.out.size))
            have cs4 := (boxed_below0 HS1.out HB4.out (by omega)).cell
            clear be
            gi_wp2_with fail
            refine ⟨trivial, ?_⟩
            gi_wp2_with fail
            refine ⟨trivial, ?_⟩
            gi_wp2_with fail
            refine ⟨trivial, (callsIn_wide.2 (on_any l P w4 (by omega) (HTW.out w4 HB4.out).tabs (HTW.out w4 HB4.out).two)).mono ?_⟩
            rintro e w5 ⟨rfl, be⟩
            rw [HON.out]
            have HB5 := hid (HB4.out.trans (be.mono HB4.out.size))
            clear be
            gi_wp2
            go_roundw
            case rel => exact ⟨P', k + 1, rfl, by go_num, by omega, HP', HB5⟩
            case measure => simp [intOf]; omega
        have bp3 : (p == 3) = false := beq_eq_false_iff_ne.2 hp3
        have np3 : (p != 3) = true := bne_iff_ne.2 hp3
        by_cases hp1 : p = 1
        · subst hp1
          by_cases hc2 : c = 2
          · subst hc2
            gi_wp2_with fail
            refine ⟨trivial, ?_⟩
            gi_wp2_with fail
            refine ⟨trivial, (callsIn_wide.2 (HIS.out hk0 wr HB.out)).mono ?_⟩
            rintro e w4 ⟨rfl, be⟩
            rw [show scut l (pos l k) = false from sc_crlf l k hk0 HKL.out HPP.out HC.out]
            have HB4 := hid (HB.out.trans (be.mono HB.out.size))
            have cs4 := (boxed_below0 HS1.out HB4.out (by omega)).cell
            clear be
            gi_wp2_with fail
            refine ⟨trivial, ?_⟩
            gi_wp2_with fail
            refine ⟨trivial, (callsIn_wide.2 (on_any l P w4 (by omega) (HTW.out w4 HB4.out).tabs (HTW.out w4 HB4.out).two)).mono ?_⟩
            rintro e w5 ⟨rfl, be⟩
            rw [HON.out]
            have HB5 := hid (HB4.out.trans (be.mono HB4.out.size))
            clear be
            gi_wp2
            go_roundw
            case rel => exact ⟨P', k + 1, rfl, by go_num, by omega, HP', HB5⟩
            case measure => simp [intOf]; omega
          have bc2 : (c == 2) = false := beq_eq_false_iff_ne.2 hc2
          have nc2 : (c != 2) = true := bne_iff_ne.2 hc2
          by_cases hc13 : c = 13
          · subst hc13
            gi_wp2_with fail
            refine ⟨trivial, (callsIn_wide.2 (HIS.out hk0 wr HB.out)).mono ?_⟩
            rintro e w4 ⟨rfl, be⟩
            rw [show scut l (pos l k) = true from sc_line l k hk0 HKL.out 1 13 HPP.out HC.out (.inr (.inr ⟨rfl, by decide⟩))]
            have HB4 := hid (HB.out.trans (be.mono HB.out.size))
            have cs4 := (boxed_below0 HS1.out HB4.out (by omega)).cell
            clear be
            gi_wp2_with fail
            refine ⟨trivial, ?_⟩
            gi_wp2_with fail
            refine ⟨trivial, ?_⟩
            gi_wp2_with fail
            refine ⟨trivial, (callsIn_wide.2 (on_any l P w4 (by omega) (HTW.out w4 HB4.out).tabs (HTW.out w4 HB4.out).two)).mono ?_⟩
            rintro e w5 ⟨rfl, be⟩
            rw [HON.out]
            have HB5 := hid (HB4.out.trans (be.mono HB4.out.size))
            clear be
            gi_wp2
            go_roundw
            case rel => exact ⟨P', k + 1, rfl, by go_num, by omega, HP', HB5⟩
            case measure => simp [intOf]; omega
          · have bc : (c == 13) = false := beq_eq_false_iff_ne.2 hc13
            gi_wp2_with fail
            refine ⟨trivial, (callsIn_wide.2 (HIS.out hk0 wr HB.out)).mono ?_⟩
            rintro e w4 ⟨rfl, be⟩
            rw [show scut l (pos l k) = true from sc_line l k hk0 HKL.out 1 c HPP.out HC.out (.inr (.inr ⟨rfl, hc2⟩))]
            have HB4 := hid (HB.out.trans (be.mono HB.out.size))
            have cs4 := (boxed_below0 HS1.out HB4.out (by omega)).cell
            clear be
            gi_wp2_with fail
            refine ⟨trivial, ?_⟩
            gi_wp2_with fail
            refine ⟨trivial, ?_⟩
            gi_wp2_with fail
            refine ⟨trivial, (callsIn_wide.2 (on_any l P w4 (by omega) (HTW.out w4 HB4.out).tabs (HTW.out w4 HB4.out).two)).mono ?_⟩
            rintro e w5 ⟨rfl, be⟩
            rw [HON.out]
            have HB5 := hid (HB4.out.trans (be.mono HB4.out.size))
            clear be
            gi_wp2
            go_roundw
            case rel => exact ⟨P', k + 1, rfl, by go_num, by omega, HP', HB5⟩
            case measure => simp [intOf]; omega
        have bp1 : (p == 1) = false := beq_eq_false_iff_ne.2 hp1
        have np1 : (p != 1) = true := bne_iff_ne.2 hp1
        by_cases hc13 : c = 13
        · subst hc13
          gi_wp2_with fail
          refine ⟨trivial, ?_⟩
          gi_wp2_with fail
          refine ⟨trivial, ?_⟩
          gi_wp2_with fail
          refine ⟨trivial, (callsIn_wide.2 (HIS.out hk0 wr HB.out)).mono ?_⟩
          rintro e w4 ⟨rfl, be⟩
          rw [show scut l (pos l k) = false from sc_ext l k hk0 HKL.out p HPP.out HC.out hp1 hp2 hp3]
          have HB4 := hid (HB.out.trans (be.mono HB.out.size))
          have cs4 := (boxed_below0 HS1.out HB4.out (by omega)).cell
          clear be
          gi_wp2_with fail
          refine ⟨trivial, (callsIn_wide.2 (on_any l P w4 (by omega) (HTW.out w4 HB4.out).tabs (HTW.out w4 HB4.out).two)).mono ?_⟩
          rintro e w5 ⟨rfl, be⟩
          rw [HON.out]
          have HB5 := hid (HB4.out.trans (be.mono HB4.out.size))
          clear be
          gi_wp2
          go_roundw
          case rel => exact ⟨P', k + 1, rfl, by go_num, by omega, HP', HB5⟩
          case measure => simp [intOf]; omega
        · have bc : (c == 13) = false := beq_eq_false_iff_ne.2 hc13
          gi_wp2_with fail
          refine ⟨trivial, ?_⟩
          gi_wp2_with fail
          refine ⟨trivial, ?_⟩
          gi_wp2_with fail
          refine ⟨trivial, ?_⟩
          gi_wp2_with fail
          refine ⟨trivial, (callsIn_wide.2 (on_any l P wr (by omega) (HTW.out wr HB.out).tabs (HTW.out wr HB.out).two)).mono ?_⟩
          rintro e w5 ⟨rfl, be⟩
          rw [HON.out]
          have HB5 := hid (HB.out.trans (be.mono HB.out.size))
          clear be
          gi_wp2
          go_roundw
          case rel => exact ⟨P', k + 1, rfl, by go_num, by omega, HP', HB5⟩
          case measure => simp [intOf]; omega
      · have hk0i : ¬ (0 : Int) < (k : Int) := by omega
        gi_wp2_with fail
        refine ⟨trivial, (callsIn_wide.2 (on_any l P wr (by omega) (HTW.out wr HB.out).tabs (HTW.out wr HB.out).two)).mono ?_⟩
        rintro e w5 ⟨rfl, be⟩
        rw [HON.out]
        have HB5 := hid (HB.out.trans (be.mono HB.out.size))
        clear be
        gi_wp2
        go_roundw
        case rel => exact ⟨P', k + 1, rfl, by go_num, by omega, HP', HB5⟩
        case measure => simp [intOf]; omega
    · obtain rfl : k = n := by omega
      have hlti : ¬ (k : Int) < (k : Int) := by omega
      have HFW := hid (boxed_below0 HF1.out HB.out (by omega))
      have HBW := hid (HB1.out.trans (HB.out.mono HB1.out.size))
      have hsw := HB.out.size
      have cs3 : ((wr.alloc (.cells #[.int .i64 0] 3)).alloc (.cells #[.string ⟨#[]⟩] 9)).cell? ⟨w.heap.size, 0, none⟩ = some (.string ⟨l.toArray⟩) := ((HCS.out.alloc _).alloc _).cell
      gi_wp2_with fail
      refine ⟨trivial, (callsIn_wide.2 (weach_any l _)).mono ?_⟩
      rintro e w' ⟨rfl, rfl⟩
      have b0 := ((Boxed.new wr 3 (.int .i64 0)).alloc (.cells #[.string ⟨#[]⟩] 9)).alloc (.cells #[.string ⟨l.toArray⟩] 9)
      have b1 := (Boxed.new (wr.alloc (.cells #[.int .i64 0] 3)) 9 (.string ⟨#[]⟩)).alloc (.cells #[.string ⟨l.toArray⟩] 9)
      have b2 := Boxed.new ((wr.alloc (.cells #[.int .i64 0] 3)).alloc (.cells #[.string ⟨#[]⟩] 9)) 9 (.string ⟨l.toArray⟩)
      have hb := ((((Below.refl wr.heap.size wr).alloc (Nat.le_refl _) (.cells #[.int .i64 0] 3)).alloc (by simp) (.cells #[.string ⟨#[]⟩] 9)).alloc (by simp; omega) (.cells #[.string ⟨l.toArray⟩] 9))
      have hWs : (((wr.alloc (.cells #[.int .i64 0] 3)).alloc (.cells #[.string ⟨#[]⟩] 9)).alloc (.cells #[.string ⟨l.toArray⟩] 9)).heap.size = wr.heap.size + 1 + 1 + 1 := by simp
      simp only [World.size_alloc] at b1 b2 ⊢
      obtain ⟨Wb, hWb⟩ : ∃ Wb, Wb = (((wr.alloc (.cells #[.int .i64 0] 3)).alloc (.cells #[.string ⟨#[]⟩] 9)).alloc (.cells #[.string ⟨l.toArray⟩] 9)) := ⟨_, rfl⟩
      rw [← hWb] at b0 b1 b2 hb hWs ⊢
      have HWA := hid (show WaAt (wr.heap.size + 1 + 1) l Wb from ⟨b2, (HT.out.below HBW.out).below hb⟩)
      have HB0 := hid b0
      have HBt0 := hid b1
      have HBb := hid hb
      have HWS := hid hWs
      obtain ⟨b, hbe⟩ : ∃ b, b = wr.heap.size := ⟨_, rfl⟩
      rw [← hbe] at HWA HB0 HBt0 HBb HWS hsw ⊢
      have HBE := hid hbe
      clear b0 b1 b2 hb hWs hWb hbe cs cs3 hk hlt hlti
      gi_wp2
      refine rf_S rfl (by omega) (gf := 30) (lb := #[.pointer (some ⟨b + 1 + 1, 0, none⟩)]) rfl trivial (enters_of Tryd.func30 (by kernel_rfl) rfl)
        (weach_stops _ (by omega) (b + 1 + 1) l L HL.out Wb HWA.out (by omega)) HWA.out.lt (Below.refl _ _) rfl 12 13
        (fun pre W => ((Boxed W b 3 (.int .i64 (pos l (lstF 0 pre) : Nat)) ∧ Boxed W (b + 1) 9 (.string ⟨(l.take (pos l (lstF 0 pre))).toArray⟩)) ∧ Below b wr W) ∧ WaAt (b + 1 + 1) l W)
        (OwnFrom.and (OwnFrom.and (OwnFrom.and (Own.from (boxed_own _ _ (fun pre : List (Pc l) => Value.int .i64 (pos l (lstF 0 pre) : Nat))) _) (Own.from (boxed_own _ _ (fun pre : List (Pc l) => Value.string ⟨(l.take (pos l (lstF 0 pre))).toArray⟩)) _)) (ownFrom_below (by have := HBE.out; omega) (by have := HWS.out; omega))) (waAt_from _ _ l (by have := HWS.out; omega)))
        ⟨⟨⟨HB0.out, HBt0.out⟩, HBb.out⟩, HWA.out⟩ ?assign ?body ?fin
      case assign =>
        intro lp x W K hK
        dsimp only [encP]
        gi_wp2
        simpa [fr, encP] using hK
      case body =>
        rintro lp pre x W ⟨⟨⟨bL, bT⟩, hB⟩, hWA⟩ hlt
        have hx1 := x.2.1
        have hx2 := x.2.2.1
        have hft0 := pos_mono l (x.1.2 - x.1.1) x.1.1 (by omega)
        rw [show x.1.1 + (x.1.2 - x.1.1) = x.1.2 by omega] at hft0
        have hft : pos l x.1.1 < pos l x.1.2 := by omega
        have htl := pos_le l x.1.2 hx2
        have HKD := hid (fun W ht => skind_any l x.1.1 x.1.2 W ht (by omega) (Nat.le_of_lt hx1) hx2)
        have HEN := hid (pc_ends l x)
        have HTE := hid (show pos l x.1.2 < l.length → x.1.2 < (rl l).length from fun h => by
          rcases Nat.lt_or_ge x.1.2 (rl l).length with h1 | h1
          · exact h1
          · rw [pos_all l _ h1] at h; omega)
        have HSN := hid (lstF_snoc 0 pre x)
        have HPF := hid (chn_from l L pre x HL.out)
        dsimp only [fr, encP]
        obtain ⟨f, hf⟩ : ∃ f, f = pos l x.1.1 := ⟨_, rfl⟩
        obtain ⟨t, ht⟩ : ∃ t, t = pos l x.1.2 := ⟨_, rfl⟩
        obtain ⟨la, hla⟩ : ∃ la, la = pos l (lstF 0 pre) := ⟨_, rfl⟩
        have HF := hid hf
        have HTT := hid ht
        have HLA := hid hla
        rw [← hf] at hft HKD HEN ⊢
        rw [← ht] at hft htl HKD HEN HTE ⊢
        rw [← hla] at bL bT
        have cs := (show Boxed W w.heap.size 9 (.string ⟨l.toArray⟩) from (hB.block _ (by have := HBE.out; omega)).trans HCS.out).cell
        have hbf := (show Boxed W (w.heap.size + 1) 4 (.bool false) from (hB.block _ (by have := HBE.out; omega)).trans HFW.out)
        have cf := hbf.cell
        have ff := hbf.frozen
        have cL := bL.cell
        have fL := bL.frozen
        have cT := bT.cell
        have fT := bT.frozen
        have HBL := hid bL
        have HBT := hid bT
        have HBB := hid hB
        have HWA2 := hid hWA
        clear hf ht hla hft0 hx1 hx2 bL bT hB hWA hbf hlt
        by_cases he : f = la
        · subst he
          have n1 : ((f : Int) != (f : Int)) = false := by simp
          have n2 : ¬ (t : Int) ≤ (f : Int) := by omega
          have n3 : ¬ (l.length : Int) < (t : Int) := by omega
          have n4 : (f : Int) ≤ (t : Int) := by omega
          have n5 : (t : Int) ≤ (l.length : Int) := by omega
          have HCAT := hid (show (⟨(l.take f).toArray⟩ ++ (⟨l.toArray⟩ : ByteArray).extract f t : ByteArray) = ⟨(l.take t).toArray⟩ by
            rw [ext_mid, wcat]
            have h : (l.take t).take f = l.take f := by rw [List.take_take]; congr 1; omega
            rw [← h, List.take_append_drop])
          gi_wp2_with fail
          refine wpIn_region_mix lp _ [(0, true), (1, true), (2, true), (3, true), (4, true), (5, true), (6, false)] (fun w' => w'.cell? ⟨b + 1, 0, none⟩ = some (.string ⟨(l.take f).toArray⟩) ∧ w'.cell? ⟨w.heap.size, 0, none⟩ = some (.string ⟨l.toArray⟩)) (fun j => j == 6) (by kernel_rfl) (by kernel_rfl) (by kernel_rfl) ?hs rfl (by kernel_rfl) ⟨cT, cs⟩ ?hm
          case hs =>
            intro j hj
            have e : j = 6 := by simpa using hj
            subst e
            decide
          iterate 5 (refine mix_free ?_ rfl (by kernel_rfl) (fun w' hS => ?_) ?_; (rotate_left; (obtain ⟨s1, s2⟩ := hS; go_simp; with_reducible rfl); rotate_left))
          refine mix_free (.string ⟨(l.take t).toArray⟩) rfl (by kernel_rfl) (fun w' hS => ?_) ?_
          · obtain ⟨s1, s2⟩ := hS
            go_simp
            rw [if_neg (by omega), HCAT.out]
          refine mix_go rfl (by kernel_rfl) fun KK hKK => ?_
          have cTd : W.drew.cell? ⟨b + 1, 0, none⟩ = some (.string ⟨(l.take f).toArray⟩) := cT
          have fTd : W.drew.frozen? ⟨b + 1, 0, none⟩ = false := fT
          go_simp
          refine hKK _ _ (fun h => by cases h) ?_
          clear hKK KK cTd fTd
          refine mix_end (OnlyN.in ?_)
          have hbs : b < W.heap.size := HBL.out.lt
          have HS2 := hid (show Boxed W w.heap.size 9 (.string ⟨l.toArray⟩) from (HBB.out.block _ (by have := HBE.out; omega)).trans HCS.out)
          obtain ⟨W2, hW2⟩ : ∃ W2, W2 = (W.setCell ⟨b + 1, 0, none⟩ (.string ⟨(l.take t).toArray⟩)).drew := ⟨_, rfl⟩
          have HBL2 := hid (show Boxed W2 b 3 (.int .i64 f) by rw [hW2]; exact HBL.out.other (B' := b + 1) (by omega) _)
          have HBT2 := hid (show Boxed W2 (b + 1) 9 (.string ⟨(l.take t).toArray⟩) by rw [hW2]; exact HBT.out.set _)
          have HS3 := hid (show Boxed W2 w.heap.size 9 (.string ⟨l.toArray⟩) by rw [hW2]; exact HS2.out.other (B' := b + 1) (by omega) _)
          have HBB2 := hid (show Below b wr W2 by rw [hW2]; exact (HBB.out.setCell (p := ⟨b + 1, 0, none⟩) (by simp) _).drew)
          have HKO2 := hid (show KeepsFrom 0 W W2 by rw [hW2]; exact ⟨((KeepsOthers.setCell W ⟨b + 1, 0, none⟩ (.string ⟨(l.take t).toArray⟩)).from 0).size, ((KeepsOthers.setCell W ⟨b + 1, 0, none⟩ (.string ⟨(l.take t).toArray⟩)).from 0).same⟩)
          have HKB2 := hid (show ∀ k, KW (b + 1 + 1) k → W2.heap[k]? = W.heap[k]? from fun k hk => by
            rw [hW2]
            exact Below.heap_setCell _ _ _ _ (show k ≠ b + 1 by rcases hk with rfl | hk <;> omega))
          rw [← hW2]
          have cL2 := HBL2.out.cell
          have fL2 := HBL2.out.frozen
          clear hW2 cL fL cT fT cs cf ff
          obtain ⟨W3, hW3⟩ : ∃ W3, W3 = W2.setCell ⟨b, 0, none⟩ (.int .i64 t) := ⟨_, rfl⟩
          have HBL3 := hid (show Boxed W3 b 3 (.int .i64 t) by rw [hW3]; exact HBL2.out.set _)
          have HBT3 := hid (show Boxed W3 (b + 1) 9 (.string ⟨(l.take t).toArray⟩) by rw [hW3]; exact HBT2.out.other (B' := b) (by omega) _)
          have HS4 := hid (show Boxed W3 w.heap.size 9 (.string ⟨l.toArray⟩) by rw [hW3]; exact HS3.out.other (B' := b) (by omega) _)
          have HBB3 := hid (show Below b wr W3 by rw [hW3]; exact HBB2.out.setCell (p := ⟨b, 0, none⟩) (by simp) _)
          have HKO3 := hid (show KeepsFrom 0 W W3 by rw [hW3]; exact HKO2.out.trans ((KeepsOthers.setCell W2 ⟨b, 0, none⟩ (.int .i64 t)).from 0))
          have HKB3 := hid (show ∀ k, KW (b + 1 + 1) k → W3.heap[k]? = W.heap[k]? from fun k hk => by
            rw [hW3, ← HKB2.out k hk]
            exact Below.heap_setCell _ _ _ _ (show k ≠ b by rcases hk with rfl | hk <;> omega))
          have cs3 : (W2.setCell ⟨b, 0, none⟩ (.int .i64 t)).cell? ⟨w.heap.size, 0, none⟩ = some (.string ⟨l.toArray⟩) := by rw [← hW3]; exact HS4.out.cell
          have HT3 := hid (show TbW W3 from (HWA2.out.keeps HKO3.out.size HKB3.out).tb)
          clear HBL2 HBT2 HS3 HBB2 HKO2 HKB2
          gi_wp2_with fail
          rw [← hW3, ext_mid]
          obtain ⟨y, hy⟩ : ∃ y, y = (l.take t).drop f := ⟨_, rfl⟩
          have HY := hid hy
          have hyl : y.length ≤ 100 := by rw [hy, List.length_drop, List.length_take]; omega
          rw [← hy]
          rw [← hy] at HEN
          clear hy cs3 cL2 fL2 hW3
          refine ⟨trivial, (CallsIn.inRound lp (callsIn_wide.2 (last_any y W3 (by omega) HT3.out.tabs))).mono ?_⟩
          rintro e w4 ⟨rfl, be⟩
          have HB4 := hid be
          obtain ⟨q, hq⟩ : ∃ q : Int, q = ((decLast y).1 : Int) := ⟨_, rfl⟩
          obtain ⟨qn, hqn⟩ : ∃ qn : Nat, qn = (decLast y).2 := ⟨_, rfl⟩
          rw [← hq, ← hqn]
          obtain ⟨c, hc⟩ : ∃ c : Int, c = sncls q := ⟨_, rfl⟩
          have HCC := hid (show c = slast y by rw [hc, hq]; rfl)
          have cs4 := (boxed_below0 HS4.out HB4.out HS4.out.lt).cell
          clear be hq hqn
          gi_wp2_with fail
          refine ⟨trivial, (CallsIn.inRound lp (callsIn_wide.2 (sncls_any q w4))).mono ?_⟩
          rintro e w5 ⟨rfl, hw5⟩
          obtain rfl := hw5.symm
          clear hw5
          rw [← hc]
          clear hc
          have HFIN := hid (show ∀ w6, Below W3.heap.size W3 w6 → KeepsFrom Wb.heap.size W w6 ∧ KrW (KW (b + 1 + 1)) W w6 ∧ (((Boxed w6 b 3 (.int .i64 (pos l (lstF 0 (pre ++ [x])) : Nat)) ∧ Boxed w6 (b + 1) 9 (.string ⟨(l.take (pos l (lstF 0 (pre ++ [x])))).toArray⟩)) ∧ Below b wr w6) ∧ WaAt (b + 1 + 1) l w6) from fun w6 h6 => by
            have hk6 : KeepsFrom 0 W w6 := HKO3.out.trans ⟨h6.size, fun k o _ hk _ => (h6.block k (Array.getElem?_eq_some_iff.1 hk).1).trans hk⟩
            have hkb : ∀ k, KW (b + 1 + 1) k → w6.heap[k]? = W.heap[k]? := fun k hk => by
              have h1 := HKB3.out k hk
              have h2 := HWA2.out.lt k hk
              have h3 := HKO3.out.size
              exact (h6.block k (by omega)).trans h1
            rw [HSN.out, ← HTT.out]
            exact ⟨⟨hk6.size, fun k o _ hk hw => hk6.same k o (Nat.zero_le _) hk hw⟩, ⟨⟨hk6.size, fun k o hk hw => hk6.same k o (Nat.zero_le _) hk (Obj.not_cells_of_walk hw)⟩, hkb⟩, ⟨⟨boxed_below0 HBL3.out h6 HBL3.out.lt, boxed_below0 HBT3.out h6 HBT3.out.lt⟩, HBB3.out.trans (h6.mono (by have := HBB3.out.size; have := HBE.out; omega))⟩, HWA2.out.keeps hk6.size hkb⟩)
          by_cases htl2 : t < l.length
          · have m1 : (t : Int) < (l.length : Int) := by omega
            gi_wp2_with fail
            refine ⟨trivial, (CallsIn.inRound lp (callsIn_wide.2 (HKD.out w4 (HT3.out.below HB4.out)))).mono ?_⟩
            rintro e w6 ⟨rfl, be⟩
            have HB6 := hid (HB4.out.trans (be.mono HB4.out.size))
            obtain ⟨kv, hkv⟩ : ∃ kv, kv = kndR (((fw l).take x.1.2).drop x.1.1).reverse := ⟨_, rfl⟩
            rw [← hkv] at HEN
            rw [← hkv]
            clear be hkv
            by_cases hk0 : kv = 0
            · subst hk0
              have hcc : c = 1 ∨ c = 2 ∨ c = 3 := HEN.out (HTE.out htl2) c HCC.out rfl
              rcases hcc with rfl | rfl | rfl
              · gi_wp2
                exact HFIN.out w6 HB6.out
              · gi_wp2
                exact HFIN.out w6 HB6.out
              · gi_wp2
                exact HFIN.out w6 HB6.out
            · have bk0 : (kv == 0) = false := beq_eq_false_iff_ne.2 hk0
              gi_wp2
              exact HFIN.out w6 HB6.out
          · have m1 : ¬ (t : Int) < (l.length : Int) := by omega
            gi_wp2_with fail
            refine ⟨trivial, ?_⟩
            gi_wp2
            exact HFIN.out w4 HB4.out
        · have hne : ((f : Int) != (la : Int)) = true := bne_iff_ne.2 (by omega)
          gi_wp2
          exact ⟨(KeepsOthers.setCell _ _ _).from _, rfl, fun hp => he (by rw [HF.out, HPF.out hp, ← HLA.out])⟩
      case fin =>
        rintro D W hD ⟨⟨⟨bL, bT⟩, hB⟩, hWA⟩ hDK
        have e9 : pos l (lstF 0 L) = l.length := by rw [chn_end l L HL.out]; exact pos_all l _ (Nat.le_refl _)
        rw [e9, List.take_length] at bT
        have cT := bT.cell
        have cs := (show Boxed W w.heap.size 9 (.string ⟨l.toArray⟩) from (hB.block _ (by have := HBE.out; omega)).trans HCS.out).cell
        have HBF := hid (show Boxed W (w.heap.size + 1) 4 (.bool false) from (hB.block _ (by have := HBE.out; omega)).trans HFW.out)
        have HBX := hid (show Below w.heap.size w W from HBW.out.trans (hB.mono (by have := HBE.out; have := HBW.out.size; omega)))
        have HDK := hid hDK
        clear bL bT hB hWA hDK e9
        gi_wp2_with fail
        refine ⟨trivial, (callsIn_wide.2 (lives_sent W (tbs_below HW.out HBX.out))).mono ?_⟩
        rintro e w9 ⟨rfl, be⟩
        have HB9 := hid be
        have hbx := boxed_below0 HBF.out be HBF.out.lt
        have cF := hbx.cell
        have fF := hbx.frozen
        clear be
        gi_wp2
        have hDb : w.heap.size + 1 < D := by have := HWS.out; omega
        have hq1 : (w9.setCell ⟨w.heap.size + 1, 0, none⟩ (.bool true)).heap[D]? = some (.deferred (some [])) := (Below.heap_setCell _ _ _ _ (show D ≠ w.heap.size + 1 by omega)).trans ((HB9.out.block D (Array.getElem?_eq_some_iff.1 HDK.out).1).trans HDK.out)
        have hc5 := ((hbx.set (.bool true)).kept (grownBy_putObj' _ D (.deferred none)) (fun e => by cases e; omega)).cell
        have hbf : Below w.heap.size w ((w9.setCell ⟨w.heap.size + 1, 0, none⟩ (.bool true)).putObj D (.deferred none)) :=
          ((HBX.out.trans (HB9.out.mono HBX.out.size)).setCell (p := ⟨w.heap.size + 1, 0, none⟩) (by simp) _).trans (belowK_b (w := w) (Nat.le_refl _) _ D _ _ (by omega) hq1 rfl rfl)
        refine ⟨by simp, .inl ⟨_, _, rfl, run_takeDeferred hq1, ?_⟩⟩
        refine ⟨.bool true, ?_, rfl, hbf⟩
        simp [results, Tryd.f3, go_sem, hc5]
end Go.Proofs.YtckifhlhechdlaaDoor
