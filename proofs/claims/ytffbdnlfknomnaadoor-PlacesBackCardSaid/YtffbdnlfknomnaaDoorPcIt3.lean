/- The iterator of Each (package grapheme) as one that others may range over, and the iterator of lettersOf (package places), which does. -/
import Derived.Test.YtffbdnlfknomnaaDoorPcIt0
namespace Go.Proofs.YtffbdnlfknomnaaDoor.Wt
open Go.RowKit Go.Shelf
attribute [local go_sem] Oper.semAt_some

set_option maxHeartbeats 2000000 in
theorem geach_o (n : Nat) (hn : 1 ≤ n) (Bs : Nat) (l : List UInt8) (L : List (Pl l)) (hL : L.map Pl.v = gpF l 0) (w : World) (hR : WaAt Bs l w) (hl : l.length ≤ 1000000000) :
    SeqO Fence.wide n Tryd.prog 83 #[.pointer (some ⟨Bs, 0, none⟩)] encP Kt (fun xs => xs = L) (fun pre => pre <+: L) L.length w := fun lp J Jx W hbW hJ hJx hY h0 => by
  have HRW := hid (hR.below hbW)
  have hcW := HRW.out.bs.cell
  have HLL := hid hL
  clear hR hbW hL
  refine callsIn_of_wp Tryd.func83 rfl trivial ?_ rfl
  simp only [Tryd.ntmps83, List.size_toArray, List.length_cons, List.length_nil, Nat.reduceAdd, Nat.reduceSub, Array.replicate_succ, Array.replicate_zero, List.push_toArray, List.append_toArray, List.nil_append, List.cons_append]
  gi_wp2
  gi_loopw [3] (fun v wr => ∃ (p : Nat) (pre rest : List (Pl l)), v = .int .i64 p ∧ p ≤ l.length ∧ Hid (rest.map Pl.v = gpF l p) ∧ Hid (L = pre ++ rest) ∧ Hid (J pre wr) ∧ Hid (WaAt Bs l wr)) (fun v _ => l.length - (intOf v).toNat)
  case atStart => exact ⟨0, [], L, rfl, Nat.zero_le _, HLL, rfl, h0, HRW⟩
  case round =>
    obtain ⟨p, pre, rest, rfl, hp, HC, HP, HJ, HR⟩ := hrel
    clear hcW
    have hc := HR.out.bs.cell
    by_cases hlt : p < l.length
    · have hlti : (p : Int) < (l.length : Int) := by omega
      obtain ⟨hb1, hb2⟩ := gst l p hlt
      have HDN := hid (drop_ne l p hlt)
      have HDL := hid (show (l.drop p).length ≤ 1000000000 by rw [List.length_drop]; omega)
      obtain ⟨x, R, rfl⟩ : ∃ x R, rest = x :: R := by
        cases rest with
        | nil => have h1 := HC.out; rw [gp_step l p hlt] at h1; cases h1
        | cons x R => exact ⟨x, R, rfl⟩
      have hx := HC.out
      rw [gp_step l p hlt, List.map_cons] at hx
      have HX := hid (List.cons.inj hx).1
      have HRR := hid (List.cons.inj hx).2
      clear hx HC
      gi_wp2_with fail
      rw [ext_drop]
      refine ⟨trivial, (callsIn_wide.2 (gfirst_any (l.drop p) wr HR.out.tb HDL.out HDN.out)).mono ?_⟩
      rintro e w1 ⟨rfl, be1⟩
      have HJ1 := hid (hJ pre wr w1 none HJ.out (wgrown be1) (fun r e => by cases e))
      have HR1 := hid (HR.out.below be1)
      obtain ⟨q, hq⟩ : ∃ q, q = gfs (l.drop p) := ⟨_, rfl⟩
      rw [← hq] at hb1 hb2 HX HRR
      rw [← hq]
      clear be1 hq HJ HR hc
      have HP2 := hid (show L = (pre ++ [x]) ++ R by rw [HP.out, List.append_assoc]; rfl)
      obtain ⟨fn, tmps, assign, body, hy, hRR⟩ := hY pre x w1 HJ1.out (by rw [HP2.out]; simp)
      dsimp only [encP] at hy
      rw [HX.out] at hy
      simp only [Int.natCast_add] at hy
      clear hY
      gi_wp2
      refine hRR.mono ?_
      rintro e W3 ⟨_, (⟨rfl, hJ3, hk3⟩ | ⟨rfl, hJx3⟩)⟩
      · have HJ3 := hid hJ3
        have HR3 := hid (HR1.out.kt hk3)
        clear hJ3 hk3
        gi_wp2
        go_roundw
        case rel => exact ⟨p + q, pre ++ [x], R, by rw [Int.natCast_add], hb2, HRR, HP2, HJ3, HR3⟩
        case measure => simp [intOf]; omega
      · have HJX := hid hJx3
        clear hJx3
        gi_wp2
        refine bodyPost_ret (results_none rfl _ _ _) rfl ?_
        exact ⟨⟨_, rfl⟩, .inr ⟨pre ++ [x], ⟨R, by rw [HP2.out]⟩, HJX.out⟩⟩
    · have hlti : ¬ (p : Int) < (l.length : Int) := by omega
      have HE := hid (show L = pre by
        cases rest with
        | nil => rw [HP.out, List.append_nil]
        | cons x R => have h1 := HC.out; rw [gp_end l p hlt] at h1; cases h1)
      gi_wp2
      go_end0
      exact ⟨⟨_, rfl⟩, .inl (by rw [HE.out]; exact HJ.out)⟩
/-- At the wide fence a round's depth has no part. -/
theorem round_wide {m m' lp l : Nat} {f : FuncId} {tmps : Array Value} {assign body : Code} {w : World} {R : Ending → World → Prop} (h : RoundIn Fence.wide m Tryd.prog l f tmps assign body w R) : RoundIn (Fence.wide.inRound lp) m' Tryd.prog l f tmps assign body w R :=
  ⟨trivial, fun c cs _ => h.2 c cs (room_wide _)⟩
/-- The place where a letter begins. -/
def toPn {l : List UInt8} (x : Pl l) : Pn l := ⟨x.v.1, by have := x.lt; have := x.le; omega⟩
theorem pn_inj {l : List UInt8} : ∀ {A B : List (Pn l)}, A.map Pn.v = B.map Pn.v → A = B
  | [], [], _ => rfl
  | [], _ :: _, h => by cases h
  | _ :: _, [], h => by cases h
  | ⟨a, _⟩ :: A, ⟨b, _⟩ :: B, h => by
    obtain ⟨h1, h2⟩ := List.cons.inj h
    simp only [] at h1
    subst h1
    rw [pn_inj h2]
set_option maxHeartbeats 2000000 in
theorem letters_o : PlSeq 60 lettersL := fun n Bs l L w hn hL hR hl lp J Jx W hbW hJ hJx hY h0 => by
  have HRW := hid (hR.below hbW)
  have hcW := (HRW.out.bs.alloc (.cells #[.func (.yield lp) #[] #[]] 102)).cell
  have h2 := HRW.out.tb.two
  have hn1 : 1 ≤ n := by omega
  obtain ⟨M, hM, _⟩ := gp_all l _ 0 (Nat.le_refl _)
  have HM := hid hM
  have HL := hid (show L = M.map toPn from pn_inj (by
    rw [hL]
    unfold lettersL
    rw [← hM, List.map_map, List.map_map]
    rfl))
  clear hR hbW hL hM
  refine callsIn_of_wp_marks Tryd.func60 rfl trivial ?_ rfl
  simp only [Tryd.ntmps60, List.size_toArray, List.length_cons, List.length_nil, Nat.reduceAdd, Nat.reduceSub, Array.replicate_succ, Array.replicate_zero, List.push_toArray, List.append_toArray, List.nil_append, List.cons_append]
  gi_wp2_with fail
  refine ⟨trivial, (callsIn_wide.2 (geach_any l _)).mono ?_⟩
  rintro e w' ⟨rfl, rfl⟩
  have b2 := (Boxed.new W 102 (.func (.yield lp) #[] #[])).alloc (.cells #[.string ⟨l.toArray⟩] 9)
  have b3 := Boxed.new (W.alloc (.cells #[.func (.yield lp) #[] #[]] 102)) 9 (.string ⟨l.toArray⟩)
  have hB : Below W.heap.size W ((W.alloc (.cells #[.func (.yield lp) #[] #[]] 102)).alloc (.cells #[.string ⟨l.toArray⟩] 9)) := ((Below.refl _ _).alloc (Nat.le_refl _) _).alloc (by simp) _
  have hs : ((W.alloc (.cells #[.func (.yield lp) #[] #[]] 102)).alloc (.cells #[.string ⟨l.toArray⟩] 9)).heap.size = W.heap.size + 2 := by simp
  have hJ0 : J [] ((W.alloc (.cells #[.func (.yield lp) #[] #[]] 102)).alloc (.cells #[.string ⟨l.toArray⟩] 9)) := hJ [] W _ none h0 (wgrown hB) (fun r e => by cases e)
  rw [World.size_alloc] at b3 ⊢
  obtain ⟨w3, hw3⟩ : ∃ w3, w3 = (W.alloc (.cells #[.func (.yield lp) #[] #[]] 102)).alloc (.cells #[.string ⟨l.toArray⟩] 9) := ⟨_, rfl⟩
  rw [← hw3] at b2 b3 hB hs hJ0 ⊢
  clear hw3
  have HE := hid (show WaAt (W.heap.size + 1) l w3 from ⟨b3, HRW.out.tb.below hB⟩)
  gi_wp2
  refine rangeO rfl hn1 rfl trivial (enters_of Tryd.func83 (by kernel_rfl) rfl) (geach_o (n - 1) (by omega) (W.heap.size + 1) l M HM.out w3 HE.out (by omega)) Kt_t (Kt_b (by omega)) (Below.refl _ _) (fun _ => rfl)
    (fun pre V => (J (pre.map toPn) V ∧ WaAt (W.heap.size + 1) l V) ∧ Boxed V W.heap.size 102 (.func (.yield lp) #[] #[]))
    (fun c pre V => c = .ret ∧ Jx (pre.map toPn) V)
    (OwnFrom.and (OwnFrom.and (fun s A C row h hg hr => own_le hJ (by omega) (s.map toPn) A C row h hg hr) (waAt_from _ _ l (by omega))) (Own.from (boxed_own _ _ _) _))
    (fun c s A C row h hg hr => ⟨h.1, own_le hJx (by omega) (s.map toPn) A C row h.2 hg hr⟩)
    ⟨⟨hJ0, HE.out⟩, b2⟩
    (fun x a' _ => a' = { tmps := #[.func (.yield lp) #[] #[], .pointer (some ⟨Bs, 0, none⟩), .pointer (some ⟨W.heap.size, 0, none⟩), .int .i64 (x.v.1 : Nat), .string ⟨l.toArray⟩, .func (.func 83) #[] #[.pointer (some ⟨W.heap.size + 1, 0, none⟩)], .int .i64 (x.v.1 : Nat), .int .i64 (x.v.2 : Nat), undef, undef, undef, undef], defers := [] })
    (fun _ _ _ _ _ _ h _ _ => h) ?assign ?body ?done ?stop
  case assign =>
    intro lp2 pre x V K hI hK
    dsimp only [encP]
    gi_wp2
    exact hK _ _ (KeepsFrom.refl _ _) (Kt.refl _) hI rfl
  case body =>
    rintro lp2 pre x a' V hlp _ ⟨⟨hj, hwa⟩, hb⟩ rfl hlt
    have hc := hb.cell
    obtain ⟨fn, tmps, assign, body, hy, hRR⟩ := hY (pre.map toPn) (toPn x) V hj (by rw [HL.out, List.length_map, List.length_map]; exact hlt)
    dsimp only [encN, toPn] at hy
    have HWA := hid hwa
    have HBX := hid hb
    clear hY hwa hb hj
    gi_wp2
    refine ⟨fun _ => by omega, (round_wide hRR).mono ?_⟩
    rintro e V3 ⟨hkf, (⟨rfl, hJ3, hk3⟩ | ⟨rfl, hJx3⟩)⟩
    · have HQ := hid (show KeepsFrom w3.heap.size V V3 ∧ Kt V V3 ∧ (J ((pre ++ [x]).map toPn) V3 ∧ WaAt (W.heap.size + 1) l V3) ∧ Boxed V3 W.heap.size 102 (.func (.yield lp) #[] #[]) from
        ⟨keeps_le hkf (by omega), hk3, ⟨by rw [List.map_append]; exact hJ3, HWA.out.kt hk3⟩, hk3.cells _ _ _ _ HBX.out rfl⟩)
      clear hkf hJ3 hk3
      gi_wp2
      exact HQ.out
    · have HQ := hid (show KeepsFrom w3.heap.size V V3 ∧ Jx ((pre ++ [x]).map toPn) V3 from ⟨keeps_le hkf (by omega), by rw [List.map_append]; exact hJx3⟩)
      clear hkf hJx3
      gi_wp2
      exact ⟨HQ.out.1, rfl, HQ.out.2⟩
  case done =>
    rintro D xs V hD rfl ⟨⟨hj, _⟩, _⟩ hK
    gi_wp2
    refine ⟨by simp, .inl ⟨_, _, rfl, run_takeDeferred hK, ?_⟩⟩
    exact ⟨_, results_none rfl _ _ _, ⟨_, rfl⟩, .inl ⟨_, rfl, by rw [HL.out]; exact hJ.putObj _ hj (by omega) hK rfl⟩⟩
  case stop =>
    rintro D c pre V hD hp ⟨rfl, hj⟩ hK
    gi_wp2
    refine ⟨by simp, .inl ⟨_, _, rfl, run_takeDeferred hK, ?_⟩⟩
    exact ⟨_, results_none rfl _ _ _, ⟨_, rfl⟩, .inr ⟨pre.map toPn, by rw [HL.out]; exact hp.map toPn, hJx.putObj _ hj (by omega) hK rfl⟩⟩
end Go.Proofs.YtffbdnlfknomnaaDoor.Wt
