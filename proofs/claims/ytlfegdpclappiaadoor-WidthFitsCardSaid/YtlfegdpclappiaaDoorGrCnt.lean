/- The contract of Count (package grapheme). -/
import Derived.Test.YtlfegdpclappiaaDoorGrLaw
namespace Go.Proofs.YtlfegdpclappiaaDoor
open Go.RowKit Go.Shelf
attribute [local go_sem] Oper.semAt_some

/-- How many letters a text has. -/
def gcnt (l : List UInt8) : Nat := (pcl gc (rl l)).length
theorem gp_cnt {l : List UInt8} {L : List (Pl l)} (h : L.map Pl.v = gpF l 0) : L.length = gcnt l := by
  have := congrArg List.length h
  rw [List.length_map] at this
  rw [this]
  unfold gpF gcnt
  rw [plc_len]; rfl
theorem gcnt_le (l : List UInt8) : gcnt l ≤ l.length := by
  obtain ⟨L, hL, hLl⟩ := gp_all l _ 0 (Nat.le_refl _)
  rw [← gp_cnt hL]
  omega
set_option maxHeartbeats 2000000 in
theorem gcount_in (l : List UInt8) (w : World) (ht : TbW w) (hl : l.length ≤ 100000000) :
    CallsIn Fence.wide 3 Tryd.prog 8 #[.string ⟨l.toArray⟩] w fun e W' => e = .returned (.int .i64 (gcnt l)) ∧ Below w.heap.size w W' := by
  have HT := hid ht
  clear ht
  obtain ⟨L, hL, hLl⟩ := gp_all l _ 0 (Nat.le_refl _)
  have HL := hid hL
  have HC := hid (gp_cnt hL)
  have hll : L.length ≤ 100000000 := by omega
  clear hL hLl
  refine callsIn_of_wp_marks Tryd.func8 rfl trivial ?_ rfl
  simp only [Tryd.ntmps8, List.size_toArray, List.length_cons, List.length_nil, Nat.reduceAdd, Nat.reduceSub, Array.replicate_succ, Array.replicate_zero, List.push_toArray, List.append_toArray, List.nil_append, List.cons_append]
  gi_wp2_with (refine ⟨trivial, ?_⟩; gi_at_call 23; refine (callsIn_wide.2 (geach_any l _)).mono ?_; rintro e w' ⟨rfl, rfl⟩)
  have bC := (Boxed.new w 3 (.int .i64 0)).alloc (.cells #[.string ⟨l.toArray⟩] 9)
  have bS := Boxed.new (w.alloc (.cells #[.int .i64 0] 3)) 9 (.string ⟨l.toArray⟩)
  rw [World.size_alloc] at bS
  have hB0 : Below w.heap.size w ((w.alloc (.cells #[.int .i64 0] 3)).alloc (.cells #[.string ⟨l.toArray⟩] 9)) := ((Below.refl _ _).alloc (Nat.le_refl _) _).alloc (by simp) _
  have hEa : WaAt (w.heap.size + 1) l ((w.alloc (.cells #[.int .i64 0] 3)).alloc (.cells #[.string ⟨l.toArray⟩] 9)) := ⟨bS, HT.out.below hB0⟩
  have h2 := HT.out.two
  refine rfE (w.heap.size + 1) (fun k => k = w.heap.size) L (by omega) rfl HL.out hEa (by omega) rfl (fun k hk => by rw [hk]; rintro (h | h) <;> omega)
    (fun pre W => Boxed W w.heap.size 3 (.int .i64 (pre.length : Nat))) (fun _ _ _ => False) (Own.from (boxed_own _ _ (fun pre : List (Pl l) => Value.int .i64 (pre.length : Nat))) _) (fun _ _ _ _ _ hs _ _ => hs) bC
    (fun x => { tmps := #[.string ⟨l.toArray⟩, undef, .int .i64 0, .pointer (some ⟨w.heap.size, 0, none⟩), .string ⟨l.toArray⟩, .func (.func 51) #[] #[.pointer (some ⟨w.heap.size + 1, 0, none⟩)], .int .i64 (x.v.1 : Nat), .int .i64 (x.v.2 : Nat), undef, undef, undef], defers := [] }) ?assign ?body ?done ?stop
  case assign =>
    intro lp x W K hK
    dsimp only [encP]
    gi_wp2
    simpa using hK
  case body =>
    intro lp pre x W hv hb he hlt
    have hc := hv.cell
    have hf := hv.frozen
    gi_wp2
    refine ⟨BS.set W _ _ rfl, ?_⟩
    have := hv.set (.int .i64 ((pre.length : Int) + 1))
    show Boxed _ _ _ _
    rw [List.length_append]
    exact this
  case done =>
    intro D W hD hv hb hK
    have hc := hv.cell
    gi_wp2
    refine ⟨by simp, .inl ⟨_, _, rfl, run_takeDeferred hK, ?_⟩⟩
    refine ⟨_, results_tmp rfl _ _ _, by rw [← HC.out]; rfl, ?_⟩
    exact (hB0.trans (hb.lower w.heap.size (fun k hk => by omega) (by simp; omega))).trans (belowK_b (w := w) (Nat.le_refl _) W D _ _ (by simp at hD; omega) hK rfl rfl)
  case stop =>
    rintro D c pre W _ _ h _
    exact h.elim
theorem gcount_any (l : List UInt8) (w : World) (ht : TbW w) (hl : l.length ≤ 100000000) :
    Calls Tryd.prog 8 #[.string ⟨l.toArray⟩] w fun e W' => e = .returned (.int .i64 (gcnt l)) ∧ Below w.heap.size w W' := callsIn_wide.1 (gcount_in l w ht hl)
end Go.Proofs.YtlfegdpclappiaaDoor
