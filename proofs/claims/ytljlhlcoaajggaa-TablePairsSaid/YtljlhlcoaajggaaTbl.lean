/- A table in memory; the contract of Get (package table) at a rune. -/
import Derived.Test.YtljlhlcoaajggaaMade
namespace Go.Proofs.Ytljlhlcoaajggaa
open Go.RowKit Go.Maps Go.WideMaps

/-- The table of these blocks lies at T. -/
def TbAt (B T : Nat) (F : List (List Nat)) (rest : Nat) (w : World) : Prop :=
  ∃ g cap, w.heap[T]? = some (.cells (tbc (fst F) (.slice (some ⟨g, 0, none⟩) (uq F).length cap) rest).toArray 79 (0, 0)) ∧ w.ownsRow B 82 128 (.slice (some ⟨g, 0, none⟩) (uq F).length cap) (uq F).length ((uq F).flatMap u8n) ∧
    ok128 F ∧ (∀ x ∈ F, ok256 x) ∧ F.length = 8704
theorem tb_of_mk {B M T K rest : Nat} {C : List Nat} {bv : Value} {w : World} (h : MkD B M T K rest C bv w) (hC : C.length = 1114112) : ∃ F, F.flatten = C ∧ TbAt B T F rest w := by
  obtain ⟨F, p, op, h1, h2, h3⟩ := h
  have hl := congrArg List.length h2
  rw [List.length_append, flat_len F h1.a, hC] at hl
  have he := h1.e
  have hd := h1.d
  have hF : F.length = 8704 := by omega
  have hp : p = [] := List.length_eq_zero_iff.1 (by omega)
  subst hp
  rw [List.append_nil] at h2
  refine ⟨F, h2.symm, ?_⟩
  have hfs : fsO F = fst F := by unfold fsO; rw [hF]; simp
  have hr := h3.hR
  rcases hr.2 with ⟨h5, h6⟩ | ⟨g, cap, cur, h5, _⟩
  · exfalso
    have h7 : uq F = [] := List.length_eq_zero_iff.1 h6
    cases F with
    | nil => simp at hF
    | cons b F' =>
      have h8 := (mem_uq (b :: F') b).2 (by simp)
      rw [h7] at h8
      cases h8
  · subst h5
    exact ⟨g, cap, by rw [← hfs]; exact h3.hT, hr, h1.a, h1.b, hF⟩
theorem flat_u8 (U : List (List Nat)) : U.flatMap u8n = u8n U.flatten := by
  induction U with
  | nil => rfl
  | cons b U ih => rw [List.flatMap_cons, ih, List.flatten_cons, u8n_app]
theorem uq_ok {F : List (List Nat)} (h : ok128 F) : ok128 (uq F) := fun b hb => h b ((mem_uq F b).1 hb)
/-- Where a number's class lies. -/
theorem tb_cell {F : List (List Nat)} (h : ok128 F) (hF : F.length = 8704) (R : Nat) (hR : R < 1114112) :
    ∃ k c, (fst F)[R / 128]? = some k ∧ k < (uq F).length ∧ F.flatten[R]? = some c ∧ ((uq F).flatMap u8n)[k * 128 + R % 128]? = some (.int .u8 (c : Int)) := by
  obtain ⟨b, h1, h2⟩ := flat_get F R h (by omega)
  have hb : b ∈ F := List.mem_of_getElem? h1
  have hbl := h b hb
  have hs : R % 128 < b.length := by omega
  refine ⟨ix F b, b[R % 128], ?_, ix_lt hb, ?_, ?_⟩
  · unfold fst
    rw [List.getElem?_map, h1]
    rfl
  · rw [← h2, List.getElem?_eq_getElem hs]
  · rw [flat_u8]
    have hk := ix_lt hb
    obtain ⟨d, h3, h4⟩ := flat_get (uq F) (ix F b * 128 + R % 128) (uq_ok h) (by omega)
    rw [show (ix F b * 128 + R % 128) / 128 = ix F b by omega, ix_get hb] at h3
    cases h3
    rw [show (ix F b * 128 + R % 128) % 128 = R % 128 by omega, List.getElem?_eq_getElem hs] at h4
    unfold u8n
    rw [List.getElem?_map, ← h4]
    rfl

set_option maxRecDepth 100000 in
set_option maxHeartbeats 1000000 in
theorem get_any (B T rest : Nat) (F : List (List Nat)) (R : Nat) (w : World) (h : TbAt B T F rest w) (hR : R < 1114112) :
    Calls Try.prog 34 #[.pointer (some ⟨T, 0, none⟩), .int .i32 (R : Int)] w fun e w' => e = .returned (.int .i64 ((F.flatten.getD R 0 : Nat) : Int)) ∧ ∃ n, w' = w.drewN n := by
  obtain ⟨g, cap, hT, hr, ho, h8, hF⟩ := h
  obtain ⟨k, c, hk, hkl, hc, hcc⟩ := tb_cell ho hF R hR
  obtain ⟨s, hs⟩ : ∃ s, s = R % 128 := ⟨_, rfl⟩
  obtain ⟨q, hq⟩ : ∃ q, q = R / 128 := ⟨_, rfl⟩
  have hs1 : s < 128 := by omega
  have hq1 : q < 8704 := by omega
  have e1 : (R : Int).tdiv 128 = (q : Int) := by rw [Int.tdiv_eq_ediv_of_nonneg (by omega)]; omega
  have e2 : (R : Int).tmod 128 = (s : Int) := by rw [Int.tmod_eq_emod_of_nonneg (by omega)]; omega
  have e3 : IntKind.i32.wrap (q : Int) = (q : Int) := by rw [IntKind.wrap_i32]; omega
  rw [← hs] at hcc
  rw [← hq] at hk
  have hg : F.flatten.getD R 0 = c := by rw [List.getD, hc]; rfl
  rw [hg]
  have hu8 : c < 256 := by
    have h9 := List.mem_of_getElem? hc
    obtain ⟨b, hb, hcb⟩ := List.mem_flatten.1 h9
    exact h8 b hb c hcb
  have e4 : IntKind.i64.wrap (c : Int) = (c : Int) := by rw [IntKind.wrap_i64]; omega
  have n1 : ¬ (R : Int) < 0 := by omega
  have n2 : ¬ (1114111 : Int) < (R : Int) := by omega
  have p0 : (0 : Int) ≤ (q : Int) := by omega
  have p1 : (q : Int) < 8704 := by omega
  have p2 : (0 : Int) ≤ (s : Int) := by omega
  have p3 : (s : Int) < 128 := by omega
  obtain ⟨L, hL⟩ : ∃ L, L = (uq F).length := ⟨_, rfl⟩
  rw [← hL] at hr hT hkl
  have p4 : (0 : Int) ≤ (k : Int) := by omega
  have p5 : (k : Int) < (L : Int) := by omega
  have d1 : w.cell? ⟨T, 8704, none⟩ = some (.slice (some ⟨g, 0, none⟩) L cap) := tb_row hT (by rw [fst_len]; exact hF)
  have d2 : w.cell? ⟨T, q, none⟩ = some (.int .u16 (k : Int)) := cell_row w T q _ 79 _ hT (by
    unfold tbc u16n
    have hql : q < (fst F).length := by rw [fst_len, hF]; exact hq1
    rw [List.getElem?_append_left (by rw [List.length_map]; exact hql), List.getElem?_map, hk]
    rfl)
  have d3 : w.cell? ⟨g, k * 128 + s, none⟩ = some (.int .u8 (c : Int)) := by rw [hr.cellAt (k * 128 + s) (by omega)]; exact hcc
  clear hs hq hk hc hcc hg hL hr hT ho h8 hF
  go_enter Try.func34, Try.ntmps34
  go_wp2
  go_quiet (fail)
  go_wp2
  go_ret
  exact ⟨rfl, nq, rfl⟩
end Go.Proofs.Ytljlhlcoaajggaa
