import Derived.ProofKit
import Derived.WalkKit
import Derived.WalkSpells
import Derived.WalkLawsBesides
import Derived.Deep.QuietTactic
import Derived.BigQuiet
import Derived.WalkSmall
import Derived.Test.YtljlhlcoaajggaaRows
namespace Go.Proofs.Ytljlhlcoaajggaa

/-- Those of a list that are unlike all ahead of them. -/
def uqF (u : List (List Nat)) : List (List Nat) → List (List Nat)
  | [] => u
  | b :: F => uqF (if b ∈ u then u else u ++ [b]) F
def uq (F : List (List Nat)) : List (List Nat) := uqF [] F
theorem uqF_app : ∀ (F G u : List (List Nat)), uqF u (F ++ G) = uqF (uqF u F) G
  | [], _, _ => rfl
  | b :: F, G, u => by
    show uqF _ (F ++ G) = uqF (uqF _ F) G
    exact uqF_app F G _
theorem uq_snoc (F : List (List Nat)) (b : List Nat) : uq (F ++ [b]) = if b ∈ uq F then uq F else uq F ++ [b] := by
  unfold uq; rw [uqF_app]; rfl
theorem mem_uqF : ∀ (F u : List (List Nat)) (b : List Nat), b ∈ uqF u F ↔ b ∈ u ∨ b ∈ F
  | [], u, b => by simp [uqF]
  | c :: F, u, b => by
    show b ∈ uqF _ F ↔ _
    rw [mem_uqF F _ b]
    by_cases h : c ∈ u
    · rw [if_pos h]
      constructor
      · rintro (h1 | h1)
        · exact .inl h1
        · exact .inr (by simp [h1])
      · rintro (h1 | h1)
        · exact .inl h1
        · rcases List.mem_cons.1 h1 with rfl | h2
          · exact .inl h
          · exact .inr h2
    · rw [if_neg h]
      simp only [List.mem_append, List.mem_cons, List.not_mem_nil, or_false, or_assoc]
theorem mem_uq (F : List (List Nat)) (b : List Nat) : b ∈ uq F ↔ b ∈ F := by unfold uq; rw [mem_uqF]; simp
theorem nodup_uqF : ∀ (F u : List (List Nat)), u.Nodup → (uqF u F).Nodup
  | [], _, h => h
  | c :: F, u, h => by
    show (uqF _ F).Nodup
    apply nodup_uqF
    by_cases hc : c ∈ u
    · rw [if_pos hc]; exact h
    · rw [if_neg hc, List.nodup_append]
      exact ⟨h, by simp, fun a ha b hb e => by simp at hb; subst hb; subst e; exact hc ha⟩
theorem nodup_uq (F : List (List Nat)) : (uq F).Nodup := nodup_uqF F [] (by simp)
/-- Which of them a block is. -/
def ix (F : List (List Nat)) (b : List Nat) : Nat := (uq F).idxOf b
theorem ix_lt {F : List (List Nat)} {b : List Nat} (h : b ∈ F) : ix F b < (uq F).length := List.idxOf_lt_length_iff.2 ((mem_uq F b).2 h)
theorem ix_get {F : List (List Nat)} {b : List Nat} (h : b ∈ F) : (uq F)[ix F b]? = some b := by
  have hl := ix_lt h
  rw [List.getElem?_eq_getElem hl]
  exact congrArg some (List.getElem_idxOf hl)
theorem ix_more {F : List (List Nat)} {b : List Nat} (c : List Nat) (h : b ∈ F) : ix (F ++ [c]) b = ix F b := by
  unfold ix
  rw [uq_snoc]
  split
  · rfl
  · rw [List.idxOf_append, if_pos ((mem_uq F b).2 h)]
theorem ix_new {F : List (List Nat)} {b : List Nat} (h : b ∉ F) : ix (F ++ [b]) b = (uq F).length ∧ uq (F ++ [b]) = uq F ++ [b] := by
  have h2 : b ∉ uq F := fun e => h ((mem_uq F b).1 e)
  have e : uq (F ++ [b]) = uq F ++ [b] := by rw [uq_snoc, if_neg h2]
  refine ⟨?_, e⟩
  unfold ix
  rw [e, List.idxOf_append, if_neg h2]
  simp
theorem ix_old {F : List (List Nat)} {b : List Nat} (h : b ∈ F) : ix (F ++ [b]) b = ix F b ∧ uq (F ++ [b]) = uq F := ⟨ix_more b h, by rw [uq_snoc, if_pos ((mem_uq F b).2 h)]⟩
/-- The numbers of all blocks. -/
def fst (F : List (List Nat)) : List Nat := F.map (ix F)
theorem fst_snoc (F : List (List Nat)) (b : List Nat) : fst (F ++ [b]) = fst F ++ [ix (F ++ [b]) b] := by
  unfold fst
  rw [List.map_append, List.map_cons, List.map_nil]
  congr 1
  exact List.map_congr_left fun c hc => ix_more b hc
/-- Blocks of numbers are told by their numbers and the unlike ones. -/
theorem fst_one {F G : List (List Nat)} (h1 : fst F = fst G) (h2 : uq F = uq G) : F = G := by
  have hl : F.length = G.length := by have := congrArg List.length h1; simpa [fst] using this
  apply List.ext_getElem hl
  intro i hi hj
  have e1 : (fst F)[i]? = (fst G)[i]? := by rw [h1]
  unfold fst at e1
  rw [List.getElem?_map, List.getElem?_map, List.getElem?_eq_getElem hi, List.getElem?_eq_getElem hj] at e1
  simp only [Option.map_some, Option.some.injEq] at e1
  have e2 := ix_get (F := F) (b := F[i]) (List.getElem_mem hi)
  have e3 := ix_get (F := G) (b := G[i]) (List.getElem_mem hj)
  rw [e1, h2, e3] at e2
  exact (Option.some.inj e2).symm
end Go.Proofs.Ytljlhlcoaajggaa
namespace Go.Proofs.Ytljlhlcoaajggaa

/-- A range of numbers with its class. -/
abbrev Tr := Nat × Nat × Nat
/-- A range behind others: it makes the last one longer, if that has its class. -/
def jn (l : List Tr) (g : Tr) : List Tr :=
  match l.getLast? with
  | some z => if z.2.2 = g.2.2 then l.dropLast ++ [(z.1, g.2.1, g.2.2)] else l ++ [g]
  | none => [g]
theorem jn_nil (g : Tr) : jn [] g = [g] := rfl
theorem jn_snoc (Q : List Tr) (z g : Tr) : jn (Q ++ [z]) g = if z.2.2 = g.2.2 then Q ++ [(z.1, g.2.1, g.2.2)] else Q ++ [z, g] := by
  have h : (Q ++ [z]).getLast? = some z := by simp
  unfold jn
  rw [h]
  dsimp only
  rw [List.dropLast_concat]
  split
  · rfl
  · simp
theorem jn_ne (l : List Tr) (g : Tr) : jn l g ≠ [] := by
  unfold jn
  split
  · split <;> simp
  · simp
theorem jn_two (o : List Tr) (x y z w c : Nat) : jn (jn o (x, y, c)) (w, z, c) = jn o (x, z, c) := by
  rcases List.eq_nil_or_concat o with rfl | ⟨Q, v, rfl⟩
  · rw [jn_nil, jn_nil]
    have := jn_snoc [] (x, y, c) (w, z, c)
    simpa using this
  · rw [List.concat_eq_append, jn_snoc, jn_snoc]
    dsimp only
    by_cases h : v.2.2 = c
    · rw [if_pos h, if_pos h, jn_snoc, if_pos rfl]
    · rw [if_neg h, if_neg h]
      have := jn_snoc (Q ++ [v]) (x, y, c) (w, z, c)
      rw [if_pos rfl] at this
      simpa using this
/-- Numbers one behind the other, put into ranges. -/
def rlA (b : Nat) : List Tr → List Nat → List Tr
  | o, [] => o
  | o, c :: C => rlA (b + 1) (jn o (b, b, c)) C
theorem rlA_app : ∀ (C D : List Nat) (b : Nat) (o : List Tr), rlA b o (C ++ D) = rlA (b + C.length) (rlA b o C) D
  | [], D, b, o => by simp [rlA]
  | c :: C, D, b, o => by
    show rlA (b + 1) (jn o (b, b, c)) (C ++ D) = _
    rw [rlA_app C D (b + 1), List.length_cons, show b + 1 + C.length = b + (C.length + 1) by omega]
    rfl
theorem rlA_snoc (C : List Nat) (c b : Nat) (o : List Tr) : rlA b o (C ++ [c]) = jn (rlA b o C) (b + C.length, b + C.length, c) := by
  rw [rlA_app]; rfl
def shf (b : Nat) (g : Tr) : Tr := (b + g.1, b + g.2.1, g.2.2)
theorem last_cls : ∀ (C : List Nat) (c : Nat), ∃ Q a, rlA 0 [] (C ++ [c]) = Q ++ [(a, C.length, c)] := fun C c => by
  rw [rlA_snoc, Nat.zero_add]
  rcases List.eq_nil_or_concat (rlA 0 [] C) with h | ⟨Q, z, h⟩
  · rw [h]; exact ⟨[], C.length, rfl⟩
  · rw [h, List.concat_eq_append, jn_snoc]
    split
    · exact ⟨Q, z.1, rfl⟩
    · exact ⟨Q ++ [z], C.length, by simp⟩
/-- A block's ranges, moved to where it lies, one by one: the same as its numbers one by one. -/
theorem rlA_parts : ∀ (n : Nat) (C : List Nat) (b : Nat) (o : List Tr), C.length = n → (rlA 0 [] C).foldl (fun o g => jn o (shf b g)) o = rlA b o C
  | 0, C, b, o, h => by
    have : C = [] := List.length_eq_zero_iff.1 h
    subst this
    rfl
  | n + 1, C, b, o, h => by
    rcases List.eq_nil_or_concat C with rfl | ⟨D, c, rfl⟩
    · simp at h
    · rw [List.concat_eq_append] at *
      have hl : D.length = n := by simp at h; exact h
      have ih := rlA_parts n D b o hl
      rw [rlA_snoc D c b, ← ih, rlA_snoc, Nat.zero_add]
      rcases List.eq_nil_or_concat (rlA 0 [] D) with h2 | ⟨Q, z, h2⟩
      · rw [h2, jn_nil]; rfl
      · rw [h2, List.concat_eq_append, jn_snoc]
        by_cases hc : z.2.2 = c
        · rw [if_pos hc, List.foldl_append, List.foldl_append]
          obtain ⟨z1, z2, z3⟩ := z
          dsimp only at hc
          subst hc
          show jn _ (b + z1, b + D.length, z3) = jn (jn _ (b + z1, b + z2, z3)) (b + D.length, b + D.length, z3)
          rw [jn_two]
        · rw [if_neg hc, show Q ++ [z, (D.length, D.length, c)] = (Q ++ [z]) ++ [(D.length, D.length, c)] by simp, List.foldl_append]
          rfl
end Go.Proofs.Ytljlhlcoaajggaa
namespace Go.Proofs.Ytljlhlcoaajggaa

theorem rlA_rep : ∀ (n b c : Nat) (o : List Tr), rlA b o (List.replicate (n + 1) c) = jn o (b, b + n, c)
  | 0, b, c, o => rfl
  | n + 1, b, c, o => by
    rw [List.replicate_succ']
    rw [rlA_snoc, rlA_rep n b c o, List.length_replicate, jn_two]
/-- Pieces: how many, and their class. -/
def pcs (ps : List (Nat × Nat)) : List Nat := ps.flatMap fun p => List.replicate p.1 p.2
def rlP (b : Nat) (o : List Tr) : List (Nat × Nat) → List Tr
  | [] => o
  | p :: ps => rlP (b + p.1) (if p.1 = 0 then o else jn o (b, b + (p.1 - 1), p.2)) ps
theorem rlA_pcs : ∀ (ps : List (Nat × Nat)) (b : Nat) (o : List Tr), rlA b o (pcs ps) = rlP b o ps
  | [], _, _ => rfl
  | p :: ps, b, o => by
    show rlA b o (List.replicate p.1 p.2 ++ pcs ps) = _
    rw [rlA_app, List.length_replicate, rlA_pcs ps]
    show _ = rlP (b + p.1) (if p.1 = 0 then o else jn o (b, b + (p.1 - 1), p.2)) ps
    by_cases h : p.1 = 0
    · rw [if_pos h, h]; rfl
    · rw [if_neg h]
      have e : p.1 = (p.1 - 1) + 1 := by omega
      rw [show List.replicate p.1 p.2 = List.replicate ((p.1 - 1) + 1) p.2 by rw [← e], rlA_rep]
/-- A list in pieces of 128. -/
def chk : Nat → List Nat → List (List Nat)
  | 0, _ => []
  | m + 1, C => C.take 128 :: chk m (C.drop 128)
def ok128 (F : List (List Nat)) : Prop := ∀ b ∈ F, b.length = 128
theorem flat_len : ∀ (F : List (List Nat)), ok128 F → F.flatten.length = 128 * F.length
  | [], _ => rfl
  | b :: F, h => by
    rw [List.flatten_cons, List.length_append, h b (by simp), flat_len F (fun c hc => h c (by simp [hc])), List.length_cons]
    omega
theorem chk_flat : ∀ (F : List (List Nat)), ok128 F → chk F.length F.flatten = F
  | [], _ => rfl
  | b :: F, h => by
    have hb := h b (by simp)
    show (b ++ F.flatten).take 128 :: chk F.length ((b ++ F.flatten).drop 128) = _
    rw [← hb, List.take_left, List.drop_left, chk_flat F (fun c hc => h c (by simp [hc]))]
theorem flat_one {F G : List (List Nat)} (hF : ok128 F) (hG : ok128 G) (h : F.flatten = G.flatten) : F = G := by
  have hl : F.length = G.length := by
    have h1 := flat_len F hF
    have h2 := flat_len G hG
    rw [h] at h1
    omega
  rw [← chk_flat F hF, ← chk_flat G hG, h, hl]
theorem flat_get : ∀ (F : List (List Nat)) (r : Nat), ok128 F → r < 128 * F.length → ∃ b, F[r / 128]? = some b ∧ b[r % 128]? = F.flatten[r]?
  | [], r, _, h => by simp at h
  | b :: F, r, h, hr => by
    have hb := h b (by simp)
    rw [List.flatten_cons]
    by_cases c : r < 128
    · refine ⟨b, ?_, ?_⟩
      · rw [Nat.div_eq_of_lt c]; rfl
      · rw [Nat.mod_eq_of_lt c, List.getElem?_append_left (by omega)]
    · have hr2 : r - 128 < 128 * F.length := by rw [List.length_cons] at hr; omega
      obtain ⟨d, h1, h2⟩ := flat_get F (r - 128) (fun c hc => h c (by simp [hc])) hr2
      refine ⟨d, ?_, ?_⟩
      · rw [show r / 128 = (r - 128) / 128 + 1 by omega]; exact h1
      · rw [show r % 128 = (r - 128) % 128 by omega, h2, List.getElem?_append_right (by omega), hb]
/-- A number more. -/
def stp (s : List (List Nat) × List Nat) (c : Nat) : List (List Nat) × List Nat := if s.2.length + 1 = 128 then (s.1 ++ [s.2 ++ [c]], []) else (s.1, s.2 ++ [c])
theorem stp_all (s : List (List Nat) × List Nat) (c : Nat) : (stp s c).1.flatten ++ (stp s c).2 = (s.1.flatten ++ s.2) ++ [c] := by
  unfold stp
  split
  · simp
  · simp
theorem stp_ok (s : List (List Nat) × List Nat) (c : Nat) (h : ok128 s.1) (h2 : s.2.length < 128) : ok128 (stp s c).1 ∧ (stp s c).2.length < 128 := by
  unfold stp
  split
  · rename_i h3
    refine ⟨fun b hb => ?_, by simp⟩
    rcases List.mem_append.1 hb with hb | hb
    · exact h b hb
    · simp at hb; subst hb; rw [List.length_append]; exact h3
  · rename_i h3
    refine ⟨h, ?_⟩
    show (s.2 ++ [c]).length < 128
    rw [List.length_append]
    simp
    omega
/-- How many of a class: the unlike blocks counted once. -/
theorem cnt_flat (c : Nat) : ∀ F : List (List Nat), F.flatten.count c = (F.map (List.count c)).sum
  | [] => rfl
  | b :: F => by rw [List.flatten_cons, List.count_append, cnt_flat c F]; rfl
theorem cnt_fst (c : Nat) (F : List (List Nat)) : ((fst F).map fun k => ((uq F)[k]?.getD []).count c).sum = F.flatten.count c := by
  rw [cnt_flat]
  unfold fst
  rw [List.map_map]
  congr 1
  apply List.map_congr_left
  intro b hb
  show ((uq F)[ix F b]?.getD []).count c = _
  rw [ix_get hb]; rfl
/-- A number's bytes. -/
def vnF : Nat → Nat → List Nat
  | 0, _ => []
  | f + 1, n => if 128 ≤ n then (n % 128 + 128) :: vnF f (n / 128) else [n]
def vn (n : Nat) : List Nat := vnF (n + 1) n
theorem vnF_any : ∀ (f g n : Nat), n < f → n < g → vnF f n = vnF g n
  | 0, _, n, h, _ => by omega
  | _ + 1, 0, n, _, h => by omega
  | f + 1, g + 1, n, h1, h2 => by
    unfold vnF
    split
    · rw [vnF_any f g (n / 128) (by omega) (by omega)]
    · rfl
theorem vn_more (n : Nat) (h : 128 ≤ n) : vn n = (n % 128 + 128) :: vn (n / 128) := by
  unfold vn
  conv => lhs; unfold vnF
  rw [if_pos h, vnF_any n (n / 128 + 1) (n / 128) (by omega) (by omega)]
theorem vn_last (n : Nat) (h : ¬ 128 ≤ n) : vn n = [n] := by
  unfold vn vnF
  rw [if_neg h]
end Go.Proofs.Ytljlhlcoaajggaa
/- Lists of ranges with classes in memory; the contracts of isClass and apart (package table). -/
namespace Go.Proofs.Ytljlhlcoaajggaa
open Go.RowKit

theorem hid {p : Prop} (h : p) : Hid p := h
theorem add_blk (a : Addr) (k : Nat) : (a.add k).block = a.block := by unfold Addr.add; split <;> rfl
/-- A range and its class. -/
abbrev Rk := Int × Int × Int
/-- A slice of ranges, nil or not, reads as a list. -/
def RdK (w : World) (ao : Option Addr) (l : List Rk) : Prop :=
  ∀ (k : Nat) (g : Rk), l[k]? = some g → ∃ a : Addr, ao = some a ∧ a.block < w.heap.size ∧ w.cell? (a.add (k * 3)) = some (.int .i32 g.1) ∧ w.cell? ⟨(a.add (k * 3)).block, (a.add (k * 3)).off + 1, none⟩ = some (.int .i32 g.2.1) ∧ w.cell? ⟨(a.add (k * 3)).block, (a.add (k * 3)).off + 2, none⟩ = some (.int .i64 g.2.2)
theorem RdK.below {w w' : World} {ao : Option Addr} {l : List Rk} (h : RdK w ao l) (hb : Below w.heap.size w w') : RdK w' ao l := fun k g hk => by
  obtain ⟨a, h1, h2, h3, h4, h5⟩ := h k g hk
  exact ⟨a, h1, Nat.lt_of_lt_of_le h2 hb.size, (hb.cell (p := a.add (k * 3)) (by rw [add_blk]; exact h2)).trans h3, (hb.cell (p := ⟨(a.add (k * 3)).block, (a.add (k * 3)).off + 1, none⟩) (show (a.add (k * 3)).block < _ by rw [add_blk]; exact h2)).trans h4, (hb.cell (p := ⟨(a.add (k * 3)).block, (a.add (k * 3)).off + 2, none⟩) (show (a.add (k * 3)).block < _ by rw [add_blk]; exact h2)).trans h5⟩
def rkc (g : Rk) : List Value := [.int .i32 g.1, .int .i32 g.2.1, .int .i64 g.2.2]
def rkv (g : Rk) : Value := .agg #[.int .i32 g.1, .int .i32 g.2.1, .int .i64 g.2.2]

/-- Whether a number is a class. -/
def icl (n : Int) : Bool := decide (0 ≤ n ∧ n ≤ 255)
theorem isClass_any (n : Int) (w : World) :
    Calls Try.prog 35 #[.int .i64 n] w fun e w' => e = .returned (.bool (icl n)) ∧ w' = w := by
  by_cases h0 : 0 ≤ n
  · by_cases h1 : n ≤ 255
    · have HZ := hid (show icl n = true from decide_eq_true (show 0 ≤ n ∧ n ≤ 255 from ⟨h0, h1⟩))
      go_enter Try.func35, Try.ntmps35
      go_wp2
      go_ret
      exact ⟨by rw [HZ.out]; rfl, rfl⟩
    · have HZ := hid (show icl n = false from decide_eq_false (show ¬ (0 ≤ n ∧ n ≤ 255) from fun h => h1 h.2))
      go_enter Try.func35, Try.ntmps35
      go_wp2
      go_ret
      exact ⟨by rw [HZ.out]; rfl, rfl⟩
  · have HZ := hid (show icl n = false from decide_eq_false (show ¬ (0 ≤ n ∧ n ≤ 255) from fun h => h0 h.1))
    go_enter Try.func35, Try.ntmps35
    go_wp2
    go_ret
    exact ⟨by rw [HZ.out]; rfl, rfl⟩

/-- On which side of b a lies. -/
def apt (a b : Rk) : Int := if a.2.1 < b.1 then -1 else if b.2.1 < a.1 then 1 else 0
theorem apart_any (a b : Rk) (w : World) :
    Calls Try.prog 37 #[rkv a, rkv b] w fun e w' => e = .returned (.int .i64 (apt a b)) ∧ Below w.heap.size w w' := by
  obtain ⟨a0, a1, a2⟩ := a
  obtain ⟨b0, b1, b2⟩ := b
  unfold rkv
  by_cases h1 : a1 < b0
  · have HZ := hid (show apt (a0, a1, a2) (b0, b1, b2) = -1 from if_pos h1)
    go_enter Try.func37, Try.ntmps37
    go_wp2
    go_ret
    exact ⟨by rw [HZ.out]; rfl, ((Below.refl _ _).alloc (Nat.le_refl _) _).alloc (by simp) _⟩
  · by_cases h2 : b1 < a0
    · have HZ := hid (show apt (a0, a1, a2) (b0, b1, b2) = 1 from (if_neg h1).trans (if_pos h2))
      go_enter Try.func37, Try.ntmps37
      go_wp2
      go_ret
      exact ⟨by rw [HZ.out]; rfl, ((Below.refl _ _).alloc (Nat.le_refl _) _).alloc (by simp) _⟩
    · have HZ := hid (show apt (a0, a1, a2) (b0, b1, b2) = 0 from (if_neg h1).trans (if_neg h2))
      go_enter Try.func37, Try.ntmps37
      go_wp2
      go_ret
      exact ⟨by rw [HZ.out]; rfl, ((Below.refl _ _).alloc (Nat.le_refl _) _).alloc (by simp) _⟩
end Go.Proofs.Ytljlhlcoaajggaa
