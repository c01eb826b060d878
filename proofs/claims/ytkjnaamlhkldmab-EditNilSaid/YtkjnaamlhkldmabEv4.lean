import Derived.Test.YtkjnaamlhkldmabEv3
namespace Go.Proofs.Ytkjnaamlhkldmab
namespace Ev
variable {P : Program} {μ : Mu} {A : AW} {w : World}

def aField (P : Program) (s : TypeId) (f : Nat) : Value → Option Value
  | .pointer (some a) => match P.underlying s with
    | some (.struct fields) => match fields[f]? with
      | some fd => match P.info? fd.type with
        | some i => if i.size = 0 then none else some (.pointer (some (a.add fd.offset)))
        | none => none
      | none => none
    | _ => none
  | _ => none
theorem aField_ok {s : TypeId} {f : Nat} {p p' v : Value} (hp : VR μ p p') (h : aField P s f p = some v) : ∃ v', (Instr.fieldAt s p' f).run P w = .ok v' w ∧ VR μ v v' := by
  unfold aField at h
  split at h
  · rename_i a
    simp only [VR] at hp
    obtain ⟨a', rfl, ha⟩ := hp
    split at h
    · rename_i fields hd
      split at h
      · rename_i fd hf
        split at h
        · rename_i i hi
          split at h
          · cases h
          · rename_i hz
            cases h
            refine ⟨.pointer (some (a'.add fd.offset)), ?_, ?_⟩
            · simp [Instr.fieldAt, rU hd, hf, Instr.sureAddr, fieldPlace, rS hi, hz]
            · simp only [VR]; exact ⟨_, rfl, ha.add _⟩
        · cases h
      · cases h
    · cases h
  · cases h
theorem SR.addr {a a' : Addr} {n c c' : Nat} (h : SR μ a n c a' c') (hn : 0 < n) : AR μ a a' := by
  rcases h with ⟨_, _, h⟩ | ⟨_, ⟨h, _⟩ | ⟨h1, _, l, h2, h3, _⟩⟩
  · exact h
  · omega
  · exact ⟨h1, l, h2, h3⟩
def aIndex (P : Program) (t : TypeId) (x : Value) : Value → Option Value
  | .int _ i => match P.underlying t, x with
    | some (.slice elem), .slice (some a) len _ => match P.info? elem with
      | some ii => if 0 ≤ i ∧ i < len then some (.pointer (some (a.add (i.toNat * ii.size)))) else none
      | none => none
    | some (.array len elem), .pointer (some a) => match P.info? elem with
      | some ii => if 0 ≤ i ∧ i < len then some (.pointer (some (a.add (i.toNat * ii.size)))) else none
      | none => none
    | _, _ => none
  | _ => none
theorem aIndex_ok {t : TypeId} {x x' ix ix' v : Value} (hx : VR μ x x') (hi : VR μ ix ix') (h : aIndex P t x ix = some v) : ∃ v', (Instr.indexAt t x' ix').run P w = .ok v' w ∧ VR μ v v' := by
  unfold aIndex at h
  split at h
  · rename_i k i
    simp only [VR] at hi
    subst hi
    split at h
    · rename_i elem a len c hd
      simp only [VR] at hx
      obtain ⟨a', c', rfl, hs⟩ := hx
      split at h
      · rename_i ii hii
        split at h
        · rename_i hc
          cases h
          have ha := hs.addr (by omega)
          refine ⟨.pointer (some (a'.add (i.toNat * ii.size))), ?_, ?_⟩
          · simp [Instr.indexAt, asIntOf, rU hd, rS hii, hc]
          · simp only [VR]; exact ⟨_, rfl, ha.add _⟩
        · cases h
      · cases h
    · rename_i len elem a hd
      simp only [VR] at hx
      obtain ⟨a', rfl, ha⟩ := hx
      split at h
      · rename_i ii hii
        split at h
        · rename_i hc
          cases h
          refine ⟨.pointer (some (a'.add (i.toNat * ii.size))), ?_, ?_⟩
          · simp [Instr.indexAt, asIntOf, rU hd, rS hii, hc, Instr.sureAddr]
          · simp only [VR]; exact ⟨_, rfl, ha.add _⟩
        · cases h
      · cases h
    · cases h
  · cases h
/-! slices -/
def bnd : Option Value → Nat → Nat → Option Nat
  | none, d, _ => some d
  | some (.int _ i), _, top => if 0 ≤ i ∧ i ≤ top then some i.toNat else none
  | _, _, _ => none
def OVR (μ : Mu) : Option Value → Option Value → Prop
  | none, y => y = none
  | some x, y => ∃ x', y = some x' ∧ VR μ x x'
theorem bnd_ok {x x' : Option Value} {d top n : Nat} (hx : OVR μ x x') (h : bnd x d top = some n) : (x = none ∧ x' = none ∧ n = d) ∨ (∃ k i, x' = some (.int k i) ∧ 0 ≤ i ∧ i ≤ top ∧ n = i.toNat ∧ x.isSome = true) := by
  unfold bnd at h
  split at h
  · cases h
    simp only [OVR] at hx
    exact .inl ⟨rfl, hx, rfl⟩
  · simp only [OVR, VR] at hx
    obtain ⟨_, rfl, rfl⟩ := hx
    split at h
    · rename_i hc; cases h; exact .inr ⟨_, _, rfl, hc.1, hc.2, rfl, rfl⟩
    · cases h
  · cases h
theorem run_bounds {sl : Bool} {len cap : Nat} {lo lo' hi hi' : Option Value} {l h top : Nat} (hlo : OVR μ lo lo') (hhi : OVR μ hi hi') (h1 : bnd hi len top = some h) (h2 : bnd lo 0 h = some l) (ht : top ≤ cap) :
    (Instr.sliceBounds sl len cap lo' hi' none).run P w = .ok (l, h, cap) w := by
  rcases bnd_ok hhi h1 with ⟨_, rfl, rfl⟩ | ⟨k, i, rfl, h3, h4, rfl, _⟩
  · rcases bnd_ok hlo h2 with ⟨_, rfl, rfl⟩ | ⟨k, i, rfl, h3, h4, rfl, _⟩
    · simp [Instr.sliceBounds]
    · have : 0 ≤ i ∧ i ≤ (h : Int) := ⟨h3, h4⟩
      simp [Instr.sliceBounds, Instr.sliceBound, asIntOf, this]
  · have h5 : 0 ≤ i ∧ i ≤ (cap : Int) := ⟨h3, by omega⟩
    rcases bnd_ok hlo h2 with ⟨_, rfl, rfl⟩ | ⟨k', i', rfl, h6, h7, rfl, _⟩
    · simp [Instr.sliceBounds, Instr.sliceBound, asIntOf, h5]
    · have h8 : 0 ≤ i' ∧ i' ≤ (i.toNat : Int) := ⟨h6, h7⟩
      have h9 : i' ≤ i := by omega
      have h10 : 0 ≤ i' ∧ i' ≤ max i 0 := ⟨h6, by omega⟩
      simp [Instr.sliceBounds, Instr.sliceBound, asIntOf, h5, h8, h10]
noncomputable def aSlice (P : Program) (A : AW) (t : TypeId) (lo hi : Option Value) : Value → Option Value
  | .slice none len cap => match P.underlying t with
    | some (.slice elem) => match P.info? elem, bnd hi len cap with
      | some _, some h => match bnd lo 0 h with
        | some l => some (.slice none (h - l) (cap - l))
        | none => none
      | _, _ => none
    | _ => none
  | .slice (some a) len cap => match P.underlying t with
    | some (.slice elem) => match P.info? elem with
      | some ii =>
        if cap = unk then
          match A.get a.block, bnd hi len len with
          | some (.cells _ _ _ _ es), some h => match bnd lo 0 h with
            | some l => if es = ii.size ∧ a.spot = none then some (.slice (some (a.add (l * ii.size))) (h - l) unk) else none
            | none => none
          | _, _ => none
        else if cap < unk then
          match bnd hi len cap with
          | some h => match bnd lo 0 h with
            | some l => some (.slice (some (if cap = l then a else a.add (l * ii.size))) (h - l) (cap - l))
            | none => none
          | none => none
        else none
      | none => none
    | _ => none
  | .pointer (some a) => match P.underlying t with
    | some (.array n elem) => match P.info? elem, bnd hi n n with
      | some ii, some h => if n < unk then match bnd lo 0 h with
        | some l => some (.slice (some (if n = l then a else a.add (l * ii.size))) (h - l) (n - l))
        | none => none
        else none
      | _, _ => none
    | _ => none
  | _ => none
theorem bnd_le {x : Option Value} {d top n : Nat} (h : bnd x d top = some n) (hd : d ≤ top) : n ≤ top := by
  unfold bnd at h
  split at h
  · cases h; exact hd
  · split at h
    · cases h; omega
    · cases h
  · cases h
theorem aSlice_ok {t : TypeId} {lo lo' hi hi' : Option Value} {x x' v : Value} (W : WR μ A w) (hx : VR μ x x') (hlo : OVR μ lo lo') (hhi : OVR μ hi hi')  (h : aSlice P A t lo hi x = some v) : ∃ v', (Instr.sliceAt t x' lo' hi' none).run P w = .ok v' w ∧ VR μ v v' := by
  unfold aSlice at h
  split at h
  · rename_i len cap
    simp only [VR] at hx; subst hx
    split at h
    · rename_i elem hd
      split at h
      · rename_i i h0 hi1 hb
        split at h
        · rename_i l hl
          cases h
          refine ⟨.slice none (h0 - l) (cap - l), ?_, by simp [VR]⟩
          simp [Instr.sliceAt, Instr.slice, rU hd, rS hi1, run_bounds (sl := true) hlo hhi hb hl (Nat.le_refl _)]
        · cases h
      · cases h
    · cases h
  · rename_i a len cap
    simp only [VR] at hx
    obtain ⟨a', c', rfl, hs⟩ := hx
    split at h
    · rename_i elem hd
      split at h
      · rename_i ii hi1
        split at h
        · rename_i hu
          split at h
          · rename_i vs ty op fz es h0 hg hb
            split at h
            · rename_i l hl
              split at h
              · rename_i hes
                cases h
                obtain ⟨hes, hsp⟩ := hes
                have hl0 : l ≤ h0 := bnd_le hl (Nat.zero_le _)
                have hh0 : h0 ≤ len := bnd_le hb (Nat.le_refl _)
                have hlen : len ≤ c' := by
                  rcases hs with ⟨h1, _⟩ | ⟨_, ⟨h1, h2⟩ | ⟨_, h1, _⟩⟩
                  · exact absurd hu h1
                  · omega
                  · exact h1
                refine ⟨.slice (if c' = l then some a' else some (a'.add (l * ii.size))) (h0 - l) (c' - l), ?_, ?_⟩
                · simp [Instr.sliceAt, Instr.slice, rU hd, rS hi1, run_bounds (sl := true) (cap := c') hlo hhi hb hl hlen]
                · simp only [VR]
                  by_cases hc : c' = l
                  · rw [if_pos hc]
                    exact ⟨a', c' - l, rfl, .inr ⟨rfl, .inl ⟨by omega, by omega⟩⟩⟩
                  · rw [if_neg hc]
                    refine ⟨_, _, rfl, .inr ⟨rfl, .inr ?_⟩⟩
                    rcases hs with ⟨h1, _⟩ | ⟨_, ⟨h1, h2⟩ | ⟨h1, h2, lo1, h3, h4, h5⟩⟩
                    · exact absurd hu h1
                    · omega
                    · have hk : es = lo1.k := by
                        obtain ⟨c, fr, _, _, _, _, hk, _⟩ := W.cells h3 hg
                        exact hk
                      obtain ⟨ab, ao, asp⟩ := a
                      simp only at hsp h3 h5 h4; subst hsp h4
                      rw [add_at, add_at]
                      refine ⟨rfl, by omega, lo1, h3, by simp [Nat.add_assoc], ?_⟩
                      simp only
                      rw [hk] at hes
                      rw [← hes]
                      have : l * lo1.k + (c' - l) * lo1.k = c' * lo1.k := by rw [← Nat.add_mul]; congr 1; omega
                      omega
              · cases h
            · cases h
          · cases h
        · rename_i hu
          split at h
          · rename_i hlt
            split at h
            · rename_i h0 hb
              split at h
              · rename_i l hl
                cases h
                have hl0 : l ≤ h0 := bnd_le hl (Nat.zero_le _)
                rcases hs with ⟨_, rfl, ha⟩ | ⟨h1, _⟩
                · refine ⟨.slice (if c' = l then some a' else some (a'.add (l * ii.size))) (h0 - l) (c' - l), ?_, ?_⟩
                  · simp [Instr.sliceAt, Instr.slice, rU hd, rS hi1, run_bounds (sl := true) (cap := c') hlo hhi hb hl (Nat.le_refl _)]
                  · simp only [VR]
                    by_cases hc : c' = l
                    · rw [if_pos hc, if_pos hc]
                      exact ⟨a', _, rfl, .inl ⟨by omega, rfl, ha⟩⟩
                    · rw [if_neg hc, if_neg hc]
                      exact ⟨_, _, rfl, .inl ⟨by omega, rfl, ha.add _⟩⟩
                · exact absurd h1 hu
              · cases h
            · cases h
          · cases h
      · cases h
    · cases h
  · rename_i a
    simp only [VR] at hx
    obtain ⟨a', rfl, ha⟩ := hx
    split at h
    · rename_i n elem hd
      split at h
      · rename_i ii h0 hi1 hb
        split at h
        · rename_i hlt
          split at h
          · rename_i l hl
            cases h
            refine ⟨.slice (if n = l then some a' else some (a'.add (l * ii.size))) (h0 - l) (n - l), ?_, ?_⟩
            · simp only [Instr.sliceAt, Sem.run_bind, rU hd, Result.andThen, Instr.sureAddr, Sem.run_pure, run_bounds (sl := false) (cap := n) hlo hhi hb hl (Nat.le_refl _), rS hi1]
              split <;> rfl
            · simp only [VR]
              by_cases hc : n = l
              · rw [if_pos hc, if_pos hc]
                exact ⟨a', _, rfl, .inl ⟨by omega, rfl, ha⟩⟩
              · rw [if_neg hc, if_neg hc]
                exact ⟨_, _, rfl, .inl ⟨by omega, rfl, ha.add _⟩⟩
          · cases h
        · cases h
      · cases h
    · cases h
  · cases h
end Ev
end Go.Proofs.Ytkjnaamlhkldmab
