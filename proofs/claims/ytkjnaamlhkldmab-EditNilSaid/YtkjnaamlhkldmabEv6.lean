import Derived.Test.YtkjnaamlhkldmabEv5
namespace Go.Proofs.Ytkjnaamlhkldmab
namespace Ev
variable {P : Program} {μ : Mu} {A : AW} {w : World}

def aPart (P : Program) (t : TypeId) (l : List Value) (off : Nat) : Option Value :=
  match P.underlying t, P.info? t with
  | some d, some i => if aggB d then some (.agg ⟨(l.drop off).take i.size⟩) else l[off]?
  | _, _ => none
theorem aPart_ok {t off : Nat} {l : List Value} {l' : Array Value} {v : Value} (hl : LR μ l l'.toList) (h : aPart P t l off = some v) : ∃ v', (part t l' off).run P w = .ok v' w ∧ VR μ v v' := by
  unfold aPart at h
  split at h
  · rename_i d i hd hi
    split at h
    · rename_i hagg
      cases h
      refine ⟨.agg (l'.extract off (off + i.size)), ?_, ?_⟩
      · simp [part, rAgg hd, hagg, rS hi]
      · simp only [VR]
        refine ⟨_, rfl, ?_⟩
        rw [Array.toList_extract]
        simp only [List.extract]
        rw [show off + i.size - off = i.size by omega]
        exact (hl.drop _).take _
    · rename_i hagg
      obtain ⟨v', h1, h2⟩ := hl.get h
      refine ⟨v', ?_, h2⟩
      have h3 : l'[off]? = some v' := by rw [← Array.getElem?_toList]; exact h1
      simp [part, rAgg hd, hagg, h3]
  · cases h
def aFieldV (P : Program) (t : TypeId) (f : Nat) : Value → Option Value
  | .agg ⟨l⟩ => match P.underlying t with
    | some (.struct fields) => match fields[f]? with
      | some fd => aPart P fd.type l fd.offset
      | none => none
    | _ => none
  | _ => none
theorem aFieldV_ok {t f : Nat} {x x' v : Value} (hx : VR μ x x') (h : aFieldV P t f x = some v) : ∃ v', (Instr.field t x' f).run P w = .ok v' w ∧ VR μ v v' := by
  unfold aFieldV at h
  split at h
  · rename_i l
    simp only [VR] at hx
    obtain ⟨l', rfl, hl⟩ := hx
    split at h
    · rename_i fields hd
      split at h
      · rename_i fd hf
        obtain ⟨v', h1, h2⟩ := aPart_ok (w := w) hl h
        exact ⟨v', by simp [Instr.field, rU hd, hf, asAgg, h1], h2⟩
      · cases h
    · cases h
  · cases h
def aExtract (i : Nat) : Value → Option Value
  | .tuple ⟨l⟩ => l[i]?
  | _ => none
theorem aExtract_ok {i : Nat} {x x' v : Value} (hx : VR μ x x') (h : aExtract i x = some v) : ∃ v', (Instr.extract x' i).run P w = .ok v' w ∧ VR μ v v' := by
  unfold aExtract at h
  split at h
  · simp only [VR] at hx
    obtain ⟨l', rfl, hl⟩ := hx
    obtain ⟨v', h1, h2⟩ := hl.get h
    have h3 : l'[i]? = some v' := by rw [← Array.getElem?_toList]; exact h1
    exact ⟨v', by simp [Instr.extract, h3], h2⟩
  · cases h
def aIface (P : Program) (t : TypeId) (v : Value) : Option Value :=
  match P.underlying t with
  | some (.interface _) | none => none
  | some _ => some (.iface t v)
theorem aIface_ok {t : Nat} {x x' v : Value} (hx : VR μ x x') (h : aIface P t x = some v) : ∃ v', (Instr.makeInterface t x').run P w = .ok v' w ∧ VR μ v v' := by
  unfold aIface at h
  split at h
  · cases h
  · cases h
  · rename_i d hn hd
    cases h
    refine ⟨.iface t x', ?_, by simp only [VR]; exact ⟨_, rfl, hx⟩⟩
    simp only [Instr.makeInterface, Sem.run_bind, rU hd, Result.andThen]
    cases d <;> first | rfl | exact absurd hd (hn _)
def notNil : Value → Bool
  | .pointer (some _) | .func (.func _) _ _ | .iface _ _ => true
  | _ => false
/-! equality -/
noncomputable def eqPtr (P : Program) (A : AW) (t : TypeId) : Value → Value → Option Bool
  | .pointer none, .pointer (some _) | .pointer (some _), .pointer none => match P.underlying t with
    | some (.pointer _) => some false
    | _ => none
  | .pointer (some a), .pointer (some b) => match P.underlying t with
    | some (.pointer e) => match P.info? e with
      | some i => if i.size = 0 then none else if a.block = b.block then some (a.off == b.off) else
          match A.get a.block, A.get b.block with
          | some (.cells _ _ _ none _), some (.cells _ _ _ none _) => some false
          | _, _ => none
      | none => none
    | _ => none
  | _, _ => none
theorem eqPtr_ok {t d : Nat} {x x' y y' : Value} {r : Bool} (W : WR μ A w) (hx : VR μ x x') (hy : VR μ y y') (h : eqPtr P A t x y = some r) : (Op.equalIn (d + 1) t x' y').run P w = .ok r w := by
  unfold eqPtr at h
  split at h
  · simp only [VR] at hx hy
    subst hx
    obtain ⟨a', rfl, _⟩ := hy
    split at h
    · rename_i hd; cases h
      simp [Op.equalIn, rU hd]
    · cases h
  · simp only [VR] at hx hy
    subst hy
    obtain ⟨a', rfl, _⟩ := hx
    split at h
    · rename_i hd; cases h
      simp [Op.equalIn, rU hd]
    · cases h
  · rename_i a b
    simp only [VR] at hx hy
    obtain ⟨a', rfl, ha0, la, ha1, rfl⟩ := hx
    obtain ⟨b', rfl, hb0, lb, hb1, rfl⟩ := hy
    split at h
    · rename_i e hd
      split at h
      · rename_i i hi
        split at h
        · cases h
        · rename_i hz
          split at h
          · rename_i hbl
            cases h
            rw [hbl, hb1] at ha1; cases ha1
            have : (({ block := la.b, off := la.d + a.off, spot := none } : Addr) == { block := la.b, off := la.d + b.off, spot := none }) = (a.off == b.off) := by
              rw [Bool.eq_iff_iff]; simp
            simp [Op.equalIn, rU hd, rS hi, hz, sameAddr, this]
          · rename_i hbl
            split at h
            · rename_i vs ty op es us ty' op' es' hga hgb
              cases h
              obtain ⟨c1, fr1, h1, _, _, _, _, _, hf1⟩ := W.cells ha1 hga
              obtain ⟨c2, fr2, h2, _, _, _, _, _, hf2⟩ := W.cells hb1 hgb
              simp only [FZ] at hf1 hf2
              subst hf1 hf2
              have hne : la.b ≠ lb.b := fun hb => hbl (W.inj _ _ _ _ _ _ hga hgb ha1 hb1 hb)
              simp [Op.equalIn, rU hd, rS hi, hz, sameAddr, hne, World.frozen?, h1, h2, noView, viewAt, World.shape?, mayBeOne, stringish]
            · cases h
      · cases h
    · cases h
  · cases h
def eqNil (P : Program) (t : TypeId) : Value → Value → Option Bool
  | .slice none _ _, .slice (some _) _ _ | .slice (some _) _ _, .slice none _ _ => match P.underlying t with
    | some (.slice _) => some false
    | _ => none
  | .map none, .map (some _) | .map (some _), .map none => match P.underlying t with
    | some (.map _ _) => some false
    | _ => none
  | .nilFunc, .func (.func _) _ _ | .func (.func _) _ _, .nilFunc => match P.underlying t with
    | some (.func _ _ _) => some false
    | _ => none
  | .nilIface, .iface _ _ | .iface _ _, .nilIface => match P.underlying t with
    | some (.interface _) => some false
    | _ => none
  | _, _ => none
theorem eqNil_ok {t d : Nat} {x x' y y' : Value} {r : Bool} (hx : VR μ x x') (hy : VR μ y y') (h : eqNil P t x y = some r) : (Op.equalIn (d + 1) t x' y').run P w = .ok r w := by
  unfold eqNil at h
  split at h
  · simp only [VR] at hx hy; subst hx; obtain ⟨_, _, rfl, _⟩ := hy
    split at h
    · rename_i hd; cases h; simp [Op.equalIn, rU hd]
    · cases h
  · simp only [VR] at hx hy; subst hy; obtain ⟨_, _, rfl, _⟩ := hx
    split at h
    · rename_i hd; cases h; simp [Op.equalIn, rU hd]
    · cases h
  · simp only [VR] at hx hy; subst hx; obtain ⟨_, rfl, _⟩ := hy
    split at h
    · rename_i hd; cases h; simp [Op.equalIn, rU hd]
    · cases h
  · simp only [VR] at hx hy; subst hy; obtain ⟨_, rfl, _⟩ := hx
    split at h
    · rename_i hd; cases h; simp [Op.equalIn, rU hd]
    · cases h
  · rename_i f x1 y1; obtain ⟨x1⟩ := x1; obtain ⟨y1⟩ := y1
    simp only [VR] at hx hy; subst hx; obtain ⟨_, _, rfl, _⟩ := hy
    split at h
    · rename_i hd; cases h; simp [Op.equalIn, rU hd]
    · cases h
  · rename_i f x1 y1; obtain ⟨x1⟩ := x1; obtain ⟨y1⟩ := y1
    simp only [VR] at hx hy; subst hy; obtain ⟨_, _, rfl, _⟩ := hx
    split at h
    · rename_i hd; cases h; simp [Op.equalIn, rU hd]
    · cases h
  · simp only [VR] at hx hy; subst hx; obtain ⟨_, rfl, _⟩ := hy
    split at h
    · rename_i hd; cases h; simp [Op.equalIn, rU hd]
    · cases h
  · simp only [VR] at hx hy; subst hy; obtain ⟨_, rfl, _⟩ := hx
    split at h
    · rename_i hd; cases h; simp [Op.equalIn, rU hd]
    · cases h
  · cases h
noncomputable def eqAny (P : Program) (A : AW) (t : TypeId) (x y : Value) : Option Bool :=
  match eqPtr P A t x y with
  | some r => some r
  | none => match eqNil P t x y with
    | some r => some r
    | none => match P.underlying t, x, y with
      | some (.interface _), .iface tx vx, .iface ty vy => if tx ≠ ty then some false else match P.info? tx with
        | some i => if i.comparable then eqPtr P A tx vx vy else none
        | none => none
      | _, _, _ => none
theorem eqAny_in {t d : Nat} {x x' y y' : Value} {r : Bool} (W : WR μ A w) (hx : VR μ x x') (hy : VR μ y y') (h : eqAny P A t x y = some r) : (Op.equalIn (d + 1 + 1) t x' y').run P w = .ok r w := by
  unfold eqAny at h
  split at h
  · rename_i r' hr; cases h; exact eqPtr_ok W hx hy hr
  · split at h
    · rename_i r' hr; cases h; exact eqNil_ok hx hy hr
    · split at h
      · rename_i ms tx vx ty vy hd _ _
        simp only [VR] at hx hy
        obtain ⟨vx', rfl, hvx⟩ := hx
        obtain ⟨vy', rfl, hvy⟩ := hy
        split at h
        · rename_i hne; cases h
          rw [Op.equalIn]
          simp only [Sem.run_bind, rU hd, Result.andThen, hne, if_true, Sem.run_pure, ne_eq, not_false_eq_true]
        · rename_i hne
          split at h
          · rename_i i hi
            split at h
            · rename_i hcmp
              have h1 := eqPtr_ok (d := d) W hvx hvy h
              have hte : tx = ty := by simpa using hne
              subst hte
              rw [Op.equalIn]
              simp only [Sem.run_bind, rU hd, Result.andThen, ne_eq, not_true, if_false, rT hi, hcmp, Bool.not_true, Bool.false_eq_true]
              exact h1
            · cases h
          · cases h
      · cases h
theorem eqAny_ok {t : Nat} {x x' y y' : Value} {r : Bool} (W : WR μ A w) (hx : VR μ x x') (hy : VR μ y y') (h : eqAny P A t x y = some r) : (Op.equal t x' y').run P w = .ok r w :=
  eqAny_in (d := 9998) W hx hy h
def addressed : Value → Bool
  | .pointer _ | .slice _ _ _ | .map _ | .func _ _ _ | .nilFunc | .iface _ _ => true
  | _ => false
noncomputable def aEq (P : Program) (A : AW) (op : BinOp) (t : TypeId) (x y : Value) : Option Value :=
  if addressed x || addressed y then
    match op, eqAny P A t x y with
    | .eql, some r => some (.bool r)
    | .neq, some r => some (.bool (!r))
    | _, _ => none
  else none
theorem eqAny_shape {t : Nat} {x y : Value} {r : Bool} (h : eqAny P A t x y = some r) : (∃ a b, x = .pointer a ∧ y = .pointer b) ∨ (∃ a b c a' b' c', x = .slice a b c ∧ y = .slice a' b' c') ∨ (∃ a b, x = .map a ∧ y = .map b) ∨ (∃ f u v, x = .nilFunc ∧ y = .func f u v) ∨ (∃ f u v, y = .nilFunc ∧ x = .func f u v)
    ∨ (∃ a b, x = .nilIface ∧ y = .iface a b) ∨ (∃ a b, y = .nilIface ∧ x = .iface a b) ∨ (∃ a b c d, x = .iface a b ∧ y = .iface c d) := by
  unfold eqAny at h
  split at h
  · rename_i hr
    unfold eqPtr at hr
    split at hr <;> first | exact .inl ⟨_, _, rfl, rfl⟩ | cases hr
  · split at h
    · rename_i hr
      unfold eqNil at hr
      split at hr <;> first
        | exact .inr (.inl ⟨_, _, _, _, _, _, rfl, rfl⟩)
        | exact .inr (.inr (.inl ⟨_, _, rfl, rfl⟩))
        | exact .inr (.inr (.inr (.inl ⟨_, _, _, rfl, rfl⟩)))
        | exact .inr (.inr (.inr (.inr (.inl ⟨_, _, _, rfl, rfl⟩))))
        | exact .inr (.inr (.inr (.inr (.inr (.inl ⟨_, _, rfl, rfl⟩)))))
        | exact .inr (.inr (.inr (.inr (.inr (.inr (.inl ⟨_, _, rfl, rfl⟩))))))
        | cases hr
    · split at h
      · exact .inr (.inr (.inr (.inr (.inr (.inr (.inr ⟨_, _, _, _, rfl, rfl⟩))))))
      · cases h
end Ev
end Go.Proofs.Ytkjnaamlhkldmab
