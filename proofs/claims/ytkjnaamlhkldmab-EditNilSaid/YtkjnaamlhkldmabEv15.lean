import Derived.Test.YtkjnaamlhkldmabEv14
namespace Go.Proofs.Ytkjnaamlhkldmab
namespace Ev
variable {P : Program}

/-- What it yields hangs on its operands alone. -/
def quiet : Op → Bool
  | .move _ | .assign _ | .pick _ _ _ | .build _ _ | .unOp _ _ _ | .index _ _ _ | .fieldAddr _ _ _ | .field _ _ _ | .indexAddr _ _ _ | .extract _ _ | .makeFunc _ _ _ | .makeInterface _ _ | .nilCheck _ => true
  | _ => false
/-- It may look at memory, and changes nothing. -/
def looks (P : Program) : Op → Bool
  | .load _ _ | .lookup _ _ _ _ | .binOp _ _ _ _ _ | .slice _ _ _ _ _ => true
  | .convert _ d _ => match P.underlying d with
    | some (.slice _) => false
    | _ => true
  | .call { callee := .builtin .len, args := _, argTypes := _ } | .call { callee := .builtin .cap, args := _, argTypes := _ } | .call { callee := .builtin .unsafeSliceData, args := _, argTypes := _ } | .call { callee := .builtin .max, args := _, argTypes := _ } | .call { callee := .builtin .min, args := _, argTypes := _ } => true
  | _ => false
/-- It makes a new row, whatever was done before. -/
def constB : Operand → Bool
  | .const _ => true
  | _ => false
def early (o : Oper) : Bool := match o.op with
  | .alloc _ => o.guard.isNone
  | .makeMap _ none => o.guard.isNone
  | .makeSlice _ _ _ => o.guard.isNone
  | .buildSlice _ _ ps => o.guard.isNone && ps.toList.all fun x => constB x.2
  | _ => false
theorem early_op {o : Oper} (h : early o = true) : looks P o.op = false ∧ o.guard = none := by
  unfold early at h
  split at h
  · rename_i ht
    rw [ht]
    exact ⟨rfl, by simpa using h⟩
  · rename_i ht
    rw [ht]
    exact ⟨rfl, by simpa using h⟩
  · rename_i ht
    rw [ht]
    exact ⟨rfl, by simpa using h⟩
  · rename_i ht
    rw [ht]
    rw [Bool.and_eq_true] at h
    exact ⟨rfl, by simpa using h.1⟩
  · cases h
def effB (P : Program) (o : Oper) : Bool := !(quiet o.op || looks P o.op || early o)
theorem o1_any {x : Option Value} {A A' B : AW} {v : Value} (h : o1 x A = some (v, A')) : o1 x B = some (v, B) := by
  obtain ⟨h, _⟩ := o1_ok h
  rw [h]; rfl
theorem quiet_any {l : Env} {o : Oper} {A A' : AW} {v : Value} (hq : quiet o.op = true) (h : aOp P l o A = some (v, A')) (B : AW) : aOp P l o B = some (v, B) := by
  obtain ⟨dst, op, type, pos, after, guard⟩ := o
  simp only at hq
  cases op <;> simp only [quiet] at hq <;> first
    | (cases hq; done)
    | skip
  · exact o1_any h
  · exact o1_any h
  · unfold aOp at h ⊢
    simp only at h ⊢
    split at h
    · exact o1_any h
    · exact o1_any h
    · cases h
  · exact o1_any h
  · unfold aOp at h ⊢
    simp only at h ⊢
    split at h
    · split at h
      · rename_i hn; cases h; rw [if_pos hn]
      · cases h
    · cases h
  · exact o1_any h
  · unfold aOp at h ⊢
    simp only at h ⊢
    split at h
    · exact o1_any h
    · cases h
  · rename_i fn first captured
    cases fn with
    | func f =>
      unfold aOp at h ⊢
      simp only at h ⊢
      split at h
      · cases h; rfl
      · cases h
    | method n => cases h
    | methodOf t n => cases h
    | via t p f b => cases h
    | yield n => cases h
  · unfold aOp at h ⊢
    simp only at h ⊢
    split at h
    · exact o1_any h
    · cases h
  · unfold aOp at h ⊢
    simp only at h ⊢
    split at h
    · exact o1_any h
    · cases h
  · unfold aOp at h ⊢
    simp only at h ⊢
    split at h
    · exact o1_any h
    · cases h
  · exact o1_any h
  · unfold aOp at h ⊢
    simp only at h ⊢
    split at h
    · exact o1_any h
    · cases h
theorem looks_same {l : Env} {o : Oper} {A A' : AW} {v : Value} (hq : looks P o.op = true) (h : aOp P l o A = some (v, A')) : A' = A := by
  obtain ⟨dst, op, type, pos, after, guard⟩ := o
  simp only at hq
  unfold looks at hq
  split at hq
  · simp only [aOp] at h
    split at h
    · exact (o1_ok h).2
    · cases h
  · simp only [aOp] at h
    split at h
    · exact (o1_ok h).2
    · cases h
  · simp only [aOp] at h
    split at h
    · cases h; rfl
    · split at h
      · exact (o1_ok h).2
      · cases h
  · rename_i t x lo hi mx
    cases mx with
    | none =>
      simp only [aOp] at h
      split at h
      · cases h; rfl
      · split at h
        · cases h; rfl
        · split at h
          · exact (o1_ok h).2
          · cases h
    | some m => cases h
  · rename_i s d x
    split at hq
    · cases hq
    · rename_i hnd
      simp only [aOp] at h
      split at h
      · cases h; rfl
      · split at h
        · split at h
          · cases h; rfl
          · split at h
            · cases h; rfl
            · split at h
              · unfold aS2B at h
                split at h
                · split at h
                  · rename_i e he
                    exact absurd he (hnd e)
                  · cases h
                · cases h
              · cases h
        · cases h
  · rename_i args ts
    obtain ⟨args⟩ := args
    obtain ⟨ts⟩ := ts
    simp only [aOp, aBuiltin] at h
    split at h
    · cases h; rfl
    · split at h
      · split at h
        · split at h
          · cases h; rfl
          · cases h
        · cases h
      · rename_i e1 _; cases e1
      · rename_i e1 _; cases e1
      · rename_i e1 _; cases e1
      · rename_i e1 _; cases e1
      · rename_i e1 _; cases e1
      · rename_i e1 _; cases e1
      · cases h
  · rename_i args ts
    obtain ⟨args⟩ := args
    obtain ⟨ts⟩ := ts
    simp only [aOp, aBuiltin] at h
    split at h
    · cases h; rfl
    · split at h
      · rename_i e1 _; cases e1
      · split at h
        · split at h
          · cases h; rfl
          · cases h
        · cases h
      · rename_i e1 _; cases e1
      · rename_i e1 _; cases e1
      · rename_i e1 _; cases e1
      · rename_i e1 _; cases e1
      · rename_i e1 _; cases e1
      · cases h
  · rename_i args ts
    obtain ⟨args⟩ := args
    obtain ⟨ts⟩ := ts
    simp only [aOp, aBuiltin] at h
    split at h
    · cases h; rfl
    · split at h
      · rename_i e1 _; cases e1
      · rename_i e1 _; cases e1
      · rename_i e1 _; cases e1
      · split at h
        · split at h
          · cases h; rfl
          · cases h
        · cases h
      · rename_i e1 _; cases e1
      · rename_i e1 _; cases e1
      · rename_i e1 _; cases e1
      · cases h
  · rename_i args ts
    obtain ⟨args⟩ := args
    obtain ⟨ts⟩ := ts
    simp only [aOp, aBuiltin] at h
    split at h
    · cases h; rfl
    · cases h
  · rename_i args ts
    obtain ⟨args⟩ := args
    obtain ⟨ts⟩ := ts
    simp only [aOp, aBuiltin] at h
    split at h
    · cases h; rfl
    · cases h
  · cases hq
end Ev
end Go.Proofs.Ytkjnaamlhkldmab
