import Derived.Test.YtkjnaamlhkldmabEv16
namespace Go.Proofs.Ytkjnaamlhkldmab
namespace Ev
variable {P : Program}

/-! a new row or map, made of values without addresses: it is made alike in an empty memory -/
noncomputable def A00 : AW := ⟨[], .nil, ng⟩
def isNew : Value → Bool
  | .pointer (some ⟨b, 0, none⟩) => Nat.beq b ng
  | .map (some b) => Nat.beq b ng
  | .slice (some ⟨b, 0, none⟩) _ c => Nat.beq b ng && Nat.blt c unk
  | _ => false
def rn (e : Nat) : Value → Value
  | .pointer (some _) => .pointer (some ⟨e, 0, none⟩)
  | .map (some _) => .map (some e)
  | .slice (some _) n c => .slice (some ⟨e, 0, none⟩) n c
  | v => v
def idOf : Value → Nat
  | .pointer (some a) => a.block
  | .map (some r) => r
  | .slice (some a) _ _ => a.block
  | _ => 0
theorem idOf_rn {e : Nat} {v : Value} (h : isNew v = true) : idOf (rn e v) = e := by
  unfold isNew at h
  split at h <;> first
    | rfl
    | cases h
def flatO : AObj → Bool
  | .cells vs _ _ _ _ => flatL vs
  | .map [] _ => true
  | _ => false
def fzEq : Option Nat → Option Nat → Bool
  | none, none => true
  | some a, some b => Nat.beq a b
  | _, _ => false
def objEq : AObj → AObj → Bool
  | .cells vs t op fz es, .cells vs' t' op' fz' es' => veqL vs vs' && Nat.beq t t' && (op == op') && fzEq fz fz' && Nat.beq es es'
  | .map [] c, .map [] c' => Nat.beq c c'
  | _, _ => false
theorem objEq_eq {x y : AObj} (h : objEq x y = true) : x = y := by
  unfold objEq at h
  split at h
  · rename_i vs t op fz es vs' t' op' fz' es'
    simp only [Bool.and_eq_true] at h
    obtain ⟨⟨⟨⟨h1, h2⟩, h3⟩, h4⟩, h5⟩ := h
    have h6 : fz = fz' := by
      unfold fzEq at h4
      split at h4
      · rfl
      · rw [beqN h4]
      · cases h4
    rw [veqL_eq h1, beqN h2, eq_of_beq h3, h6, beqN h5]
  · rw [beqN h]
  · cases h
noncomputable def mkE (P : Program) (ts : List Nat) (m : Env) (o : Oper) : Option (Value × AObj) :=
  if ts.all (fun t => match m.get t with
    | some v => flat v
    | none => true) then match aOp P m o A00 with
    | some (v, A1) => if isNew v then match A1.get ng with
        | some obj => if flatO obj then some (v, obj) else none
        | none => none
      else none
    | none => none
  else none
theorem mkE_new {ts : List Nat} {m : Env} {o : Oper} {v : Value} {obj : AObj} (h : mkE P ts m o = some (v, obj)) : isNew v = true := by
  unfold mkE at h
  split at h
  · split at h
    · split at h
      · rename_i hn
        split at h
        · split at h
          · cases h; exact hn
          · cases h
        · cases h
      · cases h
    · cases h
  · cases h
end Ev
end Go.Proofs.Ytkjnaamlhkldmab
