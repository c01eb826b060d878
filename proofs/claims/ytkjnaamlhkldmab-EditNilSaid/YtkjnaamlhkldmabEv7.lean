import Derived.Test.YtkjnaamlhkldmabEv6
namespace Go.Proofs.Ytkjnaamlhkldmab
namespace Ev
variable {P : Program} {μ : Mu} {A : AW} {w : World}

/-! an id is forgotten; an id takes the place of another -/
theorem WR.drop (W : WR μ A w) (i : Nat) : WR μ (A.set i none) w ∧ Ext μ A w μ (A.set i none) w := by
  have get' : ∀ n on, (A.set i none).get n = some on → A.get n = some on := fun n on h => by
    rw [AW.get_set] at h
    split at h
    · cases h
    · exact h
  exact ⟨⟨fun j oj l hj => W.has j oj l (get' j oj hj), fun j m oj om lj lm hj hm h1 h2 h3 => W.inj j m oj om lj lm (get' _ _ hj) (get' _ _ hm) h1 h2 h3, W.dom⟩,
    ⟨Le.refl _, Nat.le_refl _, rfl, rfl, rfl, fun _ _ _ => rfl, fun j oj l hj hl => .inr ⟨j, oj, l, get' _ _ hj, hl, rfl⟩, Nat.le_refl _, fun _ _ => rfl⟩⟩
theorem WR.swap (W : WR μ A w) {i : Nat} {l l' : Loc} {o0 o : AObj} {o' : Obj} (hg : A.get i = some o0) (hm : μ i = some l) (hb : l'.b = l.b) (ho : OR (μ.add A.next l') l' o o') :
    WR (μ.add A.next l') ((A.set i none).push o) { w with heap := w.heap.setIfInBounds l.b o' } ∧ Ext μ A w (μ.add A.next l') ((A.set i none).push o) { w with heap := w.heap.setIfInBounds l.b o' } := by
  have hlt := W.lt hg hm
  have hd := W.dom A.next (Nat.le_refl _)
  have hle : Le μ (μ.add A.next l') := Mu.add_le hd
  have hnx : (A.set i none).next = A.next := rfl
  have get' : ∀ n on, ((A.set i none).push o).get n = some on → (n = A.next ∧ on = o) ∨ (n ≠ i ∧ n ≠ A.next ∧ A.get n = some on) := fun n on h => by
    rw [AW.get_push, hnx] at h
    split at h
    · rename_i e; cases h; exact .inl ⟨e, rfl⟩
    · rename_i e
      rw [AW.get_set] at h
      split at h
      · cases h
      · rename_i e2; exact .inr ⟨e2, e, h⟩
  have old : ∀ n, n ≠ A.next → (μ.add A.next l') n = μ n := fun n hn => Mu.add_ne hn
  constructor
  · refine ⟨fun j oj lj hj h4 => ?_, fun j m oj om lj lm hj hm' h1 h2 h3 => ?_, fun n hn => ?_⟩
    · rcases get' j oj hj with ⟨rfl, rfl⟩ | ⟨h1, h2, h3⟩
      · rw [Mu.add_get hd] at h4; cases h4
        exact ⟨o', by rw [hb]; simp [hlt], ho⟩
      · rw [old j h2] at h4
        obtain ⟨oj', h5, h6⟩ := W.has j oj lj h3 h4
        refine ⟨oj', ?_, h6.mono hle⟩
        have : l.b ≠ lj.b := fun e => h1 (W.inj j i oj o0 lj l h3 hg h4 hm e.symm)
        simp [this, h5]
    · rcases get' j oj hj with ⟨rfl, rfl⟩ | ⟨h4, h5, h6⟩
      · rcases get' m om hm' with ⟨rfl, rfl⟩ | ⟨h7, h8, h9⟩
        · rfl
        · rw [Mu.add_get hd] at h1; cases h1
          rw [old m h8] at h2
          exact absurd (W.inj m i om o0 lm l h9 hg h2 hm (by rw [← h3, hb])) h7
      · rw [old j h5] at h1
        rcases get' m om hm' with ⟨rfl, rfl⟩ | ⟨h7, h8, h9⟩
        · rw [Mu.add_get hd] at h2; cases h2
          exact absurd (W.inj j i oj o0 lj l h6 hg h1 hm (by rw [h3, hb])) h4
        · rw [old m h8] at h2
          exact W.inj j m oj om lj lm h6 h9 h1 h2 h3
    · have : n ≠ A.next := by simp only [AW.push, hnx] at hn; omega
      rw [old n this]
      exact W.dom n (by simp only [AW.push, hnx] at hn; omega)
  · refine ⟨hle, by simp, rfl, rfl, rfl, fun b' hb' hn => ?_, fun j oj lj hj h1 => ?_, by simp [AW.push, hnx], fun n hn => old n (by omega)⟩
    · have : l.b ≠ b' := hn i o0 l hg hm
      simp [this]
    · rcases get' j oj hj with ⟨rfl, rfl⟩ | ⟨h4, h5, h6⟩
      · rw [Mu.add_get hd] at h1; cases h1
        exact .inr ⟨i, o0, l, hg, hm, hb.symm⟩
      · rw [old j h5] at h1
        exact .inr ⟨j, oj, lj, h6, h1, rfl⟩
/-! append -/
def bytesV (s : ByteArray) (n : Nat) : List Value := ((s.extract 0 n).data.map fun b => Value.int .u8 b.toNat).toList
noncomputable def aCells (A : AW) (size n : Nat) : Value → Option (List Value)
  | .slice none _ _ => some []
  | .slice (some b) _ _ => if n = 0 then some [] else match A.get b.block with
    | some (.cells vs _ _ _ _) => if b.off + n * size ≤ vs.length then some ((vs.drop b.off).take (n * size)) else none
    | _ => none
  | .string s => some (bytesV s n)
  | _ => none
def lenV : Value → Option Nat
  | .slice _ n _ => some n
  | .string s => some s.size
  | _ => none
theorem lenV_ok {x x' : Value} {n : Nat} (hx : VR μ x x') (h : lenV x = some n) : (Builtin.lenOf x').run P w = .ok n w := by
  unfold lenV at h
  split at h
  · rename_i a m c
    cases h
    cases a with
    | none => simp only [VR] at hx; subst hx; rfl
    | some a => simp only [VR] at hx; obtain ⟨_, _, rfl, _⟩ := hx; rfl
  · cases h; simp only [VR] at hx; subst hx; rfl
  · cases h
theorem flatL_bytes : ∀ l : List UInt8, flatL (l.map fun b => Value.int .u8 b.toNat) = true
  | [] => rfl
  | x :: l => by simp [flatL, flat, flatL_bytes l]
theorem aCells_ok {x x' : Value} {size n m : Nat} {xs : List Value} (W : WR μ A w) (hx : VR μ x x') (hm : lenV x = some m) (hn : n ≤ m) (h : aCells A size n x = some xs) : ∃ xs' : List Value, (Builtin.firstCells size n x').run P w = .ok xs'.toArray w ∧ LR μ xs xs' := by
  unfold aCells at h
  split at h
  · cases h; simp only [VR] at hx; subst hx
    exact ⟨[], rfl, LR.nil⟩
  · rename_i b m' c
    simp only [lenV] at hm; cases hm
    simp only [VR] at hx
    obtain ⟨b', c', rfl, hs⟩ := hx
    split at h
    · rename_i h0; cases h; subst h0
      exact ⟨[], by simp [Builtin.firstCells, loadCells, loadCellsFrom], LR.nil⟩
    · rename_i h0
      split at h
      · rename_i vs t op fz es hg
        split at h
        · rename_i hle
          cases h
          obtain ⟨xs', h1, h2⟩ := load_cells (P := P) W (hs.addr (by omega)) hg hle
          exact ⟨xs', by simpa [Builtin.firstCells] using h1, h2⟩
        · cases h
      · cases h
  · rename_i s
    cases h; simp only [VR] at hx; subst hx
    refine ⟨bytesV s n, by simp only [Builtin.firstCells, bytesV, Sem.run_pure, Array.toArray_toList], flatL_LR ?_⟩
    unfold bytesV
    rw [Array.toList_map]
    exact flatL_bytes _
  · cases h
theorem growBy_le (need : Nat) : ∀ (r c : Nat), c ≤ 2 * need + 768 → Builtin.growBy need r c ≤ 2 * need + 768
  | 0, _, h => h
  | r + 1, c, h => by
    simp only [Builtin.growBy]
    split
    · exact h
    · exact growBy_le need r _ (by omega)
theorem nextcap_le {need c : Nat} (h : c < need) : Builtin.nextslicecap need c ≤ 2 * need + 768 := by
  unfold Builtin.nextslicecap
  split
  · omega
  · split
    · omega
    · exact growBy_le need 4 c (by omega)
def fzShift : Option Nat → Nat → Option (Option Nat)
  | none, _ => some none
  | some m, o => if m ≤ o then some (some 0) else none
noncomputable def aAppend (A : AW) (elem size : Nat) (s x : Value) (n : Nat) : Option (Value × AW) :=
  match s, aCells A size n x with
  | .slice none 0 0, some xs => if n = 0 then some (.slice none 0 0, A) else
      if xs.length = n * size then some (.slice (some ⟨A.next, 0, none⟩) n unk, A.push (.cells xs elem true none size)) else none
  | .slice (some a) len cap, some xs =>
    if xs.length = n * size ∧ a.spot = none then
    if n = 0 ∧ (cap = unk ∨ len ≤ cap) then some (.slice (some a) len cap, A)
    else if cap ≠ unk ∧ len = 0 ∧ cap < n then some (.slice (some ⟨A.next, 0, none⟩) n unk, A.push (.cells xs elem true none size))
    else match A.get a.block with
    | some (.cells vs t op fz es) =>
      if cap = unk then
        if a.off + len * size ≤ vs.length ∧ es = size ∧ t = elem ∧ xs.all (·.oneCell') = true then
          match fzShift fz a.off with
          | some fz' => some (.slice (some ⟨A.next, 0, none⟩) (len + n) unk, (A.set a.block none).push (.cells ((vs.drop a.off).take (len * size) ++ xs) elem true fz' size))
          | none => none
        else none
      else if len + n ≤ cap then
        if a.off + len * size + xs.length ≤ vs.length ∧ xs.all (·.oneCell') = true ∧ FZok fz (a.off + len * size) = true then
          some (.slice (some a) (len + n) cap, A.set a.block (some (.cells (splice vs (a.off + len * size) xs) t op fz es)))
        else none
      else if a.off + len * size ≤ vs.length ∧ 0 < len then
        some (.slice (some ⟨A.next, 0, none⟩) (len + n) unk, A.push (.cells ((vs.drop a.off).take (len * size) ++ xs) elem true none size))
      else none
    | _ => none
    else none
  | _, _ => none
def isIntD : TypeDesc → Bool
  | .int _ => true
  | _ => false
structure AppT (P : Program) (sType xType elem size : Nat) where
  ie : TypeInfo
  z : Value
  dx : TypeDesc
  hd : P.underlying sType = some (.slice elem)
  hx : P.underlying xType = some dx
  hn : isIntD dx = false
  hi : P.info? elem = some ie
  hs : ie.size = size
  hz : ie.zero = some z
  hf : flat z = true
  hl : (cellsL z).length = size
  hb : ie.bytes ≤ 65536
  h0 : 0 < size
theorem app_in {sType xType elem size : Nat} (T : AppT P sType xType elem size) {base : Option Addr} {x' : Value} {len cap n : Nat} {xs' : List Value} {type : Nat} {w' : World} (hlen : (Builtin.lenOf x').run P w = .ok n w) (hle : len + n ≤ cap) (hc : (Builtin.firstCells size n x').run P w = .ok xs'.toArray w)
    (hst : ∀ a, base = some a → (storeCells (a.add (len * size)) xs').run P w = .ok () w') (hno : base = none → w' = w) :
    (Builtin.append_ #[sType, xType] type #[.slice base len cap, x']).run P w = .ok (.slice base (len + n) cap) w' := by
  unfold Builtin.append_
  simp only [List.getElem?_toArray, List.getElem?_cons_zero, List.getElem?_cons_succ, Sem.run_bind, rU T.hd, rU T.hx, Result.andThen, rS T.hi, T.hs, Sem.run_pure]
  have e := T.hn
  cases hdx : T.dx <;> simp only [hdx, isIntD] at e <;> first
    | (cases e; done)
    | (simp only [Bool.false_eq_true, if_false, hlen, Result.andThen, hle, if_true, Sem.run_bind, Bool.not_false, hc]
       cases base with
       | none => simp [hno rfl]
       | some a => simp [hst a rfl])
theorem app_new {sType xType elem size : Nat} (T : AppT P sType xType elem size) {base : Option Addr} {x' : Value} {len cap n : Nat} {os' xs' : List Value} {type : Nat} (hlen : (Builtin.lenOf x').run P w = .ok n w) (hgt : cap < len + n) (hsm : len + n ≤ 1000000)
    (ho : (Builtin.firstCells size len (.slice base len cap)).run P { w with drawn := w.drawn + 1 } = .ok os'.toArray { w with drawn := w.drawn + 1 })
    (hc : (Builtin.firstCells size n x').run P { w with drawn := w.drawn + 1 } = .ok xs'.toArray { w with drawn := w.drawn + 1 }) :
    ∃ m, len + n ≤ m ∧ (Builtin.append_ #[sType, xType] type #[.slice base len cap, x']).run P w =
      .ok (.slice (some ⟨w.heap.size, 0, none⟩) (len + n) m) { { w with drawn := w.drawn + 1 } with heap := w.heap.push (.cells (os' ++ xs' ++ reps (m - (len + n)) (cellsL T.z)).toArray elem) } := by
  have hnx := nextcap_le hgt
  have hb : ¬ Builtin.nextslicecap (len + n) cap * T.ie.bytes > 2 ^ 48 := by
    have h1 : Builtin.nextslicecap (len + n) cap * T.ie.bytes ≤ 2000768 * 65536 := Nat.mul_le_mul (by omega) T.hb
    omega
  have hbig : ¬ ((len + n : Nat) : Int) > IntKind.i64.max := by
    have : (1000000 : Int) ≤ IntKind.i64.max := by decide
    omega
  have hle : ¬ len + n ≤ cap := by omega
  refine ⟨Question.cut (.appendCap (len + n) cap elem) (w.tape w.drawn (.appendCap (len + n) cap elem)), by simp [Question.cut], ?_⟩
  have hz : ∀ m, Builtin.zeroCells T.z.cells m = (reps m (cellsL T.z)).toArray := fun m => by
    unfold Builtin.zeroCells
    rw [range_zero, cellsL_eq]
  unfold Builtin.append_
  simp only [List.getElem?_toArray, List.getElem?_cons_zero, List.getElem?_cons_succ, Sem.run_bind, rU T.hd, rU T.hx, Result.andThen, rS T.hi, T.hs, Sem.run_pure]
  have e := T.hn
  cases hdx : T.dx <;> simp only [hdx, isIntD] at e <;> first
    | (cases e; done)
    | (simp only [Bool.false_eq_true, if_false, hlen, Result.andThen, hle, Sem.run_bind, Bool.not_false, if_true, rT T.hi, hbig, false_and, hb, run_choose, Question.forced, run_askRoom, ho, hc, rZ T.hi T.hz, hz, newRow, run_newObj, Sem.run_pure]
       simp)
end Ev
end Go.Proofs.Ytkjnaamlhkldmab
