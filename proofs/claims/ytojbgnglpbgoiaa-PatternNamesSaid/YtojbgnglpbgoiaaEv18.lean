import Derived.Test.YtojbgnglpbgoiaaEv17
namespace Go.Proofs.Ytojbgnglpbgoiaa
namespace Ev
variable {P : Program}

def lastOr (A : AW) : List AW → AW
  | [] => A
  | B :: r => lastOr B r
theorem lastOr_get : ∀ (A : AW) (Ms : List AW), (A :: Ms)[Ms.length]? = some (lastOr A Ms)
  | A, [] => rfl
  | A, B :: r => by
    simp only [List.length_cons, List.getElem?_cons_succ, lastOr]
    exact lastOr_get B r
noncomputable def evDraw (P : Program) (same : FuncId → Bool) (call : CallT) : DrawT := fun ops a A =>
  if okDraw ops a.size then match dgo P call same ops a.size a.defers ops.toList a.tmps A with
    | .ok (rs, Ms, lf) => if chkL P ops (A :: Ms) ops.toList 0 rs then .ok (⟨lf, a.size, a.defers⟩, lastOr A Ms) else .error "draw: hangs on the order"
    | .error s => .error s
  else .error ("draw: the order " ++ ((ops[0]?).map (·.pos)).getD "")
theorem filter_lt {f g : Nat → Bool} {i : Nat} : ∀ {n : Nat}, (∀ j, g j = true → f j = true) → i < n → f i = true → g i = false → ((List.range n).filter g).length < ((List.range n).filter f).length
  | 0, _, h, _, _ => by omega
  | n + 1, hgf, hi, hf, hg => by
    rw [List.range_succ, List.filter_append, List.filter_append, List.length_append, List.length_append]
    by_cases e : i = n
    · subst e
      have h1 : ((List.range i).filter g).length ≤ ((List.range i).filter f).length := by
        have : (List.range i).filter g = ((List.range i).filter f).filter g := by
          rw [List.filter_filter]
          congr 1
          funext j
          cases hgj : g j with
          | false => simp
          | true => simp [hgf j hgj]
        rw [this]
        exact List.length_filter_le _ _
      have h2 : ([i].filter g).length = 0 := by simp [hg]
      have h3 : ([i].filter f).length = 1 := by simp [hf]
      omega
    · have h1 := filter_lt hgf (show i < n by omega) hf hg
      have h2 : ([n].filter g).length ≤ ([n].filter f).length := by
        cases hgn : g n with
        | false => simp [hgn]
        | true => simp [hgn, hgf n hgn]
      omega
section
variable {call : CallT} {same : FuncId → Bool} {ops : Array Oper} {size : Nat} {ds : List ADef} {l0 : Env} {recs : List Rc} {mems : List AW} {μ0 : Mu} {A0 : AW} {w0 : World}
def lstOf (listed : Array Bool) (i : Nat) : Bool := listed.getD i false
structure DInv (ops : Array Oper) (size : Nat) (ds : List ADef) (l0 : Env) (recs : List Rc) (mems : List AW) (μ0 : Mu) (A0 : AW) (w0 : World) (listed : Array Bool) (b : Act) (w : World) (c : Nat) (μ : Mu) (A : AW) : Prop where
  lsz : listed.size = ops.size
  closed : Closed ops (lstOf listed)
  chain : ∀ i, isEff ops i = true → (lstOf listed i = true ↔ cnt ops i < c)
  mem : mems[c]? = some A
  tmps : ∀ t v, tv ops (valOf recs) l0 (lstOf listed) t = some v → ∃ v', b.tmps.toList[t]? = some v' ∧ VR μ v v'
  len : size = b.tmps.size
  defers : DR μ ds b.defers
  wr : WR μ A w
  ext : Ext μ0 A0 w0 μ A w
theorem lst_set {listed : Array Bool} {i j : Nat} (h : i < listed.size) : lstOf (listed.setIfInBounds i true) j = if j = i then true else lstOf listed j := by
  unfold lstOf
  by_cases e : j = i
  · subst e; simp [h]
  · rw [if_neg e, getD_set_ne false (fun h => e h.symm)]
theorem ready_facts {listed : Array Bool} {i : Nat} (hs : listed.size = ops.size) (hi : i ∈ Region.ready .any ops listed) : i < ops.size ∧ lstOf listed i = false ∧ ∃ o, ops[i]? = some o ∧ Preds ops (lstOf listed) i := by
  obtain ⟨h1, o, h2, h3⟩ := mem_ready.1 hi
  have hlt := (Array.getElem?_eq_some_iff.1 h2).1
  refine ⟨hlt, ?_, o, h2, fun o' ho' e he hb => ?_⟩
  · unfold lstOf
    rw [Array.getD_eq_getD_getElem?] at h1 ⊢
    have : i < listed.size := by omega
    simp [this] at h1 ⊢
    exact h1
  · rw [h2] at ho'; cases ho'
    exact h3 e (Array.mem_toList_iff.1 he) hb
theorem all_listed {listed : Array Bool} (hs : listed.size = ops.size) (h0 : s0 ops = true) (hr : Region.ready .any ops listed = []) : ∀ i, i < ops.size → lstOf listed i = true := by
  intro i
  induction i using Nat.strongRecOn with
  | _ i ih =>
    intro hi
    cases hl : lstOf listed i with
    | true => rfl
    | false =>
      have ho : ops[i]? = some ops[i] := Array.getElem?_eq_getElem hi
      have : i ∈ Region.ready .any ops listed := by
        refine mem_ready.2 ⟨?_, ops[i], ho, fun e he hb => ?_⟩
        · unfold lstOf at hl
          rw [Array.getD_eq_getD_getElem?] at hl ⊢
          have : i < listed.size := by omega
          simp [this] at hl ⊢
          exact hl
        · have hlt := s0_spec h0 ho (Array.mem_toList_iff.2 he) hb
          exact ih e.on hlt (by omega)
      rw [hr] at this
      cases this
/-- What comes behind one operation. -/
theorem DInv.next {listed : Array Bool} {b : Act} {w : World} {c : Nat} {μ : Mu} {A : AW} (hk : OkD ops size) (I : DInv ops size ds l0 recs mems μ0 A0 w0 listed b w c μ A) {i : Nat} {o : Oper} (ho : ops[i]? = some o) (hun : lstOf listed i = false) (hpr : Preds ops (lstOf listed) i)
    {v' : Value} {w' : World} {μ' : Mu} {A' : AW} {c' : Nat} (hv : VR μ' (valOf recs i) v') (hW : WR μ' A' w') (hE : Ext μ A w μ' A' w') (hm : mems[c']? = some A') (hc : (isEff ops i = true ∧ cnt ops i = c ∧ c' = c + 1) ∨ (isEff ops i = false ∧ c' = c)) :
    DInv ops size ds l0 recs mems μ0 A0 w0 (listed.setIfInBounds i true) (b.put o.dst v') w' c' μ' A' := by
  have hlt : i < ops.size := (Array.getElem?_eq_some_iff.1 ho).1
  have hil : i < listed.size := by rw [I.lsz]; exact hlt
  have hdst : dstOf ops i = o.dst := by simp [dstOf, ho]
  refine ⟨by simp [I.lsz], fun j oj hoj hj e he hb => ?_, fun j hj => ?_, hm, fun t v ht => ?_, ?_, ?_, hW, I.ext.trans hE⟩
  · rw [lst_set hil] at hj ⊢
    by_cases ej : j = i
    · subst ej
      split
      · rfl
      · exact hpr oj hoj e he hb
    · rw [if_neg ej] at hj
      split
      · rfl
      · exact I.closed j oj hoj hj e he hb
  · rw [lst_set hil]
    rcases hc with ⟨h1, h2, rfl⟩ | ⟨h1, rfl⟩
    · by_cases ej : j = i
      · subst ej; simp only [if_true, true_iff]; omega
      · rw [if_neg ej, I.chain j hj]
        constructor
        · intro h; omega
        · intro h
          rcases Nat.lt_or_ge (cnt ops j) c with h3 | h3
          · exact h3
          · exact absurd (cnt_inj hj h1 (by omega)) ej
    · have ej : j ≠ i := fun e => by subst e; rw [hj] at h1; cases h1
      rw [if_neg ej]
      exact I.chain j hj
  · unfold tv at ht
    cases hw : writer ops t with
    | none =>
      rw [hw] at ht
      have hne : o.dst ≠ some t := fun e => by
        have := writer_of hk (show dstOf ops i = some t by rw [hdst, e])
        rw [hw] at this; cases this
      obtain ⟨v'', h1, h2⟩ := I.tmps t v (by unfold tv; rw [hw]; exact ht)
      refine ⟨v'', ?_, h2.mono hE.le⟩
      cases hd : o.dst with
      | none => exact h1
      | some d =>
        simp only [Act.put, Array.toList_setIfInBounds]
        rw [List.getElem?_set_ne (fun e => hne (by rw [hd, e]))]
        exact h1
    | some p =>
      rw [hw] at ht
      simp only [lst_set hil] at ht
      by_cases ep : p = i
      · subst ep
        simp only [if_true] at ht
        cases ht
        have hd : o.dst = some t := by rw [← hdst]; exact writer_some hw
        refine ⟨v', ?_, hv⟩
        simp only [hd, Act.put, Array.toList_setIfInBounds]
        have hsm := hk.small p t (by rw [hdst, hd])
        have hlt3 : t < b.tmps.toList.length := by rw [Array.length_toList, ← I.len]; exact hsm
        rw [List.getElem?_set_self hlt3]
      · rw [if_neg ep] at ht
        have hne : o.dst ≠ some t := fun e => by
          have := writer_of hk (show dstOf ops i = some t by rw [hdst, e])
          rw [hw] at this; cases this; exact ep rfl
        obtain ⟨v'', h1, h2⟩ := I.tmps t v (by unfold tv; rw [hw]; exact ht)
        refine ⟨v'', ?_, h2.mono hE.le⟩
        cases hd : o.dst with
        | none => exact h1
        | some d =>
          simp only [Act.put, Array.toList_setIfInBounds]
          rw [List.getElem?_set_ne (fun e => hne (by rw [hd, e]))]
          exact h1
  · cases o.dst with
    | none => exact I.len
    | some d => simp [Act.put, I.len]
  · have : (b.put o.dst v').defers = b.defers := by cases o.dst <;> rfl
    rw [this]
    exact I.defers.mono hE.le
theorem inv_any (hcall : CallOK P call) (hsame : SameOK P same) (hk : OkD ops size) (hE : ∀ q o, ops[q]? = some o → Each P call same ops size ds l0 recs mems q o)
    (hL : ∀ q o wt v m, ops[q]? = some o → recs[q]? = some (wt, v, m) → wt = true → looks o.op = true → ∀ j A, possB ops q j = true → mems[j]? = some A → ∃ A', aOp P m o A = some (v, A')) {Q : Exit → Act → World → Prop}
    (hq : ∀ listed b w c μ A, DInv ops size ds l0 recs mems μ0 A0 w0 listed b w c μ A → (∀ i, i < ops.size → lstOf listed i = true) → Q .normal b w) :
    ∀ (fuel : Nat) (listed : Array Bool) (b : Act) (w : World) (c : Nat) (μ : Mu) (A : AW), DInv ops size ds l0 recs mems μ0 A0 w0 listed b w c μ A → ((List.range ops.size).filter fun i => !lstOf listed i).length ≤ fuel → wpAny P .any ops Q fuel listed b w
  | 0, listed, b, w, c, μ, A, I, hf => by
    have hall : ∀ i, i < ops.size → lstOf listed i = true := fun i hi => by
      have h1 : ((List.range ops.size).filter fun i => !lstOf listed i) = [] := List.eq_nil_of_length_eq_zero (by omega)
      have h2 := List.filter_eq_nil_iff.1 h1 i (List.mem_range.2 hi)
      simpa using h2
    refine ⟨?_, hq listed b w c μ A I hall⟩
    cases hr : Region.ready .any ops listed with
    | nil => rfl
    | cons i r =>
      obtain ⟨h1, h2, _⟩ := ready_facts I.lsz (show i ∈ Region.ready .any ops listed by rw [hr]; simp)
      rw [hall i h1] at h2; cases h2
  | fuel + 1, listed, b, w, c, μ, A, I, hf => by
    refine ⟨fun hr => hq listed b w c μ A I (all_listed I.lsz hk.h0 hr), fun i hi => ?_⟩
    obtain ⟨hlt, hun, o, ho, hpr⟩ := ready_facts I.lsz hi
    have hil : i < listed.size := by rw [I.lsz]; exact hlt
    have hfuel : ((List.range ops.size).filter fun j => !lstOf (listed.setIfInBounds i true) j).length ≤ fuel := by
      have := filter_lt (f := fun j => !lstOf listed j) (g := fun j => !lstOf (listed.setIfInBounds i true) j) (i := i) (n := ops.size) (fun j hj => by
        rw [lst_set hil] at hj
        split at hj
        · cases hj
        · exact hj) hlt (by simp [hun]) (by rw [lst_set hil, if_pos rfl]; rfl)
      omega
    obtain ⟨wt, v, m, hrec, hw, hmask, hwf, heff, hnon⟩ := hE i o ho
    have hval : valOf recs i = v := by simp [valOf, hrec]
    have hisE : isEff ops i = effB o := by simp [isEff, ho]
    have hTR : TR μ m b.tmps.toList := fun t u hu => by
      obtain ⟨h1, h2⟩ := hmask t u hu
      refine I.tmps t u ?_
      rw [← h2]
      unfold tv
      cases hwr : writer ops t with
      | none => rfl
      | some p =>
        simp only
        have hdp := writer_some hwr
        rcases hk.deps i o t p ho h1 hdp with rfl | hb | hb
        · rw [hun]; simp
        · obtain ⟨h3, h4⟩ := bef_spec hk.h0 hb
          rw [h4 _ I.closed hpr]
          simp [h3]
        · obtain ⟨h3, h4⟩ := bef_spec hk.h0 hb
          have : lstOf listed p = false := by
            cases hlp : lstOf listed p with
            | false => rfl
            | true =>
              have := h4 _ I.closed (fun op hop e he hbb => I.closed p op hop hlp e he hbb)
              rw [hun] at this; cases this
          rw [this]
          have hni : ¬ p < i := by omega
          simp [hni]
    have hab : AAR μ ⟨m, size, ds⟩ b := ⟨hTR, I.len, I.defers⟩
    have hwant := wantedE_ok (ops := ops) hab hw
    -- which operation of the chain this is
    have hchain : effB o = true → cnt ops i = c := fun he => by
      have h1 : ¬ cnt ops i < c := fun h => by
        have := (I.chain i (by rw [hisE, he])).2 h
        rw [hun] at this; cases this
      rcases Nat.lt_or_ge c (cnt ops i) with h2 | h2
      · obtain ⟨j, h3, h4, h5⟩ := cnt_hit h2
        have h6 := hk.chain i j (by rw [hisE, he]) h4 h3
        have h7 := (bef_spec hk.h0 h6).2 _ I.closed hpr
        have h8 := (I.chain j h4).1 h7
        omega
      · omega
    have hposs : possB ops i c = true := by
      unfold possB
      refine List.all_eq_true.2 fun k hkm => ?_
      cases hek : isEff ops k with
      | false => rfl
      | true =>
        simp only [Bool.not_true, Bool.false_or]
        by_cases hlt2 : cnt ops k < c
        · have hb : Nat.blt (cnt ops k) c = true := Nat.ble_eq_true_of_le hlt2
          rw [if_pos hb]
          have hlk := (I.chain k hek).2 hlt2
          cases hbk : bef ops k i with
          | false => rfl
          | true =>
            have := (bef_spec hk.h0 hbk).2 _ I.closed (fun op hop e he hbb => I.closed k op hop hlk e he hbb)
            rw [hun] at this; cases this
        · have hb : ¬ Nat.blt (cnt ops k) c = true := fun h => hlt2 (Nat.le_of_ble_eq_true h)
          rw [if_neg hb]
          cases hbk : bef ops i k with
          | false => rfl
          | true =>
            have h7 := (bef_spec hk.h0 hbk).2 _ I.closed hpr
            exact absurd ((I.chain k hek).1 h7) hlt2
    unfold wpOp
    simp only [ho]
    rw [hwant]
    cases wt with
    | false =>
      simp only [Bool.false_eq_true, if_false]
      have hvu := hwf rfl
      cases he : effB o with
      | true =>
        obtain ⟨A1, A2, h1, h2, _, h4⟩ := heff he
        have hA2 := h4 rfl
        subst hA2
        rw [hchain he] at h1 h2
        rw [I.mem] at h1; cases h1
        exact inv_any hcall hsame hk hE hL hq fuel _ _ w (c + 1) μ A (I.next hk ho hun hpr (by rw [hval, hvu]; exact VR_undef) I.wr Ext.refl h2 (.inl ⟨by rw [hisE, he], hchain he, rfl⟩)) hfuel
      | false =>
        exact inv_any hcall hsame hk hE hL hq fuel _ _ w c μ A (I.next hk ho hun hpr (by rw [hval, hvu]; exact VR_undef) I.wr Ext.refl I.mem (.inr ⟨by rw [hisE, he], rfl⟩)) hfuel
    | true =>
      simp only [if_true]
      left
      cases he : effB o with
      | true =>
        obtain ⟨A1, A2, h1, h2, h3, _⟩ := heff he
        obtain ⟨A3, h5, rfl⟩ := h3 rfl
        rw [hchain he] at h1 h2
        rw [I.mem] at h1; cases h1
        refine evOp1_ok hcall hsame I.wr hab h5 (fun v2 hv2 μ' v' w' hv' W' E' => ?_) (fun d hd => by cases hd) (fun v hv => by cases hv)
        cases hv2
        exact inv_any hcall hsame hk hE hL hq fuel _ _ w' (c + 1) μ' (layW A3) (I.next hk ho hun hpr (by rw [hval]; exact hv') W'.lay E'.lay h2 (.inl ⟨by rw [hisE, he], hchain he, rfl⟩)) hfuel
      | false =>
        have hop : ∃ A', aOp P m o A = some (v, A') ∧ A' = A := by
          have hql : quiet o.op = true ∨ looks o.op = true := by
            unfold effB at he
            cases hqo : quiet o.op with
            | true => exact .inl rfl
            | false =>
              rw [hqo] at he
              simp at he
              exact .inr he
          obtain ⟨A1, A2, h1, h2⟩ := hnon he rfl
          rcases hql with hqq | hll
          · exact ⟨A, quiet_any hqq h2 A, rfl⟩
          · obtain ⟨A3, h3⟩ := hL i o true v m ho hrec rfl hll c A hposs I.mem
            exact ⟨A3, h3, looks_same hll h3⟩
        obtain ⟨A', hop, rfl⟩ := hop
        obtain ⟨μ', v', w', hres, hv', W', E'⟩ := aOp_ok I.wr hTR hop
        have hnext := inv_any hcall hsame hk hE hL hq fuel _ _ w' c μ' _ (I.next hk ho hun hpr (by rw [hval]; exact hv') W' E' I.mem (.inr ⟨by rw [hisE, he], rfl⟩)) hfuel
        unfold Oper.wp
        rcases hres with hr | ⟨hr, rfl⟩
        · rw [hr, Oper.upon_value]; exact hnext
        · rw [hr, Oper.upon_skip]; exact hnext
end
theorem evDraw_ok (hm : P.follows .mixedOrders = true) {same : FuncId → Bool} (hsame : SameOK P same) {call : CallT} (hcall : CallOK P call) : DrawOK P (evDraw P same call) := by
  intro ops a A a' A' h μ b w id Q W hab hq
  unfold evDraw at h
  split at h
  · rename_i hok
    have hk := okDraw_spec hok
    split at h
    · rename_i rs Ms lf hd
      split at h
      · rename_i hc
        cases h
        obtain ⟨g1, g2, g3⟩ := dgo_spec (l0 := a.tmps) (recs := rs) (mems := A :: Ms) hk ops.toList 0 a.tmps A rs Ms lf (by simp) hd (by simp) (by simp [cnt]) (fun t => by
          unfold tv
          split <;> simp)
        have hchk := chkL_spec (P := P) (ops := ops) (mems := A :: Ms) (recs := rs) ops.toList 0 rs (by simp) (by simp) hc
        refine wp_region_any hm ?_
        obtain ⟨W1, E1⟩ := W.drawn (w.drawn + 1)
        refine inv_any (μ0 := μ) (A0 := A) (w0 := w) (l0 := a.tmps) (ds := a.defers) (mems := A :: Ms) hcall hsame hk (fun q o ho => g1 q o (Nat.zero_le _) ho) (fun q o wt v m ho hr hwt hlk j B hj hB => hchk q o wt v m (Nat.zero_le _) ho hr hwt hlk j B hj hB) ?_ ops.size _ b _ 0 μ A ?_ ?_
        · intro listed b' w' c μ' A' I hall
          have hcn : c = Ms.length := by
            have hge : Ms.length ≤ c := by
              rcases Nat.lt_or_ge c Ms.length with h1 | h1
              · have h2 : c < cnt ops (0 + ops.toList.length) := by rw [← g3]; omega
                obtain ⟨j, h3, h4, h5⟩ := cnt_hit h2
                have := (I.chain j h4).1 (hall j (eff_lt h4))
                omega
              · exact h1
            have hle : c < (A :: Ms).length := (List.getElem?_eq_some_iff.1 I.mem).1
            simp only [List.length_cons] at hle
            omega
          have hA' : A' = lastOr A Ms := by
            have := I.mem
            rw [hcn, lastOr_get] at this
            exact (Option.some.inj this).symm
          subst hA'
          refine hq b' w' ⟨μ', rfl, ⟨fun t v hv => ?_, I.len, I.defers⟩, I.wr, I.ext⟩
          refine I.tmps t v ?_
          rw [← hv, g2 t]
          unfold tv
          cases hwr : writer ops t with
          | none => rfl
          | some p =>
            simp only
            have hp := dst_lt (writer_some hwr)
            rw [hall p hp]
            simp [hp]
        · refine ⟨by simp, fun i o ho hi => ?_, fun i hi => ?_, rfl, fun t v ht => ?_, hab.len, hab.defers, W1, E1⟩
          · unfold lstOf at hi
            rw [Array.getD_eq_getD_getElem?] at hi
            simp only [Array.getElem?_replicate] at hi
            split at hi <;> cases hi
          · constructor
            · intro h
              unfold lstOf at h
              rw [Array.getD_eq_getD_getElem?] at h
              simp only [Array.getElem?_replicate] at h
              split at h <;> cases h
            · intro h; omega
          · refine hab.tmps t v ?_
            rw [← ht]
            unfold tv
            have hf : ∀ p, lstOf (Array.replicate ops.size false) p = false := fun p => by
              unfold lstOf
              rw [Array.getD_eq_getD_getElem?]
              simp only [Array.getElem?_replicate]
              split <;> rfl
            split
            · simp [hf]
            · rfl
        · exact Nat.le_trans (List.length_filter_le _ _) (by simp)
      · cases h
    · cases h
  · cases h
end Ev
end Go.Proofs.Ytojbgnglpbgoiaa
