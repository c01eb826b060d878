/- Bytes that are copied into a row of their own. -/
import Derived.Test.YtkmcbhdjecpmjaaDoorCopy7
import Derived.Test.YtkmcbhdjecpmjaaDoorRdM
import Derived.Laws.IdiomStrings
import Derived.Test.YtkmcbhdjecpmjaaDoorRGet7Joint
import Derived.Test.YtkmcbhdjecpmjaaDoorRPut7Joint
import Derived.Test.YtkmcbhdjecpmjaaDoorOpen8Joint
import Derived.Test.YtkmcbhdjecpmjaaDoorOwn7
import Derived.Test.YtkmcbhdjecpmjaaDoorTbs7Joint
import Derived.Test.YtkmcbhdjecpmjaaDoorSmall7
import Derived.Test.YtkmcbhdjecpmjaaDoorAlike7
namespace Go.Proofs.YtkmcbhdjecpmjaaDoor
open Go.RowKit

/-- append of a list onto an empty row. -/
theorem run_copyU {B H : Nat} {w : World} (hown : w.ownsRow B 5 1 (.slice (some ⟨H, 0, none⟩) 0 0) 0 []) (ty : TypeId) {fo : Option Addr} {fn fc : Nat} {F : List Nat} (hF : RdU w fo F) (hfn : fn = F.length) (hl : fn ≤ 1000000) (hB : B ≤ w.heap.size) :
    ∃ g cap w', (Builtin.append_ #[59, 59] ty #[.slice (some ⟨H, 0, none⟩) 0 0, .slice fo fn fc]).run Tryd.prog w = .ok (.slice (some ⟨g, 0, none⟩) fn cap) w' ∧ w'.ownsRow B 5 1 (.slice (some ⟨g, 0, none⟩) fn cap) fn (u8n F) ∧ w.grownBy w' (some H) ∧ (g = H ∨ g = w.heap.size) ∧ g < w'.heap.size := by
  obtain ⟨i, hi, hz, hsize, hby⟩ := info_parts Tryd.info5
  by_cases h0 : fn = 0
  · subst h0
    have hF0 : F = [] := List.eq_nil_of_length_eq_zero hfn.symm
    subst hF0
    have hs : Src Tryd.prog i.size 59 (.slice fo 0 fc) 0 [] w := by
      cases fo with
      | none => exact Src.ofNil w Tryd.underlying59 fc
      | some a => exact Src.ofSlice w Tryd.underlying59 a 0 fc [] (by simp) (fun j u hj => by simp at hj) (fun u hu => by simp at hu)
    have hr : (Builtin.append_ #[59, 59] ty #[.slice (some ⟨H, 0, none⟩) 0 0, .slice fo 0 fc]).run Tryd.prog w = .ok (.slice (some ⟨H, 0, none⟩) 0 0) w := by
      simp [Builtin.append_, run_underlying Tryd.underlying59, sizeOf, typeInfo, hi, hs.len, hs.cells, storeCells]
    exact ⟨H, 0, w, hr, hown, ⟨rfl, rfl, rfl, Nat.le_refl _, fun _ _ _ => rfl⟩, .inl rfl, (hown.lt H rfl).2⟩
  · obtain ⟨a, rfl, _, _⟩ := hF 0 F[0] (List.getElem?_eq_getElem (by omega))
    obtain ⟨g, cap, w', hr, h2, h3, h4, h5⟩ := run_append_lies (P := Tryd.prog) w 59 ty B 5 i (.int .u8 0) 1 1 Tryd.underlying59 hi hz hsize hby rfl (by decide) (.slice (some ⟨H, 0, none⟩) 0 0) 0 [] hown a fn fc (u8n F) (by rw [u8n_len, hfn, Nat.mul_one]) (fun j u hj => by
      rw [show (u8n F)[j]? = (F[j]?).map fun b : Nat => Value.int .u8 (b : Int) by simp [u8n]] at hj
      obtain ⟨z, hz1, hz2⟩ := Option.map_eq_some_iff.1 hj
      obtain ⟨a', e, _, h⟩ := hF j z hz1
      cases e
      rw [h, hz2]) (u8n_one F) (by omega) (by unfold maxLen; omega) (by omega) hB w.heap.size rfl
    refine ⟨g, cap, w', by simpa using hr, by simpa using h2, h3, ?_, h5⟩
    rcases h4 with h | h
    · exact .inl (Option.some.inj h).symm
    · exact .inr h
theorem wp_copyU {w : World} {o : Oper} {a : Act} {K : Act → World → Prop} {Q : Exit → Act → World → Prop} (s x : Operand) (ho : o.op = .call { callee := .builtin .append, args := #[s, x], argTypes := #[59, 59] }) (B H : Nat) (hs : a.eval s = .slice (some ⟨H, 0, none⟩) 0 0) (hown : w.ownsRow B 5 1 (.slice (some ⟨H, 0, none⟩) 0 0) 0 []) (fo : Option Addr) (fn fc : Nat) (F : List Nat) (hx : a.eval x = .slice fo fn fc) (hF : RdU w fo F) (hfn : fn = F.length) (hl : fn ≤ 1000000) (hB : B ≤ w.heap.size)
    (h : ∀ g cap w', w'.ownsRow B 5 1 (.slice (some ⟨g, 0, none⟩) fn cap) fn (u8n F) → w.grownBy w' (some H) → (g = H ∨ g = w.heap.size) → g < w'.heap.size → K (a.put o.dst (.slice (some ⟨g, 0, none⟩) fn cap)) w') : o.wp Tryd.prog a w K Q := by
  obtain ⟨g, cap, w', hr, h2, h3, h4, h5⟩ := run_copyU hown o.type (fc := fc) hF hfn hl hB
  unfold Oper.wp execOp
  simp only [ho, resolve, invoke, builtin, Sem.run_bind, Sem.run_pure, Result.andThen_ok, List.map_toArray, List.map_cons, List.map_nil, hs, hx, hr]
  exact h g cap w' h2 h3 h4 h5
theorem wpList_copyU {w : World} {ops : Array Oper} {rest : List Oper} {o : Oper} {a : Act} {Q : Exit → Act → World → Prop} (hgd : o.guard = none) (s x : Operand) (ho : o.op = .call { callee := .builtin .append, args := #[s, x], argTypes := #[59, 59] }) (B H : Nat) (hs : a.eval s = .slice (some ⟨H, 0, none⟩) 0 0) (hown : w.ownsRow B 5 1 (.slice (some ⟨H, 0, none⟩) 0 0) 0 []) (fo : Option Addr) (fn fc : Nat) (F : List Nat) (hx : a.eval x = .slice fo fn fc) (hF : RdU w fo F) (hfn : fn = F.length) (hl : fn ≤ 1000000) (hB : B ≤ w.heap.size)
    (h : ∀ g cap w', w'.ownsRow B 5 1 (.slice (some ⟨g, 0, none⟩) fn cap) fn (u8n F) → w.grownBy w' (some H) → (g = H ∨ g = w.heap.size) → g < w'.heap.size → wpList Tryd.prog ops Q rest (a.put o.dst (.slice (some ⟨g, 0, none⟩) fn cap)) w') : wpList Tryd.prog ops Q (o :: rest) a w :=
  wpList_plain hgd fun _ hK => wp_copyU s x ho B H hs hown fo fn fc F hx hF hfn hl hB fun g cap w' h2 h3 h4 h5 => hK _ _ (h g cap w' h2 h3 h4 h5)
end Go.Proofs.YtkmcbhdjecpmjaaDoor
/- What DfaBytes' walk uses: what Get and Put answer, said in one way; bytes as a text. -/
namespace Go.Proofs.YtkmcbhdjecpmjaaDoor
open Go.RowKit

/-- What bytes tell: an automaton and no error, or an error and nothing. -/
def GtR (b : List Nat) (c : Int) (R : Rw) (T : List Int) (k : Int) : Prop :=
  (k = 0 ∧ Gd c R T ∧ encD c R T = b) ∨ (k = 71 ∧ NoD b ∧ c = 0 ∧ R = [] ∧ T = [])
theorem GtR.uniq {b : List Nat} {c c' k k' : Int} {R R' : Rw} {T T' : List Int} (h : GtR b c R T k) (h' : GtR b c' R' T' k') : c' = c ∧ R' = R ∧ T' = T ∧ k' = k := by
  rcases h with ⟨rfl, g, e⟩ | ⟨rfl, n, rfl, rfl, rfl⟩
  · rcases h' with ⟨rfl, g', e'⟩ | ⟨rfl, n, rfl, rfl, rfl⟩
    · obtain ⟨h1, h2, h3⟩ := encD_inj g g' (e.trans e'.symm)
      exact ⟨h1, h2, h3, rfl⟩
    · exact absurd e (n _ _ _ g)
  · rcases h' with ⟨rfl, g', e'⟩ | ⟨rfl, n', rfl, rfl, rfl⟩
    · exact absurd e' (n _ _ _ g')
    · exact ⟨rfl, rfl, rfl, rfl⟩
def GtZ (w : World) (b : List Nat) (e : Ending) (w' : World) : Prop :=
  ∃ (c k : Int) (R : Rw) (T : List Int) (no to : Option Addr) (n m nc tc : Nat), GtR b c R T k ∧ e = .returned (.tuple #[.agg #[.int .i64 c, .slice no n nc, .slice to m tc], .int .i64 k]) ∧ DRd w' no n to m R T ∧ Below w.heap.size w w'
theorem GtQ.one {w : World} {b : List Nat} {e : Ending} {w' : World} (h : GtQ w b e w') : GtZ w b e w' := by
  rcases h with ⟨c, R, T, no, to, nc, tc, g, he, h1, h2, h3⟩ | ⟨hn, h1, h2⟩
  · exact ⟨c, 0, R, T, no, to, _, _, nc, tc, .inl ⟨rfl, g, he⟩, h1, h2, h3⟩
  · exact ⟨0, 71, [], [], none, none, 0, 0, 0, 0, .inr ⟨rfl, hn, rfl, rfl, rfl⟩, h1, ⟨rfl, rfl, fun k z hk => (by cases hk), fun k z hk => (by cases hk), by decide, by decide⟩, h2⟩
/-- What Put tells. -/
def PdR (c : Int) (R : Rw) (T : List Int) (U : List Nat) (k : Int) : Prop :=
  (k = 0 ∧ Gd c R T ∧ U = encD c R T) ∨ (k = 70 ∧ ¬ Gd c R T ∧ U = [])
theorem PdR.uniq {c k k' : Int} {R : Rw} {T : List Int} {U U' : List Nat} (h : PdR c R T U k) (h' : PdR c R T U' k') : U' = U ∧ k' = k := by
  rcases h with ⟨rfl, g, rfl⟩ | ⟨rfl, g, rfl⟩
  · rcases h' with ⟨rfl, g', rfl⟩ | ⟨rfl, g', rfl⟩
    · exact ⟨rfl, rfl⟩
    · exact absurd g g'
  · rcases h' with ⟨rfl, g', rfl⟩ | ⟨rfl, g', rfl⟩
    · exact absurd g' g
    · exact ⟨rfl, rfl⟩
def PdZ (w : World) (c : Int) (R : Rw) (T : List Int) (e : Ending) (w' : World) : Prop :=
  ∃ (U : List Nat) (k : Int) (vo : Option Addr) (ul vc : Nat), PdR c R T U k ∧ e = .returned (.tuple #[.slice vo ul vc, .int .i64 k]) ∧ Byt w.heap.size w' vo ul vc U 140000 ∧ Below w.heap.size w w'
theorem PdQ.one {w : World} {c : Int} {R : Rw} {T : List Int} {e : Ending} {w' : World} (h : PdQ w c R T e w') : PdZ w c R T e w' := by
  rcases h with ⟨g, vo, ul, vc, h1, h2, h3⟩ | ⟨g, h1, h2⟩
  · exact ⟨_, 0, vo, ul, vc, .inl ⟨rfl, g, rfl⟩, h1, h2, h3⟩
  · exact ⟨[], 70, none, 0, 0, .inr ⟨rfl, g, rfl⟩, h1, Byt.nil _ _ _, h2⟩
theorem vn_byte : ∀ (f n : Nat), n < f → ∀ c ∈ vn n, c < 256
  | 0, _, h => by omega
  | f + 1, n, h => fun c hc => by
    by_cases hn : 128 ≤ n
    · rw [vn_more n hn] at hc
      rcases List.mem_cons.1 hc with rfl | hc
      · omega
      · exact vn_byte f (n / 128) (by omega) c hc
    · rw [vn_last n hn] at hc
      rw [List.mem_singleton.1 hc]
      omega
theorem encD_byte (c : Int) (R : Rw) (T : List Int) : ∀ x ∈ encD c R T, x < 256 := fun x hx => by
  unfold encD encL at hx
  obtain ⟨n, _, hn⟩ := List.mem_flatMap.1 hx
  exact vn_byte (n + 1) n (by omega) x hn
theorem PdR.byte {c k : Int} {R : Rw} {T : List Int} {U : List Nat} (h : PdR c R T U k) : ∀ x ∈ U, x < 256 := by
  rcases h with ⟨_, _, rfl⟩ | ⟨_, _, rfl⟩
  · exact encD_byte c R T
  · intro x hx; cases hx
/-- Bytes as a text. -/
def by8 (b : List Nat) : List UInt8 := b.map UInt8.ofNat
theorem conv_nil (w : World) : (convert 59 9 (.slice none 0 0)).run Tryd.prog w = .ok (.string ⟨(by8 []).toArray⟩) w := by kernel_rfl
theorem conv_u8 {w : World} {ao : Option Addr} {b : List Nat} (cap m : Nat) (hm : m = b.length) (h : RdU w ao b) (h8 : ∀ c ∈ b, c < 256) (hn : ao = none → cap = 0) : (convert 59 9 (.slice ao m cap)).run Tryd.prog w = .ok (.string ⟨(by8 b).toArray⟩) w := by
  subst hm
  cases ao with
  | none =>
    have hB : b = [] := by
      cases b with
      | nil => rfl
      | cons y ys => obtain ⟨a, h1, _⟩ := h 0 y rfl; cases h1
    subst hB
    rw [hn rfl]
    exact conv_nil w
  | some a =>
    have hl : (by8 b).length = b.length := by simp [by8]
    rw [← hl]
    refine run_convert_bytes_back _ 59 9 5 a cap (by8 b) Tryd.underlying59 Tryd.underlying5 Tryd.underlying9 (fun j hj => ?_)
    have hj' : j < b.length := by rw [← hl]; exact hj
    obtain ⟨a', h1, _, h3⟩ := h j b[j] (List.getElem?_eq_getElem hj')
    cases h1
    rw [h3]
    have h256 := h8 b[j] (List.getElem_mem hj')
    have e : (by8 b)[j] = UInt8.ofNat b[j] := by simp [by8]
    rw [e]
    have e2 : (UInt8.ofNat b[j]).toNat = b[j] := by simp; omega
    rw [e2]
theorem own_nilcap {B n cap : Nat} {ao : Option Addr} {xs : List Value} {w : World} (h : w.ownsRow B 5 1 (.slice ao n cap) n xs) : (ao = none → cap = 0) ∧ n ≤ cap := by
  rcases h.2 with ⟨h', h0⟩ | ⟨g', cap', cur, h', hb, hg, hnc, hcm, hcs, ht⟩
  · injection h' with e1 e2 e3
    exact ⟨fun _ => e3, by rw [e3, h0]; exact Nat.le_refl _⟩
  · injection h' with e1 e2 e3
    exact ⟨fun e => (by rw [e1] at e; cases e), (by rw [e3]; exact hnc)⟩
/-- The beginning of what reads. -/
theorem RdU.front {w : World} {ao : Option Addr} {b c : List Nat} (h : RdU w ao (b ++ c)) : RdU w ao b := fun k z hk => h k z (by rw [List.getElem?_append_left (List.getElem?_eq_some_iff.1 hk).1]; exact hk)
end Go.Proofs.YtkmcbhdjecpmjaaDoor
/- DfaBytes: the walk. -/
namespace Go.Proofs.YtkmcbhdjecpmjaaDoor
open Go.RowKit

set_option maxHeartbeats 8000000 in
set_option maxRecDepth 100000 in
theorem bytes_main (c : Int) (no to : Option Addr) (n nc m tc : Nat) (R : Rw) (T : List Int) (bo : Option Addr) (bl bc : Nat) (b : List Nat) (w : World) (hd : DRd w no n to m R T) (hb : RdU w bo b) (h8 : ∀ c ∈ b, c < 256) (hbl : bl = b.length) (hbm : bl ≤ 9223372036854775807) (hbc : bl ≤ bc) (ht : Tb w) :
    Calls Tryd.prog 9 #[.agg #[.int .i64 c, .slice no n nc, .slice to m tc], .slice bo bl bc] w fun e w' => e = .returned (.bool true) ∧ Below w.heap.size w w' := by
  obtain ⟨i5, hi5, hz0, hz1, hz2⟩ := info_parts Tryd.info5
  have HD := hid hd
  have HL := hid hb
  have H8 := hid h8
  have HLL := hid hbl
  have HLC := hid hbc
  have HTB := hid ht
  have hp := ht.pos
  have HB1 := hid (below_box (w := w) (o := .cells #[.int .i64 c, .slice no n nc, .slice to m tc] 32))
  have HBS := hid (box_self (w := w) (o := .cells #[.int .i64 c, .slice no n nc, .slice to m tc] 32))
  clear hd hb hbl hbc ht h8
  go_enter Tryd.func9, Tryd.ntmps9
  go_wp2_with fail
  obtain ⟨w1, hw1⟩ : ∃ w1, w1 = w.alloc (.cells #[.int .i64 c, .slice no n nc, .slice to m tc] 32) := ⟨_, rfl⟩
  obtain ⟨p3, hp3⟩ : ∃ p, p = w.heap.size := ⟨_, rfl⟩
  have c012 := box3 HBS.out
  rw [← hw1, ← hp3] at c012
  rw [← hw1]
  rw [← hw1] at HB1
  rw [← hp3]
  have HP3 := hid c012
  clear hw1 hp3 c012 HBS
  refine (long_any c no to n nc m tc R T w1 (HD.out.below HB1.out)).mono ?_
  rintro e w2 ⟨lb, rfl, hb, be_w2⟩
  have HB_w2 := hid be_w2
  clear be_w2
  cases lb with
  | true =>
    go_wp2_with fail
    refine (lives_tb (HTB.out.keep (HB1.out.trans (HB_w2.out.mono HB1.out.size)) hp)).mono ?_
    rintro e w3 ⟨rfl, be_w3⟩
    have HB_w3 := hid (HB1.out.trans ((HB_w2.out.trans (be_w3.mono HB_w2.out.size)).mono HB1.out.size))
    clear be_w3
    go_wp2
    go_ret
    exact ⟨rfl, HB_w3.out⟩
  | false =>
    obtain ⟨h60, h15, hrl⟩ := hb rfl
    have HRL := hid hrl
    clear hrl hb
    by_cases g60 : 3000 < bl
    · have i60 : (3000 : Int) < (bl : Int) := by omega
      go_wp2_with fail
      refine (lives_tb (HTB.out.keep (HB1.out.trans (HB_w2.out.mono HB1.out.size)) hp)).mono ?_
      rintro e w3 ⟨rfl, be_w3⟩
      have HB_w3 := hid (HB1.out.trans ((HB_w2.out.trans (be_w3.mono HB_w2.out.size)).mono HB1.out.size))
      clear be_w3
      go_wp2
      go_ret
      exact ⟨rfl, HB_w3.out⟩
    · have i60 : ¬ (3000 : Int) < (bl : Int) := by omega
      have HOE := hid (show (w2.alloc (.cells #[] 5)).ownsRow w2.heap.size 5 1 (.slice (some ⟨w2.heap.size, 0, none⟩) 0 0) 0 [] from World.ownsRow_lit w2 #[] 0 (Nat.le_refl _) (by decide) (by simp))
      have HBA := hid (show Below w1.heap.size w1 (w2.alloc (.cells #[] 5)) from HB_w2.out.alloc HB_w2.out.size _)
      go_wp2_with (first | (at_builtin; refine wpList_copyU rfl _ _ rfl w2.heap.size w2.heap.size rfl HOE.out bo bl bc b rfl ((HL.out.below HB1.out).below HBA.out) HLL.out (by omega) (by simp) ?_; intro g gcap w5 o5 gr5 hg5 hlt5; have HO5 := hid o5; have hs5 : w2.heap.size + 1 ≤ w5.heap.size := (by have h := gr5.size; simpa using h); have HB5 := hid (show Below w1.heap.size w1 w5 from HBA.out.trans ⟨gr5.os, gr5.tape, gr5.output, gr5.size, fun q hq => gr5.block q (by have := HB_w2.out.size; simp; omega) (fun e => by have := Option.some.inj e; have := HB_w2.out.size; omega)⟩); clear o5 gr5 hg5 hlt5) | (at_builtin; go_loud (refine wpList_append_lies _ rfl _ _ 59 rfl w2.heap.size 5 i5 (.int .u8 0) 1 1 Tryd.underlying59 hi5 hz0 hz1 hz2 rfl (by decide) (.slice (some ⟨g, 0, none⟩) bl gcap) bl (u8n b) rfl (HO5.out.alloc _) ⟨w5.heap.size, 0, none⟩ 1 1 [.int .u8 9] rfl rfl (news_one w5 _ 5) (u8n_one [9]) (by decide) (by unfold maxLen; omega) (by omega) (by simp; omega) (w5.heap.size + 1) (by simp) ?_; intro g6 cap6 w6 o6 gr6 hl6 hlt6; have HO6 := hid o6; have hs6 : w5.heap.size + 1 ≤ w6.heap.size := (by have h := gr6.size; simpa using h); have HG6 := hid gr6; have hcap6 : (bl : Int) ≤ (cap6 : Int) := (by have := (own_nilcap o6).2; omega); clear o6 gr6 hl6 hlt6)))
      have hs5' := HB5.out.size
      have hgb := (HO5.out.lt g rfl).1
      have hsw2 := HB_w2.out.size
      have HB6 := hid (show Below w1.heap.size w1 w6 from HB5.out.trans ⟨HG6.out.os, HG6.out.tape, HG6.out.output, by have h := HG6.out.size; simp at h; omega, fun q hq => (HG6.out.block q (by simp; omega) (fun e => by have e' : some q = some g := e; have := Option.some.inj e'; omega)).trans (al_old _ _ (by omega))⟩)
      have HR6 := hid (show RdU w6 (some ⟨g6, 0, none⟩) (b ++ [9]) from rdu_own (by rw [u8n_app]; exact HO6.out))
      have HC9 := hid (show w6.cell? ⟨g6, bl, none⟩ = some (.int .u8 9) from by
        have h := HO6.out.cellAt bl (by omega)
        rw [h, List.getElem?_append_right (by rw [u8n_len]; have := HLL.out; omega), u8n_len, ← HLL.out, Nat.sub_self]; rfl)
      clear hs5' hgb HG6 HO6 HO5 HB5 HOE HBA
      refine (get_any (some ⟨g6, 0, none⟩) bl cap6 b w6 HR6.out.front H8.out HLL.out (by omega) (by omega)).mono ?_
      intro e w7 hq7
      obtain ⟨c1, k1, R1, T1, no1, to1, n1, m1, nc1, tc1, hr1, rfl, hd1, be7⟩ := hq7.one
      have HR1 := hid hr1
      have HD1 := hid hd1
      have HB7 := hid (HB6.out.trans (be7.mono HB6.out.size))
      have HC97 := hid (cell_bl be7 HC9.out)
      clear hq7 hr1 hd1 be7 HC9 HR6
      go_wp2_with fail
      obtain ⟨w8, hw8⟩ : ∃ w8, w8 = w7.alloc (.cells #[.int .i64 c1, .slice no1 n1 nc1, .slice to1 m1 tc1] 32) := ⟨_, rfl⟩
      have be8 := below_box (w := w7) (o := .cells #[.int .i64 c1, .slice no1 n1 nc1, .slice to1 m1 tc1] 32)
      have c6 := box3 (box_self (w := w7) (o := .cells #[.int .i64 c1, .slice no1 n1 nc1, .slice to1 m1 tc1] 32))
      obtain ⟨p6, hp6⟩ : ∃ p, p = w7.heap.size := ⟨_, rfl⟩
      rw [← hw8, ← hp6] at c6
      rw [← hw8] at be8
      rw [← hw8, ← hp6]
      clear hw8 hp6
      have HP6 := hid c6
      have HB8 := hid (HB7.out.trans (be8.mono HB7.out.size))
      have HC98 := hid (cell_bl be8 HC97.out)
      have HD18 := hid (HD1.out.below be8)
      clear c6 be8 HC97 HD1 HB7
      refine (rget_any bo bl bc b w8 ((HL.out.below HB1.out).below HB8.out) H8.out HLL.out (by omega)).mono ?_
      intro e w9 hq9
      obtain ⟨c2, k2, R2, T2, no2, to2, n2, m2, nc2, tc2, hr2, rfl, hd2, be9⟩ := hq9.one
      obtain ⟨rfl, rfl, rfl, rfl⟩ := HR1.out.uniq hr2
      have hn12 : n2 = n1 := hd2.hn.trans HD18.out.hn.symm
      have hm12 : m2 = m1 := hd2.hm.trans HD18.out.hm.symm
      subst hn12 hm12
      have HD2 := hid hd2
      have HB9 := hid (HB8.out.trans (be9.mono HB8.out.size))
      have HC99 := hid (cell_bl be9 HC98.out)
      have HD19 := hid (HD18.out.below be9)
      have HP69 := hid (show _ ∧ _ ∧ _ from ⟨cell_bl be9 HP6.out.1, cell_bl be9 HP6.out.2.1, cell_bl be9 HP6.out.2.2⟩)
      clear hq9 hr2 hd2 be9 HC98 HD18 HP6 HB8
      go_wp2_with fail
      obtain ⟨w10, hw10⟩ : ∃ w10, w10 = w9.alloc (.cells #[.int .i64 c2, .slice no2 n2 nc2, .slice to2 m2 tc2] 32) := ⟨_, rfl⟩
      have be10 := below_box (w := w9) (o := .cells #[.int .i64 c2, .slice no2 n2 nc2, .slice to2 m2 tc2] 32)
      have c8 := box3 (box_self (w := w9) (o := .cells #[.int .i64 c2, .slice no2 n2 nc2, .slice to2 m2 tc2] 32))
      obtain ⟨p8, hp8⟩ : ∃ p, p = w9.heap.size := ⟨_, rfl⟩
      rw [← hw10, ← hp8] at c8
      rw [← hw10] at be10
      rw [← hw10, ← hp8]
      clear hw10 hp8
      have HP8 := hid c8
      have HB10 := hid (HB9.out.trans (be10.mono HB9.out.size))
      have HC910 := hid (cell_bl be10 HC99.out)
      have HD110 := hid (HD19.out.below be10)
      have HD210 := hid (HD2.out.below be10)
      have HP610 := hid (show _ ∧ _ ∧ _ from ⟨cell_bl be10 HP69.out.1, cell_bl be10 HP69.out.2.1, cell_bl be10 HP69.out.2.2⟩)
      clear c8 be10 HC99 HD19 HD2 HP69 HB9
      refine (num_any k2 w10).mono ?_
      rintro e w11 ⟨rfl, hw11⟩
      obtain rfl := hw11.symm
      clear hw11
      have vk2 : (k2 == k2) = true := beq_self_eq_true k2
      have d0 := HP610.out.1
      have d1 := HP610.out.2.1
      have d2 := HP610.out.2.2
      have e0 := HP8.out.1
      have e1 := HP8.out.2.1
      have e2 := HP8.out.2.2
      go_wp2_with fail
      refine (alike_any c2 no1 to1 no2 to2 n2 nc1 m2 tc1 nc2 tc2 R2 T2 w10 HD110.out HD210.out).mono ?_
      rintro e w12 ⟨rfl, be12⟩
      have HB12 := hid (HB10.out.trans (be12.mono HB10.out.size))
      have c9 := cell_bl be12 HC910.out
      have a0 := cell_bl HB12.out HP3.out.1
      have a1 := cell_bl HB12.out HP3.out.2.1
      have a2 := cell_bl HB12.out HP3.out.2.2
      clear be12 d0 d1 d2 e0 e1 e2 HC910 HD110 HD210 HP610 HP8 HB10 HR1
      go_wp2_with fail
      refine (own_any c no to n nc m tc R T w12 ((HD.out.below HB1.out).below HB12.out) h60 h15 HRL.out).mono ?_
      rintro e w13 ⟨qo, uo, qc, uc, rfl, hQ, be13⟩
      have HB13 := hid (HB12.out.trans (be13.mono HB12.out.size))
      have HQ13 := hid hQ
      clear be13 hQ a0 a1 a2 c9 HB12
      go_wp2_with fail
      refine (put_any c qo uo n qc m uc R T w13 HQ13.out).mono ?_
      intro e w14 hq14
      obtain ⟨U, k, vo, ul, vc, hu, rfl, hbt, be14⟩ := hq14.one
      have HU := hid hu
      have HBT := hid hbt
      have HB14 := hid (HB13.out.trans (be14.mono HB13.out.size))
      clear hq14 hu hbt be14 HB13 HQ13
      have a0 := cell_bl HB14.out HP3.out.1
      have a1 := cell_bl HB14.out HP3.out.2.1
      have a2 := cell_bl HB14.out HP3.out.2.2
      go_wp2_with fail
      refine (rputD_any c no to n nc m tc R T w14 ((HD.out.below HB1.out).below HB14.out)).mono ?_
      intro e w15 hq15
      obtain ⟨U', k', vo', ul', vc', hu', rfl, hbt', be15⟩ := hq15.one
      obtain ⟨rfl, rfl⟩ := HU.out.uniq hu'
      have HB15 := hid (HB14.out.trans (be15.mono HB14.out.size))
      have hbt2 := HBT.out.below be15
      have j1 : (convert 59 9 (.slice vo ul vc)).run Tryd.prog w15 = .ok (.string ⟨(by8 U').toArray⟩) w15 := conv_u8 vc ul hbt2.len (rdu_own hbt2.own) HU.out.byte (own_nilcap hbt2.own).1
      have j2 : (convert 59 9 (.slice vo' ul' vc')).run Tryd.prog w15 = .ok (.string ⟨(by8 U').toArray⟩) w15 := conv_u8 vc' ul' hbt'.len (rdu_own hbt'.own) HU.out.byte (own_nilcap hbt'.own).1
      have HBT2 := hid hbt2
      have vk : (k' == k') = true := beq_self_eq_true k'
      obtain ⟨us, hus⟩ : ∃ us, us = by8 U' := ⟨_, rfl⟩
      rw [← hus] at j1 j2
      have vu : (us == us) = true := beq_self_eq_true us
      clear hq15 hu' hbt' be15 hbt2 HBT a0 a1 a2 HB14 hus
      go_wp2_with fail
      refine (num_any k' w15).mono ?_
      rintro e w16 ⟨rfl, hw16⟩
      obtain rfl := hw16.symm
      clear hw16
      go_wp2_with fail
      refine (num_any k' w15).mono ?_
      rintro e w16 ⟨rfl, hw16⟩
      obtain rfl := hw16.symm
      clear hw16 j1 j2 vu vk
      rcases HU.out with ⟨hk0, hgd, hue⟩ | ⟨hk7, _, _⟩
      · have HGD := hid hgd
        have HUE := hid hue
        clear hgd hue
        subst hk0
        go_wp2_with fail
        have hle := HBT2.out.le
        refine (get_any vo ul vc U' w15 (rdu_own HBT2.out.own) HU.out.byte HBT2.out.len (own_nilcap HBT2.out.own).2 (by omega)).mono ?_
        intro e w17 hq17
        obtain ⟨c3, k3, R3, T3, no3, to3, n3, m3, nc3, tc3, hr3, rfl, hd3, be17⟩ := hq17.one
        obtain ⟨rfl, rfl, rfl, rfl⟩ := GtR.uniq (show GtR U' c R T 0 from .inl ⟨rfl, HGD.out, HUE.out.symm⟩) hr3
        have hn3 : n3 = n := hd3.hn.trans HD.out.hn.symm
        have hm3 : m3 = m := hd3.hm.trans HD.out.hm.symm
        subst hn3 hm3
        have HB17 := hid (HB15.out.trans (be17.mono HB15.out.size))
        have HD3 := hid hd3
        clear hq17 hr3 hd3 be17 HBT2 HUE HGD HU
        go_wp2_with fail
        obtain ⟨w18, hw18⟩ : ∃ w18, w18 = w17.alloc (.cells #[.int .i64 c3, .slice no3 n3 nc3, .slice to3 m3 tc3] 32) := ⟨_, rfl⟩
        have be18 := below_box (w := w17) (o := .cells #[.int .i64 c3, .slice no3 n3 nc3, .slice to3 m3 tc3] 32)
        have c8 := box3 (box_self (w := w17) (o := .cells #[.int .i64 c3, .slice no3 n3 nc3, .slice to3 m3 tc3] 32))
        obtain ⟨p9, hp9⟩ : ∃ p, p = w17.heap.size := ⟨_, rfl⟩
        rw [← hw18, ← hp9] at c8
        rw [← hw18] at be18
        rw [← hw18, ← hp9]
        clear hw18 hp9
        have HB18 := hid (HB17.out.trans (be18.mono HB17.out.size))
        have HD38 := hid (HD3.out.below be18)
        clear be18 HB17 HD3
        refine (num_any 0 w18).mono ?_
        rintro e w19 ⟨rfl, hw19⟩
        obtain rfl := hw19.symm
        clear hw19
        have d0 := c8.1
        have d1 := c8.2.1
        have d2 := c8.2.2
        have a0 := cell_bl HB18.out HP3.out.1
        have a1 := cell_bl HB18.out HP3.out.2.1
        have a2 := cell_bl HB18.out HP3.out.2.2
        clear c8
        go_wp2_with fail
        refine (alike_any c3 no3 to3 no to n3 nc3 m3 tc3 nc tc R3 T3 w18 HD38.out ((HD.out.below HB1.out).below HB18.out)).mono ?_
        rintro e w20 ⟨rfl, be20⟩
        have HB20 := hid (HB18.out.trans (be20.mono HB18.out.size))
        clear be20 d0 d1 d2 a0 a1 a2
        go_wp2_with fail
        refine (lives_tb (HTB.out.keep (HB1.out.trans (HB20.out.mono HB1.out.size)) hp)).mono ?_
        rintro e w21 ⟨rfl, be21⟩
        have HB21 := hid (HB1.out.trans ((HB20.out.trans (be21.mono HB20.out.size)).mono HB1.out.size))
        clear be21
        go_wp2
        go_ret
        exact ⟨rfl, HB21.out⟩
      · subst hk7
        go_wp2_with fail
        refine (lives_tb (HTB.out.keep (HB1.out.trans (HB15.out.mono HB1.out.size)) hp)).mono ?_
        rintro e w17 ⟨rfl, be17⟩
        have HB17 := hid (HB1.out.trans ((HB15.out.trans (be17.mono HB15.out.size)).mono HB1.out.size))
        clear be17
        go_wp2
        go_ret
        exact ⟨rfl, HB17.out⟩
end Go.Proofs.YtkmcbhdjecpmjaaDoor
