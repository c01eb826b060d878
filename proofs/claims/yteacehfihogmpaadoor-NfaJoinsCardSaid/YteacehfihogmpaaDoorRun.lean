/- The contract of runner (package nfa). -/
import Derived.Test.YteacehfihogmpaaDoorRun0
namespace Go.Proofs.YteacehfihogmpaaDoor
open Go.RowKit

/-- What runner leaves. -/
def RnQ (w : World) (n : Nat) (L : List St) (e : Ending) (w' : World) : Prop :=
  ∃ (P wt ft ib : Nat) (ws fs : Nat → Option Addr × Nat) (WL : List (List Wy)) (FL : List (List Int)) (I : List Int) (z : Int) (S : List Int), e = .returned (.pointer (some ⟨P, 0, none⟩)) ∧ MAt w'.heap.size w' P wt ft ib n ws fs WL FL I z ∧ Mk I z n S ∧ 0 ≤ z ∧ z ≤ 8192 ∧
    (∀ (k : Nat) (s : St) (g : List Wy), L[k]? = some s → WL[k]? = some g → WOk n s g) ∧ (∀ (k : Nat) (s : St) (g : List Int), L[k]? = some s → FL[k]? = some g → FOk n s g) ∧ w.heap.size < P ∧ w.heap.size < ib ∧ Below w.heap.size w w'
theorem mem_two {α : Type} {a b : α} {l : List α} : b ∈ a :: b :: l := .tail _ (.head _)
theorem mk_zero (n : Nat) : Mk (List.replicate n (0 : Int)) 0 n ((List.range n).map fun (k : Nat) => (k : Int)) := by
  refine ⟨by simp, fun x hx => by have := (List.mem_replicate.1 hx).2; omega, ?_, fun x hx => ?_, fun t ht => ?_⟩
  · rw [List.nodup_iff_pairwise_ne, List.pairwise_map]
    exact List.Pairwise.imp (fun h => by omega) (List.nodup_iff_pairwise_ne.1 List.nodup_range)
  · obtain ⟨k, hk, rfl⟩ := List.mem_map.1 hx
    have := List.mem_range.1 hk
    omega
  · rw [List.getElem?_replicate, if_pos ht]
    simp only [true_iff]
    exact List.mem_map.2 ⟨t, List.mem_range.2 ht, rfl⟩
theorem wyc_one (x : Wy) : ∀ u ∈ wyc x, u.oneCell' = true := fun u hu => by
  unfold wyc at hu
  simp only [List.mem_cons, List.not_mem_nil, or_false] at hu
  rcases hu with rfl | rfl <;> rfl
theorem news2 (W : World) (k : Nat) (hk : k = W.heap.size) (v0 v1 : Value) (T : TypeId) : ∀ j u, [v0, v1][j]? = some u → (W.alloc (.cells #[v0, v1] T)).cell? ((⟨k, 0, none⟩ : Addr).add j) = some u := fun j u hj => by
  subst hk
  rw [Addr.add_lit, Nat.zero_add, cell_of_row _ W.heap.size j #[v0, v1] T (0, 0) (al_new W _ rfl)]
  rw [← hj]
  simp
theorem edg_all {n : Int} : ∀ {E : List Ed}, edg n E = true → ∀ e ∈ E, wn e.2 n = true ∧ rs (-1) e.1 = true
  | [], _, _, h => by simp at h
  | x :: l, h, e, he => by
    simp only [edg, Bool.and_eq_true] at h
    rcases List.mem_cons.1 he with rfl | he
    · exact h.1
    · exact edg_all h.2 e he
theorem fre_all {n : Int} : ∀ {F : List Int}, fre n F = true → ∀ t ∈ F, wn t n = true
  | [], _, _, h => by simp at h
  | x :: l, h, e, he => by
    simp only [fre, Bool.and_eq_true] at h
    rcases List.mem_cons.1 he with rfl | he
    · exact h.1
    · exact fre_all h.2 e he
theorem rs_all : ∀ {l : List Int} {last : Int}, rs last l = true → ∀ c ∈ l, last < c ∧ c < 64
  | [], _, _, _, h => by simp at h
  | x :: l, last, h, c, hc => by
    simp only [rs, Bool.and_eq_true, Bool.not_eq_true', Bool.or_eq_false_iff, decide_eq_false_iff_not] at h
    rcases List.mem_cons.1 hc with rfl | hc
    · omega
    · have := rs_all h.2 c hc; omega
set_option maxHeartbeats 8000000 in
set_option maxRecDepth 100000 in
theorem runner_any (so : Option Addr) (sc n : Nat) (L : List St) (s f : Int) (w : World) (hn : n = L.length) (hs : RdS w so L) (hl : n ≤ 4096) (he : eS L ≤ 1000000) (hf : fS L ≤ 1000000) (hg : ∀ s ∈ L, fmd n s = true) :
    Calls Tryd.prog 64 #[.agg #[.slice so n sc, .int .i64 s, .int .i64 f]] w fun e w' => RnQ w n L e w' := by
  have HN := hid hn
  have HS := hid hs
  have HE := hid he
  have HF := hid hf
  have HG := hid hg
  clear hn hs he hf hg
  go_enter Tryd.func64, Tryd.ntmps64
  go_wp2
  go_loopw [4, 5, 27] (fun x y z wr => ∃ (a b k : Nat), x = .int .i64 a ∧ y = .int .i64 b ∧ z = .int .i64 k ∧ k ≤ n ∧ a ≤ 1000000 ∧ b ≤ 1000000 ∧ Hid (a = eS (L.take k)) ∧ Hid (b = fS (L.take k)) ∧ Hid (Below (w.heap.size + 1) (w.alloc (.cells #[.slice so n sc, .int .i64 s, .int .i64 f] 28)) wr)) (fun _ _ z _ => n - (intOf z).toNat)
  case atStart => exact ⟨0, 0, 0, rfl, rfl, rfl, Nat.zero_le _, by omega, by omega, rfl, rfl, box_self⟩
  case round =>
    obtain ⟨a, b, k, rfl, rfl, rfl, hk, ha, hb, HA, HB', HB⟩ := hrel
    by_cases hlt : k < n
    · have hkl : k < L.length := by have := HN.out; omega
      have HE1 := hid (eS_take L k hkl)
      have HF1 := hid (fS_take L k hkl)
      have hle := eS_le L (k + 1)
      have hlf := fS_le L (k + 1)
      rw [HE1.out] at hle
      rw [HF1.out] at hlf
      obtain ⟨q, rfl, hq, eo, ec, fo, fc, a0, a1, hE, hF, hel, hfl⟩ := HS.out.boxed HB.out k L[k] (List.getElem?_eq_getElem hkl)
      obtain ⟨en, hen⟩ : ∃ n1, n1 = L[k].1.length := ⟨_, rfl⟩
      obtain ⟨fn, hfn⟩ : ∃ n1, n1 = L[k].2.length := ⟨_, rfl⟩
      rw [← hen] at a0 hle HE1
      rw [← hfn] at a1 hlf HF1
      have he2 : a + en ≤ 1000000 := by have h1 := HE.out; have h2 := HA.out; omega
      have hf2 : b + fn ≤ 1000000 := by have h1 := HF.out; have h2 := HB'.out; omega
      have HBA := hid (HB.out.alloc (by have := HB.out.size; simp at this; omega) (.cells #[.slice eo en ec, .slice fo fn fc] 86))
      have i3 : (k : Int) < (n : Int) := by omega
      clear hen hfn hE hF hel hfl hle hlf hkl
      go_wp2
      go_roundw
      case rel => exact ⟨a + en, b + fn, k + 1, by go_num, by go_num, by go_num, by omega, he2, hf2, by have h1 := HE1.out; have h2 := HA.out; unfold Hid; omega, by have h1 := HF1.out; have h2 := HB'.out; unfold Hid; omega, HBA⟩
      case measure => simp [intOf]; omega
    · have i3 : ¬ (k : Int) < (n : Int) := by omega
      have HT := hid (show L.take k = L from List.take_of_length_le (by have := HN.out; omega))
      rw [HT.out] at HA HB'
      clear HT
      obtain ⟨j1, g1, g2, g3, g4⟩ := info_parts Tryd.info133
      obtain ⟨j2, k1, k2, k3, k4⟩ := info_parts Tryd.info22
      obtain ⟨j3', m1, m2, m3, m4⟩ := info_parts Tryd.info3
      obtain ⟨j4, n1, n2, n3, n4⟩ := info_parts Tryd.info135
      have M1 := mkS Tryd.underlying130 g1 g2 g3 g4 (by decide) n (by omega)
      have M2 := mkS Tryd.underlying60 k1 k2 k3 k4 (by decide) n (by omega)
      have M3 := mkS Tryd.underlying22 m1 m2 m3 m4 (by decide) n (by omega)
      have Y1 := mkZ Tryd.underlying133 n1 n2 n3 n4 (by decide) a ha
      have Y2 := mkZ Tryd.underlying22 m1 m2 m3 m4 (by decide) b hb
      obtain ⟨Z1, hZ1⟩ : ∃ Z, Z = madeCells (Value.slice none 0 0).cells n := ⟨_, rfl⟩
      rw [← hZ1] at M1 M2
      obtain ⟨Z3, hZ3⟩ : ∃ Z, Z = madeCells (Value.int .i64 0).cells n := ⟨_, rfl⟩
      rw [← hZ3] at M3
      obtain ⟨Z4, hZ4⟩ : ∃ Z, Z = madeCells (Value.agg #[.int .u64 0, .int .i64 0]).cells (a * 2) := ⟨_, rfl⟩
      rw [← hZ4] at Y1
      obtain ⟨Z5, hZ5⟩ : ∃ Z, Z = madeCells (Value.int .i64 0).cells (b * 1) := ⟨_, rfl⟩
      rw [← hZ5] at Y2
      have HZ1 := hid (show Z1.size = n by rw [hZ1]; exact size_madeCells _ _)
      have HZ3 := hid (show Z3 = (i64s (List.replicate n 0)).toArray by rw [hZ3]; exact zeros n)
      have HZ4 := hid (show Z4.size = a * 2 by rw [hZ4]; exact size_madeCells _ _)
      have HZ5 := hid (show Z5.size = b * 1 by rw [hZ5]; exact size_madeCells _ _)
      have HY1 := hid Y1
      have HY2 := hid Y2
      have HM3 := hid M3
      clear g1 g2 g3 g4 k1 k2 k3 k4 hZ1 hZ3 hZ4 hZ5 Y1 Y2
      go_wp2_with fail
      refine wp_mid (fun a' W => ∃ (P wt ft ib : Nat), (Below wr.heap.size wr W ∧ W.heap[P]? = some (.cells #[.slice (some ⟨wt, 0, none⟩) n n, .slice (some ⟨ft, 0, none⟩) n n, .slice (some ⟨ib, 0, none⟩) n n, .int .i64 0] 132) ∧ W.heap[wt]? = some (.cells Z1 133) ∧ W.heap[ft]? = some (.cells Z1 22) ∧ W.heap[ib]? = some (.cells Z3 3) ∧ wr.heap.size ≤ P ∧ wr.heap.size ≤ wt ∧ wr.heap.size ≤ ft ∧ wr.heap.size ≤ ib) ∧ a' = ⟨#[.agg #[.slice so n sc, .int .i64 s, .int .i64 f], .pointer (some ⟨w.heap.size, 0, none⟩), .pointer none, .int .i64 (n : Int), .int .i64 (a : Int), .int .i64 (b : Int), undef, u7, .pointer (some ⟨P, 0, none⟩), undef, undef, undef, undef, undef, undef, undef, undef, undef, undef, undef, undef, .pointer (some ⟨w.heap.size, 0, none⟩), .slice so n sc, .int .i64 (n : Int), .pointer (some ⟨w.heap.size, 0, none⟩), .slice so n sc, .int .i64 (n : Int), .int .i64 (k : Int), .bool false, u29, u30, u31, u32, u33, u34, u35, u36, u37, u38, u39, u40, u41, .int .i64 (n : Int), .slice (some ⟨wt, 0, none⟩) n n, .int .i64 (n : Int), .slice (some ⟨ft, 0, none⟩) n n, .int .i64 (n : Int), .slice (some ⟨ib, 0, none⟩) n n, .agg #[.slice (some ⟨wt, 0, none⟩) n n, .slice (some ⟨ft, 0, none⟩) n n, .slice (some ⟨ib, 0, none⟩) n n, .int .i64 0], .pointer (some ⟨P, 0, none⟩), undef, undef, undef, undef, undef, undef, undef, undef, undef, undef, undef, undef, undef, undef, undef, undef, undef, undef, undef, undef, undef, undef, undef, undef, undef, undef, undef, undef, undef, undef, undef, undef, undef, undef, undef, undef, undef, undef, undef, undef, undef, undef, undef, undef, undef, undef, undef, undef, undef, undef, undef, undef, undef, undef, undef, undef, undef, undef, undef, undef, undef, undef, undef, undef, undef, undef, undef, undef, undef, undef, undef, undef, undef, undef, undef, undef, undef, undef, undef, undef, undef, undef, undef, undef, undef, undef, undef, undef, undef, undef, undef, undef, undef, undef, undef, undef, undef, undef, undef, undef, undef, undef, undef, undef, undef, undef, undef, undef, undef, undef, undef, undef, undef], []⟩) ?m1 ?m2
      case m1 =>
        go_region
        all_goals
          obtain ⟨h1, h2, h3, h4, h5⟩ := alloc4 wr _ _ _ _
          refine ⟨rfl, _, _, _, _, ?_, rfl⟩
          exact ⟨h5, h4, by assumption, by assumption, by assumption, by omega, by omega, by omega, by omega⟩
      case m2 =>
        clear M1 M2 M3
        rintro a' W ⟨P, wt, ft, ib, ⟨b1, hP, hW, hU, hI, q1, q2, q3, q4⟩, rfl⟩
        have HBW := hid (HB.out.trans (b1.mono (by have := HB.out.size; simp at this; omega)))
        have HP := hid hP
        have HW := hid hW
        have HU := hid hU
        have HI := hid hI
        have q0 : w.heap.size + 1 ≤ wr.heap.size := by have := HB.out.size; simpa using this
        have q5 : w.heap.size < P := by omega
        have q6 : w.heap.size < wt := by omega
        have q7 : w.heap.size < ft := by omega
        have q8 : w.heap.size < ib := by omega
        clear b1 hP hW hU hI q1 q2 q3 q4 q0 HB
        have Y1 := HY1.out
        have Y2 := HY2.out
        go_wp2_with fail
        refine wp_mid (fun a' W' => ∃ (wy fy : Nat), (Below W.heap.size W W' ∧ W'.heap[wy]? = some (.cells Z4 135) ∧ W'.heap[fy]? = some (.cells Z5 3) ∧ W.heap.size ≤ wy ∧ W.heap.size ≤ fy) ∧ a' = ⟨#[.agg #[.slice so n sc, .int .i64 s, .int .i64 f], .pointer (some ⟨w.heap.size, 0, none⟩), .pointer none, .int .i64 (n : Int), .int .i64 (a : Int), .int .i64 (b : Int), undef, u7, .pointer (some ⟨P, 0, none⟩), .slice (some ⟨wy, 0, none⟩) 0 a, .slice (some ⟨fy, 0, none⟩) 0 b, undef, undef, undef, undef, undef, undef, undef, undef, undef, undef, .pointer (some ⟨w.heap.size, 0, none⟩), .slice so n sc, .int .i64 (n : Int), .pointer (some ⟨w.heap.size, 0, none⟩), .slice so n sc, .int .i64 (n : Int), .int .i64 (k : Int), .bool false, u29, u30, u31, u32, u33, u34, u35, u36, u37, u38, u39, u40, u41, .int .i64 (n : Int), .slice (some ⟨wt, 0, none⟩) n n, .int .i64 (n : Int), .slice (some ⟨ft, 0, none⟩) n n, .int .i64 (n : Int), .slice (some ⟨ib, 0, none⟩) n n, .agg #[.slice (some ⟨wt, 0, none⟩) n n, .slice (some ⟨ft, 0, none⟩) n n, .slice (some ⟨ib, 0, none⟩) n n, .int .i64 0], .pointer (some ⟨P, 0, none⟩), .int .i64 (a : Int), .slice (some ⟨wy, 0, none⟩) 0 a, .int .i64 (b : Int), .slice (some ⟨fy, 0, none⟩) 0 b, undef, undef, undef, undef, undef, undef, undef, undef, undef, undef, undef, undef, undef, undef, undef, undef, undef, undef, undef, undef, undef, undef, undef, undef, undef, undef, undef, undef, undef, undef, undef, undef, undef, undef, undef, undef, undef, undef, undef, undef, undef, undef, undef, undef, undef, undef, undef, undef, undef, undef, undef, undef, undef, undef, undef, undef, undef, undef, undef, undef, undef, undef, undef, undef, undef, undef, undef, undef, undef, undef, undef, undef, undef, undef, undef, undef, undef, undef, undef, undef, undef, undef, undef, undef, undef, undef, undef, undef, undef, undef, undef, undef, undef, undef, undef, undef, undef, undef, undef, undef, undef, undef, undef, undef, undef, undef, undef, undef, undef], []⟩) ?m3 ?m4
        case m3 =>
          go_region
          all_goals
            obtain ⟨h1, h2, h5⟩ := alloc2 W _ _
            refine ⟨rfl, _, _, ?_, rfl⟩
            exact ⟨h5, by assumption, by assumption, by omega, by omega⟩
        case m4 =>
          clear Y1 Y2
          rintro a' W' ⟨wy, fy, ⟨b1, hWy, hFy, q1, q2⟩, rfl⟩
          have HBW2 := hid (HBW.out.trans (b1.mono (by have := HBW.out.size; simp at this; omega)))
          have q9 : w.heap.size + 1 ≤ W.heap.size := by have := HBW.out.size; simpa using this
          have hws : W'.heap.size > W.heap.size := by have := lt_of hWy; omega
          have HRI := hid (show RI w (W'.alloc (.cells Z3 3)) w.heap.size P wt ft ib W'.heap.size n [(w.heap.size, #[.slice so n sc, .int .i64 s, .int .i64 f], 28)] (fun _ => (none, 0)) (fun _ => (none, 0)) [] [] 0 (List.replicate n 0) (List.replicate n 0) (.slice (some ⟨wy, 0, none⟩) ([] : List Wy).length a) [] 0 (.slice (some ⟨fy, 0, none⟩) ([] : List Int).length b) [] 0 by
            have hlt : ∀ k (o : Obj), W'.heap[k]? = some o → (W'.alloc (.cells Z3 3)).heap[k]? = some o := fun k o h => (al_old W' _ (lt_of h)).trans h
            have hol : ∀ k (o : Obj), W.heap[k]? = some o → (W'.alloc (.cells Z3 3)).heap[k]? = some o := fun k o h => hlt k o ((b1.block k (lt_of h)).trans h)
            have hz := HZ3.out
            refine ⟨(box_trans HBW2.out).alloc (by omega) _, ?_, ?_, hol P _ HP.out, ?_, ?_, by simp, by simp, ⟨Z1, hol wt _ HW.out, HZ1.out, fun k g h => by simp at h⟩, ⟨Z1, hol ft _ HU.out, HZ1.out, fun k g h => by simp at h⟩, ?_, ?_, fun k g h => by simp at h, fun k g h => by simp at h, ?_, ?_, ?_, q5, q6, q7, q8, ?_, Nat.le_refl _, Nat.le_refl _⟩
            · simp; omega
            · intro bb c T hm
              have e := List.mem_singleton.1 hm
              injection e with e1 e2
              injection e2 with e2 e3
              subst e1 e2 e3
              refine ⟨hlt _ _ ?_, Nat.le_refl _, by decide, by decide, by decide, by decide, by decide⟩
              rw [HBW2.out.block w.heap.size (by omega)]
              exact al_new w _ rfl
            · rw [← hz]; exact hol ib _ HI.out
            · rw [← hz]; exact al_new W' _ rfl
            · exact ⟨rfl, .inr ⟨wy, a, Z4, rfl, by omega, hlt wy _ hWy, Nat.zero_le _, by unfold maxLen; omega, HZ4.out, rfl⟩⟩
            · exact ⟨rfl, .inr ⟨fy, b, Z5, rfl, by omega, hlt fy _ hFy, Nat.zero_le _, by unfold maxLen; omega, HZ5.out, rfl⟩⟩
            · intro e
              have e' : fy = ib := Option.some.inj e
              have := lt_of HI.out
              omega
            · intro e
              have e' : fy = W'.heap.size := Option.some.inj e
              have := lt_of hFy
              omega
            · have := lt_of HI.out; omega
            · omega)
          obtain ⟨pl, hpl⟩ : ∃ pl, pl = W'.heap.size := ⟨_, rfl⟩
          rw [← hpl] at HRI
          have HPL := hid hpl
          have hc0 : (W'.alloc (.cells Z3 3)).cell? ⟨w.heap.size, 0, none⟩ = some (.slice so n sc) := HRI.out.cx (.head _) 0 rfl
          have M3 := HM3.out
          clear b1 hWy hFy q1 q2 HP HW HU HI HZ1 HZ4 HZ5 HY1 HY2 hws hpl HBW HBW2 q9
          have hlt' : w.heap.size < W'.heap.size := by rw [← HPL.out]; exact HRI.out.gL
          have hc0' : W'.cell? ⟨w.heap.size, 0, none⟩ = some (.slice so n sc) := by rw [← hc0]; exact (World.cell?_of_block (a := ⟨w.heap.size, 0, none⟩) (al_old W' _ hlt')).symm
          go_wp2
          rw [← HPL.out]
          clear M3 HM3 hc0' hc0 hlt' HPL HZ3
          go_loopw [59, 9, 10] (fun x y v wr => ∃ (i mw mf : Nat) (WL : List (List Wy)) (FL : List (List Int)) (I PL : List Int) (Wl : List Wy) (Fl : List Int) (ws fs : Nat → Option Addr × Nat) (z : Int) (S : List Int), x = .int .i64 i ∧ y = .slice (some ⟨wy, 0, none⟩) mw a ∧ v = .slice (some ⟨fy, 0, none⟩) mf b ∧ i ≤ n ∧ 0 ≤ z ∧ z ≤ 2 * (i : Int) ∧ Hid (Wl.length = mw) ∧ Hid (Fl.length = mf) ∧ Hid (RI w wr w.heap.size P wt ft ib pl n [(w.heap.size, #[.slice so n sc, .int .i64 s, .int .i64 f], 28)] ws fs WL FL z I PL (.slice (some ⟨wy, 0, none⟩) Wl.length a) Wl Wl.length (.slice (some ⟨fy, 0, none⟩) Fl.length b) Fl Fl.length) ∧ Hid (WL.length = i) ∧ Hid (FL.length = i) ∧ Hid (mw ≤ eS (L.take i)) ∧ Hid (mf ≤ fS (L.take i)) ∧ Hid (∀ (k : Nat) (s : St) (g : List Wy), L[k]? = some s → WL[k]? = some g → WOk n s g) ∧ Hid (∀ (k : Nat) (s : St) (g : List Int), L[k]? = some s → FL[k]? = some g → FOk n s g) ∧ Hid (Mk I z n S)) (fun x _ _ _ => n - (intOf x).toNat)
          case atStart => exact ⟨0, 0, 0, [], [], List.replicate n 0, List.replicate n 0, [], [], fun _ => (none, 0), fun _ => (none, 0), 0, (List.range n).map fun (k : Nat) => (k : Int), rfl, rfl, rfl, Nat.zero_le _, by omega, by omega, rfl, rfl, HRI, rfl, rfl, Nat.zero_le _, Nat.zero_le _, fun k s g _ h => by simp at h, fun k s g _ h => by simp at h, mk_zero n⟩
          case round =>
            clear HRI
            obtain ⟨i, mw, mf, WL, FL, I, PL, Wl, Fl, ws, fs, z, S, rfl, rfl, rfl, hi, hz0, hz2, HMW, HMF, HR, HWLl, HFLl, HEW, HFW, HWO, HFO, HMK⟩ := hrel
            by_cases hlti : i < n
            · have hil : i < L.length := by have := HN.out; omega
              obtain ⟨q, eq, hq, eo, ec, fo, fc, a0, a1, hE, hF, hel, hfl⟩ := (HS.out.below HR.out.low) i L[i] (List.getElem?_eq_getElem hil)
              subst eq
              have HLI := hid (List.getElem?_eq_getElem hil)
              have HE1 := hid (eS_take L i hil)
              have HF1 := hid (fS_take L i hil)
              have HE2 := hid (eS_le L (i + 1))
              have HF2 := hid (fS_le L (i + 1))
              have HGI := hid (HG.out L[i] (List.getElem_mem hil))
              obtain ⟨g, hg⟩ : ∃ g, g = L[i] := ⟨_, rfl⟩
              rw [← hg] at a0 a1 hE hF hel hfl HLI HE1 HF1 HGI
              obtain ⟨E, F⟩ := g
              dsimp only at a0 a1 hE hF hel hfl HE1 HF1
              obtain ⟨en, hen⟩ : ∃ n1, n1 = E.length := ⟨_, rfl⟩
              obtain ⟨fn, hfn⟩ : ∃ n1, n1 = F.length := ⟨_, rfl⟩
              rw [← hen] at a0 hel HE1
              rw [← hfn] at a1 hfl HF1
              have hroomW : mw + en ≤ a := by have h1 := HEW.out; have h2 := HE1.out; have h3 := HE2.out; have h4 := HA.out; omega
              have hroomF : mf + fn ≤ b := by have h1 := HFW.out; have h2 := HF1.out; have h3 := HF2.out; have h4 := HB'.out; omega
              have HED := hid (show ∀ e ∈ E, wn e.2 n = true ∧ rs (-1) e.1 = true from edg_all (by have h := HGI.out; unfold fmd at h; simp only [Bool.and_eq_true] at h; exact h.1))
              have HFD := hid (show ∀ t ∈ F, wn t n = true from fre_all (by have h := HGI.out; unfold fmd at h; simp only [Bool.and_eq_true] at h; exact h.2))
              have HEN := hid hen
              have HFN := hid hfn
              have HRDE := hid (show ∀ V, Below w.heap.size w V → RdE V eo E from fun V hV => by
                obtain ⟨q', e', _, eo', ec', fo', fc', b0, b1, hE', _, _, _⟩ := (HS.out.below hV) i (E, F) HLI.out
                cases e'
                have e0 : wr.cell? (q.add (i * 2)) = V.cell? (q.add (i * 2)) := by
                  obtain ⟨q2, e2, hlt2, _⟩ := HS.out i (E, F) HLI.out
                  cases e2
                  rw [HR.out.low.cell (p := q.add (i * 2)) (by rw [add_blk]; exact hlt2), hV.cell (p := q.add (i * 2)) (by rw [add_blk]; exact hlt2)]
                rw [a0, b0] at e0
                simp only [Option.some.injEq, Value.slice.injEq] at e0
                rw [e0.1]; exact hE')
              have HRDF := hid (show ∀ V, Below w.heap.size w V → RdI V fo F from fun V hV => by
                obtain ⟨q', e', _, eo', ec', fo', fc', b0, b1, _, hF', _, _⟩ := (HS.out.below hV) i (E, F) HLI.out
                cases e'
                have e0 : wr.cell? ⟨(q.add (i * 2)).block, (q.add (i * 2)).off + 1, none⟩ = V.cell? ⟨(q.add (i * 2)).block, (q.add (i * 2)).off + 1, none⟩ := by
                  obtain ⟨q2, e2, hlt2, _⟩ := HS.out i (E, F) HLI.out
                  cases e2
                  rw [HR.out.low.cell (p := ⟨(q.add (i * 2)).block, (q.add (i * 2)).off + 1, none⟩) (show (q.add (i * 2)).block < _ by rw [add_blk]; exact hlt2), hV.cell (p := ⟨(q.add (i * 2)).block, (q.add (i * 2)).off + 1, none⟩) (show (q.add (i * 2)).block < _ by rw [add_blk]; exact hlt2)]
                rw [a1, b1] at e0
                simp only [Option.some.injEq, Value.slice.injEq] at e0
                rw [e0.1]; exact hF')
              unfold most at hel hfl
              clear hg hil hen hfn hE hF
              have i3' : (i : Int) < (n : Int) := by omega
              have c3 := HR.out.c3
              have fz := HR.out.fP 3
              have hPw := lt_of HR.out.hP
              obtain ⟨sb, hsb⟩ : ∃ sb, sb = wr.heap.size := ⟨_, rfl⟩
              have HSB := hid hsb
              have HR2 := hid (show RI w ((wr.setCell ⟨P, 3, none⟩ (.int .i64 (z + 1))).alloc (.cells #[.slice eo en ec, .slice fo fn fc] 86)) w.heap.size P wt ft ib pl n ((sb, #[.slice eo en ec, .slice fo fn fc], 86) :: [(w.heap.size, #[.slice (some q) n sc, .int .i64 s, .int .i64 f], 28)]) ws fs WL FL (z + 1) I PL (.slice (some ⟨wy, 0, none⟩) Wl.length a) Wl mw (.slice (some ⟨fy, 0, none⟩) Fl.length b) Fl Fl.length by
                have h := (HR.out.setS (z + 1)).add #[.slice eo en ec, .slice fo fn fc] 86 ⟨by decide, by decide, by decide, by decide, by decide⟩
                rw [World.size_setCell, ← hsb, HMW.out] at h
                rw [HMW.out]
                exact h)
              have HMK2 := hid HMK.out.next
              clear hsb
              go_wp2
              rw [← HSB.out]
              clear HR c3 fz hPw a0 a1 HSB hq HMK
              go_loopw [76, 9] (fun x y wr => ∃ (j mw2 : Nat) (I PL : List Int) (G : List Wy), x = .int .i64 j ∧ y = .slice (some ⟨wy, 0, none⟩) mw2 a ∧ j ≤ en ∧ mw2 ≤ mw + j ∧ Hid ((Wl ++ G).length = mw2) ∧ Hid (RI w wr w.heap.size P wt ft ib pl n ((sb, #[.slice eo en ec, .slice fo fn fc], 86) :: [(w.heap.size, #[.slice (some q) n sc, .int .i64 s, .int .i64 f], 28)]) ws fs WL FL (z + 1) I PL (.slice (some ⟨wy, 0, none⟩) (Wl ++ G).length a) (Wl ++ G) mw (.slice (some ⟨fy, 0, none⟩) Fl.length b) Fl Fl.length) ∧ Hid (Gd n G (Sd E j 0)) ∧ Hid (Mk I (z + 1) n (G.map (·.2))) ∧ Hid (∀ (i : Nat) (y : Int), (G.map (·.2))[i]? = some y → PL[y.toNat]? = some ((mw + i : Nat) : Int))) (fun x _ _ => en - (intOf x).toNat)
              case atStart => exact ⟨0, mw, I, PL, [], rfl, rfl, Nat.zero_le _, by omega, by rw [List.append_nil]; exact HMW, by rw [List.append_nil]; exact HR2, (Gd.start n).congr (Sd.zero E), HMK2, fun i x h => by simp at h⟩
              case round =>
                clear HR2 HMK2
                obtain ⟨j, mw2, I, PL, G, rfl, rfl, hj, hmw2, HML, HR, HGD, HMK, HPL⟩ := hrel
                by_cases hjl : j < en
                · have hjE : j < E.length := by have := HEN.out; omega
                  obtain ⟨q2, eq2, hq2, co, cc, b0, b1, hI, hcl⟩ := HRDE.out wr HR.out.low j E[j] (List.getElem?_eq_getElem hjE)
                  subst eq2
                  have HEJ := hid (List.getElem?_eq_getElem hjE)
                  have hed := HED.out E[j] (List.getElem_mem hjE)
                  obtain ⟨g, hg⟩ : ∃ g, g = E[j] := ⟨_, rfl⟩
                  rw [← hg] at b0 b1 hI hcl HEJ hed
                  obtain ⟨C, y⟩ := g
                  dsimp only at b0 b1 hI hcl hed
                  have hyb := wn_iff.1 hed.1
                  obtain ⟨t, rfl⟩ : ∃ t : Nat, y = (t : Int) := ⟨y.toNat, by omega⟩
                  have htn : t < n := by omega
                  have HCD := hid (rs_all hed.2)
                  obtain ⟨cn, hcn⟩ : ∃ n1, n1 = C.length := ⟨_, rfl⟩
                  rw [← hcn] at b0 hcl
                  have HCN := hid hcn
                  unfold most at hcl
                  clear hg hjE hed hyb hcn
                  have j3 : (j : Int) < (en : Int) := by omega
                  have hwr := HR.out.ge
                  obtain ⟨eb, heb⟩ : ∃ eb, eb = wr.heap.size := ⟨_, rfl⟩
                  have HEB := hid heb
                  have HR2 := hid (show RI w (wr.alloc (.cells #[.slice co cn cc, .int .i64 (t : Int)] 88)) w.heap.size P wt ft ib pl n ((eb, #[.slice co cn cc, .int .i64 (t : Int)], 88) :: (sb, #[.slice (some q2) en ec, .slice fo fn fc], 86) :: [(w.heap.size, #[.slice (some q) n sc, .int .i64 s, .int .i64 f], 28)]) ws fs WL FL (z + 1) I PL (.slice (some ⟨wy, 0, none⟩) (Wl ++ G).length a) (Wl ++ G) mw (.slice (some ⟨fy, 0, none⟩) Fl.length b) Fl Fl.length by
                    have h := HR.out.add #[.slice co cn cc, .int .i64 (t : Int)] 88 ⟨by decide, by decide, by decide, by decide, by decide⟩
                    rw [← heb] at h
                    exact h)
                  have HRDC := hid (show ∀ V, Below w.heap.size w V → RdI V co C from fun V hV => by
                    obtain ⟨q', e', _, co', cc', d0, _, hI', _⟩ := HRDE.out V hV j (C, (t : Int)) HEJ.out
                    cases e'
                    have e0 : wr.cell? (q2.add (j * 2)) = V.cell? (q2.add (j * 2)) := by
                      obtain ⟨q3, e3, hlt3, _⟩ := HRDE.out w (Below.refl _ _) j (C, (t : Int)) HEJ.out
                      cases e3
                      rw [HR.out.low.cell (p := q2.add (j * 2)) (by rw [add_blk]; exact hlt3), hV.cell (p := q2.add (j * 2)) (by rw [add_blk]; exact hlt3)]
                    rw [b0, d0] at e0
                    simp only [Option.some.injEq, Value.slice.injEq] at e0
                    rw [e0.1]; exact hI')
                  clear heb hI
                  by_cases hI : I[t]? = some (z + 1)
                  · have HI := hid hI
                    obtain ⟨gi, hgi⟩ : ∃ gi, (G.map (·.2))[gi]? = some (t : Int) := List.mem_iff_getElem?.1 ((HMK.out.mrk t htn).1 hI)
                    have HPT := hid (show PL[t]? = some ((mw + gi : Nat) : Int) from HPL.out gi _ hgi)
                    have hgil : gi < G.length := by have h := (List.getElem?_eq_some_iff.1 hgi).1; rw [List.length_map] at h; exact h
                    have hgb : mw + gi < mw2 := by have h1 := HML.out; rw [List.length_append, HMW.out] at h1; omega
                    obtain ⟨TO, hTO⟩ : ∃ TO : List Int, TO = G.map (·.2) := ⟨_, rfl⟩
                    rw [← hTO] at hgi
                    have HTO := hid hgi
                    have HTOE := hid hTO.symm
                    have HMK3 := hid (show Mk I (z + 1) n TO by rw [hTO]; exact HMK.out)
                    have HPL3 := hid (show ∀ (i : Nat) (y : Int), TO[i]? = some y → PL[y.toNat]? = some ((mw + i : Nat) : Int) by rw [hTO]; exact HPL.out)
                    clear hI hgi hgil hTO HMK HPL
                    go_wp2_with fail
                    rw [← HEB.out]
                    refine (let_noC t HR2.out.c2 HR2.out.c3 htn (HR2.out.ci HI.out)).mono ?_
                    rintro e w2 ⟨rfl, k2, hw2⟩
                    have HR3 := hid (show RI w w2 w.heap.size P wt ft ib pl n ((eb, #[.slice co cn cc, .int .i64 (t : Int)], 88) :: (sb, #[.slice (some q2) en ec, .slice fo fn fc], 86) :: [(w.heap.size, #[.slice (some q) n sc, .int .i64 s, .int .i64 f], 28)]) ws fs WL FL (z + 1) I PL (.slice (some ⟨wy, 0, none⟩) (Wl ++ G).length a) (Wl ++ G) mw (.slice (some ⟨fy, 0, none⟩) Fl.length b) Fl Fl.length by rw [hw2]; exact HR2.out.drew k2)
                    have e0 : w2.cell? ⟨eb, 0, none⟩ = some (.slice co cn cc) := HR3.out.cx (.head _) 0 rfl
                    have HML3 := HML
                    have HGD3 := HGD
                    clear hw2 HR HR2 HI HEB HML HGD b0 b1
                    go_wp2
                    clear e0
                    go_loopw [99] (fun x wr => ∃ (p : Nat) (G : List Wy), x = .int .i64 p ∧ p ≤ cn ∧ Hid ((Wl ++ G).length = mw2) ∧ Hid (RI w wr w.heap.size P wt ft ib pl n ((eb, #[.slice co cn cc, .int .i64 (t : Int)], 88) :: (sb, #[.slice (some q2) en ec, .slice fo fn fc], 86) :: [(w.heap.size, #[.slice (some q) n sc, .int .i64 s, .int .i64 f], 28)]) ws fs WL FL (z + 1) I PL (.slice (some ⟨wy, 0, none⟩) (Wl ++ G).length a) (Wl ++ G) mw (.slice (some ⟨fy, 0, none⟩) Fl.length b) Fl Fl.length) ∧ Hid (Gd n G (Sd E j p)) ∧ Hid (G.map (·.2) = TO)) (fun x _ => cn - (intOf x).toNat)
                    case atStart => exact ⟨0, G, rfl, Nat.zero_le _, HML3, HR3, HGD3, HTOE⟩
                    case round =>
                      clear HR3 HML3 HGD3 HTOE
                      obtain ⟨p, G, rfl, hp, HML, HR, HGD, HTOG⟩ := hrel
                      by_cases hpl : p < cn
                      · have hpC : p < C.length := by have := HCN.out; omega
                        obtain ⟨q3, eq3, hq3, d0⟩ := HRDC.out wr HR.out.low p C[p] (List.getElem?_eq_getElem hpC)
                        subst eq3
                        have HCP := hid (List.getElem?_eq_getElem hpC)
                        have hcb := HCD.out C[p] (List.getElem_mem hpC)
                        obtain ⟨x, hx⟩ : ∃ x, x = C[p] := ⟨_, rfl⟩
                        rw [← hx] at d0 HCP hcb
                        clear hx hpC
                        obtain ⟨c, rfl⟩ : ∃ c : Nat, x = (c : Int) := ⟨x.toNat, by omega⟩
                        have hc64 : c < 64 := by omega
                        obtain ⟨m, hm⟩ : ∃ m, G[gi]? = some (m, (t : Int)) := by
                          have h1 := HTO.out
                          rw [← HTOG.out, List.getElem?_map] at h1
                          obtain ⟨y, hy, hy2⟩ := Option.map_eq_some_iff.1 h1
                          exact ⟨y.1, by rw [hy, ← hy2]⟩
                        have HGI := hid hm
                        have hWG : (Wl ++ G)[mw + gi]? = some (m, (t : Int)) := by rw [List.getElem?_append_right (by have := HMW.out; omega), HMW.out, show mw + gi - mw = gi by omega]; exact hm
                        have HWG := hid hWG
                        have hm64 := (HGD.out.bd _ (List.mem_of_getElem? hm)).1
                        dsimp only at hm64
                        have cwy := HR.out.cw hWG
                        dsimp only at cwy
                        have cpl := HR.out.cl HPT.out
                        have e1 : wr.cell? ⟨eb, 1, none⟩ = some (.int .i64 (t : Int)) := HR.out.cx (.head _) 1 rfl
                        have fz := HR.out.fW ((mw + gi) * 2)
                        obtain ⟨pi, hpi⟩ : ∃ pi, pi = mw + gi := ⟨_, rfl⟩
                        rw [← hpi] at cwy cpl fz
                        have hpb : pi < mw2 := by omega
                        have HPI := hid hpi
                        obtain ⟨oc, hoc⟩ : ∃ oc, oc = onl (c : Int) := ⟨_, rfl⟩
                        have hoc2 : oc = 2 ^ c := by rw [hoc]; unfold onl; rw [if_pos (by omega)]; simp
                        have hoc3 : oc < 18446744073709551616 := by rw [hoc2]; exact Nat.lt_of_lt_of_le (Nat.pow_lt_pow_right (by decide) hc64) (by decide : 2 ^ 64 ≤ 18446744073709551616)
                        have hor : bits .or .u64 (m : Int) (oc : Int) = ((m ||| oc : Nat) : Int) := u64_or_nat m oc hm64 hoc3
                        obtain ⟨mo, hmo⟩ : ∃ mo, mo = m ||| oc := ⟨_, rfl⟩
                        rw [← hmo] at hor
                        have HMO := hid (show mo = m ||| 2 ^ c by rw [hmo, hoc2])
                        have HOC := hid hoc
                        have HGD2 := hid ((HGD.out.or hm hc64).congr (Sd.class HEJ.out HCP.out))
                        have HTOG2 := hid (show (G.set gi (mo, (t : Int))).map (·.2) = TO by rw [set_tos hm]; exact HTOG.out)
                        have HR2 := hid (show RI w (wr.drew.setCell ⟨wy, pi * 2, none⟩ (.int .u64 (mo : Int))) w.heap.size P wt ft ib pl n ((eb, #[.slice (some q3) cn cc, .int .i64 (t : Int)], 88) :: (sb, #[.slice (some q2) en ec, .slice fo fn fc], 86) :: [(w.heap.size, #[.slice (some q) n sc, .int .i64 s, .int .i64 f], 28)]) ws fs WL FL (z + 1) I PL (.slice (some ⟨wy, 0, none⟩) (Wl ++ G.set gi (mo, (t : Int))).length a) (Wl ++ G.set gi (mo, (t : Int))) mw (.slice (some ⟨fy, 0, none⟩) Fl.length b) Fl Fl.length by
                          have h := HR.out.drew1.orW mo HWG.out (by omega)
                          rw [← HPI.out, show (Wl ++ G).set pi (mo, (t : Int)) = Wl ++ G.set gi (mo, (t : Int)) by rw [HPI.out, List.set_append_right _ _ (by have := HMW.out; omega), show mw + gi - Wl.length = gi by have := HMW.out; omega]] at h
                          exact h)
                        have HML2 := hid (show (Wl ++ G.set gi (mo, (t : Int))).length = mw2 by have h := HML.out; rw [List.length_append] at h ⊢; rw [List.length_set]; exact h)
                        rw [← HMO.out] at HGD2
                        have p3 : (p : Int) < (cn : Int) := by omega
                        have p0 : (0 : Int) ≤ (p : Int) := by omega
                        have t3 : (t : Int) < (n : Int) := by omega
                        have t0 : (0 : Int) ≤ (t : Int) := by omega
                        have pi3 : (pi : Int) < (mw2 : Int) := by omega
                        have pi0 : (0 : Int) ≤ (pi : Int) := by omega
                        clear hm hWG hm64 hpi hoc hoc2 hoc3 hmo hcb hq3
                        go_wp2_with fail
                        refine wp_region_mix [(0, true), (1, true), (2, true), (3, true), (4, true), (5, true), (6, true), (7, true), (8, true), (9, true), (10, false), (11, true), (12, false), (13, false), (14, false)] (fun w' => w'.cell? ⟨eb, 1, none⟩ = some (.int .i64 (t : Int)) ∧ w'.cell? ⟨pl, t, none⟩ = some (.int .i64 (pi : Int)) ∧ w'.cell? ⟨wy, pi * 2, none⟩ = some (.int .u64 (m : Int))) (fun j => j == 14) (by kernel_rfl) (by kernel_rfl) (fun j hj => by have := beq_iff_eq.1 hj; subst this; decide) rfl (by kernel_rfl) ⟨e1, cpl, cwy⟩ ?_
                        iterate 10 (refine mix_free ?_ rfl (by kernel_rfl) (fun w' hS => ?_) ?_; (rotate_left; (obtain ⟨s1, s2, s3⟩ := hS; go_simp; with_reducible rfl); rotate_left))
                        refine mix_go rfl (by kernel_rfl) fun KK hKK => ?_
                        go_simp
                        refine (only_any (c : Int) _).mono ?_
                        rintro e w4 ⟨rfl, hw4⟩
                        obtain rfl := hw4.symm
                        rw [← HOC.out]
                        refine hKK _ _ (fun _ => ⟨e1, cpl, cwy⟩) ?_
                        clear hKK KK
                        refine mix_free ?_ rfl (by kernel_rfl) (fun w' hS => ?_) ?_; (rotate_left; (go_simp; with_reducible rfl); rotate_left)
                        iterate 2 (refine mix_go rfl (by kernel_rfl) fun KK hKK => ?_; go_simp; refine hKK _ _ (fun _ => ⟨e1, cpl, cwy⟩) ?_; clear hKK KK)
                        refine mix_go rfl (by kernel_rfl) fun KK hKK => ?_
                        go_simp
                        refine hKK _ _ (fun h => by cases h) ?_
                        refine mix_end (NoPanic.normal ?_)
                        go_wp2
                        go_roundw
                        case rel => exact ⟨p + 1, G.set gi (mo, (t : Int)), by go_num, by omega, HML2, HR2, HGD2, HTOG2⟩
                        case measure => simp [intOf]; omega
                      · have p3 : ¬ (p : Int) < (cn : Int) := by omega
                        have HGD2 := hid (HGD.out.congr (Sd.edge HEJ.out (show (C, (t : Int)).1.length ≤ p by have := HCN.out; show C.length ≤ p; omega)))
                        have HR2 := hid (HR.out.sub (fun x hx => List.mem_cons_of_mem _ hx))
                        have HMK4 := hid (show Mk I (z + 1) n (G.map (·.2)) by rw [HTOG.out]; exact HMK3.out)
                        have HPL4 := hid (show ∀ (i : Nat) (y : Int), (G.map (·.2))[i]? = some y → PL[y.toNat]? = some ((mw + i : Nat) : Int) by rw [HTOG.out]; exact HPL3.out)
                        go_wp2
                        go_roundw
                        case rel => exact ⟨j + 1, mw2, I, PL, G, by go_num, rfl, by omega, by omega, HML, HR2, HGD2, HMK4, HPL4⟩
                        case measure => simp [intOf]; omega
                  · have HI := hid hI
                    obtain ⟨zt, hzt⟩ : ∃ zt, I[t]? = some zt := ⟨_, List.getElem?_eq_getElem (by have := HMK.out.len; omega)⟩
                    have hne : zt ≠ z + 1 := fun e => hI (by rw [hzt, e])
                    have HZT := hid hzt
                    have hgl : mw2 = mw + G.length := by have h1 := HML.out; rw [List.length_append, HMW.out] at h1; omega
                    obtain ⟨TO, hTO⟩ : ∃ TO : List Int, TO = (G ++ [((0, (t : Int)) : Wy)]).map (·.2) := ⟨_, rfl⟩
                    have HTO := hid (show TO[G.length]? = some (t : Int) by rw [hTO, List.getElem?_map, List.getElem?_append_right (Nat.le_refl _)]; simp)
                    have HTOE := hid hTO.symm
                    have HMK3 := hid (show Mk (I.set t (z + 1)) (z + 1) n TO by rw [hTO, List.map_append]; exact HMK.out.put htn hI)
                    have hPLl : t < PL.length := by have := HR.out.lP; omega
                    have HPT := hid (show (PL.set t (mw2 : Int))[t]? = some ((mw + G.length : Nat) : Int) by rw [List.getElem?_set_self hPLl, hgl])
                    have HPL3 := hid (show ∀ (i : Nat) (y : Int), TO[i]? = some y → (PL.set t (mw2 : Int))[y.toNat]? = some ((mw + i : Nat) : Int) from fun i y hy => by
                      rw [hTO, List.map_append] at hy
                      rcases snoc_cases hy with ⟨h1, h2⟩ | ⟨h1, h2⟩
                      · have h3 : (t : Int) ∉ G.map (·.2) := fun h => hI ((HMK.out.mrk t htn).2 h)
                        have h4 := HMK.out.bd y (List.mem_of_getElem? h2)
                        have h5 : t ≠ y.toNat := fun e => h3 (by have : y = (t : Int) := by omega
                                                                 rw [← this]; exact List.mem_of_getElem? h2)
                        rw [List.getElem?_set_ne h5]
                        exact HPL.out i y h2
                      · subst h2
                        rw [h1, List.length_map]
                        show (PL.set t (mw2 : Int))[t]? = _
                        rw [List.getElem?_set_self hPLl, hgl])
                    have HGD3 := hid (HGD.out.new htn)
                    have hgb : mw + G.length < mw2 + 1 := by omega
                    have hrm : mw2 + 1 ≤ a := by omega
                    obtain ⟨G0l, hG0l⟩ : ∃ G0l, G0l = G.length := ⟨_, rfl⟩
                    rw [← hG0l] at HTO HPT hgb
                    clear hG0l
                    have HML3 := hid (show (Wl ++ (G ++ [(0, (t : Int))])).length = mw2 + 1 by rw [← List.append_assoc, List.length_append, HML.out]; rfl)
                    clear hI hzt hTO HMK HPL hgl hPLl HGD
                    go_wp2_with fail
                    rw [← HEB.out]
                    refine (let_yesC t zt HR2.out.c2 HR2.out.c3 htn (HR2.out.ci HZT.out) hne (HR2.out.fI t)).mono ?_
                    rintro e w2 ⟨rfl, k2, hw2⟩
                    have HR3a := hid (show RI w w2 w.heap.size P wt ft ib pl n ((eb, #[.slice co cn cc, .int .i64 (t : Int)], 88) :: (sb, #[.slice (some q2) en ec, .slice fo fn fc], 86) :: [(w.heap.size, #[.slice (some q) n sc, .int .i64 s, .int .i64 f], 28)]) ws fs WL FL (z + 1) (I.set t (z + 1)) PL (.slice (some ⟨wy, 0, none⟩) (Wl ++ G).length a) (Wl ++ G) mw (.slice (some ⟨fy, 0, none⟩) Fl.length b) Fl Fl.length by rw [hw2]; exact (HR2.out.drew k2).setI t (z + 1))
                    have HR3b := hid (HR3a.out.setL t (mw2 : Int))
                    have e1 : w2.cell? ⟨eb, 1, none⟩ = some (.int .i64 (t : Int)) := HR3a.out.cx (.head _) 1 rfl
                    have fzl := HR3a.out.fL t
                    obtain ⟨zl, hzl⟩ : ∃ zl, PL[t]? = some zl := ⟨_, List.getElem?_eq_getElem (by have := HR3a.out.lP; omega)⟩
                    have cpl := HR3a.out.cl hzl
                    have hne1 : eb ≠ pl := ne_type (HR3a.out.ex _ _ _ (.head _)).1 HR3a.out.hL (by decide)
                    have hne2 : pl ≠ eb := Ne.symm hne1
                    have hgew := HR3a.out.ge
                    have t3 : (t : Int) < (n : Int) := by omega
                    have t0 : (0 : Int) ≤ (t : Int) := by omega
                    have HOW := hid (show (w2.setCell ⟨pl, t, none⟩ (.int .i64 (mw2 : Int))).ownsRow (w.heap.size + 1) 135 2 (.slice (some ⟨wy, 0, none⟩) mw2 a) mw2 (wcs (Wl ++ G)) by have h := HR3b.out.oW; rw [HML.out] at h; exact h)
                    have HEP := hid (show (w2.setCell ⟨pl, t, none⟩ (.int .i64 (mw2 : Int))).cell? ⟨eb, 0, none⟩ = some (.slice co cn cc) from HR3b.out.cx (.head _) 0 rfl)
                    have hebw : eb < w2.heap.size := lt_of (HR3a.out.ex _ _ _ (.head _)).1
                    have HEBW := hid hebw
                    clear hw2 HR HR2 HI HEB hzl b0 b1 HZT hne
                    go_wp2_with (at_builtin; refine wpList_append_fits _ rfl _ _ 133 rfl (w.heap.size + 1) 135 j4 2 Tryd.underlying133 n1 n3 wy mw2 a (wcs (Wl ++ G)) rfl (HOW.out.alloc _) ⟨w2.heap.size, 0, none⟩ 1 1 (wyc (0, (t : Int))) rfl rfl (news2 (w2.setCell ⟨pl, t, none⟩ (.int .i64 (mw2 : Int))) w2.heap.size (by simp) (.int .u64 0) (.int .i64 (t : Int)) 135) (wyc_one _) hrm ?_; intro w5 o5 gr5; have HR3 := hid (show RI w w5 w.heap.size P wt ft ib pl n ((eb, #[.slice co cn cc, .int .i64 (t : Int)], 88) :: (sb, #[.slice (some q2) en ec, .slice fo fn fc], 86) :: [(w.heap.size, #[.slice (some q) n sc, .int .i64 s, .int .i64 f], 28)]) ws fs WL FL (z + 1) (I.set t (z + 1)) (PL.set t (mw2 : Int)) (.slice (some ⟨wy, 0, none⟩) (Wl ++ (G ++ [(0, (t : Int))])).length a) (Wl ++ (G ++ [(0, (t : Int))])) mw (.slice (some ⟨fy, 0, none⟩) Fl.length b) Fl Fl.length by (have h := (HR3b.out.alloc (.cells #[.int .u64 0, .int .i64 (t : Int)] 135)).appW (0, (t : Int)) gr5 (by rw [HML.out]; exact o5); rw [List.append_assoc] at h; exact h)); have e0 : w5.cell? ⟨eb, 0, none⟩ = some (.slice co cn cc) := HR3.out.cx (.head _) 0 rfl; clear o5 gr5)
                    clear HR3a HR3b e1 fzl cpl HOW HEP hebw HEBW HML e0
                    go_loopw [99] (fun x wr => ∃ (p : Nat) (G : List Wy), x = .int .i64 p ∧ p ≤ cn ∧ Hid ((Wl ++ G).length = (mw2 + 1)) ∧ Hid (RI w wr w.heap.size P wt ft ib pl n ((eb, #[.slice co cn cc, .int .i64 (t : Int)], 88) :: (sb, #[.slice (some q2) en ec, .slice fo fn fc], 86) :: [(w.heap.size, #[.slice (some q) n sc, .int .i64 s, .int .i64 f], 28)]) ws fs WL FL (z + 1) (I.set t (z + 1)) (PL.set t (mw2 : Int)) (.slice (some ⟨wy, 0, none⟩) (Wl ++ G).length a) (Wl ++ G) mw (.slice (some ⟨fy, 0, none⟩) Fl.length b) Fl Fl.length) ∧ Hid (Gd n G (Sd E j p)) ∧ Hid (G.map (·.2) = TO)) (fun x _ => cn - (intOf x).toNat)
                    case atStart => exact ⟨0, (G ++ [(0, (t : Int))]), rfl, Nat.zero_le _, HML3, HR3, HGD3, HTOE⟩
                    case round =>
                      clear HR3 HML3 HGD3 HTOE
                      obtain ⟨p, G, rfl, hp, HML, HR, HGD, HTOG⟩ := hrel
                      by_cases hpl : p < cn
                      · have hpC : p < C.length := by have := HCN.out; omega
                        obtain ⟨q3, eq3, hq3, d0⟩ := HRDC.out wr HR.out.low p C[p] (List.getElem?_eq_getElem hpC)
                        subst eq3
                        have HCP := hid (List.getElem?_eq_getElem hpC)
                        have hcb := HCD.out C[p] (List.getElem_mem hpC)
                        obtain ⟨x, hx⟩ : ∃ x, x = C[p] := ⟨_, rfl⟩
                        rw [← hx] at d0 HCP hcb
                        clear hx hpC
                        obtain ⟨c, rfl⟩ : ∃ c : Nat, x = (c : Int) := ⟨x.toNat, by omega⟩
                        have hc64 : c < 64 := by omega
                        obtain ⟨m, hm⟩ : ∃ m, G[G0l]? = some (m, (t : Int)) := by
                          have h1 := HTO.out
                          rw [← HTOG.out, List.getElem?_map] at h1
                          obtain ⟨y, hy, hy2⟩ := Option.map_eq_some_iff.1 h1
                          exact ⟨y.1, by rw [hy, ← hy2]⟩
                        have HGI := hid hm
                        have hWG : (Wl ++ G)[mw + G0l]? = some (m, (t : Int)) := by rw [List.getElem?_append_right (by have := HMW.out; omega), HMW.out, show mw + G0l - mw = G0l by omega]; exact hm
                        have HWG := hid hWG
                        have hm64 := (HGD.out.bd _ (List.mem_of_getElem? hm)).1
                        dsimp only at hm64
                        have cwy := HR.out.cw hWG
                        dsimp only at cwy
                        have cpl := HR.out.cl HPT.out
                        have e1 : wr.cell? ⟨eb, 1, none⟩ = some (.int .i64 (t : Int)) := HR.out.cx (.head _) 1 rfl
                        have fz := HR.out.fW ((mw + G0l) * 2)
                        obtain ⟨pi, hpi⟩ : ∃ pi, pi = mw + G0l := ⟨_, rfl⟩
                        rw [← hpi] at cwy cpl fz
                        have hpb : pi < (mw2 + 1) := by omega
                        have HPI := hid hpi
                        obtain ⟨oc, hoc⟩ : ∃ oc, oc = onl (c : Int) := ⟨_, rfl⟩
                        have hoc2 : oc = 2 ^ c := by rw [hoc]; unfold onl; rw [if_pos (by omega)]; simp
                        have hoc3 : oc < 18446744073709551616 := by rw [hoc2]; exact Nat.lt_of_lt_of_le (Nat.pow_lt_pow_right (by decide) hc64) (by decide : 2 ^ 64 ≤ 18446744073709551616)
                        have hor : bits .or .u64 (m : Int) (oc : Int) = ((m ||| oc : Nat) : Int) := u64_or_nat m oc hm64 hoc3
                        obtain ⟨mo, hmo⟩ : ∃ mo, mo = m ||| oc := ⟨_, rfl⟩
                        rw [← hmo] at hor
                        have HMO := hid (show mo = m ||| 2 ^ c by rw [hmo, hoc2])
                        have HOC := hid hoc
                        have HGD2 := hid ((HGD.out.or hm hc64).congr (Sd.class HEJ.out HCP.out))
                        have HTOG2 := hid (show (G.set G0l (mo, (t : Int))).map (·.2) = TO by rw [set_tos hm]; exact HTOG.out)
                        have HR2 := hid (show RI w (wr.drew.setCell ⟨wy, pi * 2, none⟩ (.int .u64 (mo : Int))) w.heap.size P wt ft ib pl n ((eb, #[.slice (some q3) cn cc, .int .i64 (t : Int)], 88) :: (sb, #[.slice (some q2) en ec, .slice fo fn fc], 86) :: [(w.heap.size, #[.slice (some q) n sc, .int .i64 s, .int .i64 f], 28)]) ws fs WL FL (z + 1) (I.set t (z + 1)) (PL.set t (mw2 : Int)) (.slice (some ⟨wy, 0, none⟩) (Wl ++ G.set G0l (mo, (t : Int))).length a) (Wl ++ G.set G0l (mo, (t : Int))) mw (.slice (some ⟨fy, 0, none⟩) Fl.length b) Fl Fl.length by
                          have h := HR.out.drew1.orW mo HWG.out (by omega)
                          rw [← HPI.out, show (Wl ++ G).set pi (mo, (t : Int)) = Wl ++ G.set G0l (mo, (t : Int)) by rw [HPI.out, List.set_append_right _ _ (by have := HMW.out; omega), show mw + G0l - Wl.length = G0l by have := HMW.out; omega]] at h
                          exact h)
                        have HML2 := hid (show (Wl ++ G.set G0l (mo, (t : Int))).length = (mw2 + 1) by have h := HML.out; rw [List.length_append] at h ⊢; rw [List.length_set]; exact h)
                        rw [← HMO.out] at HGD2
                        have p3 : (p : Int) < (cn : Int) := by omega
                        have p0 : (0 : Int) ≤ (p : Int) := by omega
                        have t3 : (t : Int) < (n : Int) := by omega
                        have t0 : (0 : Int) ≤ (t : Int) := by omega
                        have pi3 : (pi : Int) < ((mw2 + 1) : Int) := by omega
                        have pi0 : (0 : Int) ≤ (pi : Int) := by omega
                        clear hm hWG hm64 hpi hoc hoc2 hoc3 hmo hcb hq3
                        go_wp2_with fail
                        refine wp_region_mix [(0, true), (1, true), (2, true), (3, true), (4, true), (5, true), (6, true), (7, true), (8, true), (9, true), (10, false), (11, true), (12, false), (13, false), (14, false)] (fun w' => w'.cell? ⟨eb, 1, none⟩ = some (.int .i64 (t : Int)) ∧ w'.cell? ⟨pl, t, none⟩ = some (.int .i64 (pi : Int)) ∧ w'.cell? ⟨wy, pi * 2, none⟩ = some (.int .u64 (m : Int))) (fun j => j == 14) (by kernel_rfl) (by kernel_rfl) (fun j hj => by have := beq_iff_eq.1 hj; subst this; decide) rfl (by kernel_rfl) ⟨e1, cpl, cwy⟩ ?_
                        iterate 10 (refine mix_free ?_ rfl (by kernel_rfl) (fun w' hS => ?_) ?_; (rotate_left; (obtain ⟨s1, s2, s3⟩ := hS; go_simp; with_reducible rfl); rotate_left))
                        refine mix_go rfl (by kernel_rfl) fun KK hKK => ?_
                        go_simp
                        refine (only_any (c : Int) _).mono ?_
                        rintro e w4 ⟨rfl, hw4⟩
                        obtain rfl := hw4.symm
                        rw [← HOC.out]
                        refine hKK _ _ (fun _ => ⟨e1, cpl, cwy⟩) ?_
                        clear hKK KK
                        refine mix_free ?_ rfl (by kernel_rfl) (fun w' hS => ?_) ?_; (rotate_left; (go_simp; with_reducible rfl); rotate_left)
                        iterate 2 (refine mix_go rfl (by kernel_rfl) fun KK hKK => ?_; go_simp; refine hKK _ _ (fun _ => ⟨e1, cpl, cwy⟩) ?_; clear hKK KK)
                        refine mix_go rfl (by kernel_rfl) fun KK hKK => ?_
                        go_simp
                        refine hKK _ _ (fun h => by cases h) ?_
                        refine mix_end (NoPanic.normal ?_)
                        go_wp2
                        go_roundw
                        case rel => exact ⟨p + 1, G.set G0l (mo, (t : Int)), by go_num, by omega, HML2, HR2, HGD2, HTOG2⟩
                        case measure => simp [intOf]; omega
                      · have p3 : ¬ (p : Int) < (cn : Int) := by omega
                        have HGD2 := hid (HGD.out.congr (Sd.edge HEJ.out (show (C, (t : Int)).1.length ≤ p by have := HCN.out; show C.length ≤ p; omega)))
                        have HR2 := hid (HR.out.sub (fun x hx => List.mem_cons_of_mem _ hx))
                        have HMK4 := hid (show Mk (I.set t (z + 1)) (z + 1) n (G.map (·.2)) by rw [HTOG.out]; exact HMK3.out)
                        have HPL4 := hid (show ∀ (i : Nat) (y : Int), (G.map (·.2))[i]? = some y → (PL.set t (mw2 : Int))[y.toNat]? = some ((mw + i : Nat) : Int) by rw [HTOG.out]; exact HPL3.out)
                        go_wp2
                        go_roundw
                        case rel => exact ⟨j + 1, (mw2 + 1), (I.set t (z + 1)), PL.set t (mw2 : Int), G, by go_num, rfl, by omega, by omega, HML, HR2, HGD2, HMK4, HPL4⟩
                        case measure => simp [intOf]; omega

                · have j3 : ¬ (j : Int) < (en : Int) := by omega
                  have HWK := hid (show WOk n (E, F) G from HGD.out.congr (fun t c => (Sd.full (E := E) (j := j) (by have := HEN.out; omega) t c).symm))
                  have c0 := HR.out.c0
                  have fzt := HR.out.fT i
                  obtain ⟨vt, ct⟩ := HR.out.ct hlti
                  have hmw3 : mw ≤ mw2 := by have h1 := HML.out; rw [List.length_append, HMW.out] at h1; omega
                  have hmw4 : mw2 ≤ a := by omega
                  have k1 : (mw : Int) ≤ (mw2 : Int) := by omega
                  have k2' : (mw2 : Int) ≤ (a : Int) := by omega
                  have k3' : (0 : Int) ≤ (mw : Int) := by omega
                  have ki0 : (0 : Int) ≤ (i : Int) := by omega
                  clear HGD
                  go_wp2_with fail
                  refine wp_region_mix [(0, true), (1, true), (2, true), (3, true), (4, true), (5, true), (6, true), (7, true), (8, true), (9, false)] (fun w' => w'.cell? ⟨P, 0, none⟩ = some (.slice (some ⟨wt, 0, none⟩) n n)) (fun j => j == 9) (by kernel_rfl) (by kernel_rfl) (fun j hj => by have := beq_iff_eq.1 hj; subst this; decide) rfl (by kernel_rfl) c0 ?_
                  iterate 9 (refine mix_free ?_ rfl (by kernel_rfl) (fun w' hS => ?_) ?_; (rotate_left; (go_simp; with_reducible rfl); rotate_left))
                  refine mix_go rfl (by kernel_rfl) fun KK hKK => ?_
                  go_simp
                  refine hKK _ _ (fun h => by cases h) ?_
                  refine mix_end (NoPanic.normal ?_)
                  obtain ⟨ao, hao⟩ : ∃ ao : Option Addr, ao = (if a = mw then some ⟨wy, 0, none⟩ else some ⟨wy, mw * 2, none⟩) := ⟨_, rfl⟩
                  rw [← hao]
                  have HRT := hid (show RI w ((wr.drew.setCell ⟨wt, i, none⟩ (.slice ao (mw2 - mw) (a - mw))).setCell ⟨P, 3, none⟩ (.int .i64 (z + 1 + 1))) w.heap.size P wt ft ib pl n ((sb, #[.slice eo en ec, .slice fo fn fc], 86) :: [(w.heap.size, #[.slice (some q) n sc, .int .i64 s, .int .i64 f], 28)]) (up ws i (ao, a - mw)) fs (WL ++ [(Wl ++ G).drop mw]) FL (z + 1 + 1) I PL (.slice (some ⟨wy, 0, none⟩) (Wl ++ G).length a) (Wl ++ G) (Wl ++ G).length (.slice (some ⟨fy, 0, none⟩) (Fl).length b) Fl Fl.length by
                    have hml := HML.out
                    have hwl := HWLl.out
                    have h := HR.out.drew1.setT ao (a - mw) (mw2 - mw) (by rw [hml]) (fun h => by rw [hao, if_neg (by omega)]) (by omega) (by unfold most; omega)
                    rw [hwl] at h
                    exact h.setS (z + 1 + 1))
                  have hPt : P ≠ wt := by obtain ⟨c, h1, _⟩ := HR.out.hT; exact ne_type HR.out.hP h1 (by decide)
                  have hPt' : wt ≠ P := Ne.symm hPt
                  have hst : sb ≠ wt := by obtain ⟨c, h1, _⟩ := HR.out.hT; exact ne_type (HR.out.ex _ _ _ (.head _)).1 h1 (by decide)
                  have hst' : wt ≠ sb := Ne.symm hst
                  have hsP : sb ≠ P := ne_type (HR.out.ex _ _ _ (.head _)).1 HR.out.hP (by decide)
                  have hsP' : P ≠ sb := Ne.symm hsP
                  have c3 := HR.out.c3
                  have fz3 := HR.out.fP 3
                  have csb : wr.cell? ⟨sb, 1, none⟩ = some (.slice fo fn fc) := HR.out.cx (.head _) 1 rfl
                  have HMK5 := hid HMK.out.next
                  have HDR := hid (show (Wl ++ G).drop mw = G by rw [← HMW.out, List.drop_left])
                  clear hao HR HMK HPL
                  go_wp2
                  clear c3 fz3 csb hPt hPt' hst hst' hsP hsP' c0 fzt ct k1 k2' k3' HRDE HED
                  go_loopw [140, 10] (fun x y wr => ∃ (k2 mf2 : Nat) (I H : List Int), x = .int .i64 k2 ∧ y = .slice (some ⟨fy, 0, none⟩) mf2 b ∧ k2 ≤ fn ∧ mf2 ≤ mf + k2 ∧ Hid ((Fl ++ H).length = mf2) ∧ Hid (RI w wr w.heap.size P wt ft ib pl n ((sb, #[.slice eo en ec, .slice fo fn fc], 86) :: [(w.heap.size, #[.slice (some q) n sc, .int .i64 s, .int .i64 f], 28)]) (up ws i (ao, a - mw)) fs (WL ++ [(Wl ++ G).drop mw]) FL (z + 1 + 1) I PL (.slice (some ⟨wy, 0, none⟩) (Wl ++ G).length a) (Wl ++ G) (Wl ++ G).length (.slice (some ⟨fy, 0, none⟩) (Fl ++ H).length b) (Fl ++ H) mf) ∧ Hid (Bgn F n (z + 1 + 1) k2 H I)) (fun x _ _ => fn - (intOf x).toNat)
                  case atStart => exact ⟨0, mf, I, [], rfl, rfl, Nat.zero_le _, by omega, by rw [List.append_nil]; exact HMF, by rw [List.append_nil]; have h := HRT.out; rw [HMF.out] at h ⊢; exact h, ⟨HMK5.out, fun x => by simp⟩⟩
                  case round =>
                    clear HRT HMK5
                    obtain ⟨k2, mf2, I, H, rfl, rfl, hk2, hmf2, HMFL, HR, HBG⟩ := hrel
                    by_cases hkl : k2 < fn
                    · have hkF : k2 < F.length := by have := HFN.out; omega
                      obtain ⟨q4, eq4, hq4, d0⟩ := HRDF.out wr HR.out.low k2 F[k2] (List.getElem?_eq_getElem hkF)
                      subst eq4
                      have HFK := hid (List.getElem?_eq_getElem hkF)
                      have hfb := wn_iff.1 (HFD.out F[k2] (List.getElem_mem hkF))
                      obtain ⟨y, hy⟩ : ∃ y, y = F[k2] := ⟨_, rfl⟩
                      rw [← hy] at d0 HFK hfb
                      clear hy hkF
                      obtain ⟨t, rfl⟩ : ∃ t : Nat, y = (t : Int) := ⟨y.toNat, by omega⟩
                      have htn : t < n := by omega
                      have kk3 : (k2 : Int) < (fn : Int) := by omega
                      have kk0 : (0 : Int) ≤ (k2 : Int) := by omega
                      clear hfb hq4
                      by_cases hI : I[t]? = some (z + 1 + 1)
                      · have HI := hid hI
                        have HBG2 := hid (HBG.out.seen HFK.out htn hI)
                        clear hI
                        go_wp2_with fail
                        refine (let_noC t HR.out.c2 HR.out.c3 htn (HR.out.ci HI.out)).mono ?_
                        rintro e w2 ⟨rfl, kd, hw2⟩
                        have HR2 := hid (show RI w w2 w.heap.size P wt ft ib pl n ((sb, #[.slice eo en ec, .slice (some q4) fn fc], 86) :: [(w.heap.size, #[.slice (some q) n sc, .int .i64 s, .int .i64 f], 28)]) (up ws i (ao, a - mw)) fs (WL ++ [(Wl ++ G).drop mw]) FL (z + 1 + 1) I PL (.slice (some ⟨wy, 0, none⟩) (Wl ++ G).length a) (Wl ++ G) (Wl ++ G).length (.slice (some ⟨fy, 0, none⟩) (Fl ++ H).length b) (Fl ++ H) mf by rw [hw2]; exact HR.out.drew kd)
                        clear hw2
                        go_wp2
                        go_roundw
                        case rel => exact ⟨k2 + 1, mf2, I, H, by go_num, rfl, by omega, by omega, HMFL, HR2, HBG2⟩
                        case measure => simp [intOf]; omega
                      · have HI := hid hI
                        obtain ⟨zt, hzt⟩ : ∃ zt, I[t]? = some zt := ⟨_, List.getElem?_eq_getElem (by have := HBG.out.mks.len; omega)⟩
                        have hne : zt ≠ z + 1 + 1 := fun e => hI (by rw [hzt, e])
                        have HZT := hid hzt
                        have HBG2 := hid (HBG.out.new HFK.out htn hI)
                        have hrm : mf2 + 1 ≤ b := by omega
                        have HMFL2 := hid (show (Fl ++ (H ++ [(t : Int)])).length = mf2 + 1 by rw [← List.append_assoc, List.length_append, HMFL.out]; rfl)
                        clear hI hzt
                        go_wp2_with fail
                        refine (let_yesC t zt HR.out.c2 HR.out.c3 htn (HR.out.ci HZT.out) hne (HR.out.fI t)).mono ?_
                        rintro e w2 ⟨rfl, kd, hw2⟩
                        have HR2 := hid (show RI w w2 w.heap.size P wt ft ib pl n ((sb, #[.slice eo en ec, .slice (some q4) fn fc], 86) :: [(w.heap.size, #[.slice (some q) n sc, .int .i64 s, .int .i64 f], 28)]) (up ws i (ao, a - mw)) fs (WL ++ [(Wl ++ G).drop mw]) FL (z + 1 + 1) (I.set t (z + 1 + 1)) PL (.slice (some ⟨wy, 0, none⟩) (Wl ++ G).length a) (Wl ++ G) (Wl ++ G).length (.slice (some ⟨fy, 0, none⟩) (Fl ++ H).length b) (Fl ++ H) mf by rw [hw2]; exact (HR.out.drew kd).setI t (z + 1 + 1))
                        have HOF := hid (show w2.ownsRow (w.heap.size + 1) 3 1 (.slice (some ⟨fy, 0, none⟩) mf2 b) mf2 (i64s (Fl ++ H)) by have h := HR2.out.oF; rw [HMFL.out] at h; exact h)
                        clear hw2
                        go_wp2_with (at_builtin; refine wpList_append_fits _ rfl _ _ 22 rfl (w.heap.size + 1) 3 j3' 1 Tryd.underlying22 m1 m3 fy mf2 b (i64s (Fl ++ H)) rfl (HOF.out.alloc _) ⟨w2.heap.size, 0, none⟩ 1 1 [.int .i64 (t : Int)] rfl rfl (news_one w2 _ 3) (i64s_one [(t : Int)]) hrm ?_; intro w5 o5 gr5; have HR3 := hid (show RI w w5 w.heap.size P wt ft ib pl n ((sb, #[.slice eo en ec, .slice (some q4) fn fc], 86) :: [(w.heap.size, #[.slice (some q) n sc, .int .i64 s, .int .i64 f], 28)]) (up ws i (ao, a - mw)) fs (WL ++ [(Wl ++ G).drop mw]) FL (z + 1 + 1) (I.set t (z + 1 + 1)) PL (.slice (some ⟨wy, 0, none⟩) (Wl ++ G).length a) (Wl ++ G) (Wl ++ G).length (.slice (some ⟨fy, 0, none⟩) (Fl ++ (H ++ [(t : Int)])).length b) (Fl ++ (H ++ [(t : Int)])) mf by (have h := (HR2.out.alloc (.cells #[.int .i64 (t : Int)] 3)).appF (t : Int) gr5 (by rw [HMFL.out]; exact o5); rw [List.append_assoc] at h; exact h)); clear o5 gr5)
                        go_roundw
                        case rel => exact ⟨k2 + 1, mf2 + 1, I.set t (z + 1 + 1), H ++ [(t : Int)], by go_num, rfl, by omega, by omega, HMFL2, HR3, HBG2⟩
                        case measure => simp [intOf]; omega
                    · have kk3 : ¬ (k2 : Int) < (fn : Int) := by omega
                      have HFK := hid (show FOk n (E, F) H from ⟨HBG.out.mks.bd, fun t => by
                        have h1 := HBG.out.iff t
                        rw [List.take_of_length_le (by have := HFN.out; omega)] at h1
                        rw [h1]
                        exact ⟨fun h => h.1, fun h => ⟨h, wn_iff.1 (HFD.out t h)⟩⟩⟩)
                      have c1 := HR.out.c1
                      have fzu := HR.out.fU i
                      obtain ⟨vu, cu⟩ := HR.out.cu hlti
                      have hmf3 : mf ≤ mf2 := by have h1 := HMFL.out; rw [List.length_append, HMF.out] at h1; omega
                      have hmf4 : mf2 ≤ b := by omega
                      have k1 : (mf : Int) ≤ (mf2 : Int) := by omega
                      have k2' : (mf2 : Int) ≤ (b : Int) := by omega
                      have k3' : (0 : Int) ≤ (mf : Int) := by omega
                      go_wp2_with fail
                      refine wp_region_mix [(0, true), (1, true), (2, true), (3, true), (4, true), (5, true), (6, true), (7, true), (8, true), (9, false)] (fun w' => w'.cell? ⟨P, 1, none⟩ = some (.slice (some ⟨ft, 0, none⟩) n n)) (fun j => j == 9) (by kernel_rfl) (by kernel_rfl) (fun j hj => by have := beq_iff_eq.1 hj; subst this; decide) rfl (by kernel_rfl) c1 ?_
                      iterate 9 (refine mix_free ?_ rfl (by kernel_rfl) (fun w' hS => ?_) ?_; (rotate_left; (go_simp; with_reducible rfl); rotate_left))
                      refine mix_go rfl (by kernel_rfl) fun KK hKK => ?_
                      go_simp
                      refine hKK _ _ (fun h => by cases h) ?_
                      refine mix_end (NoPanic.normal ?_)
                      obtain ⟨bo, hbo⟩ : ∃ bo : Option Addr, bo = (if b = mf then some ⟨fy, 0, none⟩ else some ⟨fy, mf, none⟩) := ⟨_, rfl⟩
                      rw [← hbo]
                      have HRU := hid (show RI w (wr.drew.setCell ⟨ft, i, none⟩ (.slice bo (mf2 - mf) (b - mf))) w.heap.size P wt ft ib pl n [(w.heap.size, #[.slice (some q) n sc, .int .i64 s, .int .i64 f], 28)] (up ws i (ao, a - mw)) (up fs i (bo, b - mf)) (WL ++ [(Wl ++ G).drop mw]) (FL ++ [(Fl ++ H).drop mf]) (z + 1 + 1) I PL (.slice (some ⟨wy, 0, none⟩) (Wl ++ G).length a) (Wl ++ G) (Wl ++ G).length (.slice (some ⟨fy, 0, none⟩) (Fl ++ H).length b) (Fl ++ H) (Fl ++ H).length by
                        have hml := HMFL.out
                        have hwl := HFLl.out
                        have h := HR.out.drew1.setU bo (b - mf) (mf2 - mf) (by rw [hml]) (fun h => by rw [hbo, if_neg (by omega)]) (by omega) (by unfold most; omega)
                        rw [hwl] at h
                        exact h.sub (fun x hx => List.mem_cons_of_mem _ hx))
                      have HDF := hid (show (Fl ++ H).drop mf = H by rw [← HMF.out, List.drop_left])
                      clear hbo HR
                      go_wp2
                      go_roundw
                      case rel =>
                        refine ⟨i + 1, mw2, mf2, WL ++ [(Wl ++ G).drop mw], FL ++ [(Fl ++ H).drop mf], I, PL, Wl ++ G, Fl ++ H, up ws i (ao, a - mw), up fs i (bo, b - mf), z + 1 + 1, H, by go_num, rfl, rfl, by omega, by omega, by omega, HML, HMFL, HRU, ?_, ?_, ?_, ?_, ?_, ?_, HBG.out.mks⟩
                        · show (WL ++ [(Wl ++ G).drop mw]).length = i + 1
                          rw [List.length_append, HWLl.out]; rfl
                        · show (FL ++ [(Fl ++ H).drop mf]).length = i + 1
                          rw [List.length_append, HFLl.out]; rfl
                        · show mw2 ≤ eS (L.take (i + 1))
                          have h1 := HEW.out; have h2 := HE1.out; omega
                        · show mf2 ≤ fS (L.take (i + 1))
                          have h1 := HFW.out; have h2 := HF1.out; omega
                        · intro k s' g hk hg
                          rcases snoc_cases hg with ⟨_, h2⟩ | ⟨h1, h2⟩
                          · exact HWO.out k s' g hk h2
                          · rw [h1, HWLl.out, HLI.out] at hk
                            cases hk
                            rw [h2, HDR.out]; exact HWK.out
                        · intro k s' g hk hg
                          rcases snoc_cases hg with ⟨_, h2⟩ | ⟨h1, h2⟩
                          · exact HFO.out k s' g hk h2
                          · rw [h1, HFLl.out, HLI.out] at hk
                            cases hk
                            rw [h2, HDF.out]; exact HFK.out
                      case measure => simp [intOf]; omega
            · have i3' : ¬ (i : Int) < (n : Int) := by omega
              go_wp2
              go_ret
              refine ⟨P, wt, ft, ib, ws, fs, WL, FL, I, z, S, rfl, ?_, HMK.out, hz0, by omega, HWO.out, HFO.out, q5, q8, HR.out.low⟩
              exact HR.out.done (by have := HWLl.out; omega) (by have := HFLl.out; omega)
end Go.Proofs.YteacehfihogmpaaDoor
