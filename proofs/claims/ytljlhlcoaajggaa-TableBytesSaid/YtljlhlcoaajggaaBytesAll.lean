/- The bytes of rising ranges; the ranges of classes rise. -/
import Derived.Test.YtljlhlcoaajggaaRangesAll
import Derived.Deep.AppendLies
import Derived.Test.YtljlhlcoaajggaaNum
namespace Go.Proofs.Ytljlhlcoaajggaa

/-- The bytes of ranges from b on. -/
def enL : Nat → List Tr → List Nat
  | _, [] => []
  | b, g :: L => vn (g.1 - b) ++ (vn (g.2.1 - g.1) ++ (g.2.2 :: enL (g.2.1 + 1) L))
/-- The bytes of a table. -/
def enb (r : Nat) (L : List Tr) : List Nat := r :: (vn L.length ++ enL 0 L)
theorem vn3 (n : Nat) (h : n < 2097152) : (vn n).length ≤ 3 := by
  by_cases h1 : 128 ≤ n
  · rw [vn_more n h1]
    by_cases h2 : 128 ≤ n / 128
    · rw [vn_more _ h2]
      by_cases h3 : 128 ≤ n / 128 / 128
      · omega
      · rw [vn_last _ h3]; simp
    · rw [vn_last _ h2]; simp
  · rw [vn_last _ h1]; simp
theorem ris_weak {A : List Tr} {b b' : Nat} (h : Ris b A) (hb : b' ≤ b) : Ris b' A := by
  cases A with
  | nil => trivial
  | cons g A => obtain ⟨h1, h2⟩ := h; exact ⟨by omega, h2⟩
theorem ris_fil (r : Nat) : ∀ (A : List Tr) (b : Nat), Ris b A → Ris b (fil r A)
  | [], _, _ => trivial
  | g :: A, b, h => by
    obtain ⟨h1, h2, h3, h4, h5⟩ := h
    have ih := ris_fil r A _ h5
    by_cases hc : g.2.2 = r
    · have e : fil r (g :: A) = fil r A := by simp [fil, hc]
      rw [e]
      exact ris_weak ih (by omega)
    · have e : fil r (g :: A) = g :: fil r A := by simp [fil, hc]
      rw [e]
      exact ⟨h1, h2, h3, h4, ih⟩
/-- Where ranges end. -/
def endR (b : Nat) (L : List Tr) : Nat := match L.getLast? with | some z => z.2.1 + 1 | none => b
theorem endR_snoc (b : Nat) (L : List Tr) (g : Tr) : endR b (L ++ [g]) = g.2.1 + 1 := by unfold endR; simp
theorem ris_snoc : ∀ (L : List Tr) (b : Nat) (g : Tr), Ris b (L ++ [g]) ↔ Ris b L ∧ endR b L ≤ g.1 ∧ g.1 ≤ g.2.1 ∧ g.2.1 ≤ 1114111 ∧ g.2.2 < 256
  | [], b, g => by
    show (b ≤ g.1 ∧ g.1 ≤ g.2.1 ∧ g.2.1 ≤ 1114111 ∧ g.2.2 < 256 ∧ True) ↔ True ∧ b ≤ g.1 ∧ _
    simp
  | x :: L, b, g => by
    have ih := ris_snoc L (x.2.1 + 1) g
    have he : endR b (x :: L) = endR (x.2.1 + 1) L := by
      unfold endR
      cases L with
      | nil => rfl
      | cons y L => rfl
    rw [he]
    show (b ≤ x.1 ∧ x.1 ≤ x.2.1 ∧ x.2.1 ≤ 1114111 ∧ x.2.2 < 256 ∧ Ris (x.2.1 + 1) (L ++ [g])) ↔ (b ≤ x.1 ∧ x.1 ≤ x.2.1 ∧ x.2.1 ≤ 1114111 ∧ x.2.2 < 256 ∧ Ris (x.2.1 + 1) L) ∧ _
    rw [ih]
    constructor
    · rintro ⟨h1, h2, h3, h4, h5, h6⟩
      exact ⟨⟨h1, h2, h3, h4, h5⟩, h6⟩
    · rintro ⟨⟨h1, h2, h3, h4, h5⟩, h6⟩
      exact ⟨h1, h2, h3, h4, h5, h6⟩
theorem rlA_ris : ∀ (n : Nat) (C : List Nat), C.length = n → n ≤ 1114112 → (∀ c ∈ C, c < 256) → Ris 0 (rlA 0 [] C) ∧ endR 0 (rlA 0 [] C) = n
  | 0, C, h, _, _ => by
    have : C = [] := List.length_eq_zero_iff.1 h
    subst this
    exact ⟨trivial, rfl⟩
  | n + 1, C, h, hn, hc => by
    rcases List.eq_nil_or_concat C with rfl | ⟨D, c, rfl⟩
    · simp at h
    · rw [List.concat_eq_append] at h hc ⊢
      have hl : D.length = n := by simpa using h
      obtain ⟨ih1, ih2⟩ := rlA_ris n D hl (by omega) (fun x hx => hc x (by simp [hx]))
      have hc' := hc c (by simp)
      rw [rlA_snoc, Nat.zero_add, hl]
      rcases List.eq_nil_or_concat (rlA 0 [] D) with h2 | ⟨Q, z, h2⟩
      · rw [h2] at ih2 ⊢
        rw [jn_nil]
        exact ⟨⟨by omega, Nat.le_refl _, by show n ≤ 1114111; omega, hc', trivial⟩, rfl⟩
      · rw [List.concat_eq_append] at h2
        rw [h2] at ih1 ih2 ⊢
        rw [endR_snoc] at ih2
        obtain ⟨a1, a2, a3, a4, a5⟩ := (ris_snoc Q 0 z).1 ih1
        rw [jn_snoc]
        split
        · refine ⟨(ris_snoc _ _ _).2 ⟨a1, a2, by show z.1 ≤ n; omega, by show n ≤ 1114111; omega, hc'⟩, endR_snoc _ _ _⟩
        · rw [show Q ++ [z, (n, n, c)] = (Q ++ [z]) ++ [(n, n, c)] by simp]
          refine ⟨(ris_snoc _ _ _).2 ⟨ih1, by rw [endR_snoc]; show z.2.1 + 1 ≤ n; omega, Nat.le_refl _, by show n ≤ 1114111; omega, hc'⟩, endR_snoc _ _ _⟩
theorem rgs_ris (r : Nat) (C : List Nat) (h : C.length = 1114112) (hc : ∀ c ∈ C, c < 256) : Ris 0 (rgs r C) := ris_fil r _ 0 (rlA_ris _ C h (Nat.le_refl _) hc).1
theorem ris_len : ∀ (A : List Tr) (b : Nat), b ≤ 1114112 → Ris b A → b + A.length ≤ 1114112
  | [], b, hb, _ => by simpa using hb
  | g :: A, b, hb, h => by
    obtain ⟨h1, h2, h3, h4, h5⟩ := h
    have := ris_len A (g.2.1 + 1) (by omega) h5
    rw [List.length_cons]; omega
end Go.Proofs.Ytljlhlcoaajggaa
/- The contract of withNumber (package table), and what it leaves alone. -/
namespace Go.Proofs.Ytljlhlcoaajggaa
open Go.RowKit

/-- All blocks but the row's are as they were. -/
def Oth (v : Value) (w w' : World) : Prop := ∀ k, k < w.heap.size → v.ownBlock ≠ some k → w'.heap[k]? = w.heap[k]?
/-- A value in the row of v, or in a new one. -/
def Fro (v : Value) (w : World) (x : Value) : Prop := x.ownBlock = v.ownBlock ∨ ∀ q, x.ownBlock = some q → w.heap.size ≤ q
theorem oth_step {v x : Value} {w wr w0 : World} {o : Obj} (h : Oth v w wr) (hf : Fro v w x) (hg : (wr.alloc o).grownBy w0 x.ownBlock) (hs : w.heap.size ≤ wr.heap.size) : Oth v w w0 := fun k hk hne => by
  have h1 : some k ≠ x.ownBlock := fun e => by
    rcases hf with hf | hf
    · exact hne (by rw [← hf, ← e])
    · have := hf k e.symm; omega
  have h2 : (wr.alloc o).heap[k]? = wr.heap[k]? := by
    show (wr.heap.push o)[k]? = _
    rw [Array.getElem?_push, if_neg (by omega)]
  exact (hg.block k (by simp; omega) h1).trans (h2.trans (h k hk hne))
theorem fro_step {v x : Value} {w wr : World} {q n c : Nat} (hf : Fro v w x) (hl : x.ownBlock = some q ∨ q = wr.heap.size + 1) (hs : w.heap.size ≤ wr.heap.size) : Fro v w (.slice (some ⟨q, 0, none⟩) n c) := by
  rcases hl with hl | hl
  · rcases hf with hf | hf
    · left; rw [← hf, hl]; rfl
    · right; intro k hk; exact hf k (by rw [hl, ← hk]; rfl)
  · right
    intro k hk
    have : q = k := by simpa [Value.ownBlock] using hk
    omega

set_option maxRecDepth 100000 in
set_option maxHeartbeats 3000000 in
theorem withNumber_far (B : Nat) (v : Value) (T : List Nat) (n : Nat) (w : World) (h : w.ownsRow B 5 1 v T.length (u8n T)) (hB : B ≤ w.heap.size) (hT : T.length ≤ 100000000) (hn : n ≤ 100000000) :
    Calls Try.prog 60 #[v, .int .i64 (n : Int)] w fun e w' => ∃ v', e = .returned v' ∧ w'.ownsRow B 5 1 v' (T ++ vn n).length (u8n (T ++ vn n)) ∧ Below B w w' ∧ Oth v w w' ∧ Fro v w v' := by
  obtain ⟨i0, hi, hz0, hz1, hz2⟩ := info_parts Try.info5
  have HO0 := hid h
  clear h
  go_enter Try.func60, Try.ntmps60
  go_wp2
  go_loopw [0, 1] (fun x y wr => ∃ (U : List Nat) (m : Nat), y = .int .i64 (m : Int) ∧ m ≤ n ∧ U.length + m ≤ T.length + n ∧ Hid (wr.ownsRow B 5 1 x U.length (u8n U)) ∧ Hid (T ++ vn n = U ++ vn m) ∧ Hid (Below B w wr) ∧ Hid (Oth v w wr) ∧ Hid (Fro v w x)) (fun _ y _ => (intOf y).toNat)
  case atStart => exact ⟨T, n, rfl, Nat.le_refl _, Nat.le_refl _, HO0, rfl, Below.refl _ _, fun _ _ _ => rfl, Or.inl rfl⟩
  case round =>
    obtain ⟨U, m, rfl, hm, hU, HO, HE, HB, HT, HF⟩ := hrel
    have hwB := HB.out.size
    by_cases c : 128 ≤ m
    · have c' : (128 : Int) ≤ (m : Int) := by omega
      have e1 : IntKind.u8.wrap (m : Int) = ((m % 256 : Nat) : Int) := by rw [IntKind.wrap_u8]; omega
      have e2 := or_more (m % 256) (by omega)
      rw [show m % 256 % 128 = m % 128 by omega] at e2
      have HV := hid (vn_more m c)
      obtain ⟨d, hd⟩ : ∃ d, d = m % 128 + 128 := ⟨_, rfl⟩
      rw [← hd] at e2 HV
      have hd2 : d < 256 := by omega
      generalize m % 256 = q at *
      clear hd
      go_wp2_with (at_builtin; refine wpList_append_lies _ rfl _ _ 58 rfl B 5 i0 (.int .u8 0) 1 1 Try.underlying58 hi hz0 hz1 hz2 rfl (by decide) _ U.length (u8n U) rfl (HO.out.alloc _) ⟨wr.heap.size, 0, none⟩ 1 1 [.int .u8 (d : Int)] rfl rfl (cell_one_new _ _ _) (by simp [Value.oneCell']) (by decide) (by unfold maxLen; omega) (by omega) (by simp; omega) (wr.heap.size + 1) (by simp) ?_; intro q0 c0 w0 o0 gr0 hlie hlt0)
      go_roundw
      case rel =>
        refine ⟨U ++ [d], m / 128, congrArg (Value.int .i64) (by omega), by omega, by simp; omega, ?_, ?_, ?_, ?_, ?_⟩
        · rw [u8n_app, List.length_append]; exact o0
        · rw [HE.out, HV.out]; simp [Hid]
        · exact ((HB.out.alloc (by omega) _).grown gr0 (by simp; omega) (fun k hk => (HO.out.lt k hk).1))
        · exact oth_step HT.out HF.out gr0 hwB
        · exact fro_step HF.out hlie hwB
      case measure => simp [intOf]; omega
    · have c' : ¬ (128 : Int) ≤ (m : Int) := by omega
      have e1 : IntKind.u8.wrap (m : Int) = (m : Int) := by rw [IntKind.wrap_u8]; omega
      have HV := hid (vn_last m c)
      go_wp2_with (at_builtin; refine wpList_append_lies _ rfl _ _ 58 rfl B 5 i0 (.int .u8 0) 1 1 Try.underlying58 hi hz0 hz1 hz2 rfl (by decide) _ U.length (u8n U) rfl (HO.out.alloc _) ⟨wr.heap.size, 0, none⟩ 1 1 [.int .u8 (m : Int)] rfl rfl (cell_one_new _ _ _) (by simp [Value.oneCell']) (by decide) (by unfold maxLen; omega) (by omega) (by simp; omega) (wr.heap.size + 1) (by simp) ?_; intro q0 c0 w0 o0 gr0 hlie hlt0)
      go_ret
      refine ⟨_, rfl, ?_, ?_, ?_, ?_⟩
      · have h9 : w0.ownsRow B 5 1 (.slice (some ⟨q0, 0, none⟩) (U.length + 1) c0) (T ++ vn n).length (u8n (T ++ vn n)) := by rw [HE.out, HV.out, u8n_app, List.length_append]; exact o0
        rw [List.length_append] at h9
        exact h9
      · exact ((HB.out.alloc (by omega) _).grown gr0 (by simp; omega) (fun k hk => (HO.out.lt k hk).1))
      · exact oth_step HT.out HF.out gr0 hwB
      · exact fro_step HF.out hlie hwB
end Go.Proofs.Ytljlhlcoaajggaa
/- The contract of Bytes (package table). -/
namespace Go.Proofs.Ytljlhlcoaajggaa
open Go.RowKit

theorem Fro.ne {v v' : Value} {w W : World} {G B n k e : Nat} {xs : List Value} (hf : Fro v W v') (h : w.ownsRow B e k v n xs) (hG : w.heap.size ≤ G) (hW : G < W.heap.size) : v'.ownBlock ≠ some G := fun hk => by
  rcases hf with hf | hf
  · have := (h.lt G (by rw [← hf]; exact hk)).2; omega
  · have := hf G hk; omega

set_option maxHeartbeats 4000000 in
set_option maxRecDepth 100000 in
theorem bytes_any (B0 T rest : Nat) (F : List (List Nat)) (w : World) (h : TbAt B0 T F rest w) (hr : rest < 256) :
    Calls Try.prog 30 #[.pointer (some ⟨T, 0, none⟩)] w fun e w' => ∃ v', e = .returned v' ∧ w'.ownsRow w.heap.size 5 1 v' (enb rest (rgs rest F.flatten)).length (u8n (enb rest (rgs rest F.flatten))) ∧ Below w.heap.size w w' := by
  obtain ⟨i0, hi, hz0, hz1, hz2⟩ := info_parts Try.info5
  have hfl : F.flatten.length = 1114112 := by obtain ⟨g, cap, _, _, ho, _, hF⟩ := h; rw [flat_len F ho, hF]
  have hf8 : ∀ c ∈ F.flatten, c < 256 := by
    obtain ⟨g, cap, _, _, ho, h8, hF⟩ := h
    intro c hc
    obtain ⟨b, hb, hcb⟩ := List.mem_flatten.1 hc
    exact h8 b hb c hcb
  have HR0 := hid (rgs_ris rest F.flatten hfl hf8)
  have HRG := hid (ranges_any B0 T rest F w h hr)
  have HT0 := hid h
  obtain ⟨L, hL⟩ : ∃ L, L = rgs rest F.flatten := ⟨_, rfl⟩
  rw [← hL] at HR0 HRG ⊢
  have hn9 := ris_len L 0 (by omega) HR0.out
  clear h hfl hf8 hL
  obtain ⟨n, hn⟩ : ∃ n, n = L.length := ⟨_, rfl⟩
  have HN := hid hn
  rw [← hn] at hn9 HRG
  clear hn
  go_enter Try.func30, Try.ntmps30
  go_wp2_with fail
  refine HRG.out.mono ?_
  rintro e w1 ⟨v1, rfl, o1, b1⟩
  obtain ⟨ao, ac, rfl⟩ := own_form o1
  have HRD := hid (rd_own o1)
  have ht := (HT0.out.below b1).rest_cell
  have HB1 := hid b1
  have hs1 := b1.size
  obtain ⟨B, hB⟩ : ∃ B, B = w1.heap.size := ⟨_, rfl⟩
  have HBE := hid hB
  have HLB := hid (fun W (hW : Below B w1 W) => (rd_own o1).below (show Below w1.heap.size w1 W by rw [← hB]; exact hW))
  have HO0 := hid (show (w1.alloc (.cells #[.int .u8 (rest : Int)] 5)).ownsRow B 5 1 (.slice (some ⟨w1.heap.size, 0, none⟩) 1 1) 1 (u8n [rest]) from World.ownsRow_lit w1 #[.int .u8 (rest : Int)] 1 (by omega) (by decide) rfl)
  have HA0 := hid ((Below.refl B w1).alloc (show B ≤ w1.heap.size by omega) (.cells #[.int .u8 (rest : Int)] 5))
  have HWN := hid (withNumber_far B (.slice (some ⟨w1.heap.size, 0, none⟩) 1 1) [rest] n _ HO0.out (by simp; omega) (by simp) (by omega))
  clear o1 b1 HRG hB HRD
  go_wp2_with fail
  refine HWN.out.mono ?_
  rintro e w2 ⟨v2, rfl, o2, b2, _, _⟩
  have HO2 := hid o2
  have HB2 := hid (HA0.out.trans b2)
  have HS0 := hid (show ([rest] ++ vn n) ++ enL 0 (L.drop 0) = enb rest L by unfold enb; rw [← HN.out]; rfl)
  have HL0 := hid (show ([rest] ++ vn n).length ≤ 4 + 7 * 0 by have := vn3 n (by omega); rw [List.length_append]; simp; omega)
  clear o2 b2 HWN HO0 ht
  go_wp2
  go_loopw [22, 4, 5] (fun x y z wr => ∃ (i nx : Nat) (U : List Nat) (v : Value), x = .int .i64 (i : Int) ∧ y = v ∧ z = .int .i32 (nx : Int) ∧ i ≤ n ∧ nx ≤ 1114112 ∧ Hid (Ris nx (L.drop i)) ∧ Hid (U ++ enL nx (L.drop i) = enb rest L) ∧ Hid (U.length ≤ 4 + 7 * i) ∧ Hid (wr.ownsRow B 5 1 v U.length (u8n U)) ∧ Hid (Below B w1 wr)) (fun x _ _ _ => n - (intOf x).toNat)
  case atStart => exact ⟨0, 0, [rest] ++ vn n, v2, rfl, rfl, rfl, by omega, by omega, HR0, HS0, HL0, HO2, HB2⟩
  case round =>
    obtain ⟨i, nx, U, v, rfl, hv, rfl, hi', hnx, HRI, HEQ, HUL, HOU, HBU⟩ := hrel
    obtain rfl := hv.symm
    have hbu := HBU.out.size
    have hwB : B ≤ wr.heap.size := by have h5 := HBE.out; omega
    by_cases hlt : i < n
    · have hiL : i < L.length := by have h5 := HN.out; omega
      obtain ⟨a, rfl, ha, a0, a1, a2⟩ := (HLB.out wr HBU.out) i (rkT L[i]) (by rw [List.getElem?_map, List.getElem?_eq_getElem hiL]; rfl)
      have hdr : L.drop i = L[i] :: L.drop (i + 1) := List.drop_eq_getElem_cons hiL
      rw [hdr] at HRI HEQ
      obtain ⟨r1, r2, r3, r4, r5⟩ := HRI.out
      have HR5 := hid r5
      unfold rkT at a0 a1 a2
      obtain ⟨gx, hx⟩ : ∃ gx, L[i] = gx := ⟨_, rfl⟩
      rw [hx] at a0 a1 a2 HEQ r1 r2 r3 r4 HR5
      obtain ⟨lo, hh, cl⟩ := gx
      dsimp only at a0 a1 a2 r1 r2 r3 r4 HR5
      change Hid (U ++ (vn (lo - nx) ++ (vn (hh - lo) ++ (cl :: enL (hh + 1) (L.drop (i + 1))))) = enb rest L) at HEQ
      obtain ⟨d1, hd1⟩ : ∃ d1, d1 = lo - nx := ⟨_, rfl⟩
      obtain ⟨d2, hd2⟩ : ∃ d2, d2 = hh - lo := ⟨_, rfl⟩
      rw [← hd1, ← hd2] at HEQ
      have e1 : IntKind.i32.wrap ((lo : Int) - (nx : Int)) = (d1 : Int) := by rw [IntKind.wrap_i32]; omega
      have e2 : IntKind.i64.wrap (d1 : Int) = (d1 : Int) := by rw [IntKind.wrap_i64]; omega
      have e3 : IntKind.i32.wrap ((hh : Int) - (lo : Int)) = (d2 : Int) := by rw [IntKind.wrap_i32]; omega
      have e4 : IntKind.i64.wrap (d2 : Int) = (d2 : Int) := by rw [IntKind.wrap_i64]; omega
      have e5 : IntKind.u8.wrap (cl : Int) = (cl : Int) := by rw [IntKind.wrap_u8]; omega
      have e6 : IntKind.i32.wrap ((hh : Int) + 1) = ((hh + 1 : Nat) : Int) := by rw [IntKind.wrap_i32]; omega
      have hd1l : d1 ≤ 1114112 := by omega
      have hd2l : d2 ≤ 1114112 := by omega
      have i3 : (i : Int) < (n : Int) := by omega
      have hul := HUL.out
      have HV1 := hid (vn3 d1 (by omega))
      have HV2 := hid (vn3 d2 (by omega))
      have HBA := hid (HBU.out.alloc hwB (.cells #[.int .i32 (lo : Int), .int .i32 (hh : Int), .int .i64 (cl : Int)] 36))
      have HGA := hid (heap_alloc_new wr (.cells #[.int .i32 (lo : Int), .int .i32 (hh : Int), .int .i64 (cl : Int)] 36))
      have HW1 := hid (withNumber_far B v U d1 (wr.alloc (.cells #[.int .i32 (lo : Int), .int .i32 (hh : Int), .int .i64 (cl : Int)] 36)) (HOU.out.alloc _) (by simp; omega) (by omega) (by omega))
      clear hx hdr r5 hd1 hd2
      go_wp2_with fail
      refine HW1.out.mono ?_
      rintro e w3 ⟨v3, rfl, o3, b3, t3, f3⟩
      have hs3 := b3.size
      simp only [World.size_alloc] at hs3
      have hG3 := (t3 wr.heap.size (by simp) (fun e => by have := (HOU.out.lt _ e).2; omega)).trans HGA.out
      have x0 : w3.cell? ⟨wr.heap.size, 0, none⟩ = some (.int .i32 (lo : Int)) := by rw [cell_of_row w3 wr.heap.size 0 _ 36 (0, 0) hG3]; rfl
      have x1 : w3.cell? ⟨wr.heap.size, 1, none⟩ = some (.int .i32 (hh : Int)) := by rw [cell_of_row w3 wr.heap.size 1 _ 36 (0, 0) hG3]; rfl
      have HB3 := hid (HBA.out.trans b3)
      have HG3 := hid hG3
      have HNE3 := hid (f3.ne HOU.out (Nat.le_refl _) (by simp))
      have HW2 := hid (withNumber_far B v3 (U ++ vn d1) d2 w3 o3 (by omega) (by rw [List.length_append]; have h5 := HV1.out; omega) (by omega))
      have HO3 := hid o3
      clear o3 b3 t3 f3 HW1 HGA hG3
      go_wp2_with fail
      refine HW2.out.mono ?_
      rintro e w4 ⟨v4, rfl, o4, b4, t4, f4⟩
      have hs4 := b4.size
      have hG4 := (t4 wr.heap.size (by omega) HNE3.out).trans HG3.out
      have y1 : w4.cell? ⟨wr.heap.size, 1, none⟩ = some (.int .i32 (hh : Int)) := by rw [cell_of_row w4 wr.heap.size 1 _ 36 (0, 0) hG4]; rfl
      have y2 : w4.cell? ⟨wr.heap.size, 2, none⟩ = some (.int .i64 (cl : Int)) := by rw [cell_of_row w4 wr.heap.size 2 _ 36 (0, 0) hG4]; rfl
      have HB4 := hid (HB3.out.trans b4)
      have HO4 := hid o4
      have HG4 := hid hG4
      have HNE4 := hid (show v4.ownBlock ≠ some wr.heap.size from fun hk => by
        rcases f4 with f4 | f4
        · exact HNE3.out (by rw [← f4]; exact hk)
        · have := f4 _ hk; omega)
      have hl4 : (U ++ vn d1 ++ vn d2).length ≤ 10 + 7 * i := by rw [List.length_append, List.length_append]; have h5 := HV1.out; have h6 := HV2.out; omega
      obtain ⟨U4, hU4⟩ : ∃ U4, U4 = U ++ vn d1 ++ vn d2 := ⟨_, rfl⟩
      rw [← hU4] at HO4 hl4
      have HU4 := hid hU4
      clear o4 b4 t4 f4 HW2 hG4 x0 x1 hU4
      go_wp2_with (at_builtin; refine wpList_append_lies _ rfl _ _ 58 rfl B 5 i0 (.int .u8 0) 1 1 Try.underlying58 hi hz0 hz1 hz2 rfl (by decide) _ U4.length (u8n U4) rfl (HO4.out.alloc _) ⟨w4.heap.size, 0, none⟩ 1 1 [.int .u8 (cl : Int)] rfl rfl (cell_one_new _ _ _) (by simp [Value.oneCell']) (by decide) (by unfold maxLen; omega) (by omega) (by simp; omega) (w4.heap.size + 1) (by simp) ?_; intro q5 c5 w5 o5 gr5 hlie5 hlt5; have z1 : w5.cell? ⟨wr.heap.size, 1, none⟩ = some (.int .i32 (hh : Int)) := (World.cell?_of_block (gr5.block wr.heap.size (by simp; omega) (fun e => HNE4.out e.symm))).trans ((World.cell?_of_block (show (w4.alloc (.cells #[.int .u8 (cl : Int)] 5)).heap[wr.heap.size]? = w4.heap[wr.heap.size]? by show (w4.heap.push _)[wr.heap.size]? = _; rw [Array.getElem?_push, if_neg (by omega)])).trans y1))
      have HB5 := hid ((HB4.out.alloc (by omega) (.cells #[.int .u8 (cl : Int)] 5)).grown gr5 (by simp; omega) (fun k hk => (HO4.out.lt k hk).1))
      have HO5 := hid (show w5.ownsRow B 5 1 (.slice (some ⟨q5, 0, none⟩) (U4.length + 1) c5) (U4 ++ [cl]).length (u8n (U4 ++ [cl])) by rw [u8n_app, List.length_append]; exact o5)
      have HE5 := hid (show (U4 ++ [cl]) ++ enL (hh + 1) (L.drop (i + 1)) = enb rest L by rw [← HEQ.out, HU4.out]; simp)
      have HL5 := hid (show (U4 ++ [cl]).length ≤ 4 + 7 * (i + 1) by rw [List.length_append]; simp; omega)
      clear o5 gr5
      go_roundw
      case rel => exact ⟨i + 1, hh + 1, U4 ++ [cl], _, by go_num, rfl, by go_num, by omega, by omega, HR5, HE5, HL5, HO5, HB5⟩
      case measure => simp [intOf]; omega
    · have i3 : ¬ (i : Int) < (n : Int) := by omega
      have HE := hid (show U = enb rest L by rw [← HEQ.out, List.drop_of_length_le (by have h5 := HN.out; omega)]; simp [enL])
      rw [HE.out] at HOU
      have HOE := hid (own_mono HOU.out (show w.heap.size ≤ B by have h5 := HBE.out; omega))
      have HBF := hid (HB1.out.trans (HBU.out.mono (show w.heap.size ≤ B by have h5 := HBE.out; omega)))
      go_wp2
      go_ret
      exact ⟨v, rfl, HOE.out, HBF.out⟩
end Go.Proofs.Ytljlhlcoaajggaa
