/- The contract of read (package props). -/
import Derived.Test.YtohhokjlgihbgaaGreatDoorFReadMath
import Derived.Test.YtohhokjlgihbgaaGreatDoorFSay
import Derived.Test.YtohhokjlgihbgaaGreatDoorFClone
namespace Go.Proofs.YtohhokjlgihbgaaGreatDoor
open Go.RowKit

/-- A reader in memory: its database (without parts), and what was said. -/
structure RdrAt (B X P K : Nat) (U : List (List UInt8)) (nv : Value) (S : List Tr) (so : Option Addr) (sc : Nat) (w : World) : Prop where
  db : DbAt B P K U nv (.slice none 0 0) w
  rd : w.heap[X]? = some (.cells #[.pointer (some ⟨P, 0, none⟩), .slice so S.length sc] 68 (0, 0))
  row : w.ownsRow B 86 3 (.slice so S.length sc) S.length (rks S)
  bX : B ≤ X
  nd : U.Nodup
  len : U.length ≤ 64
  rs : Rs 0 S
/-- What a reader leaves alone: all but its own blocks, and ranges. -/
structure FarX (P K X : Nat) (nv : Value) (w w' : World) : Prop where
  st : ∀ x, x < w.heap.size → x ≠ P → x ≠ K → x ≠ X → nv.ownBlock ≠ some x → (∀ cs f, w.heap[x]? ≠ some (.cells cs 86 f)) → w'.heap[x]? = w.heap[x]?
  sz : w.heap.size ≤ w'.heap.size
theorem FarX.of_below {P K X : Nat} {nv : Value} {w w' : World} (h : Below w.heap.size w w') : FarX P K X nv w w' := ⟨fun x hx _ _ _ _ _ => h.block x hx, h.size⟩
theorem FarX.trans {P K X : Nat} {nv nv' : Value} {u v w : World} (h : FarX P K X nv u v) (k : FarX P K X nv' v w) (hn : ∀ x, nv'.ownBlock = some x → nv.ownBlock = some x ∨ u.heap.size ≤ x) : FarX P K X nv u w :=
  ⟨fun x hx h1 h2 h3 h4 h5 => by
    have e := h.st x hx h1 h2 h3 h4 h5
    refine (k.st x (Nat.lt_of_lt_of_le hx h.sz) h1 h2 h3 (fun h6 => ?_) (fun cs f h6 => h5 cs f (e.symm.trans h6))).trans e
    rcases hn x h6 with h7 | h7
    · exact h4 h7
    · omega, Nat.le_trans h.sz k.sz⟩
theorem FarX.of_farD {P K X : Nat} {nv nv' : Value} {w w' : World} (h : FarD P K nv nv' w w') : FarX P K X nv w w' := ⟨fun x hx h1 h2 _ h4 _ => h.st x hx h1 h2 h4, h.sz⟩
theorem row_blk {w : World} {B t s n : Nat} {v : Value} {xs : List Value} (h : w.ownsRow B t s v n xs) {x : Nat} (e : v.ownBlock = some x) : ∃ cs, w.heap[x]? = some (.cells cs t (0, 0)) := by
  rcases h.2 with ⟨h0, _⟩ | ⟨g, cap, cur, hv, _, hg, _⟩
  · rw [h0] at e; cases e
  · rw [hv] at e
    have : g = x := by simpa [Value.ownBlock] using e
    subst this
    exact ⟨_, hg⟩
theorem row_ne {w : World} {B t s n B' t' s' n' : Nat} {v v' : Value} {xs xs' : List Value} (h : w.ownsRow B t s v n xs) (h' : w.ownsRow B' t' s' v' n' xs') (ht : t ≠ t') {x : Nat} (e : v.ownBlock = some x) : v'.ownBlock ≠ some x := fun e' => by
  obtain ⟨c1, k1⟩ := row_blk h e
  exact row_other h' x c1 t k1 (fun e => ht e.symm) e'
theorem RdrAt.entered {B X P K : Nat} {U U' : List (List UInt8)} {nv nv' : Value} {S : List Tr} {so : Option Addr} {sc : Nat} {w w' : World} (h : RdrAt B X P K U nv S so sc w) (hd : DbAt B P K U' nv' (.slice none 0 0) w') (hf : FarD P K nv nv' w w') (hn : U'.Nodup) (hl : U'.length ≤ 64) : RdrAt B X P K U' nv' S so sc w' :=
  ⟨hd, (hf.st X (lt_of_heap h.rd) (fun e => by have h5 := h.db.hP; rw [← e, h.rd] at h5; cases h5) (fun e => ne_map9 h.db.hK (show w.heap[K]? = _ by rw [← e]; exact h.rd)) (row_other h.db.hR X _ 68 h.rd (by decide))).trans h.rd,
    row_keep h.row (fun b hb => hf.st b (h.row.lt b hb).2 (fun e => by subst e; exact row_other h.row b _ 76 h.db.hP (by decide) hb) (fun e => by subst e; exact row_other_map h.row h.db.hK hb) (fun e => row_ne h.db.hR h.row (by decide) e hb)), h.bX, hn, hl, h.rs⟩
theorem row_far {B X P K : Nat} {U : List (List UInt8)} {nv : Value} {S : List Tr} {so : Option Addr} {sc : Nat} {w w' : World} (h : RdrAt B X P K U nv S so sc w) (hf : FarX P K X nv w w') {B' s n : Nat} {v : Value} {xs : List Value} (hr : w.ownsRow B' 84 s v n xs) : w'.ownsRow B' 84 s v n xs :=
  row_keep hr (fun b hb => hf.st b (hr.lt b hb).2 (fun e => by subst e; exact row_other hr b _ 76 h.db.hP (by decide) hb) (fun e => by subst e; exact row_other_map hr h.db.hK hb) (fun e => by subst e; exact row_other hr b _ 68 h.rd (by decide) hb) (fun e => row_ne h.db.hR hr (by decide) e hb) (fun cs f e => by obtain ⟨c, hc⟩ := row_blk hr hb; rw [hc] at e; cases e))
theorem RdrAt.below {B X P K : Nat} {U : List (List UInt8)} {nv : Value} {S : List Tr} {so : Option Addr} {sc : Nat} {w w' : World} (h : RdrAt B X P K U nv S so sc w) (hb : Below w.heap.size w w') : RdrAt B X P K U nv S so sc w' :=
  ⟨h.db.below hb, (hb.block X (lt_of_heap h.rd)).trans h.rd, own_keep h.row hb, h.bX, h.nd, h.len, h.rs⟩
theorem RdrAt.said {B X P K : Nat} {U : List (List UInt8)} {nv : Value} {S S' : List Tr} {so : Option Addr} {sc : Nat} {sv' : Value} {w w' : World} (h : RdrAt B X P K U nv S so sc w) (hx : w'.heap[X]? = some (.cells #[.pointer (some ⟨P, 0, none⟩), sv'] 68 (0, 0))) (hr : w'.ownsRow B 86 3 sv' S'.length (rks S')) (hf : ∀ x, x < w.heap.size → x ≠ X → (Value.slice so S.length sc).ownBlock ≠ some x → w'.heap[x]? = w.heap[x]?) (hs : Rs 0 S') :
    ∃ so' sc', RdrAt B X P K U nv S' so' sc' w' := by
  obtain ⟨so', sc', rfl⟩ := own_form hr
  refine ⟨so', sc', h.db.keep (fun b hb hc => hf b hb ?_ ?_), hx, hr, h.bX, h.nd, h.len, hs⟩
  · rintro rfl
    rcases hc with rfl | rfl | hc
    · have h5 := h.db.hP; rw [h.rd] at h5; cases h5
    · exact ne_map9 h.db.hK h.rd
    · exact row_other h.db.hR b _ 68 h.rd (by decide) hc
  · intro e
    rcases hc with rfl | rfl | hc
    · exact row_other h.row b _ 76 h.db.hP (by decide) e
    · exact row_other_map h.row h.db.hK e
    · exact row_ne h.db.hR h.row (by decide) hc e
theorem FarX.of_said {B X P K : Nat} {U : List (List UInt8)} {nv : Value} {S : List Tr} {so : Option Addr} {sc : Nat} {w w' : World} (h : RdrAt B X P K U nv S so sc w) (hf : ∀ x, x < w.heap.size → x ≠ X → (Value.slice so S.length sc).ownBlock ≠ some x → w'.heap[x]? = w.heap[x]?) (hz : w.heap.size ≤ w'.heap.size) : FarX P K X nv w w' :=
  ⟨fun x hx _ _ h3 _ h5 => hf x hx h3 (fun e => by obtain ⟨cs, hc⟩ := row_blk h.row e; exact h5 _ _ hc), hz⟩
theorem rdr_of {w : World} {B n c : Nat} {ao : Option Addr} {G : List Rg} (hn : n = G.length) (h : w.ownsRow B 84 2 (.slice ao n c) n (rgcs G)) : RdR w ao G := by
  subst hn
  obtain ⟨ao', c', e, hr⟩ := rdr_row h
  cases e
  exact hr
theorem ext_take (l : List UInt8) (k : Nat) : (⟨l.toArray⟩ : ByteArray).extract 0 k = ⟨(l.take k).toArray⟩ := by
  have h5 := ext_mid l 0 k
  simpa using h5
theorem trim_eq (s : ByteArray) (l m : List UInt8) (hm : m = tls l) (w : World) (hs : s = ⟨l.toArray⟩) (hl : l.length ≤ 1000000000) :
    Calls Tryz.prog 65 #[.string s, .string ⟨#[32, 9]⟩] w fun e w' => e = .returned (.string ⟨m.toArray⟩) ∧ Below w.heap.size w w' := by
  subst hs hm
  exact trim4_any l w (by omega)
theorem repl_eq (s : ByteArray) (l r : List UInt8) (hr : r = l.map tbl) (m : Int) (w : World) (hs : s = ⟨l.toArray⟩) (hl : l.length ≤ 100000) (hm : w.cell? ⟨2, 0, none⟩ = some (.int .i64 m)) :
    Calls Tryz.prog 68 #[.string s, .string ⟨#[9]⟩, .string ⟨#[32]⟩] w fun e w' => e = .returned (.string ⟨r.toArray⟩) ∧ Below w.heap.size w w' := by
  subst hs hr
  exact repl_any l m w hl hm
theorem find_eq (l : List UInt8) (c : UInt8) (ci : Int) (k : Nat) (hk : k = fdp c l) (hc : ci = (c.toNat : Int)) (w : World) (hl : l.length ≤ 1000000000) (hT : Lib.Utf8Tabs 0 1 w) (h2 : 2 ≤ w.heap.size) :
    Calls Tryz.prog 66 #[.string ⟨l.toArray⟩, .int .u8 ci] w fun e w' => e = .returned (.int .i64 (k : Nat)) ∧ Below w.heap.size w w' := by
  subst hk hc
  exact find_any l c w hl hT h2

theorem tabs_b {B : Nat} {w w' : World} (h : Lib.Utf8Tabs 0 1 w) (hs : 2 ≤ B) (hb : Below B w w') : Lib.Utf8Tabs 0 1 w' :=
  ⟨fun c hc => (hb.cell (p := ⟨0, c, none⟩) (by show 0 < B; omega)).trans (h.1 c hc), fun i hi => ⟨(hb.cell (p := ⟨1, 2 * i, none⟩) (by show 1 < B; omega)).trans (h.2 i hi).1, (hb.cell (p := ⟨1, 2 * i + 1, none⟩) (by show 1 < B; omega)).trans (h.2 i hi).2⟩⟩
set_option maxRecDepth 100000 in
set_option maxHeartbeats 3000000 in
theorem read_any (B X P K : Nat) (U : List (List UInt8)) (nv : Value) (S : List Tr) (so : Option Addr) (sc : Nat) (l : List UInt8) (m : Int) (w : World) (h : RdrAt B X P K U nv S so sc w) (hB : B ≤ w.heap.size) (h3 : 3 ≤ B) (hl : l.length ≤ 70000) (hT : Lib.Utf8Tabs 0 1 w) (hm : w.cell? ⟨2, 0, none⟩ = some (.int .i64 m)) :
    Calls Tryz.prog 36 #[.pointer (some ⟨X, 0, none⟩), .string ⟨l.toArray⟩] w fun e w' => e = .returned (.int .i64 (rdS U S l).1) ∧ Below B w w' ∧ FarX P K X nv w w' ∧
      ((rdS U S l).1 = 0 → ∃ nv' so' sc', RdrAt B X P K (rdS U S l).2.1 nv' (rdS U S l).2.2 so' sc' w' ∧ ∀ x, nv'.ownBlock = some x → nv.ownBlock = some x ∨ w.heap.size ≤ x) := by
  have HR := hid h
  have HT := hid (show ∀ W, Below B w W → Lib.Utf8Tabs 0 1 W from fun W hW => tabs_b hT (by omega) hW)
  have HM := hid (show ∀ W, Below B w W → W.cell? ⟨2, 0, none⟩ = some (.int .i64 m) from fun W hW => (hW.cell (p := ⟨2, 0, none⟩) (by show 2 < B; omega)).trans hm)
  obtain ⟨N, hN⟩ : ∃ N, N = w.heap.size := ⟨_, rfl⟩
  have HN := hid hN
  have hBN : B ≤ N := by omega
  obtain ⟨R, hR⟩ : ∃ R, R = rdS U S l := ⟨_, rfl⟩
  rw [← hR]
  unfold rdS at hR
  have hl1 := rlin_len l
  obtain ⟨l1, hl1E⟩ : ∃ l1, l1 = rlin l := ⟨_, rfl⟩
  rw [← hl1E] at hR hl1
  obtain ⟨p, hp⟩ : ∃ p, p = fdp 35 l := ⟨_, rfl⟩
  have hpl : p ≤ l.length := by rw [hp]; exact fdp_le 35 l
  have hl1F : l1 = tls (l.take p) := by rw [hl1E, hp]; rfl
  obtain ⟨at', hat⟩ : ∃ at', at' = fdp 59 l1 := ⟨_, rfl⟩
  have hal : at' ≤ l1.length := by rw [hat]; exact fdp_le 59 l1
  have hnl := rnm_len l1
  have hsl := rsp_len l1
  obtain ⟨nm, hnm⟩ : ∃ nm, nm = rnm l1 := ⟨_, rfl⟩
  have hnm2 : nm = tls (l1.drop (at' + 1)) := by rw [hnm, hat]; rfl
  obtain ⟨sp, hsp⟩ : ∃ sp, sp = rsp l1 := ⟨_, rfl⟩
  have hsp2 : sp = (l1.take at').map tbl := by rw [hsp, hat]; rfl
  rw [← hat, ← hnm, ← hsp] at hR
  rw [← hnm] at hnl
  rw [← hsp] at hsl
  have HF1 := hid (show ∀ W, Below N w W → Calls Tryz.prog 66 #[.string ⟨l.toArray⟩, .int .u8 35] W fun e w' => e = .returned (.int .i64 (p : Nat)) ∧ Below W.heap.size W w' from fun W hW => find_eq l 35 35 p hp rfl W (by omega) (HT.out W (hW.mono hBN)) (by have h5 := hW.size; omega))
  have HT1 := hid (show ∀ W, Calls Tryz.prog 65 #[.string ((⟨l.toArray⟩ : ByteArray).extract 0 p), .string ⟨#[32, 9]⟩] W fun e w' => e = .returned (.string ⟨l1.toArray⟩) ∧ Below W.heap.size W w' from fun W => trim_eq _ (l.take p) l1 hl1F W (ext_take l p) (by simp; omega))
  have HF2 := hid (show ∀ W, Below N w W → Calls Tryz.prog 66 #[.string ⟨l1.toArray⟩, .int .u8 59] W fun e w' => e = .returned (.int .i64 (at' : Nat)) ∧ Below W.heap.size W w' from fun W hW => find_eq l1 59 59 at' hat rfl W (by omega) (HT.out W (hW.mono hBN)) (by have h5 := hW.size; omega))
  have HT2 := hid (show ∀ W, Calls Tryz.prog 65 #[.string ((⟨l1.toArray⟩ : ByteArray).extract (at' + 1) l1.length), .string ⟨#[32, 9]⟩] W fun e w' => e = .returned (.string ⟨nm.toArray⟩) ∧ Below W.heap.size W w' from fun W => trim_eq _ (l1.drop (at' + 1)) nm hnm2 W (ext_drop l1 (at' + 1)) (by simp; omega))
  have HNA := hid (show ∀ W, Calls Tryz.prog 30 #[.string ⟨nm.toArray⟩] W fun e w' => e = .returned (.bool (nam nm)) ∧ Below W.heap.size W w' from fun W => name_any nm W)
  have HRP := hid (show ∀ W, Below N w W → Calls Tryz.prog 68 #[.string ((⟨l1.toArray⟩ : ByteArray).extract 0 at'), .string ⟨#[9]⟩, .string ⟨#[32]⟩] W fun e w' => e = .returned (.string ⟨sp.toArray⟩) ∧ Below W.heap.size W w' from fun W hW => repl_eq _ (l1.take at') sp hsp2 m W (ext_take l1 at') (by simp; omega) (HM.out W (hW.mono hBN)))
  have HPA := hid (fun W hW => parse_any sp W (by omega) (HT.out W (Below.mono hW hBN)) (by have h5 := Below.size hW; omega))
  have HGN := hid (par_nf sp)
  obtain ⟨G, hG⟩ : ∃ G, G = (par sp).1 := ⟨_, rfl⟩
  obtain ⟨er, her⟩ : ∃ er, er = (par sp).2.1 := ⟨_, rfl⟩
  obtain ⟨ep, hep⟩ : ∃ ep, ep = (par sp).2.2 := ⟨_, rfl⟩
  rw [← hG, ← her] at hR
  rw [← hG] at HGN
  rw [← hG, ← her, ← hep] at HPA
  have HR' := hid hR
  have HSZ := hid (show (⟨l.toArray⟩ : ByteArray).size = l.length by show l.toArray.size = _; simp)
  have HSZ1 := hid (show (⟨l1.toArray⟩ : ByteArray).size = l1.length by show l1.toArray.size = _; simp)
  have i1 : (p : Int) ≤ (l.length : Int) := by omega
  have i0 : (0 : Int) ≤ (p : Int) := by omega
  have HB0 := hid (show Below N w w by rw [hN]; exact Below.refl _ _)
  clear hp hl1E hl1F hat hnm hnm2 hsp hsp2 hG her hep hR h hT hm hN
  go_enter Tryz.func36, Tryz.ntmps36
  go_wp2_with fail
  refine (HF1.out w HB0.out).mono ?_
  rintro e w1 ⟨rfl, b1⟩
  have HB1 := hid (HB0.out.trans (b1.mono (by have h5 := HN.out; omega)))
  clear b1 HB0 HF1
  go_wp2_with fail
  refine (HT1.out w1).mono ?_
  rintro e w2 ⟨rfl, b2⟩
  have HB2 := hid (HB1.out.trans (b2.mono (by have h5 := HN.out; have h6 := HB1.out.size; omega)))
  clear b2 HT1 HB1
  by_cases hz : l1 = []
  · have HE := hid (show R = (0, U, S) by rw [HR'.out, if_pos hz])
    subst hz
    go_wp2
    go_ret
    rw [HE.out]
    exact ⟨rfl, HB2.out.mono hBN, .of_below (by rw [← HN.out]; exact HB2.out), fun _ => ⟨nv, so, sc, HR.out.below (by rw [← HN.out]; exact HB2.out), fun x hx => .inl hx⟩⟩
  have hie : l1.isEmpty = false := by cases l1 with | nil => exact absurd rfl hz | cons => rfl
  have HE1 := hid (show R = _ by rw [HR'.out, if_neg hz])
  clear hz HR'
  go_wp2_with fail
  refine (HF2.out w2 HB2.out).mono ?_
  rintro e w3 ⟨rfl, b3⟩
  have HB3 := hid (HB2.out.trans (b3.mono (by have h5 := HN.out; have h6 := HB2.out.size; omega)))
  clear b3 HB2 HF2
  by_cases ha : at' = l1.length
  · have HE := hid (show R = (42, U, S) by rw [HE1.out, if_pos ha])
    have ha' : ((at' : Int) == (l1.length : Int)) = true := by rw [ha]; simp
    clear ha
    go_wp2
    go_ret
    rw [HE.out]
    exact ⟨rfl, HB3.out.mono hBN, .of_below (by rw [← HN.out]; exact HB3.out), fun h => by cases h⟩
  have ha' : ((at' : Int) == (l1.length : Int)) = false := beq_eq_false_iff_ne.2 (by omega)
  have HE2 := hid (show R = _ by rw [HE1.out, if_neg ha])
  have e1 : IntKind.i64.wrap ((at' : Int) + 1) = ((at' + 1 : Nat) : Int) := by rw [IntKind.wrap_i64]; omega
  have j1 : (at' : Int) + 1 ≤ (l1.length : Int) := by omega
  have j0 : (0 : Int) ≤ (at' : Int) + 1 := by omega
  have j2 : (at' : Int) ≤ (l1.length : Int) := by omega
  have j3 : (0 : Int) ≤ (at' : Int) := by omega
  clear ha HE1
  go_wp2_with fail
  refine (HT2.out w3).mono ?_
  rintro e w4 ⟨rfl, b4⟩
  have HB4 := hid (HB3.out.trans (b4.mono (by have h5 := HN.out; have h6 := HB3.out.size; omega)))
  clear b4 HB3 HT2
  go_wp2_with fail
  refine (HNA.out w4).mono ?_
  rintro e w5 ⟨rfl, b5⟩
  have HB5 := hid (HB4.out.trans (b5.mono (by have h5 := HN.out; have h6 := HB4.out.size; omega)))
  clear b5 HB4 HNA
  cases hna : nam nm with
  | false =>
    have HE := hid (show R = (40, U, S) by rw [HE2.out, if_pos (.inl hna)])
    clear hna
    go_wp2
    go_ret
    rw [HE.out]
    exact ⟨rfl, HB5.out.mono hBN, .of_below (by rw [← HN.out]; exact HB5.out), fun h => by cases h⟩
  | true =>
    by_cases ho : nm = oth
    · have HE := hid (show R = (40, U, S) by rw [HE2.out, if_pos (.inr ho)])
      subst ho
      clear hna
      go_wp2
      go_ret
      rw [HE.out]
      exact ⟨rfl, HB5.out.mono hBN, .of_below (by rw [← HN.out]; exact HB5.out), fun h => by cases h⟩
    have HE3 := hid (show R = _ by rw [HE2.out, if_neg (by rw [hna]; rintro (h | h); cases h; exact ho h)])
    have ho' : (nm == [79, 116, 104, 101, 114]) = false := by
      rw [beq_eq_false_iff_ne]; exact ho
    clear HE2 ho hna
    go_wp2_with fail
    refine (HRP.out w5 HB5.out).mono ?_
    rintro e w6 ⟨rfl, b6⟩
    have HB6 := hid (HB5.out.trans (b6.mono (by have h5 := HN.out; have h6 := HB5.out.size; omega)))
    clear b6 HB5 HRP ho'
    go_wp2_with fail
    refine (HPA.out w6 HB6.out).mono ?_
    rintro e w7 ⟨v7, rfl, o7, b7⟩
    have HB7 := hid (HB6.out.trans (b7.mono (by have h5 := HN.out; have h6 := HB6.out.size; omega)))
    have HO7 := hid o7
    clear b7 HB6 HPA o7
    by_cases he : er = 0
    · subst he
      have HE4 := hid (show R = _ by rw [HE3.out, if_neg (by simp)])
      have HR7 := hid (HR.out.below (show Below w.heap.size w w7 by rw [← HN.out]; exact HB7.out))
      have HCL := hid (show Calls Tryz.prog 69 #[.string ⟨nm.toArray⟩] w7.drew fun e w' => e = .returned (.string ⟨nm.toArray⟩) ∧ Below w7.heap.size w7.drew w' from strClone_any nm w7.drew (by omega))
      have HEN := hid (show ∀ W, Below w7.heap.size w7 W → Calls Tryz.prog 58 #[.pointer (some ⟨P, 0, none⟩), .string ⟨nm.toArray⟩] W fun e w' => e = .returned (.int .i64 ((adn nm U).2 : Int)) ∧ Below B W w' ∧ ∃ nv', DbAt B P K (adn nm U).1 nv' (.slice none 0 0) w' ∧ FarD P K nv nv' W w' from fun W hW => enter_any B P K U nv (.slice none 0 0) nm W (HR7.out.below hW).db (by have h5 := hW.size; have h6 := HB7.out.size; omega) (by omega) HR7.out.nd (by have h5 := HR7.out.len; omega))
      have HND := hid (adn_nodup nm U HR7.out.nd)
      have HLN := hid (show (adn nm U).2 ≠ 64 → (adn nm U).1.length ≤ 64 from fun h => by
        have h5 := HR7.out.len
        unfold adn at h ⊢
        split
        · exact h5
        · rename_i hn
          rw [if_neg hn] at h
          rw [List.length_append]
          have h6 : U.length ≠ 64 := h
          simp; omega)
      have HCB := hid (show (adn nm U).2 ≤ 64 from by
        have h5 := HR7.out.len
        unfold adn
        split
        · rename_i hm
          have h6 := List.idxOf_lt_length_of_mem hm
          show U.idxOf nm ≤ 64
          omega
        · exact h5)
      obtain ⟨c, hc⟩ : ∃ c, c = (adn nm U).2 := ⟨_, rfl⟩
      obtain ⟨U', hU'⟩ : ∃ U', U' = (adn nm U).1 := ⟨_, rfl⟩
      rw [← hc, ← hU'] at HE4 HLN
      rw [← hc] at HCB
      rw [← hc, ← hU'] at HEN
      rw [← hU'] at HND
      clear hc hU' HE3
      have HXS := hid (show ∀ W : World, W.heap[X]? = w7.heap[X]? → W.cell? ⟨X, 0, none⟩ = some (.pointer (some ⟨P, 0, none⟩)) from fun W hW => cell_row W X 0 [_, _] 68 _ (hW.trans HR7.out.rd) rfl)
      go_wp2
      refine wp_region_mixC [(0, 1), (1, 1), (2, 1), (3, 0), (4, 1), (5, 2), (6, 2), (7, 1)] (fun W => W.cell? ⟨X, 0, none⟩ = some (.pointer (some ⟨P, 0, none⟩))) (fun _ => True) (fun _ => false) (by kernel_rfl) (by kernel_rfl) (fun j hj => by cases hj) rfl (by kernel_rfl) (HXS.out w7.drew rfl) trivial ?_
      iterate 5 ((first | refine mixC_s ?_ rfl (by kernel_rfl) (fun w' hS => ?_) ?_ | refine mixC_t ?_ rfl (by kernel_rfl) (fun w' hS => ?_) ?_); (rotate_left; (go_simp; with_reducible rfl); rotate_left))
      simp only [Act.put, List.setIfInBounds_toArray]
      refine mixC_go rfl (by kernel_rfl) fun KK hKK => ?_
      go_simp
      refine HCL.out.mono ?_
      rintro e w8 ⟨rfl, b8⟩
      have HB8 := hid (show Below w7.heap.size w7 w8 from (show Below w7.heap.size w7 w7.drew from ⟨rfl, rfl, rfl, Nat.le_refl _, fun _ _ => rfl⟩).trans b8)
      have hX7 := lt_of_heap HR7.out.rd
      refine hKK _ _ (fun _ => HXS.out w8 (HB8.out.block X hX7)) trivial ?_
      clear hKK KK b8
      refine mixC_go rfl (by kernel_rfl) fun KK hKK => ?_
      go_simp
      refine (HEN.out w8 HB8.out).mono ?_
      rintro e w9 ⟨rfl, b9, nv', d9, f9⟩
      have HR8 := hid (HR7.out.below HB8.out)
      have HB9 := hid ((HB7.out.trans (HB8.out.mono (by have h5 := HN.out; have h6 := HB7.out.size; omega))).mono hBN |>.trans b9)
      have HF9 := hid (show FarX P K X nv w w9 from (FarX.of_below (P := P) (K := K) (X := X) (nv := nv) (show Below w.heap.size w w8 by rw [← HN.out]; exact HB7.out.trans (HB8.out.mono (by have h5 := HN.out; have h6 := HB7.out.size; omega)))).trans (.of_farD f9) (fun x hx => .inl hx))
      have HO8 := hid (own_keep HO7.out HB8.out)
      have HO9 := hid (row_far HR8.out (.of_farD f9) HO8.out)
      have HNW := hid (show ∀ x, nv'.ownBlock = some x → nv.ownBlock = some x ∨ w.heap.size ≤ x from fun x hx => by
        rcases f9.nw x hx with h5 | h5
        · exact .inl h5
        · exact .inr (by have h6 := HB8.out.size; have h7 := HB7.out.size; omega))
      have HX9 := hid (f9.st X (lt_of_heap HR8.out.rd) (fun e => by have h5 := HR8.out.db.hP; rw [← e, HR8.out.rd] at h5; cases h5) (fun e => ne_map9 HR8.out.db.hK (show w8.heap[K]? = _ by rw [← e]; exact HR8.out.rd)) (row_other HR8.out.db.hR X _ 68 HR8.out.rd (by decide)))
      have HRE := hid (show c ≠ 64 → RdrAt B X P K U' nv' S so sc w9 from fun h => HR8.out.entered d9 f9 HND.out (HLN.out h))
      refine hKK _ _ (fun _ => HXS.out w9 (HX9.out.trans (HB8.out.block X hX7))) trivial ?_
      clear hKK KK b9 d9 f9 hX7 HX9 HEN HCL HXS HO7 HO8 HB8 HB7 HR7 HR8
      refine mixC_t ?_ rfl (by kernel_rfl) (fun w' hS => ?_) ?_; (rotate_left; (go_simp; with_reducible rfl); rotate_left)
      simp only [Act.put, List.setIfInBounds_toArray]
      refine mixC_end (NoPanic.normal ?_)
      by_cases h64 : c = 64
      · have HE := hid (show R = (6, U, S) by rw [HE4.out, if_pos h64])
        subst h64
        go_wp2
        go_ret
        rw [HE.out]
        exact ⟨rfl, HB9.out, HF9.out, fun h => by cases h⟩
      have h64' : ((c : Int) == 64) = false := beq_eq_false_iff_ne.2 (by omega)
      have HE5 := hid (show R = _ by rw [HE4.out, if_neg h64])
      have HR9 := hid (HRE.out h64)
      have hcb := HCB.out
      clear HE4 HRE h64
      obtain ⟨no, nc, rfl, _⟩ := rdr_row HO9.out
      have HGB := hid (nf_bounds G HGN.out)
      obtain ⟨n, hn⟩ : ∃ n, n = G.length := ⟨_, rfl⟩
      have HNG := hid hn
      have hnG : n ≤ 1114112 := by have h5 := nfF_len G 0 HGN.out (by omega); omega
      rw [← hn]
      rw [← hn] at HO9
      clear hn
      go_wp2
      go_loopw [61] (fun x wr => ∃ (k : Nat) (Sk : List Tr) (ko : Option Addr) (kc : Nat), x = .int .i64 (k : Int) ∧ k ≤ n ∧ Hid (sayL S G c = sayL Sk (G.drop k) c) ∧ Hid (RdrAt B X P K U' nv' Sk ko kc wr) ∧ Hid (wr.ownsRow w6.heap.size 84 2 (.slice no n nc) n (rgcs G)) ∧ Hid (Below B w wr) ∧ Hid (FarX P K X nv w wr)) (fun x _ => n - (intOf x).toNat)
      case atStart => exact ⟨0, S, so, sc, rfl, by omega, rfl, HR9, HO9, HB9, HF9⟩
      case round =>
        clear HR9 HO9 HB9 HF9
        obtain ⟨k, Sk, ko, kc, rfl, hk, HSL, HRr, HOr, HBr, HFr⟩ := hrel
        by_cases hlt : k < n
        · have hkL : k < G.length := by have h5 := HNG.out; omega
          obtain ⟨a, rfl, ha, a0, a1⟩ := rdr_of HNG.out HOr.out k G[k] (List.getElem?_eq_getElem hkL)
          have HST := hid (show sayL S G c = (sayR Sk (rgT c G[k])).bind fun S' => sayL S' (G.drop (k + 1)) c by rw [HSL.out, List.drop_eq_getElem_cons hkL]; rfl)
          obtain ⟨z1, z2, z3⟩ := HGB.out G[k] (List.getElem_mem hkL)
          obtain ⟨g, hg⟩ : ∃ g, g = G[k] := ⟨_, rfl⟩
          rw [← hg] at a0 a1 HST z1 z2 z3
          obtain ⟨x, y⟩ := g
          dsimp only at a0 a1 z1 z2 z3
          obtain ⟨x', rfl⟩ : ∃ x' : Nat, x = (x' : Int) := ⟨x.toNat, by omega⟩
          obtain ⟨y', rfl⟩ : ∃ y' : Nat, y = (y' : Int) := ⟨y.toNat, by omega⟩
          have z2' : x' ≤ y' := by omega
          have z3' : y' ≤ 1114111 := by omega
          have HRT := hid (show rgT c ((x' : Int), (y' : Int)) = (x', y', c) from rfl)
          rw [HRT.out] at HST
          have HWA := hid (show Below wr.heap.size wr (wr.alloc (.cells #[.int .i32 (x' : Int), .int .i32 (y' : Int)] 84)) from (Below.refl _ wr).alloc (Nat.le_refl _) _)
          have HRA := hid (HRr.out.below HWA.out)
          have HOA := hid (own_keep HOr.out HWA.out)
          have HBA := hid (HBr.out.trans (HWA.out.mono (by have h5 := HBr.out.size; omega)))
          have HFA := hid (HFr.out.trans (.of_below HWA.out) (fun x hx => .inl hx))
          obtain ⟨WA, hWA⟩ : ∃ WA, WA = wr.alloc (.cells #[.int .i32 (x' : Int), .int .i32 (y' : Int)] 84) := ⟨_, rfl⟩
          rw [← hWA] at HWA HRA HOA HBA HFA
          have HSY := hid (show Calls Tryz.prog 70 #[.pointer (some ⟨X, 0, none⟩), .agg #[.int .i32 (x' : Int), .int .i32 (y' : Int), .int .i64 (c : Int)]] WA _ from say_any B X (.pointer (some ⟨P, 0, none⟩)) Sk ko kc (x', y', c) WA HRA.out.rd HRA.out.row (by have h5 := HBA.out.size; omega) HRA.out.bX HRA.out.rs ⟨z2', z3'⟩)
          have i3 : (k : Int) < (n : Int) := by omega
          have i0' : (0 : Int) ≤ (k : Int) := by omega
          have HWE := hid hWA
          clear hg hkL z1 z2 z3 hWA HSL HRr HOr HBr HFr HWA HRT
          go_wp2_with fail
          rw [← HWE.out]
          refine HSY.out.mono ?_
          rintro e w10 (⟨hno, rfl, b10⟩ | ⟨S', sv', hys, rfl, hx10, hr10, b10, hf10⟩)
          · have HE := hid (show R = (41, U, S) by rw [HE5.out, HST.out, hno]; rfl)
            have HB10 := hid (HBA.out.trans (b10.mono (by have h5 := HBA.out.size; omega)))
            have HF10 := hid (HFA.out.trans (.of_below b10) (fun x hx => .inl hx))
            clear b10 hno HSY
            go_wp2
            go_ret
            rw [HE.out]
            exact ⟨rfl, HB10.out, HF10.out, fun h => by cases h⟩
          · obtain ⟨so2, sc2, r10⟩ := HRA.out.said hx10 hr10 hf10 (sayR_rs Sk (x', y', c) 0 S' HRA.out.rs (Nat.zero_le _) z2' z3' hys)
            have f10 := FarX.of_said HRA.out hf10 b10.size
            have HR10 := hid r10
            have HO10 := hid (row_far HRA.out f10 HOA.out)
            have HB10 := hid (HBA.out.trans b10)
            have HF10 := hid (HFA.out.trans f10 HNW.out)
            have HS10 := hid (show sayL S G c = sayL S' (G.drop (k + 1)) c by rw [HST.out, hys]; rfl)
            clear b10 hys hx10 hr10 hf10 r10 f10 HSY HST
            go_wp2
            go_roundw
            case rel => exact ⟨k + 1, S', so2, sc2, by go_num, by omega, HS10, HR10, HO10, HB10, HF10⟩
            case measure => simp [intOf]; omega
        · have i3 : ¬ (k : Int) < (n : Int) := by omega
          have HE := hid (show R = (0, U', Sk) by rw [HE5.out, HSL.out, List.drop_of_length_le (by have h5 := HNG.out; omega)]; rfl)
          go_wp2
          go_ret
          rw [HE.out]
          exact ⟨rfl, HBr.out, HFr.out, fun _ => ⟨nv', ⟨ko, kc, HRr.out⟩, HNW.out⟩⟩
    · have HE := hid (show R = (er, U, S) by rw [HE3.out, if_pos he])
      have he' : (er == 0) = false := beq_eq_false_iff_ne.2 he
      go_wp2
      go_ret
      rw [HE.out]
      exact ⟨rfl, HB7.out.mono hBN, .of_below (by rw [← HN.out]; exact HB7.out), fun h => absurd h he⟩
end Go.Proofs.YtohhokjlgihbgaaGreatDoor
