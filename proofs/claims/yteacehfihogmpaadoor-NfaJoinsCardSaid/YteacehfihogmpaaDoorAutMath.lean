/- Automata as lists: what a good one is. -/
namespace Go.Proofs.YteacehfihogmpaaDoor

/-- An edge: its classes, and where it leads. -/
abbrev Ed := List Int × Int
/-- A state: its edges, and where one comes without a class. -/
abbrev St := List Ed × List Int
/-- Classes that rise, from above last on, below 64. -/
def rs (last : Int) : List Int → Bool
  | [] => true
  | c :: l => !(decide (c ≤ last) || decide (64 ≤ c)) && rs c l
theorem rs_bad {last c : Int} {l : List Int} (h : c ≤ last ∨ 64 ≤ c) : rs last (c :: l) = false := by
  rcases h with h | h <;> simp [rs, h]
theorem rs_ok {last c : Int} {l : List Int} (h : last < c) (h' : c < 64) : rs last (c :: l) = rs c l := by
  have h1 : ¬ c ≤ last := by omega
  have h2 : ¬ (64 : Int) ≤ c := by omega
  simp [rs, h1, h2]
/-- A number that is one of n. -/
def wn (i n : Int) : Bool := decide (0 ≤ i) && decide (i < n)
theorem wn_yes {i n : Int} (h : 0 ≤ i) (h' : i < n) : wn i n = true := by simp [wn, h, h']
theorem wn_no {i n : Int} (h : i < 0 ∨ n ≤ i) : wn i n = false := by
  rcases h with h | h
  · have : ¬ 0 ≤ i := by omega
    simp [wn, this]
  · have : ¬ i < n := by omega
    simp [wn, this]
theorem wn_iff {i n : Int} : wn i n = true ↔ 0 ≤ i ∧ i < n := by simp [wn]
def edg (n : Int) : List Ed → Bool
  | [] => true
  | e :: l => (wn e.2 n && rs (-1) e.1) && edg n l
theorem edg_ok {n : Int} {e : Ed} {l : List Ed} (h : wn e.2 n = true) (h' : rs (-1) e.1 = true) : edg n (e :: l) = edg n l := by simp [edg, h, h']
theorem edg_no1 {n : Int} {e : Ed} {l : List Ed} (h : wn e.2 n = false) : edg n (e :: l) = false := by simp [edg, h]
theorem edg_no2 {n : Int} {e : Ed} {l : List Ed} (h : rs (-1) e.1 = false) : edg n (e :: l) = false := by simp [edg, h]
def fre (n : Int) : List Int → Bool
  | [] => true
  | t :: l => wn t n && fre n l
theorem fre_ok {n t : Int} {l : List Int} (h : wn t n = true) : fre n (t :: l) = fre n l := by simp [fre, h]
theorem fre_no {n t : Int} {l : List Int} (h : wn t n = false) : fre n (t :: l) = false := by simp [fre, h]
/-- May a state be so, among n? -/
def fmd (n : Int) (s : St) : Bool := edg n s.1 && fre n s.2
/-- The first state, from number i on, that may not be so: the error and its number. -/
def fsb (n : Int) : Int → List St → Int × Int
  | _, [] => (0, 0)
  | i, s :: l => if fmd n s = true then fsb n (i + 1) l else (60, i)
theorem fsb_ok {n i : Int} {s : St} {l : List St} (h : fmd n s = true) : fsb n i (s :: l) = fsb n (i + 1) l := by simp [fsb, h]
theorem fsb_no {n i : Int} {s : St} {l : List St} (h : fmd n s = false) : fsb n i (s :: l) = (60, i) := by simp [fsb, h]
/-- What Check tells. -/
def chk (L : List St) (start fin : Int) : Int × Int :=
  if 4096 < L.length then (6, 0) else if (wn start L.length && wn fin L.length) = true then fsb L.length 0 L else (61, 0)
theorem chk_many {L : List St} {s e : Int} (h : 4096 < L.length) : chk L s e = (6, 0) := by simp [chk, h]
theorem chk_start {L : List St} {s e : Int} (h : ¬ 4096 < L.length) (h' : wn s L.length = false ∨ wn e L.length = false) : chk L s e = (61, 0) := by
  rcases h' with h' | h' <;> simp [chk, h, h']
theorem chk_go {L : List St} {s e : Int} (h : ¬ 4096 < L.length) (h1 : wn s L.length = true) (h2 : wn e L.length = true) : chk L s e = fsb L.length 0 L := by simp [chk, h, h1, h2]
theorem drop_at {α : Type} {l : List α} {k : Nat} (h : k < l.length) : l.drop k = l[k] :: l.drop (k + 1) := List.drop_eq_getElem_cons h
theorem drop_end {α : Type} {l : List α} {k : Nat} (h : l.length ≤ k) : l.drop k = [] := List.drop_eq_nil_of_le h
end Go.Proofs.YteacehfihogmpaaDoor
