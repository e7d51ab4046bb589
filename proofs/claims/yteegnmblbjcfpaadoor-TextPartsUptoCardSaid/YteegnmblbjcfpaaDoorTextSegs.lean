/-
  PLAIN: a text's words: what stands between blanks and line ends, no word wider than a width.
-/
import Derived.Lib.FieldsP
import Derived.Test.YteegnmblbjcfpaaDoorTextFit
set_option linter.unusedVariables false
namespace Go.Proofs.YteegnmblbjcfpaaDoor.T
open Go Go.Lib Go.RowKit

/-- a blank or a line end -/
def spP (r : Nat) : Bool := decide (r = 32) || decide (r = 10)
/-- where the stretches between them begin and end, from a place on; the one at hand began at a -/
def segsF (s : ByteArray) : Nat → Nat → Nat → List (Nat × Nat)
  | 0, a, i => [(a, s.size)]
  | f + 1, a, i => if i < s.size then (if spP (bt s i) then (a, i) :: segsF s f (i + 1) (i + 1) else segsF s f a (i + 1)) else [(a, s.size)]
def segs (s : ByteArray) (a i : Nat) : List (Nat × Nat) := segsF s (s.size - i) a i
theorem segs_sep (s : ByteArray) (a i : Nat) (h : i < s.size) (hp : spP (bt s i) = true) : segs s a i = (a, i) :: segs s (i + 1) (i + 1) := by
  unfold segs
  rw [show s.size - i = (s.size - (i + 1)) + 1 by omega, segsF, if_pos h, if_pos hp]
theorem segs_on (s : ByteArray) (a i : Nat) (h : i < s.size) (hp : spP (bt s i) = false) : segs s a i = segs s a (i + 1) := by
  unfold segs
  rw [show s.size - i = (s.size - (i + 1)) + 1 by omega, segsF, if_pos h, if_neg (by rw [hp]; simp)]
theorem segs_end (s : ByteArray) (a i : Nat) (h : ¬ i < s.size) : segs s a i = [(a, s.size)] := by
  unfold segs
  rw [show s.size - i = 0 by omega]; rfl
theorem segs_skip (s : ByteArray) (a : Nat) : ∀ (k i : Nat), i + k ≤ s.size → (∀ j, j < k → spP (bt s (i + j)) = false) → segs s a i = segs s a (i + k)
  | 0, i, _, _ => rfl
  | k + 1, i, h, hj => by
    rw [segs_on s a i (by omega) (hj 0 (by omega)), segs_skip s a k (i + 1) (by omega) (fun j hjk => by have := hj (j + 1) (by omega); rw [show i + (j + 1) = i + 1 + j by omega] at this; exact this)]
    rw [show i + 1 + k = i + (k + 1) by omega]
theorem dec_sp (s : ByteArray) (p : Nat) : (spP (Utf8.decode s p).1 = true → (Utf8.decode s p).2 = 1 ∧ bt s p = (Utf8.decode s p).1) ∧
    (spP (Utf8.decode s p).1 = false → ∀ j, j < (Utf8.decode s p).2 → spP (bt s (p + j)) = false) := by
  have h0 := bt_lt s p; have h1 := bt_lt s (p + 1); have h2 := bt_lt s (p + 2); have h3 := bt_lt s (p + 3)
  have key : ∀ n b0 b1 b2 b3 : Nat, b0 < 256 → b1 < 256 → b2 < 256 → b3 < 256 →
      (spP (decodeN n b0 b1 b2 b3).1 = true → (decodeN n b0 b1 b2 b3).2 = 1 ∧ b0 = (decodeN n b0 b1 b2 b3).1) ∧
      (spP (decodeN n b0 b1 b2 b3).1 = false → spP b0 = false ∧ (1 < (decodeN n b0 b1 b2 b3).2 → spP b1 = false) ∧ (2 < (decodeN n b0 b1 b2 b3).2 → spP b2 = false) ∧ (3 < (decodeN n b0 b1 b2 b3).2 → spP b3 = false) ∧ (decodeN n b0 b1 b2 b3).2 ≤ 4) := by
    intro n b0 b1 b2 b3 _ _ _ _
    unfold decodeN spP
    (repeat' split) <;> simp <;> omega
  have k := key (s.size - p) (bt s p) (bt s (p + 1)) (bt s (p + 2)) (bt s (p + 3)) h0 h1 h2 h3
  rw [decode_at]
  unfold bt at *
  refine ⟨k.1, fun h j hj => ?_⟩
  obtain ⟨a0, a1, a2, a3, a4⟩ := k.2 h
  obtain rfl | rfl | rfl | rfl : j = 0 ∨ j = 1 ∨ j = 2 ∨ j = 3 := by omega
  · exact a0
  · exact a1 hj
  · exact a2 hj
  · exact a3 hj
theorem spans_segs (s : ByteArray) : ∀ (f pos : Nat) (st : Option Nat) (acc : List (Nat × Nat)), s.size ≤ pos + f → pos ≤ s.size → (∀ a, st = some a → a < pos) →
    closeSpans s (spansFromP spP s f pos st acc) = acc ++ (segs s (st.getD pos) pos).filter (fun x => decide (x.1 < x.2))
  | f, pos, st, acc, hf, hp, ha => by
    by_cases hlt : pos < s.size
    · obtain ⟨f, rfl⟩ : ∃ j, f = j + 1 := ⟨f - 1, by omega⟩
      have hd := dec_pos s pos hlt
      obtain ⟨e1, e2⟩ := dec_sp s pos
      unfold spansFromP
      rw [if_pos hlt]
      cases hq : spP (Utf8.decode s pos).1 with
      | true =>
        obtain ⟨k1, k2⟩ := e1 hq
        rw [if_pos rfl, k1, segs_sep s _ pos hlt (by rw [k2]; exact hq)]
        cases st with
        | none =>
          simp only
          rw [spans_segs s f (pos + 1) none acc (by omega) (by omega) (fun a h => by cases h)]
          simp
        | some a =>
          simp only
          have := ha a rfl
          rw [spans_segs s f (pos + 1) none _ (by omega) (by omega) (fun a h => by cases h)]
          simp [this]
      | false =>
        have k := e2 hq
        rw [if_neg (by simp), segs_skip s _ (Utf8.decode s pos).2 pos hd.2 k]
        cases st with
        | none =>
          simp only
          rw [spans_segs s f (pos + (Utf8.decode s pos).2) (some pos) acc (by omega) hd.2 (fun a h => by cases h; omega)]
          simp
        | some a =>
          simp only
          have := ha a rfl
          rw [spans_segs s f (pos + (Utf8.decode s pos).2) (some a) acc (by omega) hd.2 (fun b h => by cases h; omega)]
          simp
    · rw [spansFromP_end _ _ _ _ _ _ hlt, segs_end s _ pos hlt]
      unfold closeSpans
      cases st with
      | none => simp; omega
      | some a =>
        have h2 := ha a rfl
        have h3 : a < s.size := by omega
        simp [h3]
  termination_by f => f
theorem fields_segs (s : ByteArray) : goFieldsP spP s = ((segs s 0 0).filter (fun x => decide (x.1 < x.2))).map fun x => s.extract x.1 x.2 := by
  unfold goFieldsP spansOfP
  rw [spans_segs s s.size 0 none [] (by omega) (by omega) (fun a h => by cases h)]
  rfl
theorem segs_sum (s : ByteArray) : ∀ (k a i : Nat), s.size - i ≤ k → a ≤ i → i ≤ s.size → ((segs s a i).map (fun x => x.2 - x.1)).sum ≤ s.size - a
  | k, a, i, hk, ha, hi => by
    by_cases h : i < s.size
    · cases k with
      | zero => omega
      | succ k =>
        cases hq : spP (bt s i) with
        | true =>
          have := segs_sum s k (i + 1) (i + 1) (by omega) (by omega) (by omega)
          rw [segs_sep s a i h hq, List.map_cons, List.sum_cons]
          simp only
          omega
        | false =>
          rw [segs_on s a i h hq]
          exact segs_sum s k a (i + 1) (by omega) (by omega) (by omega)
    · rw [segs_end s a i h]; simp

/-! ### a word in parts -/
theorem fitL_pos (n : Nat) (room : Int) (hn : 1 ≤ n) : ∀ (l : List (Nat × Int)) (t : Int), (∀ x ∈ l, 1 ≤ x.1) → 1 ≤ fitL n room t l
  | [], _, _ => hn
  | x :: l, t, h => by
    unfold fitL
    split
    · exact h x (by simp)
    · exact fitL_pos n room hn l _ (fun y hy => h y (by simp [hy]))
theorem fit_pos (s : ByteArray) (room : Int) (h4 : 4 ≤ room) (h : 0 < s.size) : 1 ≤ fit s room := by
  have hp := pc_pos s 0 h
  have hw := wOf_bd (pc s 0).1
  unfold fit pcs
  rw [pcsFrom_step s 0 h]
  unfold fitL
  rw [if_neg (by simp only; omega)]
  refine fitL_pos s.size room h _ _ (fun x hx => ?_)
  have := (pcsFrom_mem s s.size _ (by omega) x hx).1
  omega
def partsF (room : Int) : Nat → ByteArray → List ByteArray
  | 0, _ => []
  | f + 1, t => if t.size = 0 then [] else t.extract 0 (fit t room) :: partsF room f (t.extract (fit t room) t.size)
def parts (room : Int) (t : ByteArray) : List ByteArray := partsF room t.size t
theorem partsF_same (room : Int) (h4 : 4 ≤ room) : ∀ (f g : Nat) (t : ByteArray), t.size ≤ f → t.size ≤ g → partsF room f t = partsF room g t
  | 0, 0, _, _, _ => rfl
  | 0, g + 1, t, h, _ => by simp [partsF, show t.size = 0 by omega]
  | f + 1, 0, t, _, h => by simp [partsF, show t.size = 0 by omega]
  | f + 1, g + 1, t, h, k => by
    unfold partsF
    by_cases hz : t.size = 0
    · rw [if_pos hz, if_pos hz]
    · have hp := fit_pos t room h4 (by omega)
      have hes : (t.extract (fit t room) t.size).size = t.size - fit t room := by simp
      rw [if_neg hz, if_neg hz, partsF_same room h4 f g _ (by omega) (by omega)]
theorem parts_none (room : Int) (t : ByteArray) (h : t.size = 0) : parts room t = [] := by unfold parts; rw [h]; rfl
theorem parts_some (room : Int) (h4 : 4 ≤ room) (t : ByteArray) (h : ¬ t.size = 0) : parts room t = t.extract 0 (fit t room) :: parts room (t.extract (fit t room) t.size) := by
  have hp := fit_pos t room h4 (by omega)
  have hes : (t.extract (fit t room) t.size).size = t.size - fit t room := by simp
  unfold parts
  rw [partsF_same room h4 t.size (t.size - 1 + 1) t (by omega) (by omega), partsF, if_neg h]
  rw [partsF_same room h4 (t.size - 1) (t.extract (fit t room) t.size).size _ (by omega) (by omega)]
theorem parts_len (room : Int) (h4 : 4 ≤ room) : ∀ (k : Nat) (t : ByteArray), t.size ≤ k → (parts room t).length ≤ t.size
  | k, t, hk => by
    by_cases h : t.size = 0
    · rw [parts_none room t h]; simp
    · cases k with
      | zero => omega
      | succ k =>
        have hp := fit_pos t room h4 (by omega)
        have hl := fit_le t room
        have hes : (t.extract (fit t room) t.size).size = t.size - fit t room := by simp
        have := parts_len room h4 k (t.extract (fit t room) t.size) (by omega)
        rw [parts_some room h4 t h, List.length_cons]; omega
/-- the words, as text's way has them, and as the document's has them -/
def nW (s : ByteArray) (room : Int) : List ByteArray := (goFieldsP spP s).flatMap (parts room)
def rW (s : ByteArray) (room : Int) : List ByteArray := (segs s 0 0).flatMap fun x => parts room (s.extract x.1 x.2)
theorem nW_rW (s : ByteArray) (room : Int) : nW s room = rW s room := by
  unfold nW rW
  rw [fields_segs, List.flatMap_map]
  generalize segs s 0 0 = L
  induction L with
  | nil => rfl
  | cons x L ih =>
    by_cases h : x.1 < x.2
    · rw [List.filter_cons_of_pos (by simpa using h), List.flatMap_cons, List.flatMap_cons, ih]
    · rw [List.filter_cons_of_neg (by simpa using h), List.flatMap_cons, ih, parts_none room _ (by simp; omega)]; rfl
theorem flat_len (s : ByteArray) (room : Int) (h4 : 4 ≤ room) : ∀ (L : List (Nat × Nat)), (L.flatMap fun x => parts room (s.extract x.1 x.2)).length ≤ (L.map (fun x => x.2 - x.1)).sum
  | [] => by simp
  | x :: L => by
    have h1 := flat_len s room h4 L
    have h2 := parts_len room h4 _ (s.extract x.1 x.2) (Nat.le_refl _)
    have h3 : (s.extract x.1 x.2).size ≤ x.2 - x.1 := by simp; omega
    rw [List.flatMap_cons, List.length_append, List.map_cons, List.sum_cons]; omega
theorem rW_len (s : ByteArray) (room : Int) (h4 : 4 ≤ room) : (rW s room).length ≤ s.size := by
  have := flat_len s room h4 (segs s 0 0)
  have h2 := segs_sum s s.size 0 0 (by omega) (by omega) (by omega)
  unfold rW; omega
end Go.Proofs.YteegnmblbjcfpaaDoor.T
