/-
  PLAIN: what TextParts asks of a text: its pieces are of their own width; what is cut in a wider room begins with what is cut in a narrower one; what is taken next has no room.
-/
import Derived.Test.YteegnmblbjcfpaaDoorTextLinesP
set_option linter.unusedVariables false
namespace Go.Proofs.YteegnmblbjcfpaaDoor.T
open Go Go.Lib Go.RowKit Go.Shelf

theorem piece_wd (s : ByteArray) (p : Nat) (h : p < s.size) : wd (s.extract p (p + (pc s p).2)) = wOf (pc s p).1 := by
  have h1 := pc_pos s p h
  have hx : NoX s p (p + (pc s p).2) := fun x hx hlt => by
    rw [pcsFrom_step s p h] at hx
    rcases List.mem_cons.1 hx with rfl | hx
    · simp only; omega
    · have := (pcsFrom_mem s s.size _ (by omega) x hx).1; omega
  have hc := width_cut s p (p + (pc s p).2) h1.2 _ p (Nat.le_refl _) (Nat.le_refl _) (by omega) hx
  rw [pcsFrom_step s p h] at hc
  simp only [widthL, Nat.sub_self] at hc
  unfold wd pcs; omega
theorem fitL_ge (s : ByteArray) (room : Int) : ∀ (k p : Nat) (t : Int), s.size - p ≤ k → p ≤ s.size → p ≤ fitL s.size room t (pcsFrom s p)
  | k, p, t, hk, hp => by
    by_cases h : p < s.size
    · have h1 := pc_pos s p h
      rw [pcsFrom_step s p h]
      unfold fitL
      split
      · exact Nat.le_refl _
      · cases k with
        | zero => omega
        | succ k => have := fitL_ge s room k (p + (pc s p).2) (t + wOf (pc s p).1) (by omega) h1.2; simp only; omega
    · rw [pcsFrom_end s p h]; exact hp
theorem fitL_mono (s : ByteArray) (r r' : Int) (hr : r ≤ r') : ∀ (k p : Nat) (t : Int), s.size - p ≤ k → p ≤ s.size → fitL s.size r t (pcsFrom s p) ≤ fitL s.size r' t (pcsFrom s p)
  | k, p, t, hk, hp => by
    by_cases h : p < s.size
    · have h1 := pc_pos s p h
      by_cases c : r < t + wOf (pc s p).1
      · have e : fitL s.size r t (pcsFrom s p) = p := by rw [pcsFrom_step s p h]; unfold fitL; rw [if_pos c]
        rw [e]; exact fitL_ge s r' k p t hk hp
      · cases k with
        | zero => omega
        | succ k =>
          have ih := fitL_mono s r r' hr k (p + (pc s p).2) (t + wOf (pc s p).1) (by omega) h1.2
          rw [pcsFrom_step s p h]
          unfold fitL
          rw [if_neg c, if_neg (by simp only; omega)]
          exact ih
    · rw [pcsFrom_end s p h]; exact Nat.le_refl _
theorem fit_mono (s : ByteArray) (r r' : Int) (hr : r ≤ r') : fit s r ≤ fit s r' := fitL_mono s r r' hr s.size 0 0 (by omega) (by omega)
theorem fit_neg (s : ByteArray) (r : Int) (hr : r < 0) : fit s r = 0 := by
  unfold fit pcs
  by_cases h : 0 < s.size
  · have hw := wOf_bd (pc s 0).1
    rw [pcsFrom_step s 0 h]; unfold fitL; rw [if_pos (by simp only; omega)]
  · rw [pcsFrom_end s 0 h]; unfold fitL; omega
theorem wd_zero : wd ⟨#[]⟩ = 0 := rfl
/-- THE WIDE CUT: it is no wider than it may be, and what is taken next has no room -/
theorem wide_spec (s : ByteArray) (M : Int) : fit s M ≤ s.size ∧ wd (s.extract 0 (fit s M)) ≤ max M 0 ∧ (fit s M < s.size → M < wd (s.extract 0 (fit s M)) + wOf (pc s (fit s M)).1) := by
  by_cases h : M < 0
  · rw [fit_neg s M h]
    have e : s.extract 0 0 = ⟨#[]⟩ := by apply ba_ext; rw [ext_take]; simp
    rw [e, wd_zero]
    have := wOf_bd (pc s 0).1
    exact ⟨by omega, by omega, fun _ => by omega⟩
  · obtain ⟨a1, a2, a3, a4⟩ := fit_spec s M (by omega)
    exact ⟨a1, by omega, a4⟩
/-- the first thing that is taken of the rest of a text -/
theorem pc_rest (s : ByteArray) (p : Nat) (h : p < s.size) : pc (s.extract p s.size) 0 = pc s p := by
  have := pc_ext s p s.size p (Nat.le_refl _) h (Nat.le_refl _) (pc_pos s p h).2
  rwa [Nat.sub_self] at this
theorem pcs_step (s : ByteArray) (h : 0 < s.size) : pcs s = (0, (pc s 0).1) :: pcsFrom s (0 + (pc s 0).2) := pcsFrom_step s 0 h
theorem pcs_none (s : ByteArray) (h : s.size = 0) : pcs s = [] := pcsFrom_end s 0 (by omega)
theorem ext_ext0 (s : ByteArray) (n m : Nat) (h : n ≤ m) : (s.extract 0 m).extract 0 n = s.extract 0 n := by
  apply ba_ext
  rw [ext_take, ext_take, ext_take]
  simp [List.take_take, Nat.min_eq_left h]

/-! ### one thing behind the other -/
def lastI (l : List (Nat × Int)) : Int := (l.getLast?.map (fun x => (x.1 : Int))).getD 0
def wasI (l : List (Nat × Int)) : Int := (l.getLast?.map (·.2)).getD 0
def sumI (l : List (Nat × Int)) : Int := widthL l.dropLast
theorem lastI_snoc (l : List (Nat × Int)) (x : Nat × Int) : lastI (l ++ [x]) = x.1 := by simp [lastI]
theorem wasI_snoc (l : List (Nat × Int)) (x : Nat × Int) : wasI (l ++ [x]) = x.2 := by simp [wasI]
theorem sumI_snoc (l : List (Nat × Int)) (x : Nat × Int) : sumI (l ++ [x]) = widthL l := by simp [sumI]
theorem pcsFrom_head (s : ByteArray) (p : Nat) (x : Nat × Int) (l : List (Nat × Int)) (h : x :: l <+: pcsFrom s p) : p < s.size ∧ x = (p, (pc s p).1) ∧ l <+: pcsFrom s (p + (pc s p).2) := by
  by_cases hp : p < s.size
  · rw [pcsFrom_step s p hp, List.cons_prefix_cons] at h
    exact ⟨hp, h.1, h.2⟩
  · rw [pcsFrom_end s p hp] at h
    simp at h
theorem pcs_next (s : ByteArray) : ∀ (l : List (Nat × Int)) (p : Nat) (y x : Nat × Int), l ++ [y, x] <+: pcsFrom s p → x.1 = y.1 + (pc s y.1).2
  | [], p, y, x, h => by
    obtain ⟨_, rfl, h2⟩ := pcsFrom_head s p y [x] h
    obtain ⟨_, rfl, _⟩ := pcsFrom_head s _ x [] h2
    rfl
  | z :: l, p, y, x, h => pcs_next s l _ y x (pcsFrom_head s p z (l ++ [y, x]) h).2.2
theorem pcs_last (s : ByteArray) : ∀ (l : List (Nat × Int)) (p : Nat) (y : Nat × Int), p ≤ s.size → pcsFrom s p = l ++ [y] → y.1 + (pc s y.1).2 = s.size
  | [], p, y, hp, h => by
    obtain ⟨h1, rfl, _⟩ := pcsFrom_head s p y [] (by rw [h]; exact List.prefix_refl _)
    rw [pcsFrom_step s p h1] at h
    have h2 : pcsFrom s (p + (pc s p).2) = [] := by simpa using h
    have h3 := pc_pos s p h1
    rcases Nat.lt_or_ge (p + (pc s p).2) s.size with h4 | h4
    · rw [pcsFrom_step s _ h4] at h2; cases h2
    · simp only; omega
  | z :: l, p, y, hp, h => by
    obtain ⟨h1, rfl, _⟩ := pcsFrom_head s p z (l ++ [y]) (by rw [h]; exact List.prefix_refl _)
    rw [pcsFrom_step s p h1] at h
    exact pcs_last s l _ y (pc_pos s p h1).2 (by simpa using h)
end Go.Proofs.YteegnmblbjcfpaaDoor.T
