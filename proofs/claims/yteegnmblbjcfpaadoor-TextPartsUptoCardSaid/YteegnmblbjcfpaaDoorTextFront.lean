/-
  text.Front and Unquote.
-/
import Derived.Deep.RegionWith
import Derived.Test.YteegnmblbjcfpaaDoorTextReadQ
set_option linter.unusedVariables false
namespace Go.Proofs.YteegnmblbjcfpaaDoor.T
open Go Go.Lib Go.RowKit Go.Shelf

/-- what readQuotes answers -/
def rqO (s : ByteArray) : Option (List UInt8 × Nat) := if Lib.hasPrefix s.data.toList [34] then rq s s.size 1 [] else none
theorem rq_bd (s : ByteArray) : ∀ (f p : Nat) (l l' : List UInt8) (n : Nat), rq s f p l = some (l', n) → l.length ≤ p → 1 ≤ n ∧ n ≤ s.size ∧ l'.length ≤ n
  | 0, _, _, _, _, h, _ => by simp [rq] at h
  | f + 1, p, l, l', n, h, hl => by
    unfold rq at h
    by_cases hlt : p < s.size
    · rw [if_pos hlt] at h
      by_cases a1 : bt s p = 34
      · rw [if_pos a1] at h
        simp only [Option.some.injEq, Prod.mk.injEq] at h
        obtain ⟨rfl, rfl⟩ := h
        omega
      rw [if_neg a1] at h
      by_cases a2 : bt s p = 92
      · rw [if_pos a2] at h
        have E := (escN_bd (s.extract p s.size)).2.2
        have hes : (s.extract p s.size).size = s.size - p := by simp
        rw [hes] at E
        by_cases hn : (escN (s.extract p s.size)).2 = 0
        · rw [if_pos hn] at h; cases h
        · rw [if_neg hn] at h
          exact rq_bd s f _ _ _ _ h (by simp; omega)
      · rw [if_neg a2] at h
        exact rq_bd s f _ _ _ _ h (by simp; omega)
    · rw [if_neg hlt] at h; cases h
theorem rqO_bd (s : ByteArray) (l' : List UInt8) (n : Nat) (h : rqO s = some (l', n)) : 1 ≤ n ∧ n ≤ s.size ∧ l'.length ≤ n := by
  unfold rqO at h
  split at h
  · exact rq_bd s _ _ _ _ _ h (by simp)
  · cases h
theorem readQ_in (s : ByteArray) (hs : s.size ≤ 16777216) (w : World) :
    Calls Tryd.prog 40 #[.string s] w fun e w' => e = .returned (rqV (rqO s)) ∧ Below w.heap.size w w' := by
  unfold rqO
  by_cases hp : Lib.hasPrefix s.data.toList [34] = true
  · rw [if_pos hp]; exact readQuotes_in s hs w hp
  · rw [if_neg hp]
    have hp' : Lib.hasPrefix s.data.toList [34] = false := by simpa using hp
    go_enter Tryd.func40, Tryd.ntmps40
    go_wp2_with (go_at_call 52; refine (Tryd.strings_HasPrefix s ⟨#[34]⟩ _).mono ?_; rintro e w' ⟨rfl, hw⟩; subst w')
    go_ret2
    exact ⟨rfl, Below.refl _ _⟩
/-- a text in quotes -/
def quB (u : ByteArray) : ByteArray := ⟨(quL u (pcs u) ++ [34]).toArray⟩
/-- what text.Front answers -/
def frT (s : ByteArray) : Option (ByteArray × Nat) :=
  match rqO s with
  | none => none
  | some (l, n) => if quB ⟨l.toArray⟩ = s.extract 0 n then some (⟨l.toArray⟩, n) else none
def frV : Option (ByteArray × Nat) → Value
  | none => .tuple #[.string ⟨#[]⟩, .int .i64 0, .int .i64 4]
  | some (u, n) => .tuple #[.string u, .int .i64 n, .int .i64 0]
theorem toList_eq_iff (a b : ByteArray) : (a.toList == b.toList) = decide (a = b) := by
  rw [Bool.eq_iff_iff, beq_iff_eq, decide_eq_true_eq, toList_data', toList_data']
  constructor
  · intro h; exact ByteArray.ext (Array.toList_inj.1 h)
  · intro h; rw [h]
set_option maxRecDepth 100000 in
set_option maxHeartbeats 2000000 in
theorem Front_in (s : ByteArray) (hs : s.size ≤ 16777216) (w : World) (hT : Tabs w) (h2 : 2 ≤ w.heap.size) :
    Calls Tryd.prog 23 #[.string s] w fun e w' => e = .returned (frV (frT s)) ∧ Below w.heap.size w w' := by
  have hr := readQ_in s hs w
  unfold frT
  cases hq : rqO s with
  | none =>
    rw [hq] at hr
    simp only [rqV] at hr
    go_enter Tryd.func23, Tryd.ntmps23
    go_wp2_with (go_at_call 40; refine hr.mono ?_; rintro e w1 ⟨rfl, hb1⟩)
    go_quiet (fail)
    all_goals go_wp2
    all_goals go_ret3
    all_goals exact ⟨rfl, below_drewN hb1 _⟩
  | some x =>
    obtain ⟨l, n⟩ := x
    obtain ⟨hn1, hn2, hn3⟩ := rqO_bd s l n hq
    rw [hq] at hr
    simp only [rqV] at hr
    have hQ := fun (W : World) (hT : Tabs W) (h2 : 2 ≤ W.heap.size) => callsIn_wide.1 (Quote_in ⟨l.toArray⟩ (by show l.toArray.size ≤ _; simp; omega) W hT h2)
    have e : (⟨(quL ⟨l.toArray⟩ (pcs ⟨l.toArray⟩) ++ [34]).toArray⟩ : ByteArray) = quB ⟨l.toArray⟩ := rfl
    simp only [e] at hQ
    clear e hq
    simp only
    generalize quB ⟨l.toArray⟩ = Q at *
    have bn : ((n : Int) == 0) = false := beq_f (by omega)
    have hsl : ∀ W : World, (Instr.slice 9 (.string s) none (some (.int .i64 (n : Int))) none).run Tryd.prog W = .ok (.string (s.extract 0 n)) W := fun W => by
      rw [run_slice_string_to_if (P := Tryd.prog) W 9 s .i64 (n : Int) Tryd.underlying9, if_pos (by omega), Int.toNat_natCast]
    by_cases hc : Q = s.extract 0 n
    · rw [if_pos hc]
      have c1 : (Q.toList == (s.extract 0 n).toList) = true := by rw [toList_eq_iff]; simpa using hc
      have c2 : (Q.toList != (s.extract 0 n).toList) = false := by rw [bne, c1]; rfl
      clear hc
      go_enter Tryd.func23, Tryd.ntmps23
      go_wp2_with (go_at_call 40; refine hr.mono ?_; rintro e w1 ⟨rfl, hb1⟩)
      go_region_with (go_at_call 18; refine (hQ _ (hT.below (by first | exact hb1 | exact hb1.drew) h2) (by have := hb1.size; simp; omega)).mono ?_; rintro e w2 ⟨rfl, hb2⟩)
      all_goals go_wp2
      all_goals go_ret3
      all_goals exact ⟨rfl, (hb1.drew).trans (hb2.mono (by have := hb1.size; simp; omega))⟩
    · rw [if_neg hc]
      have c1 : (Q.toList == (s.extract 0 n).toList) = false := by rw [toList_eq_iff]; simpa using hc
      have c2 : (Q.toList != (s.extract 0 n).toList) = true := by rw [bne, c1]; rfl
      clear hc
      go_enter Tryd.func23, Tryd.ntmps23
      go_wp2_with (go_at_call 40; refine hr.mono ?_; rintro e w1 ⟨rfl, hb1⟩)
      go_region_with (go_at_call 18; refine (hQ _ (hT.below (by first | exact hb1 | exact hb1.drew) h2) (by have := hb1.size; simp; omega)).mono ?_; rintro e w2 ⟨rfl, hb2⟩)
      all_goals go_wp2
      all_goals go_ret3
      all_goals exact ⟨rfl, (hb1.drew).trans (hb2.mono (by have := hb1.size; simp; omega))⟩
/-- what text.Unquote answers -/
def unT (s : ByteArray) : Option ByteArray :=
  match frT s with
  | none => none
  | some (u, n) => if n = s.size then some u else none
def unV : Option ByteArray → Value
  | none => .tuple #[.string ⟨#[]⟩, .int .i64 4]
  | some u => .tuple #[.string u, .int .i64 0]
set_option maxRecDepth 100000 in
set_option maxHeartbeats 2000000 in
theorem Unquote_in (s : ByteArray) (hs : s.size ≤ 16777216) (w : World) (hT : Tabs w) (h2 : 2 ≤ w.heap.size) :
    Calls Tryd.prog 21 #[.string s] w fun e w' => e = .returned (unV (unT s)) ∧ Below w.heap.size w w' := by
  have hr := Front_in s hs w hT h2
  unfold unT
  cases hq : frT s with
  | none =>
    rw [hq] at hr
    simp only [frV] at hr
    go_enter Tryd.func21, Tryd.ntmps21
    go_wp2_with (go_at_call 23; refine hr.mono ?_; rintro e w1 ⟨rfl, hb1⟩)
    go_ret2
    exact ⟨rfl, hb1⟩
  | some x =>
    obtain ⟨u, n⟩ := x
    rw [hq] at hr
    simp only [frV] at hr
    simp only
    clear hq
    by_cases hn : n = s.size
    · rw [if_pos hn]
      have b1 : ((n : Int) != (s.size : Int)) = false := by rw [hn]; simp
      have b2 : ((n : Int) == (s.size : Int)) = true := by rw [hn]; simp
      clear hn
      go_enter Tryd.func21, Tryd.ntmps21
      go_wp2_with (go_at_call 23; refine hr.mono ?_; rintro e w1 ⟨rfl, hb1⟩)
      go_ret2
      exact ⟨rfl, hb1⟩
    · rw [if_neg hn]
      have b2 : ((n : Int) == (s.size : Int)) = false := beq_f (by omega)
      have b1 : ((n : Int) != (s.size : Int)) = true := by rw [bne, b2]; rfl
      clear hn
      go_enter Tryd.func21, Tryd.ntmps21
      go_wp2_with (go_at_call 23; refine hr.mono ?_; rintro e w1 ⟨rfl, hb1⟩)
      go_ret2
      exact ⟨rfl, hb1⟩
end Go.Proofs.YteegnmblbjcfpaaDoor.T
