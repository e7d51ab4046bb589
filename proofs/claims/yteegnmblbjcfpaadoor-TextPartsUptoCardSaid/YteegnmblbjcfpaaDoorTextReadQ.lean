/-
  text.readQuotes.
-/
import Derived.Test.YteegnmblbjcfpaaDoorTextEsc
import Derived.Test.YteegnmblbjcfpaaDoorTextQuote
set_option linter.unusedVariables false
namespace Go.Proofs.YteegnmblbjcfpaaDoor.T
open Go Go.Lib Go.RowKit Go.Shelf

/-- what is read from a place on, and where it ends; none: no quote ends it -/
def rq (s : ByteArray) : Nat → Nat → List UInt8 → Option (List UInt8 × Nat)
  | 0, _, _ => none
  | f + 1, p, l => if p < s.size then
      (if bt s p = 34 then some (l, p + 1)
       else if bt s p = 92 then (if (escN (s.extract p s.size)).2 = 0 then none else rq s f (p + (escN (s.extract p s.size)).2) (l ++ [UInt8.ofNat (escN (s.extract p s.size)).1.toNat]))
       else rq s f (p + 1) (l ++ [UInt8.ofNat (bt s p)]))
    else none
def rqV : Option (List UInt8 × Nat) → Value
  | none => .tuple #[.string ⟨#[]⟩, .int .i64 0]
  | some (l, n) => .tuple #[.string ⟨l.toArray⟩, .int .i64 n]
theorem escN_bd (s : ByteArray) : 0 ≤ (escN s).1 ∧ (escN s).1 < 256 ∧ ((escN s).2 = 0 ∨ (2 ≤ (escN s).2 ∧ (escN s).2 ≤ s.size)) := by
  have h1 := bt_lt s 1; have D2 := digI_bd (bt s 2); have D3 := digI_bd (bt s 3)
  by_cases a : 2 ≤ s.size ∧ (bt s 1 = 92 ∨ bt s 1 = 34)
  · have e : escN s = (((bt s 1 : Nat) : Int), 2) := by unfold escN; rw [if_pos a]
    rw [e]; exact ⟨by simp, by simp; omega, .inr ⟨by simp, a.1⟩⟩
  by_cases b : s.size < 4 ∨ bt s 1 ≠ 120
  · have e : escN s = (0, 0) := by unfold escN; rw [if_neg a, if_pos b]
    rw [e]; simp
  by_cases c : digI (bt s 2) < 0 ∨ digI (bt s 3) < 0
  · have e : escN s = (0, 0) := by unfold escN; rw [if_neg a, if_neg b, if_pos c]
    rw [e]; simp
  · have e : escN s = (16 * digI (bt s 2) + digI (bt s 3), 4) := by unfold escN; rw [if_neg a, if_neg b, if_neg c]
    rw [e]; exact ⟨by simp only; omega, by simp only; omega, .inr ⟨by simp, by simp only; omega⟩⟩
theorem cells_snoc (l : List UInt8) (c : Nat) (hc : c < 256) : byteCells (l ++ [UInt8.ofNat c]) = byteCells l ++ [.int .u8 (c : Int)] := by
  rw [byteCells_append]
  have e : byteCells [UInt8.ofNat c] = [.int .u8 (c : Int)] := by simp [byteCells]; omega
  rw [e]
theorem slice_from (s : ByteArray) (p : Nat) (h : p ≤ s.size) (W : World) : (Instr.slice 9 (.string s) (some (.int .i64 (p : Int))) none none).run Tryd.prog W = .ok (.string (s.extract p s.size)) W := by
  have e := run_slice_string_from_if (P := Tryd.prog) W 9 s .i64 (p : Int) Tryd.underlying9
  rw [if_pos (by omega), Int.toNat_natCast] at e
  exact e
set_option maxRecDepth 100000 in
set_option maxHeartbeats 2000000 in
theorem readQuotes_in (s : ByteArray) (hs : s.size ≤ 16777216) (w : World) (hp : Lib.hasPrefix s.data.toList [34] = true) :
    Calls Tryd.prog 40 #[.string s] w fun e w' => e = .returned (rqV (rq s s.size 1 [])) ∧ Below w.heap.size w w' := by
  generalize hR : rqV (rq s s.size 1 []) = R
  have hRE := Lib.hid hR
  clear hR
  go_enter Tryd.func40, Tryd.ntmps40
  go_wp2_with (go_at_call 52; refine (Tryd.strings_HasPrefix s ⟨#[34]⟩ _).mono ?_; rintro e w' ⟨rfl, hw⟩; subst w')
  have hs1 : 1 ≤ s.size := by
    have h := hp
    unfold Lib.hasPrefix at h
    have := (List.isPrefixOf_iff_prefix.1 h).length_le
    have e : s.data.toList.length = s.size := rfl
    rw [e] at this
    simpa using this
  go_loopw [5] (fun i wr => ∃ (f p : Nat) (l : List UInt8), i = .int .i64 p ∧ p ≤ s.size ∧ s.size ≤ p + f ∧ rqV (rq s f p l) = R ∧ l.length ≤ p ∧ Lib.IsBuilderF 73 5 w.heap.size w.heap.size (byteCells l) wr ∧ Below w.heap.size w wr)
    (fun i _ => s.size - (RowKit.intOf i).toNat)
  case atStart =>
    refine ⟨s.size, 1, [], rfl, hs1, by omega, hRE.out, by simp, ?_, (Below.refl _ _).alloc (Nat.le_refl _) _⟩
    exact .inl ⟨Nat.le_refl _, _, World.alloc_heap_new w _, World.ownsRowF_of (World.ownsRow_nil _ _ _ _), by simp [Value.ownBlock]⟩
  case round =>
    obtain ⟨f, p, l, rfl, hps, hf, hr, hl, hb, hbw⟩ := hrel
    have hszr := hbw.size
    have hll : (byteCells l).length = l.length := byteCells_length l
    by_cases hlt : p < s.size
    · obtain ⟨f, rfl⟩ : ∃ k, f = k + 1 := ⟨f - 1, by omega⟩
      have ix := fun W : World => idx_bt s p hlt W
      have hb0 := bt_lt s p
      unfold rq at hr
      rw [if_pos hlt] at hr
      by_cases a1 : bt s p = 34
      · rw [if_pos a1] at hr
        have b1 : ((bt s p : Int) == 34) = true := by rw [a1]; rfl
        have HR := Lib.hid hr
        clear hr a1
        go_wp2_with (go_at_call 53; refine (Tryd.Builder_String_any_k w.heap.size w.heap.size l _ hb (by assumption)).mono ?_; rintro e w2 ⟨rfl, h2, hb2, _⟩)
        go_ret2
        rw [← HR.out]
        exact ⟨rfl, hbw.trans hb2⟩
      rw [if_neg a1] at hr
      have b1 : ((bt s p : Int) == 34) = false := beq_f (by omega)
      by_cases a2 : bt s p = 92
      · rw [if_pos a2] at hr
        have b2 : ((bt s p : Int) == 92) = true := by rw [a2]; rfl
        have hsl := fun W : World => slice_from s p (by omega) W
        have E := escN_bd (s.extract p s.size)
        have hes : (s.extract p s.size).size = s.size - p := by simp
        rw [hes] at E
        have hE := fun W => readEscape_in (s.extract p s.size) (by rw [hes]; omega) W
        generalize hx : escN (s.extract p s.size) = x at *
        obtain ⟨c, n⟩ := x
        simp only at E hr
        have HR := Lib.hid hr
        have HE := Lib.hid hE
        clear hr a1 a2 hx hE
        by_cases hn : n = 0
        · subst hn
          go_wp2_with (go_at_call 54; refine (HE.out _).mono ?_; rintro e w2 ⟨rfl, hw⟩; subst w2)
          go_ret2
          rw [← HR.out]
          exact ⟨rfl, hbw⟩
        · have bn : ((n : Int) == 0) = false := beq_f (by omega)
          obtain ⟨c, rfl⟩ : ∃ k : Nat, c = k := ⟨c.toNat, by omega⟩
          go_wp2_with (first | (go_at_call 54; refine (HE.out _).mono ?_; rintro e w2 ⟨rfl, hw⟩; subst w2) | (go_at_call 55; refine (WriteByte_k w.heap.size w.heap.size (byteCells l) (c : Int) _ hb (by omega) (by assumption)).mono ?_; rintro e w2 ⟨rfl, h2, hb2⟩))
          go_roundw
          case rel =>
            refine ⟨f, p + n, l ++ [UInt8.ofNat c], by go_num, by omega, by omega, ?_, by simp; omega, ?_, hbw.trans hb2⟩
            · have := HR.out; rw [if_neg hn] at this; simpa using this
            · rw [cells_snoc l c (by omega)]; exact .inr h2
          case measure => simp [RowKit.intOf]; omega
      · rw [if_neg a2] at hr
        have b2 : ((bt s p : Int) == 92) = false := beq_f (by omega)
        have HR := Lib.hid hr
        clear hr a1 a2
        go_wp2_with (go_at_call 55; refine (WriteByte_k w.heap.size w.heap.size (byteCells l) (bt s p : Int) _ hb (by omega) (by assumption)).mono ?_; rintro e w2 ⟨rfl, h2, hb2⟩)
        go_roundw
        case rel =>
          refine ⟨f, p + 1, l ++ [UInt8.ofNat (bt s p)], by go_num, by omega, by omega, HR.out, by simp; omega, ?_, hbw.trans hb2⟩
          rw [cells_snoc l _ hb0]; exact .inr h2
        case measure => simp [RowKit.intOf]; omega
    · have hn : rq s f p l = none := by cases f with
        | zero => rfl
        | succ f => unfold rq; rw [if_neg hlt]
      rw [hn] at hr
      have HR := Lib.hid hr
      clear hr hn
      go_wp2
      go_ret2
      rw [← HR.out]
      exact ⟨rfl, hbw⟩
end Go.Proofs.YteegnmblbjcfpaaDoor.T
