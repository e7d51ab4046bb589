/-
  Rows of texts; the list that erratalaw03.PlaceTrims writes into memory of its own.
-/
import Derived.Test.YtiolmpilgkippaaDoorPlaceAlive
set_option linter.unusedVariables false
namespace Go.Proofs.YtiolmpilgkippaaDoor.T
open Go Go.Lib Go.RowKit Go.Shelf

theorem infoStr : (Tryd.prog.info? 9).map (fun i => (i.zero, i.size, i.bytes)) = some (some (.string ⟨#[]⟩), 1, 16) := by kernel_rfl
def SRow (B : Nat) (w : World) (v : Value) (xs : List ByteArray) : Prop := w.ownsRow B 9 1 v xs.length (xs.map Value.string)
theorem SRow.sl {B : Nat} {w : World} {v : Value} {xs : List ByteArray} (h : SRow B w v xs) : StrSl w.heap.size w v xs := by
  have h' : w.ownsRow B 9 1 v xs.length (xs.map Value.string) := h
  obtain ⟨_, ⟨rfl, h0⟩ | ⟨g, cap, cur, rfl, hg0, hg1, hc1, hc2, _⟩⟩ := h
  · have : xs = [] := List.eq_nil_of_length_eq_zero h0
    subst this
    exact ⟨none, 0, rfl, by simp, by omega, fun h => absurd rfl h⟩
  · unfold maxLen at hc2
    refine ⟨some ⟨g, 0, none⟩, cap, rfl, hc1, by omega, fun _ => ⟨g, 0, rfl, (Array.getElem?_eq_some_iff.1 hg1).1, fun j x hj => ?_⟩⟩
    have hc := h'.cells (g := g) rfl j (.string x) (by rw [List.getElem?_map, hj]; rfl)
    have ha : ((⟨g, 0, none⟩ : Addr).add j) = ⟨g, 0 + j, none⟩ := by unfold Addr.add; split <;> simp_all
    rw [ha] at hc
    exact hc
theorem StrAt.cells {w : World} {bk o : Nat} {m : List ByteArray} (h : StrAt w bk o m) : ∀ j u, (m.map Value.string)[j]? = some u → w.cell? ((⟨bk, o, none⟩ : Addr).add j) = some u := by
  intro j u hj
  rw [List.getElem?_map] at hj
  obtain ⟨x, hx, rfl⟩ := Option.map_eq_some_iff.1 hj
  have ha : ((⟨bk, o, none⟩ : Addr).add j) = ⟨bk, o + j, none⟩ := by unfold Addr.add; split <;> simp_all
  rw [ha]
  exact h j x hx
theorem app_strs (B B' : Nat) (W : World) (v s : Value) (l m : List ByteArray) (hrow : SRow B W v l) (hs : StrSl B' W s m) (h63 : l.length + m.length ≤ 8796093022100) (hB : B ≤ W.heap.size) :
    ∃ v' w', (Builtin.append_ #[44, 44] 44 #[v, s]).run Tryd.prog W = .ok v' w' ∧ SRow B w' v' (l ++ m) ∧ W.grownBy w' v.ownBlock := by
  obtain ⟨a, c, rfl, h1, h2, h3⟩ := hs
  cases a with
  | none =>
    have hm : m = [] := by
      rcases m with _ | ⟨p, m⟩
      · rfl
      · obtain ⟨bk, o, e, _⟩ := h3 (by simp); cases e
    subst hm
    obtain ⟨p, k, cap, rfl, hk⟩ : ∃ p k cap, v = .slice p k cap ∧ k ≤ cap := by
      rcases hrow.2 with ⟨rfl, _⟩ | ⟨g, cap, cur, rfl, _, _, h3, _⟩
      · exact ⟨_, _, _, rfl, Nat.le_refl _⟩
      · exact ⟨_, _, _, rfl, h3⟩
    exact ⟨_, W, app_none Tryd.underlying44 infoStr W p k cap c hk, by rw [List.append_nil]; exact hrow, ⟨rfl, rfl, rfl, Nat.le_refl _, fun _ _ _ => rfl⟩⟩
  | some ad =>
    obtain ⟨i0, hi, hz0, hz1, hz2⟩ := info_parts infoStr
    have hnews : ∀ j u, (m.map Value.string)[j]? = some u → W.cell? (ad.add j) = some u := by
      rcases m with _ | ⟨p, m⟩
      · intro j u hj; simp at hj
      · obtain ⟨bk, o, e, _, hat⟩ := h3 (by simp)
        cases e
        exact hat.cells
    obtain ⟨v', w', h1, h2, h3, _⟩ := run_append_own (P := Tryd.prog) W B 44 44 9 i0 (.string ⟨#[]⟩) 1 16 Tryd.underlying44 hi hz0 hz1 hz2 rfl (by decide) v l.length (l.map Value.string) hrow ad m.length c (m.map Value.string) (by simp) hnews (by
        intro u hu
        obtain ⟨x, _, rfl⟩ := List.mem_map.1 hu
        rfl) (by unfold maxLen; omega) (by omega) hB
    refine ⟨v', w', h1, ?_, h3⟩
    unfold SRow
    rw [List.map_append, List.length_append]
    exact h2
theorem SRow.empty (W : World) (B : Nat) (hB : B ≤ W.heap.size) : SRow B (W.alloc (.cells #[] 9)) (.slice (some ⟨W.heap.size, 0, none⟩) 0 0) [] :=
  World.ownsRow_made W #[] 0 hB (by decide) rfl
theorem one_sl (W : World) (x : ByteArray) : StrSl (W.heap.size + 1) (W.alloc (.cells #[.string x] 9)) (.slice (some ⟨W.heap.size, 0, none⟩) 1 1) [x] := by
  refine ⟨_, 1, rfl, by simp, by omega, fun _ => ⟨W.heap.size, 0, rfl, Nat.lt_succ_self _, fun j y hj => ?_⟩⟩
  match j, hj with
  | 0, hj => simp at hj; subst hj; simp
  | j + 1, hj => simp at hj
theorem slice_ss (B : Nat) (w : World) (v : Value) (l : List ByteArray) (h : StrSl B w v l) (k : Nat) (hk : k ≤ l.length) :
    ∃ v', (∀ W : World, (Instr.slice 44 v none (some (.int .i64 (k : Int))) none).run Tryd.prog W = .ok v' W) ∧ StrSl B w v' (l.take k) := by
  obtain ⟨a, c, rfl, h1, h2, h3⟩ := h
  refine ⟨sliced a 0 k c 1, fun W => ?_, ?_⟩
  · rw [run_slice_h (P := Tryd.prog) W 44 a l.length c (by kernel_rfl) .i64 (k : Int) (by omega) (by omega)]
    have hz : (sizeOf (Tryd.prog.elem 44)).run Tryd.prog W = .ok 1 W := by kernel_rfl
    rw [hz]
    simp only [Result.andThen, Int.toNat_natCast]
  · have hlk : (l.take k).length = k := by rw [List.length_take]; omega
    refine ⟨_, c, by unfold sliced; rw [hlk]; rfl, by omega, h2, fun hne => ?_⟩
    have hl0 : l ≠ [] := by intro e; subst e; simp at hne
    obtain ⟨bk, o, rfl, hb, hat⟩ := h3 hl0
    refine ⟨bk, o, ?_, hb, fun j x hj => hat j x (by
      rw [List.getElem?_take] at hj
      split at hj
      · exact hj
      · cases hj)⟩
    split <;> simp [Addr.add]

/-! ### the list of places that all begin alike -/
def libP (i : Nat) : Pl := ⟨⟨#[108, 105, 98, 46, 120]⟩, i⟩
def libL (n : Nat) : List Pl := (List.range n).map libP
theorem libL_len (n : Nat) : (libL n).length = n := by simp [libL]
theorem libL_at (n k : Nat) (h : k < n) : (libL n)[k]? = some (libP k) := by simp [libL, h]
theorem libL_succ (n : Nat) : libL (n + 1) = libL n ++ [libP n] := by simp [libL, List.range_succ]
theorem libP_may (i : Nat) (h : i ≤ 1048576) : mayB (libP i) = true := by
  have h1 : okTo (libP i).n (libP i).n.size = true := by show okTo ⟨#[108, 105, 98, 46, 120]⟩ 5 = true; decide +kernel
  unfold mayB
  rw [h1, Bool.and_true]
  unfold edgeB libP
  have e : (⟨#[108, 105, 98, 46, 120]⟩ : ByteArray).size = 5 := rfl
  simp only [e]
  simp
  omega
theorem libL_check (n : Nat) : (checkN (libL n) = 0 ↔ n ≤ 64) := by
  constructor
  · intro h
    have := (check_all h).2
    rwa [libL_len] at this
  · intro h
    unfold checkN
    rw [if_pos, if_neg (by rw [libL_len]; omega)]
    rw [List.all_eq_true]
    intro p hp
    unfold libL at hp
    obtain ⟨i, hi, rfl⟩ := List.mem_map.1 hp
    exact libP_may i (by have := List.mem_range.1 hi; omega)
def libX : List ByteArray := [⟨#[108, 105, 98, 46]⟩]
theorem libL_trim (n : Nat) : trA (libL n) libX = [] := by
  unfold trA
  split
  · have h : ∀ k, k ≤ n → trimK (libL n) libX k = 0 := by
      intro k
      induction k with
      | zero => intro _; rfl
      | succ k ih =>
        intro hk
        rw [trimK, nmAt_eq (libL_at n k (by omega)), if_pos (by show begB ⟨#[108, 105, 98, 46, 120]⟩ libX = true; decide +kernel)]
        exact ih (by omega)
    rw [h _ (by rw [libL_len]; omega)]; rfl
  · rfl
theorem libL_slim (n : Nat) : Slim (libL n) := by
  intro p hp
  unfold libL at hp
  obtain ⟨i, _, rfl⟩ := List.mem_map.1 hp
  show (⟨#[108, 105, 98, 46, 120]⟩ : ByteArray).size ≤ _
  decide
/-- k places are written over -/
def libM (m : List Pl) (k : Nat) : List Pl := libL k ++ m.drop k
theorem libM_len (m : List Pl) (k : Nat) (h : k ≤ m.length) : (libM m k).length = m.length := by
  unfold libM
  rw [List.length_append, libL_len, List.length_drop]; omega
theorem libM_set (m : List Pl) (k : Nat) (h : k < m.length) : (libM m k).set k (libP k) = libM m (k + 1) := by
  unfold libM
  rw [List.set_append_right _ _ (by rw [libL_len]; omega), libL_len, Nat.sub_self, libL_succ, List.append_assoc]
  congr 1
  rw [List.drop_eq_getElem_cons h]
  rfl
end Go.Proofs.YtiolmpilgkippaaDoor.T
