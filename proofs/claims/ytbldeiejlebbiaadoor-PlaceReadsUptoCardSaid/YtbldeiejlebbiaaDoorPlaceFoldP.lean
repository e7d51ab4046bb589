/-
  What a fold is, plainly: runs of places, and what they unfold to.
-/
import Derived.Test.YtbldeiejlebbiaaDoorPlaceTimes
set_option linter.unusedVariables false
namespace Go.Proofs.YtbldeiejlebbiaaDoor.T
open Go Go.Lib Go.RowKit

theorem eqP_eq {x y : Pl} (h : eqP x y = true) : x = y := by
  unfold eqP at h
  rw [Bool.and_eq_true, beq_iff_eq, beq_iff_eq, Lib.toList_data, Lib.toList_data] at h
  obtain ⟨⟨⟨a⟩⟩, k⟩ := x
  obtain ⟨⟨⟨b⟩⟩, k'⟩ := y
  simp at h
  simp [h.1, h.2]
theorem com_le_take : ∀ (p : Nat) (a b : List Pl), p ≤ com a b → a.take p = b.take p := by
  intro p
  induction p with
  | zero => intro a b _; simp
  | succ p ih =>
    intro a b h
    cases a with
    | nil => simp [com] at h
    | cons x a =>
      cases b with
      | nil => simp [com] at h
      | cons y b =>
        unfold com at h
        split at h
        · rename_i he
          rw [List.take_succ_cons, List.take_succ_cons, eqP_eq he, ih a b (by omega)]
        · omega
theorem rep_flat {l : List Pl} {p K : Nat} (hK : IsRep l p K) : ∀ j, j ≤ K → l.take (j * p) = (List.replicate j (l.take p)).flatten := by
  intro j
  induction j with
  | zero => intro _; simp
  | succ j ih =>
    intro hj
    rw [Nat.add_mul, Nat.one_mul, List.take_add, ih (by omega), List.replicate_succ', List.flatten_append]
    congr 1
    rcases Nat.eq_zero_or_pos j with h | h
    · subst h; simp
    · have := (hK.yes j h (by omega)).2
      simp [com_le_take _ _ _ this]
/-- a block of places stands as often as block says -/
theorem blk_flat {l : List Pl} (hl : 1 ≤ l.length) : l.take ((blk l).1 * (blk l).2) = (List.replicate (blk l).2 (l.take (blk l).1)).flatten := by
  rcases blk_ok l with h | ⟨h1, h2, h3, h4, h5⟩
  · rw [h]; simp
  · rw [Nat.mul_comm]; exact rep_flat h4 _ (Nat.le_refl _)

/-- a run: places, and how often they stand -/
structure Rn where
  ps : List Pl
  t : Nat
def unf (rs : List Rn) : List Pl := (rs.map fun r => (List.replicate r.t r.ps).flatten).flatten
theorem unf_append (a b : List Rn) : unf (a ++ b) = unf a ++ unf b := by simp [unf]
theorem unf_one (r : Rn) : unf [r] = (List.replicate r.t r.ps).flatten := by simp [unf]
/-- places behind the last run -/
def joinLast : List Rn → List Pl → List Rn
  | [], _ => []
  | [r], p => [⟨r.ps ++ p, r.t⟩]
  | r :: rs, p => r :: joinLast rs p
theorem joinLast_snoc (rs : List Rn) (r : Rn) (p : List Pl) : joinLast (rs ++ [r]) p = rs ++ [⟨r.ps ++ p, r.t⟩] := by
  induction rs with
  | nil => rfl
  | cons x rs ih =>
    cases rs with
    | nil => rfl
    | cons y rs => simpa [joinLast] using ih
def foldStep (l : List Pl) (alone : Bool) (rs : List Rn) : List Rn :=
  if alone = true ∧ (blk l).2 = 1 then joinLast rs (l.take (blk l).1) else rs ++ [⟨l.take (blk l).1, (blk l).2⟩]
def foldGo : Nat → List Pl → Bool → List Rn → List Rn
  | 0, _, _, rs => rs
  | f + 1, l, alone, rs => if l.length = 0 then rs else foldGo f (l.drop ((blk l).1 * (blk l).2)) (decide ((blk l).2 = 1)) (foldStep l alone rs)
def foldL (l : List Pl) : List Rn := foldGo l.length l false []

/-- what holds of runs while they are made -/
structure Good (alone : Bool) (rs : List Rn) : Prop where
  one : ∀ r ∈ rs, 1 ≤ r.t ∧ r.ps ≠ [] ∧ (1 < r.t → r.ps.length ≤ 8)
  last : alone = true → ∃ rs' p, rs = rs' ++ [⟨p, 1⟩]
  more : alone = false → ∀ rs' r, rs = rs' ++ [r] → r.t ≠ 1
  next : ∀ k a b, rs[k]? = some a → rs[k + 1]? = some b → ¬ (a.t = 1 ∧ b.t = 1)
theorem Good.nil : Good false [] := ⟨(fun r h => by cases h), (fun h => by cases h), (fun _ rs' r h => by simp at h), (fun k a b h => by simp at h)⟩
theorem Good.step {l : List Pl} (hl : 1 ≤ l.length) {alone : Bool} {rs : List Rn} (h : Good alone rs) : Good (decide ((blk l).2 = 1)) (foldStep l alone rs) := by
  obtain ⟨n1, n2, n3, n4⟩ := (blk_ok l).num hl
  have n5 : (blk l).1 * 1 ≤ (blk l).1 * (blk l).2 := Nat.mul_le_mul_left _ n3
  have hne : l.take (blk l).1 ≠ [] := by intro e; have := congrArg List.length e; rw [List.length_take, List.length_nil] at this; omega
  unfold foldStep
  split
  · rename_i hc
    obtain ⟨rs', p, rfl⟩ := h.last hc.1
    rw [joinLast_snoc]
    refine ⟨fun r hr => ?_, fun _ => ⟨rs', _, rfl⟩, fun e => by simp [hc.2] at e, fun k a b ha hb => ?_⟩
    · rcases List.mem_append.1 hr with hr | hr
      · exact h.one r (List.mem_append_left _ hr)
      · obtain rfl := List.mem_singleton.1 hr
        have := h.one ⟨p, 1⟩ (by simp)
        exact ⟨Nat.le_refl _, by simp [hne], fun e => by simp at e⟩
    · have e : ∀ (j : Nat) (x : Rn), (rs' ++ [(⟨p ++ l.take (blk l).1, 1⟩ : Rn)])[j]? = some x → ∃ y : Rn, (rs' ++ [(⟨p, 1⟩ : Rn)])[j]? = some y ∧ y.t = x.t := by
        intro j x hx
        rw [List.getElem?_append] at hx ⊢
        split at hx
        · rename_i hj; rw [if_pos hj]; exact ⟨x, hx, rfl⟩
        · rename_i hj; rw [if_neg hj]
          cases hjj : j - rs'.length with
          | zero => rw [hjj] at hx; simp at hx ⊢; rw [← hx]
          | succ m => rw [hjj] at hx; simp at hx
      obtain ⟨a', ha', ea⟩ := e _ _ ha
      obtain ⟨b', hb', eb⟩ := e _ _ hb
      rw [← ea, ← eb]
      exact h.next k a' b' ha' hb'
  · rename_i hc
    refine ⟨fun r hr => ?_, fun e => ?_, fun e rs' r er => ?_, fun k a b ha hb => ?_⟩
    · rcases List.mem_append.1 hr with hr | hr
      · exact h.one r hr
      · obtain rfl := List.mem_singleton.1 hr
        exact ⟨n3, hne, fun _ => by show (l.take _).length ≤ 8; rw [List.length_take]; omega⟩
    · simp at e
      exact ⟨rs, _, by rw [e]⟩
    · have := List.append_inj_right' er rfl
      simp at this
      rw [← this]
      simpa using e
    · rw [List.getElem?_append] at ha hb
      split at hb
      · rename_i hk
        rw [if_pos (by omega)] at ha
        exact h.next k a b ha hb
      · rename_i hk
        have hk1 : k + 1 = rs.length := by
          rcases Nat.lt_or_ge rs.length (k + 1) with h | h
          · exfalso
            have : k + 1 - rs.length ≠ 0 := by omega
            obtain ⟨m, hm⟩ := Nat.exists_eq_succ_of_ne_zero this
            rw [hm] at hb
            simp at hb
          · omega
        rw [if_pos (by omega)] at ha
        have hbe : b = ⟨l.take (blk l).1, (blk l).2⟩ := by
          rw [hk1, Nat.sub_self] at hb
          simpa using hb.symm
        intro ⟨e1, e2⟩
        have hal : alone = false := by
          cases alone with
          | false => rfl
          | true => exact absurd ⟨rfl, by rw [hbe] at e2; exact e2⟩ hc
        have hl2 : rs = rs.take k ++ [a] := by
          have : rs.take (k + 1) = rs.take k ++ [a] := by rw [List.take_add_one, ha]; rfl
          rw [← this, hk1, List.take_length]
        exact h.more hal _ _ hl2 e1
theorem foldGo_good : ∀ f (l : List Pl) alone rs, Good alone rs → ∃ b, Good b (foldGo f l alone rs) := by
  intro f
  induction f with
  | zero => intro l alone rs h; exact ⟨_, h⟩
  | succ f ih =>
    intro l alone rs h
    unfold foldGo
    split
    · exact ⟨_, h⟩
    · exact ih _ _ _ (h.step (by omega))
theorem foldGo_unf : ∀ f (l : List Pl) alone rs, l.length ≤ f → Good alone rs → unf (foldGo f l alone rs) = unf rs ++ l := by
  intro f
  induction f with
  | zero =>
    intro l alone rs hf _
    have : l = [] := List.eq_nil_of_length_eq_zero (by omega)
    subst this
    simp [foldGo]
  | succ f ih =>
    intro l alone rs hf h
    unfold foldGo
    split
    · rename_i h0
      have : l = [] := List.eq_nil_of_length_eq_zero h0
      subst this
      simp
    · rename_i h0
      obtain ⟨n1, n2, n3, n4⟩ := (blk_ok l).num (by omega)
      have hm : 1 ≤ (blk l).1 * (blk l).2 := Nat.mul_pos n1 n3
      rw [ih _ _ _ (by rw [List.length_drop]; omega) (h.step (by omega))]
      have hs : unf (foldStep l alone rs) = unf rs ++ l.take ((blk l).1 * (blk l).2) := by
        unfold foldStep
        split
        · rename_i hc
          obtain ⟨rs', p, rfl⟩ := h.last hc.1
          rw [joinLast_snoc, unf_append, unf_append, unf_one, unf_one, hc.2]
          simp
        · rw [unf_append, unf_one, blk_flat (by omega)]
      rw [hs, List.append_assoc, List.take_append_drop]
/-- what is folded unfolds to it -/
theorem unf_foldL (l : List Pl) : unf (foldL l) = l := by
  unfold foldL
  rw [foldGo_unf _ _ _ _ (Nat.le_refl _) Good.nil]
  simp [unf]
theorem foldL_good (l : List Pl) : ∃ b, Good b (foldL l) := foldGo_good _ _ _ _ Good.nil
/-- how many places runs hold -/
def many : List Rn → Nat
  | [] => 0
  | r :: rs => r.ps.length + many rs
theorem many_unf {rs : List Rn} (h : ∀ r ∈ rs, 1 ≤ r.t) : many rs ≤ (unf rs).length := by
  induction rs with
  | nil => simp [many]
  | cons r rs ih =>
    have h1 := ih (fun r hr => h r (List.mem_cons_of_mem _ hr))
    have h2 := h r (by simp)
    have : unf (r :: rs) = (List.replicate r.t r.ps).flatten ++ unf rs := by simp [unf]
    rw [this, List.length_append]
    have : (List.replicate r.t r.ps).flatten.length = r.t * r.ps.length := by simp
    have h3 : 1 * r.ps.length ≤ r.t * r.ps.length := Nat.mul_le_mul_right _ h2
    simp only [many]
    omega
theorem many_pos {rs : List Rn} (h : ∀ r ∈ rs, r.ps ≠ []) (h0 : unf rs ≠ []) : 0 < many rs := by
  cases rs with
  | nil => simp [unf] at h0
  | cons r rs =>
    have := List.length_pos_iff.2 (h r (by simp))
    simp only [many]
    omega
theorem many_fold (l : List Pl) : many (foldL l) ≤ l.length ∧ (0 < many (foldL l) ↔ 0 < l.length) := by
  obtain ⟨b, hg⟩ := foldL_good l
  have h1 : many (foldL l) ≤ l.length := by have := many_unf (fun r hr => (hg.one r hr).1); rwa [unf_foldL] at this
  refine ⟨h1, fun h => by omega, fun h => many_pos (fun r hr => (hg.one r hr).2.1) ?_⟩
  rw [unf_foldL]
  exact List.length_pos_iff.1 h
end Go.Proofs.YtbldeiejlebbiaaDoor.T
