/-
  What place.tooMany says of runs, plainly.
-/
import Derived.Test.YtbldeiejlebbiaaDoorPlaceMany
set_option linter.unusedVariables false
namespace Go.Proofs.YtbldeiejlebbiaaDoor.T
open Go Go.Lib Go.RowKit

/-- the places that runs are -/
def flatZ (zs : List Rz) : List Pl := (zs.map fun z => (List.replicate z.t.toNat z.ps).flatten).flatten
theorem flatZ_cons (z : Rz) (zs : List Rz) : flatZ (z :: zs) = (List.replicate z.t.toNat z.ps).flatten ++ flatZ zs := by simp [flatZ]
theorem flatZ_append (a b : List Rz) : flatZ (a ++ b) = flatZ a ++ flatZ b := by simp [flatZ]
theorem rep_len (n : Nat) (l : List Pl) : (List.replicate n l).flatten.length = l.length * n := by simp [Nat.mul_comm]
theorem flatZ_toZ (qs : List (Value × Rn)) : flatZ (qs.map toZ) = unf (qs.map (·.2)) := by
  unfold flatZ unf toZ
  simp [List.map_map, Function.comp_def]
/-- not too many: at most 64 in all -/
theorem tooB_len : ∀ (zs : List Rz) (n : Nat), n ≤ 64 → tooB zs n = false → n + (flatZ zs).length ≤ 64 ∧ ∀ z ∈ zs, z.t ≤ 64 ∧ z.ps.length ≤ 64
  | [], n, hn, _ => ⟨by simpa [flatZ] using hn, fun z h => by cases h⟩
  | z :: zs, n, hn, h => by
    unfold tooB at h
    split at h
    · cases h
    · rename_i h1
      split at h
      · cases h
      · rename_i h2
        obtain ⟨h3, h4⟩ := tooB_len zs _ (by omega) h
        refine ⟨by rw [flatZ_cons, List.length_append, rep_len]; omega, fun y hy => ?_⟩
        rcases List.mem_cons.1 hy with rfl | hy
        · omega
        · exact h4 y hy
/-- runs of at most 64 places in all are not too many -/
theorem tooB_no : ∀ (zs : List Rz) (n : Nat), (∀ z ∈ zs, 1 ≤ z.t ∧ z.ps ≠ []) → n + (flatZ zs).length ≤ 64 → tooB zs n = false
  | [], n, _, _ => rfl
  | z :: zs, n, hz, h => by
    obtain ⟨ht, hp⟩ := hz z (by simp)
    have hp1 := List.length_pos_iff.2 hp
    rw [flatZ_cons, List.length_append, rep_len] at h
    have a1 : z.ps.length * 1 ≤ z.ps.length * z.t.toNat := Nat.mul_le_mul_left _ (by omega)
    have a2 : 1 * z.t.toNat ≤ z.ps.length * z.t.toNat := Nat.mul_le_mul_right _ hp1
    unfold tooB
    rw [if_neg (by omega), if_neg (by omega)]
    exact tooB_no zs _ (fun y hy => hz y (List.mem_cons_of_mem _ hy)) (by omega)
/-- each run's places are places of what the runs are -/
theorem mem_unf {rs : List Rn} {r : Rn} (hr : r ∈ rs) (ht : 1 ≤ r.t) {p : Pl} (hp : p ∈ r.ps) : p ∈ unf rs := by
  unfold unf
  rw [List.mem_flatten]
  refine ⟨_, List.mem_map.2 ⟨r, hr, rfl⟩, ?_⟩
  rw [List.mem_flatten]
  exact ⟨r.ps, by rw [List.mem_replicate]; exact ⟨by omega, rfl⟩, hp⟩
/-- a fold's runs: each is a stack; all are not too many -/
theorem fold_runs {l : List Pl} (hc : checkN l = 0) (qs : List (Value × Rn)) (hq : qs.map (·.2) = foldL l) :
    tooB (qs.map toZ) 0 = false ∧ (∀ z ∈ qs.map toZ, 1 ≤ z.t ∧ z.ps ≠ [] ∧ checkN z.ps = 0) ∧ flatZ (qs.map toZ) = l := by
  obtain ⟨b, hg⟩ := foldL_good l
  have hfl : flatZ (qs.map toZ) = l := by rw [flatZ_toZ, hq, unf_foldL]
  have h64 := (check_all hc).2
  have hz : ∀ z ∈ qs.map toZ, 1 ≤ z.t ∧ z.ps ≠ [] ∧ checkN z.ps = 0 := fun z hz => by
    obtain ⟨q, hqm, rfl⟩ := List.mem_map.1 hz
    have hr : q.2 ∈ foldL l := by rw [← hq]; exact List.mem_map.2 ⟨q, hqm, rfl⟩
    obtain ⟨h1, h2, _⟩ := hg.one q.2 hr
    refine ⟨by show (1 : Int) ≤ (q.2.t : Int); omega, h2, ?_⟩
    show checkN q.2.ps = 0
    have hall := List.all_eq_true.1 (check_all hc).1
    have ha : q.2.ps.all mayB = true := List.all_eq_true.2 fun p hp => hall p (by have := mem_unf hr h1 hp; rwa [unf_foldL] at this)
    have hl : q.2.ps.length ≤ 64 := by
      have hm : q.2.ps.length ≤ many (foldL l) := by
        have : ∀ rs : List Rn, q.2 ∈ rs → q.2.ps.length ≤ many rs := by
          intro rs
          induction rs with
          | nil => intro h; cases h
          | cons r rs ih =>
            intro h
            rcases List.mem_cons.1 h with e | h
            · rw [e]; simp only [many]; omega
            · have := ih h; simp only [many]; omega
        exact this _ hr
      have := (many_fold l).1
      omega
    unfold checkN
    rw [if_pos ha, if_neg (by omega)]
  exact ⟨tooB_no _ _ (fun z h => ⟨(hz z h).1, (hz z h).2.1⟩) (by rw [hfl]; omega), hz, hfl⟩
end Go.Proofs.YtbldeiejlebbiaaDoor.T
