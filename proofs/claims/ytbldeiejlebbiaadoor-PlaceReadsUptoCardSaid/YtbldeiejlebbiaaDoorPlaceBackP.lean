/-
  What is told is read as the stack, plainly.
-/
import Derived.Test.YtbldeiejlebbiaaDoorPlaceFit
set_option linter.unusedVariables false
namespace Go.Proofs.YtbldeiejlebbiaaDoor.T
open Go Go.Lib Go.RowKit

theorem pieces_text {l : List Pl} (h : checkN l = 0) (hne : l ≠ []) : pcsOf (textL l) = l.reverse.map plB := by
  have hm := all_may h
  rw [textL_eq, if_pos h]
  have hxs : l.reverse.map plB ≠ [] := by simpa using hne
  have hnb : ∀ x ∈ l.reverse.map plB, noBl x := fun x hx => by
    obtain ⟨p, hp, rfl⟩ := List.mem_map.1 hx
    exact plB_noBl (hm p (List.mem_reverse.1 hp))
  have hn0 : jn (l.reverse.map plB) ≠ [] := by
    intro e
    refine hxs ((jn_empty _ (fun x hx => ?_)).1 e)
    obtain ⟨p, hp, rfl⟩ := List.mem_map.1 hx
    simp [plB]
  unfold pcsOf
  rw [if_neg hn0]
  exact spl_jn _ _ hxs hnb (jn_len _)
theorem back_text {l : List Pl} (h : checkN l = 0) : parseL ⟨(textL l).toArray⟩ = some l := by
  by_cases hne : l = []
  · subst hne
    rfl
  · have hm := all_may h
    have hr : refL (textL l) = l := by
      unfold refL
      rw [pieces_text h hne, List.map_map]
      have e : l.reverse.map (placeF ∘ plB) = l.reverse := by
        conv => rhs; rw [← List.map_id l.reverse]
        exact List.map_congr_left (fun p hp => place_plB (hm p (List.mem_reverse.1 hp)))
      rw [e, List.reverse_reverse]
    have hok : refOk (textL l) = true := by
      unfold refOk
      rw [hr, h]
      have := textL_eq l
      rw [if_pos h] at this
      rw [← this]
      simp
    have := parse_eq ⟨(textL l).toArray⟩
    simp only at this
    rw [this, hok, if_pos rfl, hr]
/-- of unlike stacks the texts are unlike -/
theorem text_inj {l m : List Pl} (h : checkN l = 0) (h' : checkN m = 0) (e : textL l = textL m) : l = m := by
  have h1 := back_text h
  rw [e, back_text h'] at h1
  exact (Option.some.inj h1).symm
theorem jn_short (c : Nat) : ∀ xs : List (List UInt8), (∀ x ∈ xs, x.length ≤ c) → (jn xs).length ≤ (c + 3) * xs.length
  | [], _ => by simp [jn]
  | [x], h => by have := h x (by simp); simp [jn]; omega
  | x :: y :: xs, h => by
    have h1 := h x (by simp)
    have h2 := jn_short c (y :: xs) (fun z hz => h z (List.mem_cons_of_mem _ hz))
    rw [jn_cons _ (by simp), List.length_append, List.length_append]
    have : sepL.length = 3 := rfl
    simp only [List.length_cons] at h2 ⊢
    rw [Nat.mul_add, Nat.mul_add] at *
    omega
theorem itoa_len7 (k : Int) (h0 : 0 ≤ k) (h1 : k ≤ 1048576) : (Lib.itoa k).length ≤ 7 := by
  obtain ⟨u, rfl⟩ : ∃ u : Nat, k = u := ⟨k.toNat, by omega⟩
  have e : Lib.itoa (u : Int) = decDigits u := by simp [Lib.itoa]
  rw [e]
  exact dec_len7 u (by omega)
theorem text_short {l : List Pl} (h : checkN l = 0) : (textL l).length ≤ 65536 := by
  have hm := all_may h
  have h64 := (check_all h).2
  rw [textL_eq, if_pos h]
  have := jn_short 128 (l.reverse.map plB) (fun x hx => by
    obtain ⟨p, hp, rfl⟩ := List.mem_map.1 hx
    obtain ⟨h0, h1, h2⟩ := may_bd (hm p (List.mem_reverse.1 hp))
    have h3 := itoa_len7 p.k h1 h2
    have h4 : p.n.data.toList.length = p.n.size := Array.length_toList
    simp only [plB, List.length_append, List.length_singleton, h4]
    omega)
  rw [List.length_map, List.length_reverse] at this
  omega
theorem check_slim {l : List Pl} (h : checkN l = 0) : Slim l := fun p hp => by
  have := all_may h p hp
  unfold mayB edgeB at this
  simp only [Bool.and_eq_true, Bool.not_eq_true', Bool.or_eq_false_iff, decide_eq_false_iff_not] at this
  omega
end Go.Proofs.YtbldeiejlebbiaaDoor.T
