/-
  Plain: both readings of a text are one; both texts of a stack are one.
-/
import Derived.Test.YtbldeiejlebbiaaDoorPlaceSame
set_option linter.unusedVariables false
namespace Go.Proofs.YtbldeiejlebbiaaDoor.T
open Go Go.Lib

def pcsOf (s : List UInt8) : List (List UInt8) := if s = [] then [] else spl s.length s
def goP : List Pl → List (List UInt8) → Option (List Pl)
  | acc, [] => some acc
  | acc, q :: qs => match parseOne ⟨q.toArray⟩ with
    | none => none
    | some p => if acc.length = 64 then none else goP (acc ++ [p]) qs
theorem sep_eq : sepB.data.toList = sepL := rfl
theorem parseF_go : ∀ (f : Nat) (t : List UInt8) (acc : List Pl), t.length ≤ f → parseF (f + 1) ⟨t.toArray⟩ acc = goP acc (spl f t)
  | 0, t, acc, h => by
    have : t = [] := List.eq_nil_of_length_eq_zero (by omega)
    subst this
    have e1 : cutA ⟨([] : List UInt8).toArray⟩ sepB = ⟨([] : List UInt8).toArray⟩ := by decide +kernel
    have e2 : cutC ⟨([] : List UInt8).toArray⟩ sepB = false := by decide +kernel
    rw [parseF, e1, e2]
    rfl
  | f + 1, t, acc, h => by
    have hA : cutA ⟨t.toArray⟩ sepB = ⟨(Lib.cut t sepL).1.toArray⟩ := rfl
    have hB : cutB ⟨t.toArray⟩ sepB = ⟨(Lib.cut t sepL).2.1.toArray⟩ := rfl
    have hC : cutC ⟨t.toArray⟩ sepB = (Lib.cut t sepL).2.2 := rfl
    rw [parseF, hA, hB, hC]
    unfold spl Lib.cut
    by_cases hi : 0 ≤ index t sepL
    · have h3 : sepL.length = 3 := rfl
      rw [if_pos hi, if_pos hi, h3]
      simp only [goP]
      cases hp : parseOne ⟨(t.take (index t sepL).toNat).toArray⟩ with
      | none => rfl
      | some p =>
        simp only
        split
        · rfl
        · rw [if_pos trivial]
          have hr := index_room t sepL hi
          rw [h3] at hr
          exact parseF_go f _ _ (by rw [List.length_drop]; omega)
    · rw [if_neg hi, if_neg hi]
      simp only [goP]
      cases hp : parseOne ⟨t.toArray⟩ with
      | none => rfl
      | some p =>
        simp only
        split
        · rfl
        · rw [if_neg (by decide)]
theorem goP_some : ∀ (qs : List (List UInt8)) (acc r : List Pl), acc.length ≤ 64 → goP acc qs = some r → ∃ ps, r = acc ++ ps ∧ qs = ps.map plB ∧ (∀ p ∈ ps, mayB p = true) ∧ r.length ≤ 64
  | [], acc, r, ha, h => by
    simp only [goP] at h
    obtain rfl := Option.some.inj h
    exact ⟨[], by simp, rfl, (fun p hp => by cases hp), ha⟩
  | q :: qs, acc, r, ha, h => by
    simp only [goP] at h
    cases hp : parseOne ⟨q.toArray⟩ with
    | none => rw [hp] at h; cases h
    | some p =>
      rw [hp] at h
      simp only at h
      by_cases h64 : acc.length = 64
      · rw [if_pos h64] at h; cases h
      · rw [if_neg h64] at h
        obtain ⟨ps, h1, h2, h3, h4⟩ := goP_some qs (acc ++ [p]) r (by simp; omega) h
        obtain ⟨e1, e2⟩ := of_parse hp
        refine ⟨p :: ps, by rw [h1]; simp, by rw [h2, List.map_cons, e1], fun x hx => ?_, h4⟩
        rcases List.mem_cons.1 hx with rfl | hx
        · exact e2
        · exact h3 x hx
theorem goP_may : ∀ (ps acc : List Pl), (∀ p ∈ ps, mayB p = true) → acc.length + ps.length ≤ 64 → goP acc (ps.map plB) = some (acc ++ ps)
  | [], acc, _, _ => by simp [goP]
  | p :: ps, acc, h, hl => by
    simp only [List.map_cons, goP]
    rw [parse_plB (h p (by simp))]
    simp only
    simp only [List.length_cons] at hl
    rw [if_neg (by omega), goP_may ps (acc ++ [p]) (fun x hx => h x (List.mem_cons_of_mem _ hx)) (by simp; omega)]
    simp
theorem check_zero {l : List Pl} (h : ∀ p ∈ l, mayB p = true) (hl : l.length ≤ 64) : checkN l = 0 := by
  unfold checkN
  rw [if_pos (List.all_eq_true.2 h), if_neg (by omega)]
theorem all_may {l : List Pl} (h : checkN l = 0) : ∀ p ∈ l, mayB p = true := List.all_eq_true.1 (check_all h).1
/-- what the document reads: the places that the pieces seem to be, the innermost last -/
def refL (s : List UInt8) : List Pl := ((pcsOf s).map placeF).reverse
def refOk (s : List UInt8) : Bool := checkN (refL s) == 0 && jn ((refL s).reverse.map plB) == s
theorem parse_eq (s : ByteArray) : parseL s = if refOk s.data.toList = true then some (refL s.data.toList) else none := by
  obtain ⟨⟨s⟩⟩ := s
  show parseL ⟨s.toArray⟩ = if refOk s = true then some (refL s) else none
  by_cases h0 : s = []
  · subst h0
    have e1 : parseL ⟨([] : List UInt8).toArray⟩ = some [] := rfl
    have e2 : refOk [] = true := by decide +kernel
    rw [e1, e2]; rfl
  · have hz : (⟨s.toArray⟩ : ByteArray).size = s.length := List.size_toArray
    have hne : s.length ≠ 0 := by intro e; exact h0 (List.eq_nil_of_length_eq_zero e)
    have hR : parseR ⟨s.toArray⟩ = goP [] (spl s.length s) := by
      unfold parseR
      rw [hz, if_neg hne]
      exact parseF_go _ _ _ (Nat.le_refl _)
    have hP : pcsOf s = spl s.length s := by unfold pcsOf; rw [if_neg h0]
    have hj := jn_spl s.length s
    have hspl := spl_ne s.length s
    unfold parseL
    rw [hR]
    rw [← hP] at hj hspl ⊢
    cases hg : goP [] (pcsOf s) with
    | some r =>
      obtain ⟨ps, h1, h2, h3, h4⟩ := goP_some _ _ _ (by simp) hg
      rw [List.nil_append] at h1
      subst h1
      have hl : refL s = r.reverse := by
        unfold refL
        rw [h2, List.map_map]
        congr 1
        have : (placeF ∘ plB) = fun p => placeF (plB p) := rfl
        rw [this]
        conv => rhs; rw [← List.map_id r]
        exact List.map_congr_left (fun p hp => place_plB (h3 p hp))
      have hok : refOk s = true := by
        unfold refOk
        rw [hl, List.reverse_reverse, ← h2, hj, check_zero (fun p hp => h3 p (List.mem_reverse.1 hp)) (by simpa using h4)]
        simp
      rw [hok, if_pos rfl, hl]; rfl
    | none =>
      have hno : refOk s = false := by
        cases hok : refOk s with
        | false => rfl
        | true =>
          exfalso
          unfold refOk at hok
          rw [Bool.and_eq_true, beq_iff_eq, beq_iff_eq] at hok
          obtain ⟨k1, k2⟩ := hok
          have hm := all_may k1
          have h64 := (check_all k1).2
          have hrl : (refL s).reverse = (pcsOf s).map placeF := by unfold refL; rw [List.reverse_reverse]
          rw [hrl] at k2
          have hm2 : ∀ p ∈ (pcsOf s).map placeF, mayB p = true := fun p hp => hm p (by unfold refL; exact List.mem_reverse.2 hp)
          have hl64 : ((pcsOf s).map placeF).length ≤ 64 := by
            have e : (refL s).length = ((pcsOf s).map placeF).length := by unfold refL; rw [List.length_reverse]
            omega
          have hsp := spl_jn s.length (((pcsOf s).map placeF).map plB) (by simpa using hspl) (by
            intro x hx
            obtain ⟨p, hp, rfl⟩ := List.mem_map.1 hx
            exact plB_noBl (hm2 p hp)) (by
            have := jn_len (((pcsOf s).map placeF).map plB)
            rw [k2] at this
            exact this)
          rw [k2, ← hP] at hsp
          have hgo := goP_may ((pcsOf s).map placeF) [] hm2 (by simpa using hl64)
          rw [← hsp, hg] at hgo
          cases hgo
      rw [hno]; rfl
/-! ### both texts of a stack -/
theorem txt_dn (l : List Pl) : ∀ k, k ≤ l.length → txt (dn l k) = jn ((l.take k).reverse.map plB)
  | 0, _ => rfl
  | k + 1, h => by
    have ih := txt_dn l k (by omega)
    have hx : l[k]? = some l[k] := List.getElem?_eq_getElem (by omega)
    have hd : dn l (k + 1) = (k, l[k]) :: dn l k := by
      rw [dn]
      congr 2
      simp [List.getD, hx]
    have e : txt ((k, l[k]) :: dn l k) = tx1 (k, l[k]) ++ txt (dn l k) := rfl
    rw [hd, e, ih, List.take_add_one, hx]
    simp only [Option.toList, List.reverse_append, List.reverse_cons, List.reverse_nil, List.nil_append, List.singleton_append, List.map_cons]
    unfold tx1
    by_cases h0 : k = 0
    · subst h0
      simp [jn, plB]
    · rw [if_neg h0, jn_cons _ (by
        intro e
        have hlen : ((l.take k).reverse.map plB).length = k := by rw [List.length_map, List.length_reverse, List.length_take]; omega
        rw [e] at hlen
        simp at hlen
        omega)]
      simp [plB, sep_eq]
theorem textL_eq (l : List Pl) : textL l = if checkN l = 0 then jn (l.reverse.map plB) else [] := by
  unfold textL
  rw [txt_dn l l.length (Nat.le_refl _), List.take_length]
end Go.Proofs.YtbldeiejlebbiaaDoor.T
