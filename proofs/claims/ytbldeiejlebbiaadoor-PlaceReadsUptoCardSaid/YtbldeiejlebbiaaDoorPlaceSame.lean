/-
  Plain: what place.Parse reads is what the document's own reading says.
-/
import Derived.Lib.AtoiTie
import Derived.Test.YtbldeiejlebbiaaDoorPlaceSplit
import Derived.Test.YtbldeiejlebbiaaDoorPlaceAlive
set_option linter.unusedVariables false
namespace Go.Proofs.YtbldeiejlebbiaaDoor.T
open Go Go.Lib

/-! ### one place -/
def plB (p : Pl) : List UInt8 := p.n.data.toList ++ [58] ++ Lib.itoa p.k
def colAt (q : List UInt8) : Nat := q.findIdx (· == 58)
def placeF (q : List UInt8) : Pl := ⟨⟨(q.take (colAt q)).toArray⟩, (val10 ((q.drop (colAt q + 1)).take 8) : Int)⟩
theorem name_bytes {p : Pl} (h : mayB p = true) : ∀ b ∈ p.n.data.toList, 33 ≤ b.toNat ∧ b.toNat ≠ 58 := by
  unfold mayB at h
  rw [Bool.and_eq_true] at h
  intro b hb
  obtain ⟨i, hi, rfl⟩ := List.getElem_of_mem hb
  have hs : i < p.n.size := by
    have e : p.n.data.toList.length = p.n.size := rfl
    omega
  have hok := okTo_all _ _ h.2 i hs
  have e : bt p.n i = (p.n.data.toList[i]).toNat := by
    rw [bt_get _ _ hs]
    show (p.n.data[i]).toNat = _
    rw [Array.getElem_toList]
  rw [e] at hok
  generalize (p.n.data.toList[i]).toNat = c at *
  unfold okB at hok
  simp at hok
  omega
theorem itoa_nat {k : Int} (h : 0 ≤ k) : Lib.itoa k = decDigits k.toNat := by
  unfold Lib.itoa
  rw [if_neg (by omega)]
theorem findIdx_app {x r : List UInt8} (h : ∀ b ∈ x, b.toNat ≠ 58) : (x ++ [58] ++ r).findIdx (· == 58) = x.length := by
  induction x with
  | nil => simp [List.findIdx_cons]
  | cons a x ih =>
    have ha : (a == 58) = false := by
      rw [beq_eq_false_iff_ne]
      intro e
      exact h a (by simp) (by rw [e]; rfl)
    have := ih (fun b hb => h b (List.mem_cons_of_mem _ hb))
    simp only [List.cons_append, List.findIdx_cons, ha, cond_false]
    rw [this, List.length_cons]
theorem place_plB {p : Pl} (h : mayB p = true) : placeF (plB p) = p := by
  obtain ⟨n, k⟩ := p
  obtain ⟨_, h1, h2⟩ := may_bd h
  have hn := name_bytes h
  simp only at h1 h2 hn
  have hc : colAt (plB ⟨n, k⟩) = n.data.toList.length := findIdx_app (r := Lib.itoa k) (fun b hb => (hn b hb).2)
  have hd : (plB ⟨n, k⟩).drop (n.data.toList.length + 1) = Lib.itoa k := by
    unfold plB
    rw [List.append_assoc, ← List.drop_drop, List.drop_left]; rfl
  have ht : (plB ⟨n, k⟩).take n.data.toList.length = n.data.toList := by
    unfold plB
    rw [List.append_assoc, List.take_left]
  have hi := itoa_nat h1
  have h7 := dec_len7 k.toNat (by omega)
  unfold placeF
  rw [hc, hd, ht, hi, List.take_of_length_le (by omega), val10_dec]
  congr 1
  omega
theorem decFrom_digits : ∀ (l : List UInt8) (acc : Nat), (∀ b ∈ l, 48 ≤ b.toNat ∧ b.toNat ≤ 57) → Lib.decFrom acc l = some (l.foldl (fun a b => 10 * a + b.toNat % 16) acc)
  | [], acc, _ => rfl
  | b :: r, acc, h => by
    have hb := h b (by simp)
    rw [Lib.decFrom, Lib.digitVal, if_pos hb]
    show Lib.decFrom (acc * 10 + (b.toNat - 48)) r = _
    rw [decFrom_digits r _ (fun c hc => h c (List.mem_cons_of_mem _ hc)), List.foldl_cons]
    congr 2
    omega
theorem atV_itoa {k : Int} (h0 : 0 ≤ k) (h1 : k ≤ 1048576) : atV (itB k) = some k := by
  have hi := itoa_nat h0
  have hb := dec_bytes k.toNat
  have hne := dec_ne k.toNat
  have hl := dec_len7 k.toNat (by omega)
  have hv := val10_dec k.toNat
  have e : (itB k).data.toList = decDigits k.toNat := by
    show Lib.itoa k = _
    exact hi
  unfold atV
  rw [e]
  generalize decDigits k.toNat = l at *
  cases l with
  | nil => exact absurd rfl hne
  | cons c r =>
    have hc := hb c (by simp)
    rw [Lib.atoiAll_plain c r (by omega) (by omega), Lib.signless_short (by omega)]
    unfold Lib.decNat
    rw [if_neg (by simp), decFrom_digits _ _ hb]
    have : (c :: r).foldl (fun a b => 10 * a + b.toNat % 16) 0 = k.toNat := hv
    rw [this]
    simp [Lib.NumEnd.ofOption]
    omega
/-- cut at a byte -/
theorem cut_col {x r : List UInt8} (h : ∀ b ∈ x, b.toNat ≠ 58) : Lib.cut (x ++ [58] ++ r) [58] = (x, r, true) := by
  have hi : index (x ++ [58] ++ r) [58] = x.length := by
    refine index_first (by simp) ?_ (fun j hj => ?_)
    · unfold occAt
      rw [List.isPrefixOf_iff_prefix, List.append_assoc, List.drop_left]
      exact ⟨r, rfl⟩
    · cases ho : occAt (x ++ [58] ++ r) [58] j with
      | false => rfl
      | true =>
        unfold occAt at ho
        rw [List.isPrefixOf_iff_prefix] at ho
        obtain ⟨t, ht⟩ := ho
        have h1 : ((x ++ [58] ++ r).drop j)[0]? = some 58 := by rw [← ht]; rfl
        rw [List.getElem?_drop, Nat.add_zero, List.append_assoc, List.getElem?_append_left hj] at h1
        exact absurd rfl (h 58 (List.mem_of_getElem? h1))
  unfold Lib.cut
  rw [hi, if_pos (by omega), Int.toNat_natCast]
  have e1 : (x ++ [58] ++ r).take x.length = x := by rw [List.append_assoc, List.take_left]
  have e2 : (x ++ [58] ++ r).drop (x.length + [(58 : UInt8)].length) = r := by
    rw [← List.drop_drop, List.append_assoc, List.drop_left]; rfl
  rw [e1, e2]
theorem parse_plB {p : Pl} (h : mayB p = true) : parseOne ⟨(plB p).toArray⟩ = some p := by
  obtain ⟨n, k⟩ := p
  obtain ⟨_, h1, h2⟩ := may_bd h
  have hn := name_bytes h
  simp only at h1 h2 hn
  have hcut : Lib.cut (⟨(plB ⟨n, k⟩).toArray⟩ : ByteArray).data.toList (⟨#[58]⟩ : ByteArray).data.toList = (n.data.toList, Lib.itoa k, true) := cut_col (fun b hb => (hn b hb).2)
  have eA : cutA ⟨(plB ⟨n, k⟩).toArray⟩ ⟨#[58]⟩ = n := by
    unfold cutA; rw [hcut]
  have eB : cutB ⟨(plB ⟨n, k⟩).toArray⟩ ⟨#[58]⟩ = itB k := by
    unfold cutB; rw [hcut]; rfl
  unfold parseOne
  rw [eA, eB, atV_itoa h1 h2]
  simp only [BEq.rfl, Bool.true_eq_false, if_false, h, if_true]
theorem ba_ext {a b : ByteArray} (h : a.data.toList = b.data.toList) : a = b := by
  obtain ⟨⟨x⟩⟩ := a
  obtain ⟨⟨y⟩⟩ := b
  have : x = y := h
  rw [this]
theorem of_parse {q : List UInt8} {p : Pl} (h : parseOne ⟨q.toArray⟩ = some p) : plB p = q ∧ mayB p = true := by
  unfold parseOne at h
  cases hv : atV (cutB ⟨q.toArray⟩ ⟨#[58]⟩) with
  | none => rw [hv] at h; cases h
  | some v =>
    rw [hv] at h
    simp only at h
    by_cases he : ((itB v).toList == (cutB ⟨q.toArray⟩ ⟨#[58]⟩).toList) = false
    · rw [if_pos he] at h; cases h
    · rw [if_neg he] at h
      by_cases hm : mayB ⟨cutA ⟨q.toArray⟩ ⟨#[58]⟩, v⟩ = true
      · rw [if_pos hm] at h
        obtain rfl := Option.some.inj h
        refine ⟨?_, hm⟩
        have hd : Lib.itoa v = (cutB ⟨q.toArray⟩ ⟨#[58]⟩).data.toList := by
          have : (itB v).toList = (cutB ⟨q.toArray⟩ ⟨#[58]⟩).toList := by simpa using he
          rw [ByteArray.toList_eq, ByteArray.toList_eq] at this
          exact this
        unfold plB
        simp only
        rw [hd]
        have hb : cutB ⟨q.toArray⟩ ⟨#[58]⟩ = ⟨(Lib.cut q [58]).2.1.toArray⟩ := rfl
        have ha : cutA ⟨q.toArray⟩ ⟨#[58]⟩ = ⟨(Lib.cut q [58]).1.toArray⟩ := rfl
        rw [hb] at hv ⊢
        rw [ha]
        rcases index_spec q [58] with ⟨hi, _⟩ | ⟨i, hi, _, ho, _⟩
        · exfalso
          unfold Lib.cut at hv
          rw [hi, if_neg (by decide)] at hv
          have : atV ⟨([] : List UInt8).toArray⟩ = none := by decide +kernel
          rw [this] at hv
          cases hv
        · unfold Lib.cut
          rw [hi, if_pos (by omega), Int.toNat_natCast]
          unfold occAt at ho
          rw [List.isPrefixOf_iff_prefix] at ho
          obtain ⟨t, ht⟩ := ho
          show q.take i ++ [58] ++ q.drop (i + [(58 : UInt8)].length) = q
          rw [← List.drop_drop, ← ht, List.drop_left, List.append_assoc, ht, List.take_append_drop]
      · rw [if_neg hm] at h; cases h
theorem plB_noBl {p : Pl} (h : mayB p = true) : noBl (plB p) := by
  obtain ⟨_, h1, h2⟩ := may_bd h
  intro b hb
  unfold plB at hb
  rcases List.mem_append.1 hb with hb | hb
  · rcases List.mem_append.1 hb with hb | hb
    · have := name_bytes h b hb
      intro e; subst e; simp at this
    · have := List.mem_singleton.1 hb
      subst this; decide
  · rw [itoa_nat h1] at hb
    have := dec_bytes _ b hb
    intro e; subst e; simp at this
theorem plB_ne (p : Pl) : plB p ≠ [] := by unfold plB; simp
end Go.Proofs.YtbldeiejlebbiaaDoor.T
