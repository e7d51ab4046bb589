/-
  PLAIN: unlike texts are shown unlike; what is shown, and what stands in quotes, is runes, none of them below 20 or 7F.
-/
import Derived.Test.YteegnmblbjcfpaaDoorTextPlainBack
set_option linter.unusedVariables false
namespace Go.Proofs.YteegnmblbjcfpaaDoor.T
open Go Go.Lib Go.RowKit Go.Shelf

/-! ### nothing is lost -/
/-- what a shown text is of -/
def dS : Nat → List UInt8 → List UInt8
  | 0, _ => []
  | _, [] => []
  | f + 1, c :: R => if c = 92 then (match R with
      | 120 :: a :: b :: R' => UInt8.ofNat (16 * (digI a.toNat).toNat + (digI b.toNat).toNat) :: dS f R'
      | d :: R' => d :: dS f R'
      | [] => []) else c :: dS f R
theorem dS_ne (f : Nat) (c : UInt8) (R : List UInt8) (h : ¬ c = 92) : dS (f + 1) (c :: R) = c :: dS f R := by
  conv => lhs; unfold dS
  exact if_neg h
theorem dS_plain : ∀ (X : List UInt8), (∀ b ∈ X, ¬ b = 92) → ∀ (f : Nat) (R : List UInt8), dS (f + X.length) (X ++ R) = X ++ dS f R
  | [], _, f, R => rfl
  | b :: X, h, f, R => by
    show dS ((f + X.length) + 1) (b :: (X ++ R)) = b :: (X ++ dS f R)
    rw [dS_ne _ _ _ (h b (by simp)), dS_plain X (fun y hy => h y (by simp [hy])) f R]
theorem dS_hex (a b : Nat) (ha : a < 16) (hb : b < 16) (f : Nat) (R : List UInt8) : dS (f + 1) (92 :: 120 :: UInt8.ofNat (hexd a) :: UInt8.ofNat (hexd b) :: R) = UInt8.ofNat (16 * a + b) :: dS f R := by
  have ka := hexd_lt a ha
  have kb := hexd_lt b hb
  have e : dS (f + 1) (92 :: 120 :: UInt8.ofNat (hexd a) :: UInt8.ofNat (hexd b) :: R) = UInt8.ofNat (16 * (digI (UInt8.ofNat (hexd a)).toNat).toNat + (digI (UInt8.ofNat (hexd b)).toNat).toNat) :: dS f R := rfl
  rw [e, UInt8.toNat_ofNat', Nat.mod_eq_of_lt ka, UInt8.toNat_ofNat', Nat.mod_eq_of_lt kb, digI_hexd a _ ha rfl, digI_hexd b _ hb rfl]
  simp
theorem dS_esc (f : Nat) (R : List UInt8) : dS (f + 1) (92 :: 92 :: R) = 92 :: dS f R := rfl
/-- THE THREE FORMS of a piece that is shown -/
theorem apQ_forms0 (u : ByteArray) (x : Nat × Int) (hx : x ∈ pcs u) :
    (∃ a b : Nat, a < 16 ∧ b < 16 ∧ apQ u false x = [92, 120, UInt8.ofNat (hexd a), UInt8.ofNat (hexd b)] ∧ (pieceS u x).data.toList = [UInt8.ofNat (16 * a + b)]) ∨
    (apQ u false x = [92, 92] ∧ (pieceS u x).data.toList = [92]) ∨
    ((∀ b ∈ apQ u false x, ¬ b = 92) ∧ (pieceS u x).data.toList = apQ u false x) := by
  have hc := bt_lt u x.1
  unfold apQ apL
  cases hh : hexR x.2 with
  | true =>
    left
    refine ⟨bt u x.1 / 16, bt u x.1 % 16, by omega, by omega, ?_, ?_⟩
    · simp [hexS, strOfNums_data]
    · rw [piece_hex u x hx hh, show 16 * (bt u x.1 / 16) + bt u x.1 % 16 = bt u x.1 by omega]
  | false =>
    right
    have hr : ¬ x.2 = -1 := by rintro e; rw [e] at hh; cases hh
    have hS := piece_enc u x hx hr
    by_cases h9 : x.2 = 92
    · left
      refine ⟨by simp [h9], ?_⟩
      rw [hS, h9]; decide
    · right
      have e : (if (false && decide (x.2 = 34)) = true then [92] else []) ++ (if (false : Bool) = true then (hexS (bt u x.1)).data.toList else if x.2 = 92 then [92, 92] else encodeRune x.2) = encodeRune x.2 := by simp [h9]
      rw [e]
      refine ⟨fun b hb => ?_, hS⟩
      by_cases h3 : x.2 = 34
      · rw [h3] at hb
        have : encodeRune 34 = [34] := by decide
        rw [this] at hb
        simp at hb; rw [hb]; decide
      · have := (enc_plain x.2 h3 h9 b hb).2
        intro e; rw [e] at this; exact this rfl
theorem dS_nil (f : Nat) : dS f [] = [] := by cases f <;> rfl
theorem dS_all (u : ByteArray) : ∀ (L : List (Nat × Int)), (∀ x ∈ L, x ∈ pcs u) → ∃ f0, ∀ f, f0 ≤ f → dS f (L.flatMap (apQ u false)) = L.flatMap (fun x => (pieceS u x).data.toList)
  | [], _ => ⟨0, fun f _ => dS_nil f⟩
  | x :: L, hL => by
    obtain ⟨f1, h1⟩ := dS_all u L (fun y hy => hL y (by simp [hy]))
    rw [List.flatMap_cons, List.flatMap_cons]
    generalize L.flatMap (apQ u false) = Y at *
    rcases apQ_forms0 u x (hL x (by simp)) with ⟨a, b, ha, hb, e, k⟩ | ⟨e, k⟩ | ⟨hX, k⟩
    · rw [e, k]
      refine ⟨f1 + 1, fun f hf => ?_⟩
      obtain ⟨j, rfl⟩ : ∃ j, f = j + 1 := ⟨f - 1, by omega⟩
      rw [← h1 j (by omega)]
      exact dS_hex a b ha hb j Y
    · rw [e, k]
      refine ⟨f1 + 1, fun f hf => ?_⟩
      obtain ⟨j, rfl⟩ : ∃ j, f = j + 1 := ⟨f - 1, by omega⟩
      rw [← h1 j (by omega)]
      exact dS_esc j Y
    · rw [k]
      refine ⟨f1 + (apQ u false x).length, fun f hf => ?_⟩
      obtain ⟨j, rfl⟩ : ∃ j, f = j + (apQ u false x).length := ⟨f - (apQ u false x).length, by omega⟩
      rw [← h1 j (by omega)]
      exact dS_plain _ hX j Y
/-- UNLIKE TEXTS ARE SHOWN UNLIKE -/
theorem show_inj (s t : ByteArray) (h : shT s false (pcs s) = shT t false (pcs t)) : s = t := by
  obtain ⟨f1, h1⟩ := dS_all s (pcs s) (fun _ h => h)
  obtain ⟨f2, h2⟩ := dS_all t (pcs t) (fun _ h => h)
  rw [pieces_all] at h1 h2
  unfold shT at h
  have k1 := h1 (max f1 f2) (by omega)
  have k2 := h2 (max f1 f2) (by omega)
  rw [h] at k1
  exact ba_ext (k1.symm.trans k2)

/-! ### what is shown is runes -/
theorem dec_enc (r n b0 b1 b2 b3 : Nat) (hv : mayN r = true) (hn : (codedN r).length ≤ n) (hb : codedN r = [b0, b1, b2, b3].take (codedN r).length) : decodeN n b0 b1 b2 b3 = (r, (codedN r).length) := by
  unfold mayN at hv
  simp at hv
  unfold codedN at hn hb ⊢
  unfold decodeN
  by_cases h1 : r < 128
  · rw [if_pos h1] at hn hb ⊢
    simp at hb
    subst hb
    rw [if_pos h1]; rfl
  rw [if_neg h1] at hn hb ⊢
  by_cases h2 : r < 2048
  · rw [if_pos h2] at hn hb ⊢
    simp at hn hb
    obtain ⟨e0, e1⟩ := hb
    rw [if_neg (by omega), if_pos ⟨by omega, by omega, by omega⟩, if_pos (by omega)]
    simp; omega
  rw [if_neg h2] at hn hb ⊢
  by_cases h3 : r < 65536
  · rw [if_pos h3] at hn hb ⊢
    simp at hn hb
    obtain ⟨e0, e1, e2⟩ := hb
    rw [if_neg (by omega), if_neg (by omega), if_pos ⟨by omega, ⟨by omega, by omega⟩, by omega, by omega⟩, if_pos (by omega)]
    simp; omega
  rw [if_neg h3] at hn hb ⊢
  simp at hn hb
  obtain ⟨e0, e1, e2, e3⟩ := hb
  rw [if_neg (by omega), if_neg (by omega), if_neg (by omega), if_pos ⟨by omega, ⟨by omega, by omega⟩, ⟨by omega, by omega⟩, by omega, by omega⟩, if_pos (by omega)]
  simp; omega
theorem codedN_len (r : Nat) : 1 ≤ (codedN r).length ∧ (codedN r).length ≤ 4 := by
  unfold codedN; (repeat' split) <;> simp
/-- a rune's form at a place is taken as the rune -/
theorem pc_enc (s : ByteArray) (p r : Nat) (hv : mayN r = true) (R : List UInt8) (h : At s p ((codedN r).map UInt8.ofNat) R) : pc s p = ((r : Int), (codedN r).length) := by
  have hl := codedN_len r
  have hlt := codedN_lt r (by unfold mayN at hv; simp at hv; omega)
  have hb : codedN r = [bt s p, bt s (p + 1), bt s (p + 2), bt s (p + 3)].take (codedN r).length := by
    generalize codedN r = L at *
    match L, hl, hlt, h with
    | [], hl, _, _ => simp at hl
    | [a], _, hlt, h =>
      obtain ⟨_, e0, _⟩ := h.head
      rw [UInt8.toNat_ofNat', Nat.mod_eq_of_lt (hlt a (by simp))] at e0
      simp [e0]
    | [a, b], _, hlt, h =>
      obtain ⟨_, e0, h1⟩ := h.head
      obtain ⟨_, e1, _⟩ := At.head h1
      rw [UInt8.toNat_ofNat', Nat.mod_eq_of_lt (hlt a (by simp))] at e0
      rw [UInt8.toNat_ofNat', Nat.mod_eq_of_lt (hlt b (by simp))] at e1
      simp [e0, e1]
    | [a, b, c], _, hlt, h =>
      obtain ⟨_, e0, h1⟩ := h.head
      obtain ⟨_, e1, h2⟩ := At.head h1
      obtain ⟨_, e2, _⟩ := At.head h2
      rw [UInt8.toNat_ofNat', Nat.mod_eq_of_lt (hlt a (by simp))] at e0
      rw [UInt8.toNat_ofNat', Nat.mod_eq_of_lt (hlt b (by simp))] at e1
      rw [UInt8.toNat_ofNat', Nat.mod_eq_of_lt (hlt c (by simp))] at e2
      have e2' : bt s (p + 2) = c := e2
      simp [e0, e1, e2']
    | [a, b, c, d], _, hlt, h =>
      obtain ⟨_, e0, h1⟩ := h.head
      obtain ⟨_, e1, h2⟩ := At.head h1
      obtain ⟨_, e2, h3⟩ := At.head h2
      obtain ⟨_, e3, _⟩ := At.head h3
      rw [UInt8.toNat_ofNat', Nat.mod_eq_of_lt (hlt a (by simp))] at e0
      rw [UInt8.toNat_ofNat', Nat.mod_eq_of_lt (hlt b (by simp))] at e1
      rw [UInt8.toNat_ofNat', Nat.mod_eq_of_lt (hlt c (by simp))] at e2
      rw [UInt8.toNat_ofNat', Nat.mod_eq_of_lt (hlt d (by simp))] at e3
      have e2' : bt s (p + 2) = c := e2
      have e3' : bt s (p + 3) = d := e3
      simp [e0, e1, e2', e3']
    | a :: b :: c :: d :: e :: L, hl, _, _ => simp at hl
  have hp : p < s.size := by
    cases hL : codedN r with
    | nil => rw [hL] at hl; simp at hl
    | cons a L => rw [hL] at h; exact (At.head h).1
  have hz := h.size (by omega)
  simp at hz
  have hd : Utf8.decode s p = (r, (codedN r).length) := by
    rw [decode_at]
    exact dec_enc r _ _ _ _ _ hv (by omega) hb
  unfold pc
  rw [hd]
  split
  · rename_i e
    simp only [Prod.mk.injEq] at e
    obtain ⟨rfl, e2⟩ := e
    exact absurd e2 (by decide)
  · rfl
theorem enc_coded (r : Nat) (hv : mayN r = true) : encodeRune (r : Int) = (codedN r).map UInt8.ofNat := by
  unfold encodeRune
  rw [encZ_N r hv, List.map_map]
  apply List.map_congr_left
  intro y _
  simp
/-- a text that is runes' forms, one behind the other, is taken as these runes -/
theorem pcs_enc (t : ByteArray) : ∀ (L : List Nat) (p : Nat), (∀ r ∈ L, mayN r = true) → t.data.toList.drop p = L.flatMap (fun r => (codedN r).map UInt8.ofNat) → ∀ x ∈ pcsFrom t p, ∃ r ∈ L, x.2 = ((r : Nat) : Int)
  | [], p, _, h, x, hx => by
    have hp : ¬ p < t.size := by
      intro hp
      have := congrArg List.length h
      simp at this
      have e : t.data.size = t.size := rfl
      omega
    rw [pcsFrom_end t p hp] at hx; cases hx
  | r :: L, p, hv, h, x, hx => by
    have hA : At t p ((codedN r).map UInt8.ofNat) (L.flatMap (fun r => (codedN r).map UInt8.ofNat)) := by unfold At; rw [h, List.flatMap_cons]
    have hpc := pc_enc t p r (hv r (by simp)) _ hA
    have hp : p < t.size := by
      have hl := codedN_len r
      cases hL : codedN r with
      | nil => rw [hL] at hl; simp at hl
      | cons a M => rw [hL] at hA; exact (At.head hA).1
    rw [pcsFrom_step t p hp, hpc] at hx
    rcases List.mem_cons.1 hx with rfl | hx
    · exact ⟨r, by simp, rfl⟩
    · have hs := hA.skip
      rw [List.length_map] at hs
      have := pcs_enc t L (p + (codedN r).length) (fun y hy => hv y (by simp [hy])) (by simpa [At] using hs) x hx
      obtain ⟨y, hy, e⟩ := this
      exact ⟨y, by simp [hy], e⟩
theorem may_dec (n b0 b1 b2 b3 : Nat) (h0 : b0 < 256) (h1 : b1 < 256) (h2 : b2 < 256) (h3 : b3 < 256) (hne : ¬ decodeN n b0 b1 b2 b3 = (65533, 1)) : mayN (decodeN n b0 b1 b2 b3).1 = true := by
  unfold decodeN at hne ⊢
  unfold mayN
  (repeat' split) <;> simp_all <;> omega
theorem pc_may (s : ByteArray) (p : Nat) (h : ¬ (pc s p).1 = -1) : mayN (pc s p).1.toNat = true ∧ 0 ≤ (pc s p).1 := by
  have hne : ¬ Utf8.decode s p = (65533, 1) := fun e => h (by rw [pc_brk s p e])
  rw [pc_run s p hne]
  simp only [Int.toNat_natCast]
  refine ⟨?_, by omega⟩
  rw [decode_at] at hne ⊢
  exact may_dec _ _ _ _ _ (bt_lt s p) (bt_lt s (p + 1)) (bt_lt s (p + 2)) (bt_lt s (p + 3)) hne
/-- a rune that may be shown as itself -/
def fair (r : Nat) : Prop := mayN r = true ∧ 32 ≤ r ∧ ¬ r = 127
theorem hexd_fair (a : Nat) (h : a < 16) : fair (hexd a) := by
  unfold fair mayN hexd; split <;> simp <;> omega
theorem one_coded (r : Nat) (h : r < 128) : (codedN r).map UInt8.ofNat = [UInt8.ofNat r] := by unfold codedN; rw [if_pos h]; rfl
theorem apQ_runes (u : ByteArray) (q : Bool) (x : Nat × Int) (hx : x ∈ pcs u) : ∃ L : List Nat, (∀ r ∈ L, fair r) ∧ apQ u q x = L.flatMap (fun r => (codedN r).map UInt8.ofNat) := by
  have hc := bt_lt u x.1
  have f92 : fair 92 := by unfold fair mayN; decide
  have f34 : fair 34 := by unfold fair mayN; decide
  have f120 : fair 120 := by unfold fair mayN; decide
  unfold apQ apL
  cases hh : hexR x.2 with
  | true =>
    have n34 : ¬ x.2 = 34 := by rintro e; rw [e] at hh; cases hh
    have a1 := hexd_fair (bt u x.1 / 16) (by omega)
    have a2 := hexd_fair (bt u x.1 % 16) (by omega)
    have l1 : hexd (bt u x.1 / 16) < 128 := by unfold hexd; split <;> omega
    have l2 : hexd (bt u x.1 % 16) < 128 := by unfold hexd; split <;> omega
    refine ⟨[92, 120, hexd (bt u x.1 / 16), hexd (bt u x.1 % 16)], by simp [f92, f120, a1, a2], ?_⟩
    simp only [List.flatMap_cons, List.flatMap_nil, one_coded 92 (by omega), one_coded 120 (by omega), one_coded _ l1, one_coded _ l2]
    simp [n34, hexS, strOfNums_data]
  | false =>
    have hr : ¬ x.2 = -1 := by rintro e; rw [e] at hh; cases hh
    obtain ⟨hlt, h2⟩ := pcs_mem u x hx
    obtain ⟨hm, hn0⟩ := pc_may u x.1 (by rw [← h2]; exact hr)
    rw [← h2] at hm hn0
    have hf : fair x.2.toNat := by
      unfold hexR at hh; simp at hh
      exact ⟨hm, by omega, by omega⟩
    have he : encodeRune x.2 = (codedN x.2.toNat).map UInt8.ofNat := by
      have := enc_coded x.2.toNat hm
      rw [Int.toNat_of_nonneg hn0] at this; exact this
    by_cases h9 : x.2 = 92
    · refine ⟨[92, 92], by simp [f92], ?_⟩
      simp only [List.flatMap_cons, List.flatMap_nil, one_coded 92 (by omega)]
      simp [h9]
    · by_cases h3 : q = true ∧ x.2 = 34
      · refine ⟨[92, 34], by simp [f92, f34], ?_⟩
        simp only [List.flatMap_cons, List.flatMap_nil, one_coded 92 (by omega), one_coded 34 (by omega)]
        have k34 : encodeRune 34 = [34] := by decide
        simp [h3.1, h3.2, k34]
      · refine ⟨[x.2.toNat], by simp [hf], ?_⟩
        simp only [List.flatMap_cons, List.flatMap_nil, List.append_nil]
        rw [← he]
        have : (q && decide (x.2 = 34)) = false := by
          cases q
          · rfl
          · simp; exact fun e => h3 ⟨rfl, e⟩
        simp [this, h9]
theorem shT_runes (u : ByteArray) (q : Bool) : ∀ (M : List (Nat × Int)), (∀ x ∈ M, x ∈ pcs u) → ∃ L : List Nat, (∀ r ∈ L, fair r) ∧ shT u q M = L.flatMap (fun r => (codedN r).map UInt8.ofNat)
  | [], _ => ⟨[], by simp, rfl⟩
  | x :: M, h => by
    obtain ⟨L1, a1, b1⟩ := apQ_runes u q x (h x (by simp))
    obtain ⟨L2, a2, b2⟩ := shT_runes u q M (fun y hy => h y (by simp [hy]))
    refine ⟨L1 ++ L2, fun r hr => ?_, ?_⟩
    · rcases List.mem_append.1 hr with h | h
      · exact a1 r h
      · exact a2 r h
    · unfold shT at b2 ⊢
      rw [List.flatMap_cons, b1, b2, List.flatMap_append]
/-- WHAT IS SHOWN IS RUNES, none below 20 or 7F -/
theorem shown_fair (u : ByteArray) (x : Nat × Int) (hx : x ∈ pcs ⟨(shT u false (pcs u)).toArray⟩) : 32 ≤ x.2 ∧ ¬ x.2 = 127 := by
  obtain ⟨L, a, b⟩ := shT_runes u false (pcs u) (fun _ h => h)
  obtain ⟨r, hr, e⟩ := pcs_enc _ L 0 (fun r hr => (a r hr).1) (by rw [List.drop_zero]; exact b) x hx
  have := a r hr
  unfold fair at this
  omega
/-- no break stands in quotes -/
theorem quB_whole (u : ByteArray) (x : Nat × Int) (hx : x ∈ pcs (quB u)) : 0 ≤ x.2 := by
  obtain ⟨L, a, b⟩ := shT_runes u true (pcs u) (fun _ h => h)
  have f34 : mayN 34 = true := by decide
  obtain ⟨r, hr, e⟩ := pcs_enc (quB u) ([34] ++ L ++ [34]) 0 (fun r hr => by
    simp only [List.mem_append, List.mem_singleton] at hr
    rcases hr with (rfl | h) | rfl
    · exact f34
    · exact (a r h).1
    · exact f34) (by
    rw [List.drop_zero, quB_list, List.flatMap_append, List.flatMap_append, ← b]
    rfl) x hx
  omega
end Go.Proofs.YteegnmblbjcfpaaDoor.T
