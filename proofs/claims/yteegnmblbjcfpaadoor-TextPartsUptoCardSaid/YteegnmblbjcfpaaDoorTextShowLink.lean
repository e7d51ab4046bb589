/-
  PLAIN: what text's Show and Quote put behind is what the document's way puts behind.
-/
import Derived.Test.YteegnmblbjcfpaaDoorTextQuote
import Derived.Test.YteegnmblbjcfpaaDoorTextRefQuote
set_option linter.unusedVariables false
namespace Go.Proofs.YteegnmblbjcfpaaDoor.T
open Go Go.Lib Go.RowKit

theorem encZ_N (r : Nat) (h : mayN r = true) : encodeRuneZ (r : Int) = (codedN r).map (fun (x : Nat) => (x : Int)) := by
  unfold mayN at h
  simp at h
  unfold encodeRuneZ codedN
  (repeat' split) <;> first | omega | simp
theorem enc_dec (n b0 b1 b2 b3 : Nat) (h0 : b0 < 256) (h1 : b1 < 256) (h2 : b2 < 256) (h3 : b3 < 256) (hne : ¬ decodeN n b0 b1 b2 b3 = (65533, 1)) :
    encodeRuneZ ((decodeN n b0 b1 b2 b3).1 : Int) = ([b0, b1, b2, b3].take (decodeN n b0 b1 b2 b3).2).map (fun (x : Nat) => (x : Int)) := by
  unfold decodeN at hne ⊢
  by_cases a1 : b0 < 128
  · have := (hit1 b0 h0).2 a1
    rw [if_pos a1, encZ_N _ this.1, this.2]; rfl
  rw [if_neg a1] at hne ⊢
  by_cases a2 : b0 / 32 = 6 ∧ (1 < n ∧ b1 / 64 = 2)
  · rw [if_pos a2] at hne ⊢
    by_cases c2 : b0 % 32 * 64 + b1 % 64 ≥ 128
    · have := (hit2 b0 b1 h0 h1).2 ⟨a2.1, a2.2.2, c2⟩
      rw [if_pos c2, encZ_N _ this.1, this.2]; rfl
    · rw [if_neg c2] at hne; exact absurd rfl hne
  rw [if_neg a2] at hne ⊢
  by_cases a3 : b0 / 16 = 14 ∧ (1 < n ∧ b1 / 64 = 2) ∧ (2 < n ∧ b2 / 64 = 2)
  · rw [if_pos a3] at hne ⊢
    by_cases c3 : b0 % 16 * 4096 + b1 % 64 * 64 + b2 % 64 ≥ 2048 ∧ (b0 % 16 * 4096 + b1 % 64 * 64 + b2 % 64 < 55296 ∨ (57344 ≤ b0 % 16 * 4096 + b1 % 64 * 64 + b2 % 64 ∧ b0 % 16 * 4096 + b1 % 64 * 64 + b2 % 64 ≤ 1114111))
    · have := (hit3 b0 b1 b2 h0 h1 h2).2 ⟨a3.1, a3.2.1.2, a3.2.2.2, by omega, by omega⟩
      rw [show (b0 % 16 * 64 + b1 % 64) * 64 + b2 % 64 = b0 % 16 * 4096 + b1 % 64 * 64 + b2 % 64 from by omega] at this
      rw [if_pos c3, encZ_N _ this.1, this.2]; rfl
    · rw [if_neg c3] at hne; exact absurd rfl hne
  rw [if_neg a3] at hne ⊢
  by_cases a4 : b0 / 8 = 30 ∧ (1 < n ∧ b1 / 64 = 2) ∧ (2 < n ∧ b2 / 64 = 2) ∧ (3 < n ∧ b3 / 64 = 2)
  · rw [if_pos a4] at hne ⊢
    by_cases c4 : b0 % 8 * 262144 + b1 % 64 * 4096 + b2 % 64 * 64 + b3 % 64 ≥ 65536 ∧ (b0 % 8 * 262144 + b1 % 64 * 4096 + b2 % 64 * 64 + b3 % 64 < 55296 ∨ (57344 ≤ b0 % 8 * 262144 + b1 % 64 * 4096 + b2 % 64 * 64 + b3 % 64 ∧ b0 % 8 * 262144 + b1 % 64 * 4096 + b2 % 64 * 64 + b3 % 64 ≤ 1114111))
    · have := (hit4 b0 b1 b2 b3 h0 h1 h2 h3).2 ⟨a4.1, a4.2.1.2, a4.2.2.1.2, a4.2.2.2.2, by omega, by omega⟩
      rw [show ((b0 % 8 * 64 + b1 % 64) * 64 + b2 % 64) * 64 + b3 % 64 = b0 % 8 * 262144 + b1 % 64 * 4096 + b2 % 64 * 64 + b3 % 64 from by omega] at this
      rw [if_pos c4, encZ_N _ this.1, this.2]; rfl
    · rw [if_neg c4] at hne; exact absurd rfl hne
  rw [if_neg a4] at hne; exact absurd rfl hne
theorem get_bang (s : ByteArray) (i : Nat) (h : i < s.size) : s.get! i = s[i] := by
  have h1 := bt_get s i h
  unfold bt at h1
  exact UInt8.toNat_inj.1 h1
theorem ext_list (s : ByteArray) (p k : Nat) (h : p + k ≤ s.size) : (s.extract p (p + k)).data.toList = (List.range k).map (fun i => s.get! (p + i)) := by
  apply List.ext_getElem
  · simp
    have : s.data.size = s.size := rfl
    omega
  · intro i h1 h2
    simp at h2
    simp only [List.getElem_map, List.getElem_range]
    rw [get_bang s (p + i) (by omega)]
    simp
    rfl
theorem take4 (s : ByteArray) (p k : Nat) (h1 : 1 ≤ k) (h4 : k ≤ 4) : ([bt s p, bt s (p + 1), bt s (p + 2), bt s (p + 3)].take k).map (fun (x : Nat) => UInt8.ofNat x) = (List.range k).map (fun i => s.get! (p + i)) := by
  obtain rfl | rfl | rfl | rfl : k = 1 ∨ k = 2 ∨ k = 3 ∨ k = 4 := by omega
  all_goals simp [bt, List.range_succ]
/-- THE BYTES OF A RUNE THAT IS TAKEN ARE THE RUNE's OWN FORM -/
theorem piece_enc (s : ByteArray) (x : Nat × Int) (hx : x ∈ pcs s) (hr : ¬ x.2 = -1) : (pieceS s x).data.toList = encodeRune x.2 := by
  obtain ⟨hlt, h2⟩ := pcs_mem s x hx
  have hp := pc_pos s x.1 hlt
  have hp4 := pc_le4 s x.1
  unfold pieceS
  rw [ext_list s x.1 _ hp.2, ← take4 s x.1 _ hp.1 hp4]
  have hne : ¬ Utf8.decode s x.1 = (65533, 1) := fun h => hr (by rw [h2, pc_brk s _ h])
  rw [h2, pc_run s _ hne]
  rw [decode_at] at hne ⊢
  unfold encodeRune
  have e := enc_dec (s.size - x.1) (bt s x.1) (bt s (x.1 + 1)) (bt s (x.1 + 2)) (bt s (x.1 + 3)) (bt_lt _ _) (bt_lt _ _) (bt_lt _ _) (bt_lt _ _) hne
  unfold bt at e ⊢
  simp only
  rw [e, List.map_map]
  apply List.map_congr_left
  intro y _
  simp
theorem apQ_shB (s : ByteArray) (q : Bool) (x : Nat × Int) (hx : x ∈ pcs s) : apQ s q x = (shB (pieceS s x) x.2 q).data.toList := by
  obtain ⟨hlt, h2⟩ := pcs_mem s x hx
  have hp := pc_pos s x.1 hlt
  have h0 : bt (pieceS s x) 0 = bt s x.1 := by
    rw [bt_get _ 0 (by rw [pieceS_size s x hlt]; omega), bt_get _ _ hlt]
    show ((s.extract x.1 (x.1 + (pc s x.1).2)).data[0]'(by have := pieceS_size s x hlt; unfold pieceS at this; show 0 < (s.extract x.1 (x.1 + (pc s x.1).2)).size; omega)).toNat = (s.data[x.1]'hlt).toNat
    simp
  unfold apQ apL shB
  cases hh : hexR x.2 with
  | true =>
    have n34 : ¬ x.2 = 34 := by rintro e; rw [e] at hh; cases hh
    simp [n34, h0]
  | false =>
    have hr : ¬ x.2 = -1 := by rintro e; rw [e] at hh; cases hh
    have hS := piece_enc s x hx hr
    unfold escR
    by_cases h9 : x.2 = 92
    · rw [h9] at hS
      have e : encodeRune 92 = [92] := by decide
      rw [e] at hS
      simp [h9, ByteArray.data_append, hS]
    · by_cases h3 : x.2 = 34
      · rw [h3] at hS
        cases q <;> simp [h3, ByteArray.data_append, hS]
      · cases q <;> simp [h9, h3, hS]
theorem shT_shL (s : ByteArray) (q : Bool) : shT s q (pcs s) = shL s q (pcs s) := by
  unfold shT shL
  have : ∀ l : List (Nat × Int), (∀ x ∈ l, x ∈ pcs s) → l.flatMap (apQ s q) = l.flatMap fun x => (shB (pieceS s x) x.2 q).data.toList := by
    intro l
    induction l with
    | nil => intro _; rfl
    | cons x l ih =>
      intro h
      rw [List.flatMap_cons, List.flatMap_cons, ih (fun y hy => h y (by simp [hy])), apQ_shB s q x (h x (by simp))]
  exact this _ (fun _ h => h)
end Go.Proofs.YteegnmblbjcfpaaDoor.T
