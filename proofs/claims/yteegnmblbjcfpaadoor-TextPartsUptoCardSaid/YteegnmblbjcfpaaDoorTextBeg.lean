/-
  PLAIN: the document's way takes at a place what the model's own decoder takes.
-/
import Derived.Test.YteegnmblbjcfpaaDoorTextRef
set_option linter.unusedVariables false
namespace Go.Proofs.YteegnmblbjcfpaaDoor.T
open Go Go.Lib Go.RowKit

theorem codedI_N (r : Nat) : codedI r = (codedN r).map (fun (x : Nat) => (x : Int)) := by
  unfold codedI codedN
  (repeat' split) <;> first | omega | simp
theorem mayI_N (r : Nat) : mayI r = mayN r := by
  unfold mayI mayN; rw [Bool.eq_iff_iff]; simp; omega
theorem codedN_lt (r : Nat) (h : r ≤ 1114111) : ∀ x ∈ codedN r, x < 256 := by
  unfold codedN
  (repeat' split) <;> simp <;> omega
theorem map_back : ∀ (l : List Nat) (b : List UInt8), (∀ x ∈ l, x < 256) → ((l.map UInt8.ofNat = b) ↔ (l = b.map UInt8.toNat))
  | [], [], _ => by simp
  | [], _ :: _, _ => by simp
  | _ :: _, [], _ => by simp
  | x :: l, y :: b, h => by
    have hx : x < 256 := h x (by simp)
    have ih := map_back l b (fun z hz => h z (by simp [hz]))
    have h1 : UInt8.ofNat x = y ↔ x = y.toNat := by
      constructor
      · intro e; rw [← e]; simp [UInt8.toNat_ofNat']; omega
      · intro e; rw [e]; simp
    simp only [List.map_cons, List.cons.injEq, h1, ih]
theorem toList_data' (s : ByteArray) : s.toList = s.data.toList := Lib.toList_data s
/-- the first k bytes, as numbers -/
theorem front_toNat (t : ByteArray) (k : Nat) (h : k ≤ t.size) : ((t.extract 0 k).toList).map UInt8.toNat = (List.range k).map (bt t) := by
  rw [toList_data']
  apply List.ext_getElem
  · simp; omega
  · intro i h1 h2
    simp at h1
    have hi : i < t.size := by omega
    simp [bt_get t i hi]
    rfl
theorem hitB_iff (t : ByteArray) (k : Nat) (h : k ≤ t.size) : hitB t k = true ↔ (mayN (racc t k k) = true ∧ codedN (racc t k k) = (List.range k).map (bt t)) := by
  unfold hitB
  rw [Bool.and_eq_true, mayI_N]
  constructor
  · rintro ⟨a, b⟩
    refine ⟨a, ?_⟩
    have hr : racc t k k ≤ 1114111 := by unfold mayN at a; simp at a; omega
    rw [beq_iff_eq, toList_data', strOfNums_data, codedI_N, List.map_map] at b
    have b' : (codedN (racc t k k)).map UInt8.ofNat = (t.extract 0 k).toList := by rw [← b]; apply List.map_congr_left; intro x _; simp
    rw [map_back _ _ (codedN_lt _ hr), front_toNat t k h] at b'
    exact b'
  · rintro ⟨a, b⟩
    refine ⟨a, ?_⟩
    have hr : racc t k k ≤ 1114111 := by unfold mayN at a; simp at a; omega
    rw [beq_iff_eq, toList_data', strOfNums_data, codedI_N, List.map_map]
    rw [← front_toNat t k h, ← map_back _ _ (codedN_lt _ hr)] at b
    rw [← b]; apply List.map_congr_left; intro x _; simp
theorem begFrom_dec (t : ByteArray) (h1 : 1 ≤ t.size) (h4 : t.size ≤ 4) :
    begFrom t 4 1 = if decodeN t.size (bt t 0) (bt t 1) (bt t 2) (bt t 3) = (65533, 1) then (0, 0) else decodeN t.size (bt t 0) (bt t 1) (bt t 2) (bt t 3) := by
  have l0 := bt_lt t 0; have l1 := bt_lt t 1; have l2 := bt_lt t 2; have l3 := bt_lt t 3
  have e1 : hitB t 1 = true ↔ bt t 0 < 128 := by
    rw [hitB_iff t 1 h1]; exact hit1 (bt t 0) l0
  have e2 : 2 ≤ t.size → (hitB t 2 = true ↔ (bt t 0 / 32 = 6 ∧ bt t 1 / 64 = 2 ∧ bt t 0 % 32 * 64 + bt t 1 % 64 ≥ 128)) := fun h => by
    rw [hitB_iff t 2 h, ← hit2 (bt t 0) (bt t 1) l0 l1]
    have : racc t 2 2 = bt t 0 % 32 * 64 + bt t 1 % 64 := by simp only [racc, seedN]; simp; omega
    rw [this]; rfl
  have e3 : 3 ≤ t.size → (hitB t 3 = true ↔ (bt t 0 / 16 = 14 ∧ bt t 1 / 64 = 2 ∧ bt t 2 / 64 = 2 ∧ (bt t 0 % 16 * 64 + bt t 1 % 64) * 64 + bt t 2 % 64 ≥ 2048 ∧ ((bt t 0 % 16 * 64 + bt t 1 % 64) * 64 + bt t 2 % 64 < 55296 ∨ 57344 ≤ (bt t 0 % 16 * 64 + bt t 1 % 64) * 64 + bt t 2 % 64))) := fun h => by
    rw [hitB_iff t 3 h, show racc t 3 3 = (bt t 0 % 16 * 64 + bt t 1 % 64) * 64 + bt t 2 % 64 from by simp only [racc, seedN]; simp; omega]
    exact hit3 (bt t 0) (bt t 1) (bt t 2) l0 l1 l2
  have e4 : 4 ≤ t.size → (hitB t 4 = true ↔ (bt t 0 / 8 = 30 ∧ bt t 1 / 64 = 2 ∧ bt t 2 / 64 = 2 ∧ bt t 3 / 64 = 2 ∧ ((bt t 0 % 8 * 64 + bt t 1 % 64) * 64 + bt t 2 % 64) * 64 + bt t 3 % 64 ≥ 65536 ∧ ((bt t 0 % 8 * 64 + bt t 1 % 64) * 64 + bt t 2 % 64) * 64 + bt t 3 % 64 ≤ 1114111)) := fun h => by
    rw [hitB_iff t 4 h, show racc t 4 4 = ((bt t 0 % 8 * 64 + bt t 1 % 64) * 64 + bt t 2 % 64) * 64 + bt t 3 % 64 from by simp only [racc, seedN]; simp; omega]
    exact hit4 (bt t 0) (bt t 1) (bt t 2) (bt t 3) l0 l1 l2 l3
  have r1 : racc t 1 1 = bt t 0 := by simp [racc, seedN]
  have r2 : racc t 2 2 = bt t 0 % 32 * 64 + bt t 1 % 64 := by simp only [racc, seedN]; simp; omega
  have r3 : racc t 3 3 = bt t 0 % 16 * 4096 + bt t 1 % 64 * 64 + bt t 2 % 64 := by simp only [racc, seedN]; simp; omega
  have r4 : racc t 4 4 = bt t 0 % 8 * 262144 + bt t 1 % 64 * 4096 + bt t 2 % 64 * 64 + bt t 3 % 64 := by simp only [racc, seedN]; simp; omega
  have b5 : begFrom t 0 5 = (0, 0) := rfl
  rw [begFrom_succ, begFrom_succ, begFrom_succ, begFrom_succ]
  simp only [Nat.reduceAdd, r1, r2, r3, r4, b5]
  generalize bt t 0 = b0 at *
  generalize bt t 1 = b1 at *
  generalize bt t 2 = b2 at *
  generalize bt t 3 = b3 at *
  generalize hitB t 1 = g1 at *
  generalize hitB t 2 = g2 at *
  generalize hitB t 3 = g3 at *
  generalize hitB t 4 = g4 at *
  generalize t.size = n at *
  clear r1 r2 r3 r4 b5
  rw [if_pos h1]
  by_cases a1 : b0 < 128
  · have d : decodeN n b0 b1 b2 b3 = (b0, 1) := by unfold decodeN; rw [if_pos a1]
    rw [if_pos (e1.2 a1), d, if_neg (by simp; omega)]
  rw [if_neg (fun h => a1 (e1.1 h))]
  by_cases a2 : b0 / 32 = 6 ∧ (1 < n ∧ b1 / 64 = 2)
  · have f2 := e2 (by omega)
    rw [if_pos (by omega)]
    by_cases c2 : b0 % 32 * 64 + b1 % 64 ≥ 128
    · have d : decodeN n b0 b1 b2 b3 = (b0 % 32 * 64 + b1 % 64, 2) := by unfold decodeN; rw [if_neg a1, if_pos a2, if_pos c2]
      rw [if_pos (f2.2 ⟨a2.1, a2.2.2, c2⟩), d, if_neg (by simp)]
    · have d : decodeN n b0 b1 b2 b3 = (65533, 1) := by unfold decodeN; rw [if_neg a1, if_pos a2, if_neg c2]
      rw [if_neg (fun h => c2 (f2.1 h).2.2), d, if_pos rfl]
      by_cases n3 : 3 ≤ n
      · rw [if_pos n3, if_neg (fun h => by have := (e3 n3).1 h; omega)]
        by_cases n4 : 4 ≤ n
        · rw [if_pos n4, if_neg (fun h => by have := (e4 n4).1 h; omega)]
        · rw [if_neg n4]
      · rw [if_neg n3]
  have g2f : 2 ≤ n → ¬ g2 = true := fun h k => a2 (by have := (e2 h).1 k; exact ⟨this.1, by omega, this.2.1⟩)
  by_cases a3 : b0 / 16 = 14 ∧ (1 < n ∧ b1 / 64 = 2) ∧ (2 < n ∧ b2 / 64 = 2)
  · rw [if_pos (by omega), if_neg (g2f (by omega)), if_pos (by omega)]
    have f3 := e3 (by omega)
    by_cases c3 : b0 % 16 * 4096 + b1 % 64 * 64 + b2 % 64 ≥ 2048 ∧ (b0 % 16 * 4096 + b1 % 64 * 64 + b2 % 64 < 55296 ∨ (57344 ≤ b0 % 16 * 4096 + b1 % 64 * 64 + b2 % 64 ∧ b0 % 16 * 4096 + b1 % 64 * 64 + b2 % 64 ≤ 1114111))
    · have d : decodeN n b0 b1 b2 b3 = (b0 % 16 * 4096 + b1 % 64 * 64 + b2 % 64, 3) := by unfold decodeN; rw [if_neg a1, if_neg a2, if_pos a3, if_pos c3]
      rw [if_pos (f3.2 ⟨a3.1, a3.2.1.2, a3.2.2.2, by omega, by omega⟩), d, if_neg (by simp)]
    · have d : decodeN n b0 b1 b2 b3 = (65533, 1) := by unfold decodeN; rw [if_neg a1, if_neg a2, if_pos a3, if_neg c3]
      rw [if_neg (fun h => c3 (by have := f3.1 h; omega)), d, if_pos rfl]
      by_cases n4 : 4 ≤ n
      · rw [if_pos n4, if_neg (fun h => by have := (e4 n4).1 h; omega)]
      · rw [if_neg n4]
  have g3f : 3 ≤ n → ¬ g3 = true := fun h k => a3 (by have := (e3 h).1 k; exact ⟨this.1, ⟨by omega, this.2.1⟩, ⟨by omega, this.2.2.1⟩⟩)
  by_cases a4 : b0 / 8 = 30 ∧ (1 < n ∧ b1 / 64 = 2) ∧ (2 < n ∧ b2 / 64 = 2) ∧ (3 < n ∧ b3 / 64 = 2)
  · rw [if_pos (by omega), if_neg (g2f (by omega)), if_pos (by omega), if_neg (g3f (by omega)), if_pos (by omega)]
    have f4 := e4 (by omega)
    by_cases c4 : b0 % 8 * 262144 + b1 % 64 * 4096 + b2 % 64 * 64 + b3 % 64 ≥ 65536 ∧ (b0 % 8 * 262144 + b1 % 64 * 4096 + b2 % 64 * 64 + b3 % 64 < 55296 ∨ (57344 ≤ b0 % 8 * 262144 + b1 % 64 * 4096 + b2 % 64 * 64 + b3 % 64 ∧ b0 % 8 * 262144 + b1 % 64 * 4096 + b2 % 64 * 64 + b3 % 64 ≤ 1114111))
    · have d : decodeN n b0 b1 b2 b3 = (b0 % 8 * 262144 + b1 % 64 * 4096 + b2 % 64 * 64 + b3 % 64, 4) := by unfold decodeN; rw [if_neg a1, if_neg a2, if_neg a3, if_pos a4, if_pos c4]
      rw [if_pos (f4.2 ⟨a4.1, a4.2.1.2, a4.2.2.1.2, a4.2.2.2.2, by omega, by omega⟩), d, if_neg (by simp)]
    · have d : decodeN n b0 b1 b2 b3 = (65533, 1) := by unfold decodeN; rw [if_neg a1, if_neg a2, if_neg a3, if_pos a4, if_neg c4]
      rw [if_neg (fun h => c4 (by have := f4.1 h; omega)), d, if_pos rfl]
  have g4f : 4 ≤ n → ¬ g4 = true := fun h k => a4 (by have := (e4 h).1 k; exact ⟨this.1, ⟨by omega, this.2.1⟩, ⟨by omega, this.2.2.1⟩, ⟨by omega, this.2.2.2.1⟩⟩)
  have d : decodeN n b0 b1 b2 b3 = (65533, 1) := by unfold decodeN; rw [if_neg a1, if_neg a2, if_neg a3, if_neg a4]
  rw [d, if_pos rfl]
  by_cases n2 : 2 ≤ n
  · rw [if_pos n2, if_neg (g2f n2)]
    by_cases n3 : 3 ≤ n
    · rw [if_pos n3, if_neg (g3f n3)]
      by_cases n4 : 4 ≤ n
      · rw [if_pos n4, if_neg (g4f n4)]
      · rw [if_neg n4]
    · rw [if_neg n3]
  · rw [if_neg n2]

theorem get_front (s : ByteArray) (p q k : Nat) (h : p + k < q) (hq : q ≤ s.size) : (s.extract p q).get! k = s.get! (p + k) := by
  have h1 : k < (s.extract p q).size := by simp; omega
  rw [show (s.extract p q).get! k = (s.extract p q).get! (k + 0) from rfl, get_at _ k h1, show s.get! (p + k) = s.get! (p + k + 0) from rfl, get_at s (p + k) (by omega)]
  simp [ByteArray.getElem_eq_getElem_data, ByteArray.data_extract]
theorem get_beyond (s : ByteArray) (k : Nat) (h : s.size ≤ k) : (s.get! k).toNat = 0 := by
  have : s.get! k = 0 := by
    show s.data[k]! = 0
    rw [getElem!_def, Array.getElem?_eq_none (show s.data.size ≤ k from h)]; rfl
  rw [this]; rfl
/-- decode looks at four bytes alone -/
theorem decN_front (s : ByteArray) (p : Nat) (h : p < s.size) :
    decodeN (s.extract p (min s.size (p + 4))).size (bt (s.extract p (min s.size (p + 4))) 0) (bt (s.extract p (min s.size (p + 4))) 1) (bt (s.extract p (min s.size (p + 4))) 2) (bt (s.extract p (min s.size (p + 4))) 3) = Utf8.decode s p := by
  have hb : ∀ k, k < 4 → p + k < s.size → bt (s.extract p (min s.size (p + 4))) k = (s.get! (p + k)).toNat := fun k hk hp => by
    unfold bt; rw [get_front s p _ k (by omega) (by omega)]
  have hz : ∀ k, k < 4 → ¬ p + k < s.size → bt (s.extract p (min s.size (p + 4))) k = (s.get! (p + k)).toNat := fun k hk hp => by
    unfold bt; rw [get_beyond _ k (by simp; omega), get_beyond s (p + k) (by omega)]
  have ha : ∀ k, k < 4 → bt (s.extract p (min s.size (p + 4))) k = (s.get! (p + k)).toNat := fun k hk => by
    by_cases hp : p + k < s.size
    · exact hb k hk hp
    · exact hz k hk hp
  rw [ha 0 (by omega), ha 1 (by omega), ha 2 (by omega), ha 3 (by omega), decode_at]
  have e : (s.extract p (min s.size (p + 4))).size = min (s.size - p) 4 := by simp; omega
  rw [e]
  generalize s.size - p = n
  simp only [Nat.add_zero]
  unfold decodeN
  have c1 : (1 < min n 4) = (1 < n) := propext ⟨fun h => by omega, fun h => by omega⟩
  have c2 : (2 < min n 4) = (2 < n) := propext ⟨fun h => by omega, fun h => by omega⟩
  have c3 : (3 < min n 4) = (3 < n) := propext ⟨fun h => by omega, fun h => by omega⟩
  simp only [c1, c2, c3]
/-- what begins answers of the next four bytes -/
def begs (s : ByteArray) (p : Nat) : Nat × Nat := if Utf8.decode s p = (65533, 1) then (0, 0) else Utf8.decode s p
theorem begFrom_begs (s : ByteArray) (p : Nat) (h : p < s.size) : begFrom (s.extract p (min s.size (p + 4))) 4 1 = begs s p := by
  rw [begFrom_dec _ (by simp; omega) (by simp; omega), decN_front s p h]; rfl
end Go.Proofs.YteegnmblbjcfpaaDoor.T
