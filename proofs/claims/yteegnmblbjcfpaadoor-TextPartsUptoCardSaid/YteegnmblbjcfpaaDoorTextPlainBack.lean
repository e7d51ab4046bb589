/-
  PLAIN: what Quote writes is read back: by text's readQuotes, by the document's scan and by its Unquote.
-/
import Derived.Test.YteegnmblbjcfpaaDoorTextRefUnq
set_option linter.unusedVariables false
namespace Go.Proofs.YteegnmblbjcfpaaDoor.T
open Go Go.Lib Go.RowKit Go.Shelf

/-- these bytes stand at a place, and those behind them -/
def At (s : ByteArray) (p : Nat) (X R : List UInt8) : Prop := s.data.toList.drop p = X ++ R
theorem At.head {s : ByteArray} {p : Nat} {x : UInt8} {X R : List UInt8} (h : At s p (x :: X) R) : p < s.size ∧ bt s p = x.toNat ∧ At s (p + 1) X R := by
  unfold At at h ⊢
  have hl : p < s.data.toList.length := by
    rcases Nat.lt_or_ge p s.data.toList.length with h' | h'
    · exact h'
    · rw [List.drop_eq_nil_of_le h'] at h; cases h
  have hs : p < s.size := by simpa using hl
  rw [List.drop_eq_getElem_cons hl] at h
  simp only [List.cons_append, List.cons.injEq] at h
  refine ⟨hs, ?_, h.2⟩
  rw [bt_get s p hs, ← h.1]
  simp
  rfl
theorem At.size {s : ByteArray} {p : Nat} {X R : List UInt8} (h : At s p X R) (hp : p ≤ s.size) : s.size = p + X.length + R.length := by
  unfold At at h
  have := congrArg List.length h
  simp at this
  have e : s.data.size = s.size := rfl
  omega
theorem At.app {s : ByteArray} {p : Nat} {X Y R : List UInt8} (h : At s p (X ++ Y) R) : At s p X (Y ++ R) := by unfold At at *; rw [h]; simp
theorem At.skip {s : ByteArray} {p : Nat} {X R : List UInt8} (h : At s p X R) : At s (p + X.length) [] R := by
  unfold At at *
  rw [← List.drop_drop, h]; simp
theorem At.next {s : ByteArray} {p : Nat} {X Y R : List UInt8} (h : At s p X (Y ++ R)) : At s (p + X.length) Y R := by
  have := h.skip
  unfold At at *
  simpa using this

/-! ### the forms of pieces -/
theorem enc_plain (r : Int) (h : ¬ r = 34) (h' : ¬ r = 92) : ∀ b ∈ encodeRune r, ¬ b.toNat = 34 ∧ ¬ b.toNat = 92 := by
  intro b hb
  unfold encodeRune encodeRuneZ at hb
  simp only [List.mem_map] at hb
  obtain ⟨z, hz, rfl⟩ := hb
  have e : (z.toNat.toUInt8).toNat = z.toNat % 256 := by simp [Nat.toUInt8]
  rw [e]
  (repeat' split at hz) <;> simp at hz <;> omega
theorem piece_one (s : ByteArray) (x : Nat × Int) (hx : x ∈ pcs s) (h1 : (pc s x.1).2 = 1) : (pieceS s x).data.toList = [UInt8.ofNat (bt s x.1)] := by
  obtain ⟨hlt, h2⟩ := pcs_mem s x hx
  unfold pieceS
  rw [h1, ext_list s x.1 1 (by omega)]
  simp [bt]
theorem piece_hex (s : ByteArray) (x : Nat × Int) (hx : x ∈ pcs s) (hh : hexR x.2 = true) : (pieceS s x).data.toList = [UInt8.ofNat (bt s x.1)] := by
  obtain ⟨hlt, h2⟩ := pcs_mem s x hx
  by_cases hr : x.2 = -1
  · apply piece_one s x hx
    rw [h2] at hr
    by_cases hd : Utf8.decode s x.1 = (65533, 1)
    · rw [pc_brk s _ hd]
    · rw [pc_run s _ hd] at hr; simp at hr
  · have hS := piece_enc s x hx hr
    have hb := pc_bd s x.1
    have hz := pieceS_size s x hlt
    apply piece_one s x hx
    rw [← hz]
    have : (pieceS s x).size = (pieceS s x).data.toList.length := by simp
    rw [this, hS]
    unfold hexR at hh
    simp at hh
    unfold encodeRune
    rw [encodeRuneZ_one (by omega) (by omega)]
    rfl
theorem ext_take (s : ByteArray) (p q : Nat) : (s.extract p q).data.toList = (s.data.toList.drop p).take (q - p) := by
  simp [List.extract]
theorem pieces_join (s : ByteArray) : ∀ (k p : Nat), s.size - p ≤ k → (pcsFrom s p).flatMap (fun x => (pieceS s x).data.toList) = s.data.toList.drop p
  | k, p, hk => by
    by_cases h : p < s.size
    · have hp := pc_pos s p h
      rw [pcsFrom_step s p h]
      cases k with
      | zero => omega
      | succ k =>
        rw [List.flatMap_cons, pieces_join s k (p + (pc s p).2) (by omega)]
        unfold pieceS
        simp only
        rw [ext_take, Nat.add_sub_cancel_left, ← List.drop_drop, List.take_append_drop]
    · rw [pcsFrom_end s p h, List.drop_eq_nil_of_le (by simp; exact Nat.le_of_not_lt h)]; rfl
theorem pieces_all (s : ByteArray) : (pcs s).flatMap (fun x => (pieceS s x).data.toList) = s.data.toList := by
  have := pieces_join s s.size 0 (by omega)
  simpa [pcs] using this

/-- THE FOUR FORMS of a piece in quotes -/
theorem apQ_forms (u : ByteArray) (x : Nat × Int) (hx : x ∈ pcs u) :
    (∃ a b : Nat, a < 16 ∧ b < 16 ∧ apQ u true x = [92, 120, UInt8.ofNat (hexd a), UInt8.ofNat (hexd b)] ∧ (pieceS u x).data.toList = [UInt8.ofNat (16 * a + b)]) ∨
    (∃ c : UInt8, (c = 92 ∨ c = 34) ∧ apQ u true x = [92, c] ∧ (pieceS u x).data.toList = [c]) ∨
    ((∀ b ∈ apQ u true x, ¬ b.toNat = 34 ∧ ¬ b.toNat = 92) ∧ (pieceS u x).data.toList = apQ u true x) := by
  have hc := bt_lt u x.1
  unfold apQ apL
  cases hh : hexR x.2 with
  | true =>
    left
    have n34 : ¬ x.2 = 34 := by rintro e; rw [e] at hh; cases hh
    refine ⟨bt u x.1 / 16, bt u x.1 % 16, by omega, by omega, ?_, ?_⟩
    · simp [n34, hexS, strOfNums_data]
    · rw [piece_hex u x hx hh, show 16 * (bt u x.1 / 16) + bt u x.1 % 16 = bt u x.1 by omega]
  | false =>
    right
    have hr : ¬ x.2 = -1 := by rintro e; rw [e] at hh; cases hh
    have hS := piece_enc u x hx hr
    by_cases h9 : x.2 = 92
    · left
      refine ⟨92, .inl rfl, by simp [h9], ?_⟩
      rw [hS, h9]; decide
    · by_cases h3 : x.2 = 34
      · left
        refine ⟨34, .inr rfl, ?_, ?_⟩
        · simp [h3]; decide
        · rw [hS, h3]; decide
      · right
        have e : (if (true && decide (x.2 = 34)) = true then [92] else []) ++ (if (false : Bool) = true then (hexS (bt u x.1)).data.toList else if x.2 = 92 then [92, 92] else encodeRune x.2) = encodeRune x.2 := by simp [h3, h9]
        rw [e]
        exact ⟨enc_plain x.2 h3 h9, hS⟩

/-! ### text's readQuotes -/
theorem bt_ext (s : ByteArray) (p i : Nat) (h : p + i < s.size) : bt (s.extract p s.size) i = bt s (p + i) := by
  unfold bt; rw [get_front s p s.size i h (Nat.le_refl _)]
theorem ofNat_eq {n : Nat} {b : UInt8} (h : n = b.toNat) : UInt8.ofNat n = b := by rw [h]; simp
theorem rq_plain (s : ByteArray) : ∀ (X : List UInt8), (∀ b ∈ X, ¬ b.toNat = 34 ∧ ¬ b.toNat = 92) → ∀ (R : List UInt8) (f p : Nat) (l : List UInt8), At s p X R → s.size ≤ p + f →
    ∃ f', s.size ≤ p + X.length + f' ∧ rq s f p l = rq s f' (p + X.length) (l ++ X)
  | [], _, R, f, p, l, h, hf => ⟨f, by simpa using hf, by simp⟩
  | b :: X, hX, R, f, p, l, h, hf => by
    obtain ⟨hlt, hb, h'⟩ := h.head
    obtain ⟨f, rfl⟩ : ∃ j, f = j + 1 := ⟨f - 1, by omega⟩
    have hb' := hX b (by simp)
    obtain ⟨f', g1, g2⟩ := rq_plain s X (fun b hb => hX b (by simp [hb])) R f (p + 1) (l ++ [b]) h' (by omega)
    refine ⟨f', by simp; omega, ?_⟩
    rw [rq, if_pos hlt, if_neg (by rw [hb]; exact hb'.1), if_neg (by rw [hb]; exact hb'.2), ofNat_eq hb, g2]
    simp [Nat.add_assoc, Nat.add_comm 1]
theorem rq_esc (s : ByteArray) (c : UInt8) (hc : c = 92 ∨ c = 34) (R : List UInt8) (f p : Nat) (l : List UInt8) (h : At s p [92, c] R) (hf : s.size ≤ p + f) :
    ∃ f', s.size ≤ p + 2 + f' ∧ rq s f p l = rq s f' (p + 2) (l ++ [c]) := by
  obtain ⟨hlt, hb, h1⟩ := h.head
  obtain ⟨hlt1, hb1, h2⟩ := h1.head
  obtain ⟨f, rfl⟩ : ∃ j, f = j + 1 := ⟨f - 1, by omega⟩
  refine ⟨f, by omega, ?_⟩
  have e1 := bt_ext s p 1 (by omega)
  have es : (s.extract p s.size).size = s.size - p := by simp
  have hE : escN (s.extract p s.size) = ((c.toNat : Int), 2) := by
    unfold escN
    have hc' : c.toNat = 92 ∨ c.toNat = 34 := by rcases hc with rfl | rfl <;> decide
    rw [es, e1, hb1, if_pos ⟨by omega, hc'⟩]
  rw [rq, if_pos hlt, if_neg (by rw [hb]; decide), if_pos (by rw [hb]; decide), hE]
  simp only
  rw [if_neg (by decide), Int.toNat_natCast, UInt8.ofNat_toNat]
theorem rq_hex (s : ByteArray) (a b : Nat) (ha : a < 16) (hb : b < 16) (R : List UInt8) (f p : Nat) (l : List UInt8) (h : At s p [92, 120, UInt8.ofNat (hexd a), UInt8.ofNat (hexd b)] R) (hf : s.size ≤ p + f) :
    ∃ f', s.size ≤ p + 4 + f' ∧ rq s f p l = rq s f' (p + 4) (l ++ [UInt8.ofNat (16 * a + b)]) := by
  obtain ⟨hlt, h0, h1⟩ := h.head
  obtain ⟨hlt1, g1, h2⟩ := h1.head
  obtain ⟨hlt2, g2, h3⟩ := h2.head
  obtain ⟨hlt3, g3, h4⟩ := h3.head
  obtain ⟨f, rfl⟩ : ∃ j, f = j + 1 := ⟨f - 1, by omega⟩
  refine ⟨f, by omega, ?_⟩
  have e1 := bt_ext s p 1 (by omega)
  have e2 := bt_ext s p 2 (by omega)
  have e3 := bt_ext s p 3 (by omega)
  have ka := hexd_lt a ha
  have kb := hexd_lt b hb
  rw [g1] at e1
  rw [show p + 2 = p + 1 + 1 from rfl, g2, UInt8.toNat_ofNat', Nat.mod_eq_of_lt ka] at e2
  rw [show p + 3 = p + 1 + 1 + 1 from rfl, g3, UInt8.toNat_ofNat', Nat.mod_eq_of_lt kb] at e3
  have es : (s.extract p s.size).size = s.size - p := by simp
  have hE : escN (s.extract p s.size) = (16 * (a : Int) + (b : Int), 4) := by
    unfold escN
    rw [es, e1, e2, e3, digI_hexd a _ ha rfl, digI_hexd b _ hb rfl, if_neg (fun k => by have := k.2; revert this; decide), if_neg (by simp; omega), if_neg (by omega)]
  rw [rq, if_pos hlt, if_neg (by rw [h0]; decide), if_pos (by rw [h0]; decide), hE]
  simp only
  rw [if_neg (by decide), show (16 * (a : Int) + (b : Int)).toNat = 16 * a + b by omega]
theorem rq_piece (s u : ByteArray) (x : Nat × Int) (hx : x ∈ pcs u) (R : List UInt8) (f p : Nat) (l : List UInt8) (h : At s p (apQ u true x) R) (hf : s.size ≤ p + f) :
    ∃ f', s.size ≤ p + (apQ u true x).length + f' ∧ rq s f p l = rq s f' (p + (apQ u true x).length) (l ++ (pieceS u x).data.toList) := by
  rcases apQ_forms u x hx with ⟨a, b, ha, hb, e, k⟩ | ⟨c, hc, e, k⟩ | ⟨hX, k⟩
  · rw [e] at h ⊢; rw [k]; exact rq_hex s a b ha hb R f p l h hf
  · rw [e] at h ⊢; rw [k]; exact rq_esc s c hc R f p l h hf
  · rw [k]; exact rq_plain s _ hX R f p l h hf
theorem rq_all (s u : ByteArray) : ∀ (L : List (Nat × Int)), (∀ x ∈ L, x ∈ pcs u) → ∀ (R : List UInt8) (f p : Nat) (l : List UInt8), At s p (L.flatMap (apQ u true)) R → s.size ≤ p + f →
    ∃ f', s.size ≤ p + (L.flatMap (apQ u true)).length + f' ∧ rq s f p l = rq s f' (p + (L.flatMap (apQ u true)).length) (l ++ L.flatMap (fun x => (pieceS u x).data.toList))
  | [], _, R, f, p, l, h, hf => ⟨f, by simpa using hf, by simp⟩
  | x :: L, hL, R, f, p, l, h, hf => by
    rw [List.flatMap_cons] at h
    obtain ⟨f1, a1, a2⟩ := rq_piece s u x (hL x (by simp)) _ f p l h.app hf
    obtain ⟨f2, b1, b2⟩ := rq_all s u L (fun y hy => hL y (by simp [hy])) R f1 _ (l ++ (pieceS u x).data.toList) h.app.next a1
    refine ⟨f2, ?_, ?_⟩
    · rw [List.flatMap_cons, List.length_append]; omega
    · rw [a2, b2, List.flatMap_cons, List.flatMap_cons, List.length_append, Nat.add_assoc, List.append_assoc]
theorem quB_list (u : ByteArray) : (quB u).data.toList = 34 :: ((pcs u).flatMap (apQ u true) ++ [34]) := by
  unfold quB quL shT; simp
theorem At_quB {s u : ByteArray} {R : List UInt8} (h : s.data.toList = (quB u).data.toList ++ R) : At s 0 [34] ((pcs u).flatMap (apQ u true) ++ ([34] ++ R)) := by
  unfold At; rw [List.drop_zero, h, quB_list]; simp
/-- QUOTES AT THE FRONT ARE READ -/
theorem rqO_quB (s u : ByteArray) (R : List UInt8) (h : s.data.toList = (quB u).data.toList ++ R) : rqO s = some (u.data.toList, (quB u).size) := by
  have h0 := At_quB h
  have h1 : At s 1 ((pcs u).flatMap (apQ u true)) ([34] ++ R) := h0.next
  obtain ⟨hlt, _, _⟩ := h0.head
  have hp : Lib.hasPrefix s.data.toList [34] = true := by
    unfold Lib.hasPrefix
    rw [h, quB_list]; rfl
  obtain ⟨f', a1, a2⟩ := rq_all s u (pcs u) (fun _ h => h) _ s.size 1 [] h1 (by omega)
  have h2 : At s _ [34] R := h1.next
  obtain ⟨hlt2, hb2, _⟩ := h2.head
  unfold rqO
  rw [if_pos hp, a2]
  obtain ⟨f', rfl⟩ : ∃ j, f' = j + 1 := ⟨f' - 1, by omega⟩
  rw [rq, if_pos hlt2, if_pos (by rw [hb2]; rfl), pieces_all]
  have : (quB u).size = (quB u).data.toList.length := by simp
  rw [this, quB_list]
  simp; omega

/-! ### the document's scan -/
/-- where the scan from a place on ends -/
def scF (s : ByteArray) : Nat → Nat → Nat
  | 0, i => i
  | f + 1, i => if i < s.size ∧ ¬ bt s i = 34 then (if bt s i = 92 then scF s f (i + 2) else scF s f (i + 1)) else i
theorem sc_plain (s : ByteArray) : ∀ (X : List UInt8), (∀ b ∈ X, ¬ b.toNat = 34 ∧ ¬ b.toNat = 92) → ∀ (R : List UInt8) (f p : Nat), At s p X R → s.size ≤ p + f →
    ∃ f', s.size ≤ p + X.length + f' ∧ scF s f p = scF s f' (p + X.length)
  | [], _, R, f, p, h, hf => ⟨f, by simpa using hf, by simp⟩
  | b :: X, hX, R, f, p, h, hf => by
    obtain ⟨hlt, hb, h'⟩ := h.head
    obtain ⟨f, rfl⟩ : ∃ j, f = j + 1 := ⟨f - 1, by omega⟩
    have hb' := hX b (by simp)
    obtain ⟨f', g1, g2⟩ := sc_plain s X (fun b hb => hX b (by simp [hb])) R f (p + 1) h' (by omega)
    refine ⟨f', by simp; omega, ?_⟩
    rw [scF, if_pos ⟨hlt, by rw [hb]; exact hb'.1⟩, if_neg (by rw [hb]; exact hb'.2), g2]
    simp [Nat.add_assoc, Nat.add_comm 1]
theorem sc_esc (s : ByteArray) (c : UInt8) (R : List UInt8) (f p : Nat) (h : At s p [92, c] R) (hf : s.size ≤ p + f) :
    ∃ f', s.size ≤ p + 2 + f' ∧ scF s f p = scF s f' (p + 2) := by
  obtain ⟨hlt, hb, h1⟩ := h.head
  obtain ⟨f, rfl⟩ : ∃ j, f = j + 1 := ⟨f - 1, by omega⟩
  refine ⟨f, by omega, ?_⟩
  rw [scF, if_pos ⟨hlt, by rw [hb]; decide⟩, if_pos (by rw [hb]; rfl)]
theorem hexd_free (a : Nat) : ¬ hexd a = 34 ∧ ¬ hexd a = 92 := by unfold hexd; split <;> omega
theorem sc_piece (s u : ByteArray) (x : Nat × Int) (hx : x ∈ pcs u) (R : List UInt8) (f p : Nat) (h : At s p (apQ u true x) R) (hf : s.size ≤ p + f) :
    ∃ f', s.size ≤ p + (apQ u true x).length + f' ∧ scF s f p = scF s f' (p + (apQ u true x).length) := by
  rcases apQ_forms u x hx with ⟨a, b, ha, hb, e, k⟩ | ⟨c, hc, e, k⟩ | ⟨hX, k⟩
  · rw [e] at h ⊢
    have h1 : At s p ([92, 120] ++ [UInt8.ofNat (hexd a), UInt8.ofNat (hexd b)]) R := h
    obtain ⟨f1, a1, a2⟩ := sc_esc s 120 _ f p h1.app hf
    obtain ⟨f2, b1, b2⟩ := sc_plain s [UInt8.ofNat (hexd a), UInt8.ofNat (hexd b)] (by
      intro y hy
      have ka := hexd_lt a ha
      have kb := hexd_lt b hb
      simp only [List.mem_cons, List.not_mem_nil, or_false] at hy
      rcases hy with rfl | rfl
      · rw [UInt8.toNat_ofNat', Nat.mod_eq_of_lt ka]; exact hexd_free a
      · rw [UInt8.toNat_ofNat', Nat.mod_eq_of_lt kb]; exact hexd_free b) R f1 (p + 2) h1.app.next a1
    exact ⟨f2, by simpa using b1, by rw [a2, b2]; rfl⟩
  · rw [e] at h ⊢; exact sc_esc s c R f p h hf
  · exact sc_plain s _ hX R f p h hf
theorem sc_all (s u : ByteArray) : ∀ (L : List (Nat × Int)), (∀ x ∈ L, x ∈ pcs u) → ∀ (R : List UInt8) (f p : Nat), At s p (L.flatMap (apQ u true)) R → s.size ≤ p + f →
    ∃ f', s.size ≤ p + (L.flatMap (apQ u true)).length + f' ∧ scF s f p = scF s f' (p + (L.flatMap (apQ u true)).length)
  | [], _, R, f, p, h, hf => ⟨f, by simpa using hf, by simp⟩
  | x :: L, hL, R, f, p, h, hf => by
    rw [List.flatMap_cons] at h
    obtain ⟨f1, a1, a2⟩ := sc_piece s u x (hL x (by simp)) _ f p h.app hf
    obtain ⟨f2, b1, b2⟩ := sc_all s u L (fun y hy => hL y (by simp [hy])) R f1 _ h.app.next a1
    refine ⟨f2, ?_, ?_⟩
    · rw [List.flatMap_cons, List.length_append]; omega
    · rw [a2, b2, List.flatMap_cons, List.length_append, Nat.add_assoc]
theorem sc_quB (s u : ByteArray) (R : List UInt8) (h : s.data.toList = (quB u).data.toList ++ R) : scF s s.size 1 + 1 = (quB u).size := by
  have h0 := At_quB h
  have h1 : At s 1 ((pcs u).flatMap (apQ u true)) ([34] ++ R) := h0.next
  obtain ⟨hlt, _, _⟩ := h0.head
  obtain ⟨f', a1, a2⟩ := sc_all s u (pcs u) (fun _ h => h) _ s.size 1 h1 (by omega)
  have h2 : At s _ [34] R := h1.next
  obtain ⟨hlt2, hb2, _⟩ := h2.head
  rw [a2]
  obtain ⟨f', rfl⟩ : ∃ j, f' = j + 1 := ⟨f' - 1, by omega⟩
  rw [scF, if_neg (by rw [hb2]; simp)]
  have : (quB u).size = (quB u).data.toList.length := by simp
  rw [this, quB_list]
  simp; omega

/-! ### the document's Unquote -/
theorem us_plain (s : ByteArray) : ∀ (X : List UInt8), (∀ b ∈ X, ¬ b.toNat = 34 ∧ ¬ b.toNat = 92) → ∀ (R : List UInt8), 1 ≤ R.length → ∀ (f p : Nat) (l : List UInt8), At s p X R → s.size ≤ p + f →
    ∃ f', s.size ≤ p + X.length + f' ∧ unqS s f p l = unqS s f' (p + X.length) (l ++ X)
  | [], _, R, hR, f, p, l, h, hf => ⟨f, by simpa using hf, by simp⟩
  | b :: X, hX, R, hR, f, p, l, h, hf => by
    obtain ⟨hlt, hb, h'⟩ := h.head
    have hz := h.size (by omega)
    simp at hz
    obtain ⟨f, rfl⟩ : ∃ j, f = j + 1 := ⟨f - 1, by omega⟩
    have hb' := hX b (by simp)
    obtain ⟨f', g1, g2⟩ := us_plain s X (fun b hb => hX b (by simp [hb])) R hR f (p + 1) (l ++ [b]) h' (by omega)
    refine ⟨f', by simp; omega, ?_⟩
    rw [unqS, if_pos (by omega), if_pos (.inl (by rw [hb]; exact hb'.2)), ofNat_eq hb, g2]
    simp [Nat.add_assoc, Nat.add_comm 1]
theorem us_esc (s : ByteArray) (c : UInt8) (hc : c = 92 ∨ c = 34) (R : List UInt8) (hR : 1 ≤ R.length) (f p : Nat) (l : List UInt8) (h : At s p [92, c] R) (hf : s.size ≤ p + f) :
    ∃ f', s.size ≤ p + 2 + f' ∧ unqS s f p l = unqS s f' (p + 2) (l ++ [c]) := by
  obtain ⟨hlt, hb, h1⟩ := h.head
  obtain ⟨hlt1, hb1, h2⟩ := h1.head
  have hz := h.size (by omega)
  simp at hz
  obtain ⟨f, rfl⟩ : ∃ j, f = j + 1 := ⟨f - 1, by omega⟩
  refine ⟨f, by omega, ?_⟩
  have n120 : ¬ bt s (p + 1) = 120 := by rw [hb1]; rcases hc with rfl | rfl <;> decide
  rw [unqS, if_pos (by omega), if_neg (by rw [hb]; simp; omega), if_neg (fun k => n120 k.1), ofNat_eq hb1]
theorem us_hex (s : ByteArray) (a b : Nat) (ha : a < 16) (hb : b < 16) (R : List UInt8) (hR : 1 ≤ R.length) (f p : Nat) (l : List UInt8) (h : At s p [92, 120, UInt8.ofNat (hexd a), UInt8.ofNat (hexd b)] R) (hf : s.size ≤ p + f) :
    ∃ f', s.size ≤ p + 4 + f' ∧ unqS s f p l = unqS s f' (p + 4) (l ++ [UInt8.ofNat (16 * a + b)]) := by
  obtain ⟨hlt, h0, h1⟩ := h.head
  obtain ⟨hlt1, g1, h2⟩ := h1.head
  obtain ⟨hlt2, g2, h3⟩ := h2.head
  obtain ⟨hlt3, g3, h4⟩ := h3.head
  have hz := h.size (by omega)
  simp at hz
  obtain ⟨f, rfl⟩ : ∃ j, f = j + 1 := ⟨f - 1, by omega⟩
  refine ⟨f, by omega, ?_⟩
  have ka := hexd_lt a ha
  have kb := hexd_lt b hb
  rw [UInt8.toNat_ofNat', Nat.mod_eq_of_lt ka] at g2
  rw [UInt8.toNat_ofNat', Nat.mod_eq_of_lt kb] at g3
  have g2' : bt s (p + 2) = hexd a := g2
  have g3' : bt s (p + 3) = hexd b := g3
  rw [unqS, if_pos (by omega), if_neg (by rw [h0]; simp; omega), g2', g3', digI_hexd a _ ha rfl, digI_hexd b _ hb rfl, if_pos ⟨by rw [g1]; rfl, by omega, by omega, by omega⟩]
  simp
theorem us_piece (s u : ByteArray) (x : Nat × Int) (hx : x ∈ pcs u) (R : List UInt8) (hR : 1 ≤ R.length) (f p : Nat) (l : List UInt8) (h : At s p (apQ u true x) R) (hf : s.size ≤ p + f) :
    ∃ f', s.size ≤ p + (apQ u true x).length + f' ∧ unqS s f p l = unqS s f' (p + (apQ u true x).length) (l ++ (pieceS u x).data.toList) := by
  rcases apQ_forms u x hx with ⟨a, b, ha, hb, e, k⟩ | ⟨c, hc, e, k⟩ | ⟨hX, k⟩
  · rw [e] at h ⊢; rw [k]; exact us_hex s a b ha hb R hR f p l h hf
  · rw [e] at h ⊢; rw [k]; exact us_esc s c hc R hR f p l h hf
  · rw [k]; exact us_plain s _ hX R hR f p l h hf
theorem us_all (s u : ByteArray) : ∀ (L : List (Nat × Int)), (∀ x ∈ L, x ∈ pcs u) → ∀ (R : List UInt8), 1 ≤ R.length → ∀ (f p : Nat) (l : List UInt8), At s p (L.flatMap (apQ u true)) R → s.size ≤ p + f →
    ∃ f', s.size ≤ p + (L.flatMap (apQ u true)).length + f' ∧ unqS s f p l = unqS s f' (p + (L.flatMap (apQ u true)).length) (l ++ L.flatMap (fun x => (pieceS u x).data.toList))
  | [], _, R, hR, f, p, l, h, hf => ⟨f, by simpa using hf, by simp⟩
  | x :: L, hL, R, hR, f, p, l, h, hf => by
    rw [List.flatMap_cons] at h
    obtain ⟨f1, a1, a2⟩ := us_piece s u x (hL x (by simp)) _ (by simp; omega) f p l h.app hf
    obtain ⟨f2, b1, b2⟩ := us_all s u L (fun y hy => hL y (by simp [hy])) R hR f1 _ (l ++ (pieceS u x).data.toList) h.app.next a1
    refine ⟨f2, ?_, ?_⟩
    · rw [List.flatMap_cons, List.length_append]; omega
    · rw [a2, b2, List.flatMap_cons, List.flatMap_cons, List.length_append, Nat.add_assoc, List.append_assoc]
theorem us_quB (u : ByteArray) : unqS (quB u) (quB u).size 1 [] = u.data.toList := by
  have h0 := At_quB (s := quB u) (u := u) (R := []) (by simp)
  have h1 : At (quB u) 1 ((pcs u).flatMap (apQ u true)) ([34] ++ []) := h0.next
  obtain ⟨hlt, _, _⟩ := h0.head
  obtain ⟨f', a1, a2⟩ := us_all (quB u) u (pcs u) (fun _ h => h) _ (by simp) (quB u).size 1 [] h1 (by omega)
  have h2 : At (quB u) _ [34] [] := h1.next
  obtain ⟨hlt2, hb2, _⟩ := h2.head
  have hz := h1.size (by omega)
  rw [a2, pieces_all]
  cases f' with
  | zero => simp [unqS]
  | succ f' => rw [unqS, if_neg (by simp only [List.length_append, List.length_cons, List.length_nil] at hz; omega)]; simp

/-! ### both read alike -/
/-- what the document's Front answers -/
def frR (s : ByteArray) : Option (ByteArray × Nat) :=
  if s.size ≤ scF s s.size 1 then none else
  match unR (s.extract 0 (scF s s.size 1 + 1)) with
  | none => none
  | some u => some (u, scF s s.size 1 + 1)
theorem ba_ext {a b : ByteArray} (h : a.data.toList = b.data.toList) : a = b := ByteArray.ext (Array.toList_inj.1 h)
theorem unR_quB (u : ByteArray) : unR (quB u) = some u := by
  unfold unR; rw [us_quB]; rw [if_pos rfl]
theorem unR_some {t u : ByteArray} (h : unR t = some u) : quB u = t := by
  unfold unR at h; split at h
  · rename_i k; cases h; exact k
  · cases h
theorem front_split {s : ByteArray} {n : Nat} {q : ByteArray} (h : q = s.extract 0 n) (hn : n ≤ s.size) : s.data.toList = q.data.toList ++ s.data.toList.drop n ∧ n = q.size := by
  subst h
  refine ⟨by rw [ext_take]; simp, by simp; omega⟩
theorem frT_some {s u : ByteArray} {n : Nat} (h : frT s = some (u, n)) : quB u = s.extract 0 n ∧ n ≤ s.size := by
  unfold frT at h
  cases hq : rqO s with
  | none => rw [hq] at h; cases h
  | some x =>
    obtain ⟨l, m⟩ := x
    have hb := rqO_bd s l m hq
    rw [hq] at h
    simp only at h
    split at h
    · rename_i k
      simp only [Option.some.injEq, Prod.mk.injEq] at h
      obtain ⟨rfl, rfl⟩ := h
      exact ⟨k, hb.2.1⟩
    · cases h
theorem frR_some {s u : ByteArray} {n : Nat} (h : frR s = some (u, n)) : quB u = s.extract 0 n ∧ n ≤ s.size := by
  unfold frR at h
  split at h
  · cases h
  · rename_i hlt
    cases hu : unR (s.extract 0 (scF s s.size 1 + 1)) with
    | none => rw [hu] at h; cases h
    | some v =>
      rw [hu] at h
      simp only [Option.some.injEq, Prod.mk.injEq] at h
      obtain ⟨rfl, rfl⟩ := h
      exact ⟨unR_some hu, by omega⟩
theorem frT_of {s u : ByteArray} {n : Nat} (h : quB u = s.extract 0 n) (hn : n ≤ s.size) : frT s = some (u, n) := by
  obtain ⟨h1, h2⟩ := front_split h hn
  unfold frT
  rw [rqO_quB s u _ h1]
  simp only
  rw [← h2, if_pos h]
theorem frR_of {s u : ByteArray} {n : Nat} (h : quB u = s.extract 0 n) (hn : n ≤ s.size) : frR s = some (u, n) := by
  obtain ⟨h1, h2⟩ := front_split h hn
  have hsc := sc_quB s u _ h1
  have hpos : 1 ≤ n := by omega
  unfold frR
  rw [if_neg (by omega), hsc, ← h2, ← h, unR_quB]
/-- THE QUOTES AT THE FRONT: both say the same -/
theorem fr_same (s : ByteArray) : frR s = frT s := by
  cases h : frT s with
  | some x => obtain ⟨u, n⟩ := x; obtain ⟨a, b⟩ := frT_some h; exact frR_of a b
  | none =>
    cases h' : frR s with
    | none => rfl
    | some x => obtain ⟨u, n⟩ := x; obtain ⟨a, b⟩ := frR_some h'; rw [frT_of a b] at h; cases h
theorem ext_all (t : ByteArray) : t.extract 0 t.size = t := by apply ba_ext; rw [ext_take, List.drop_zero, List.take_of_length_le (by simp)]
theorem un_same (t : ByteArray) : unR t = unT t := by
  cases h : unR t with
  | some u =>
    have k := unR_some h
    unfold unT
    rw [frT_of (u := u) (n := t.size) (by rw [ext_all, k]) (Nat.le_refl _)]
    simp
  | none =>
    unfold unT
    cases h' : frT t with
    | none => rfl
    | some x =>
      obtain ⟨u, n⟩ := x
      obtain ⟨a, b⟩ := frT_some h'
      simp only
      split
      · rename_i hn
        rw [hn, ext_all] at a
        rw [← a, unR_quB] at h; cases h
      · rfl
end Go.Proofs.YteegnmblbjcfpaaDoor.T
