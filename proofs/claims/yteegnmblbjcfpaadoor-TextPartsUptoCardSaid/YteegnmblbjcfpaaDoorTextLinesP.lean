/-
  PLAIN: widths add up at a place that no rune crosses; what fits; words stand for themselves; lines, joined with blanks, have the same words; no line is wider than it may be, and each ends where the next word has no room.
-/
import Derived.Test.YteegnmblbjcfpaaDoorTextInj
import Derived.Test.YteegnmblbjcfpaaDoorTextRefWrap
set_option linter.unusedVariables false
namespace Go.Proofs.YteegnmblbjcfpaaDoor.T
open Go Go.Lib Go.RowKit Go.Shelf

/-! ### a part of a text is taken as it is within the text -/
theorem decN_less (n n' b0 b1 b2 b3 c1 c2 c3 : Nat) (h1 : 1 ≤ n') (hn : n' ≤ n) (k1 : 1 < n' → c1 = b1) (k2 : 2 < n' → c2 = b2) (k3 : 3 < n' → c3 = b3) (hl : (decodeN n b0 b1 b2 b3).2 ≤ n') :
    decodeN n' b0 c1 c2 c3 = decodeN n b0 b1 b2 b3 := by
  by_cases a1 : 1 < n'
  · have := k1 a1; subst this
    by_cases a2 : 2 < n'
    · have := k2 a2; subst this
      by_cases a3 : 3 < n'
      · have := k3 a3; subst this
        unfold decodeN
        simp only [a1, a2, a3, show 1 < n by omega, show 2 < n by omega, show 3 < n by omega, true_and]
      · unfold decodeN at hl ⊢
        simp only [a1, a2, a3, show 1 < n by omega, show 2 < n by omega, true_and, false_and, and_false, if_false] at hl ⊢
        (repeat' split at hl) <;> (repeat' split) <;> first | rfl | (simp at hl; omega) | (exfalso; omega) | (simp_all; done) | (simp_all; omega)
    · unfold decodeN at hl ⊢
      simp only [a1, a2, show ¬ 3 < n' by omega, show 1 < n by omega, true_and, false_and, and_false, if_false] at hl ⊢
      (repeat' split at hl) <;> (repeat' split) <;> first | rfl | (simp at hl; omega) | (exfalso; omega) | (simp_all; done) | (simp_all; omega)
  · unfold decodeN at hl ⊢
    simp only [a1, show ¬ 2 < n' by omega, show ¬ 3 < n' by omega, false_and, and_false, if_false] at hl ⊢
    (repeat' split at hl) <;> (repeat' split) <;> first | rfl | (simp at hl; omega) | (exfalso; omega) | (simp_all; done) | (simp_all; omega)
/-- the bytes behind a rune's first are none of those below 128 -/
theorem decN_cont (n b0 b1 b2 b3 : Nat) : (1 < (decodeN n b0 b1 b2 b3).2 → 128 ≤ b1) ∧ (2 < (decodeN n b0 b1 b2 b3).2 → 128 ≤ b2) ∧ (3 < (decodeN n b0 b1 b2 b3).2 → 128 ≤ b3) ∧ (decodeN n b0 b1 b2 b3).2 ≤ 4 := by
  unfold decodeN
  (repeat' split) <;> simp <;> omega
theorem dec_cont (s : ByteArray) (p j : Nat) (h1 : 1 ≤ j) (h : j < (Utf8.decode s p).2) : 128 ≤ bt s (p + j) := by
  have k := decN_cont (s.size - p) (bt s p) (bt s (p + 1)) (bt s (p + 2)) (bt s (p + 3))
  rw [decode_at] at h
  unfold bt at *
  obtain ⟨a1, a2, a3, a4⟩ := k
  obtain rfl | rfl | rfl : j = 1 ∨ j = 2 ∨ j = 3 := by omega
  · exact a1 h
  · exact a2 h
  · exact a3 h
theorem dec_ext (s : ByteArray) (a q p : Nat) (h1 : a ≤ p) (h2 : p < q) (h3 : q ≤ s.size) (hl : p + (Utf8.decode s p).2 ≤ q) : Utf8.decode (s.extract a q) (p - a) = Utf8.decode s p := by
  have hb : ∀ k, p + k < q → (s.extract a q).get! (p - a + k) = s.get! (p + k) := fun k hk => by
    rw [get_front s a q (p - a + k) (by omega) h3, show a + (p - a + k) = p + k by omega]
  rw [decode_at] at hl
  rw [decode_at, decode_at]
  have hz : (s.extract a q).size - (p - a) = q - p := by simp; omega
  have b0 := hb 0 (by omega)
  simp only [Nat.add_zero] at b0
  rw [hz, b0]
  exact decN_less _ _ _ _ _ _ _ _ _ (by omega) (by omega) (fun h => by rw [hb 1 (by omega)]) (fun h => by rw [hb 2 (by omega)]) (fun h => by rw [hb 3 (by omega)]) (by omega)
theorem pc_ext (s : ByteArray) (a q p : Nat) (h1 : a ≤ p) (h2 : p < q) (h3 : q ≤ s.size) (hl : p + (pc s p).2 ≤ q) : pc (s.extract a q) (p - a) = pc s p := by
  rw [pc_2] at hl
  unfold pc; rw [dec_ext s a q p h1 h2 h3 hl]
/-- no rune that is taken from p on crosses q -/
def NoX (s : ByteArray) (p q : Nat) : Prop := ∀ x ∈ pcsFrom s p, x.1 < q → x.1 + (pc s x.1).2 ≤ q
theorem NoX.self (s : ByteArray) (p : Nat) : NoX s p p := fun x hx h => by have := (pcsFrom_mem s s.size p (by omega) x hx).1; omega
theorem NoX.full (s : ByteArray) (p : Nat) : NoX s p s.size := fun x hx h => (pc_pos s x.1 h).2
theorem NoX.low (s : ByteArray) (p q : Nat) (h : bt s q < 128) : NoX s p q := fun x hx h1 => by
  rcases Nat.lt_or_ge q (x.1 + (pc s x.1).2) with h2 | h2
  · rw [pc_2] at h2
    have := dec_cont s x.1 (q - x.1) (by omega) (by omega)
    rw [show x.1 + (q - x.1) = q by omega] at this; omega
  · exact h2
theorem width_cut (s : ByteArray) (a q : Nat) (hq : q ≤ s.size) : ∀ (k p : Nat), q - p ≤ k → a ≤ p → p ≤ q → NoX s p q → widthL (pcsFrom s p) = widthL (pcsFrom (s.extract a q) (p - a)) + widthL (pcsFrom s q)
  | k, p, hk, ha, hp, hx => by
    by_cases h : p = q
    · subst h
      rw [pcsFrom_end (s.extract a p) (p - a) (by simp; omega)]
      simp [widthL]
    · have hps : p < s.size := by omega
      have h1 := pc_pos s p hps
      have hmem : (p, (pc s p).1) ∈ pcsFrom s p := by rw [pcsFrom_step s p hps]; simp
      have hle := hx _ hmem (by simp only; omega)
      simp only at hle
      have e := pc_ext s a q p ha (by omega) hq hle
      cases k with
      | zero => omega
      | succ k =>
        have ih := width_cut s a q hq k (p + (pc s p).2) (by omega) (by omega) hle (fun x hx' h' => hx x (by rw [pcsFrom_step s p hps]; exact List.mem_cons_of_mem _ hx') h')
        rw [pcsFrom_step s p hps, pcsFrom_step (s.extract a q) (p - a) (by simp; omega), e, show p - a + (pc s p).2 = p + (pc s p).2 - a by omega]
        simp only [widthL]
        omega
theorem wd_cut (s : ByteArray) (q : Nat) (hq : q ≤ s.size) (hx : NoX s 0 q) : wd s = wd (s.extract 0 q) + wd (s.extract q s.size) := by
  have h1 := width_cut s 0 q hq q 0 (by omega) (by omega) (by omega) hx
  have h2 := width_cut s q s.size (Nat.le_refl _) s.size q (by omega) (by omega) hq (NoX.full s q)
  rw [pcsFrom_end s s.size (by omega)] at h2
  simp only [Nat.sub_self, widthL] at h1 h2
  unfold wd pcs
  omega
theorem wd_rest (s : ByteArray) (q : Nat) (hq : q ≤ s.size) : widthL (pcsFrom s q) = wd (s.extract q s.size) := by
  have h2 := width_cut s q s.size (Nat.le_refl _) s.size q (by omega) (by omega) hq (NoX.full s q)
  rw [pcsFrom_end s s.size (by omega)] at h2
  simp only [Nat.sub_self, widthL] at h2
  unfold wd pcs; omega

/-! ### what fits -/
theorem fitL_spec (s : ByteArray) (room : Int) : ∀ (k p : Nat) (t : Int), s.size - p ≤ k → p ≤ s.size → t ≤ room →
    p ≤ fitL s.size room t (pcsFrom s p) ∧ fitL s.size room t (pcsFrom s p) ≤ s.size ∧ NoX s p (fitL s.size room t (pcsFrom s p)) ∧
    t + widthL (pcsFrom s p) ≤ room + widthL (pcsFrom s (fitL s.size room t (pcsFrom s p))) ∧
    (fitL s.size room t (pcsFrom s p) < s.size → room < t + widthL (pcsFrom s p) - widthL (pcsFrom s (fitL s.size room t (pcsFrom s p))) + wOf (pc s (fitL s.size room t (pcsFrom s p))).1)
  | k, p, t, hk, hp, ht => by
    by_cases h : p < s.size
    · have h1 := pc_pos s p h
      rw [pcsFrom_step s p h]
      unfold fitL
      split
      · rename_i hr
        simp only at hr ⊢
        have e : widthL ((p, (pc s p).1) :: pcsFrom s (p + (pc s p).2)) = widthL (pcsFrom s p) := by rw [pcsFrom_step s p h]
        rw [e]
        exact ⟨Nat.le_refl _, by omega, NoX.self s p, by omega, fun _ => by omega⟩
      · rename_i hr
        simp only at hr
        cases k with
        | zero => omega
        | succ k =>
          obtain ⟨a1, a2, a3, a4, a5⟩ := fitL_spec s room k (p + (pc s p).2) (t + wOf (pc s p).1) (by omega) h1.2 (by omega)
          generalize fitL s.size room (t + wOf (pc s p).1) (pcsFrom s (p + (pc s p).2)) = q at *
          simp only [widthL]
          refine ⟨by omega, a2, fun x hx hxq => ?_, by omega, fun hq => by have := a5 hq; omega⟩
          rw [pcsFrom_step s p h] at hx
          rcases List.mem_cons.1 hx with rfl | hx
          · simp only; omega
          · exact a3 x hx hxq
    · have : p = s.size := by omega
      subst this
      rw [pcsFrom_end s s.size (by omega)]
      simp only [fitL, widthL]
      rw [pcsFrom_end s s.size (by omega)]
      simp only [widthL]
      exact ⟨Nat.le_refl _, Nat.le_refl _, NoX.full s _, by omega, fun h => by omega⟩
theorem fit_spec (s : ByteArray) (room : Int) (h0 : 0 ≤ room) : fit s room ≤ s.size ∧ NoX s 0 (fit s room) ∧ wd (s.extract 0 (fit s room)) ≤ room ∧ (fit s room < s.size → room < wd (s.extract 0 (fit s room)) + wOf (pc s (fit s room)).1) := by
  obtain ⟨a1, a2, a3, a4, a5⟩ := fitL_spec s room s.size 0 0 (by omega) (by omega) h0
  have e : fitL s.size room 0 (pcsFrom s 0) = fit s room := rfl
  rw [e] at a1 a2 a3 a4 a5
  have hc := width_cut s 0 (fit s room) a2 (fit s room) 0 (by omega) (by omega) (by omega) a3
  have e2 : widthL (pcsFrom (s.extract 0 (fit s room)) (0 - 0)) = wd (s.extract 0 (fit s room)) := rfl
  rw [e2] at hc
  exact ⟨a2, a3, by omega, fun h => by have := a5 h; omega⟩
theorem fit_all (s : ByteArray) (room : Int) (h : wd s ≤ room) : fit s room = s.size := by
  have hb := wd_bd s
  obtain ⟨a1, a2, a3, a4⟩ := fit_spec s room (by omega)
  rcases Nat.lt_or_ge (fit s room) s.size with h1 | h1
  · have h2 := a4 h1
    have h3 := wd_cut s _ a1 a2
    have h4 := wd_rest s _ a1
    rw [pcsFrom_step s _ h1] at h4
    simp only [widthL] at h4
    have h5 := widthL_bd (pcsFrom s (fit s room + (pc s (fit s room)).2))
    omega
  · omega

/-! ### words -/
/-- neither a blank nor a line end -/
def okB (b : UInt8) : Bool := !spP b.toNat
structure Word (room : Int) (x : ByteArray) : Prop where
  some : x.data.toList ≠ []
  free : ∀ b ∈ x.data.toList, okB b = true
  fits : wd x ≤ room
theorem Word.size {room : Int} {x : ByteArray} (h : Word room x) : 0 < x.size := by
  have h1 := h.some
  rcases Nat.eq_zero_or_pos x.size with h2 | h2
  · exact absurd (List.eq_nil_of_length_eq_zero (show x.data.toList.length = 0 by simpa using h2)) h1
  · exact h2
theorem data_len (x : ByteArray) : x.data.toList.length = x.size := by simp
theorem parts_self (room : Int) (h4 : 4 ≤ room) (x : ByteArray) (h : Word room x) : parts room x = [x] := by
  have hs := h.size
  rw [parts_some room h4 x (by omega), fit_all x room h.fits, ext_all, parts_none room _ (by simp)]
theorem parts_words (room : Int) (h4 : 4 ≤ room) : ∀ (k : Nat) (t : ByteArray), t.size ≤ k → (∀ b ∈ t.data.toList, okB b = true) → (∀ x ∈ parts room t, Word room x) ∧ (parts room t).flatMap (fun x => x.data.toList) = t.data.toList
  | k, t, hk, hf => by
    by_cases h : t.size = 0
    · rw [parts_none room t h]
      have : t.data.toList = [] := List.eq_nil_of_length_eq_zero (by rw [data_len]; exact h)
      rw [this]; simp
    · cases k with
      | zero => omega
      | succ k =>
        have hp := fit_pos t room h4 (by omega)
        obtain ⟨a1, a2, a3, a4⟩ := fit_spec t room (by omega)
        have e1 : (t.extract 0 (fit t room)).data.toList = t.data.toList.take (fit t room) := by rw [ext_take]; simp
        have e2 : (t.extract (fit t room) t.size).data.toList = t.data.toList.drop (fit t room) := by
          rw [ext_take, List.take_of_length_le (by simp)]
        have hes : (t.extract (fit t room) t.size).size = t.size - fit t room := by simp
        obtain ⟨b1, b2⟩ := parts_words room h4 k (t.extract (fit t room) t.size) (by omega) (fun b hb => hf b (by rw [e2] at hb; exact List.mem_of_mem_drop hb))
        rw [parts_some room h4 t h]
        refine ⟨fun x hx => ?_, ?_⟩
        · rcases List.mem_cons.1 hx with rfl | hx
          · refine ⟨?_, fun b hb => hf b (by rw [e1] at hb; exact List.mem_of_mem_take hb), a3⟩
            rw [e1]
            intro he
            have := congrArg List.length he
            rw [List.length_take, data_len, List.length_nil] at this
            omega
          · exact b1 x hx
        · rw [List.flatMap_cons, b2, e1, e2, List.take_append_drop]
/-- the stretches between blanks and line ends hold neither, and are all the rest -/
theorem segs_free (s : ByteArray) : ∀ (k a i : Nat), s.size - i ≤ k → a ≤ i → i ≤ s.size → (∀ b ∈ (s.data.toList.drop a).take (i - a), okB b = true) →
    (∀ x ∈ segs s a i, ∀ b ∈ (s.extract x.1 x.2).data.toList, okB b = true) ∧ (segs s a i).flatMap (fun x => (s.extract x.1 x.2).data.toList) = (s.data.toList.drop a).take (i - a) ++ (s.data.toList.drop i).filter okB
  | k, a, i, hk, ha, hi, hf => by
    by_cases h : i < s.size
    · have hlen : i < s.data.toList.length := by rw [data_len]; exact h
      have hd : s.data.toList.drop i = s.data.toList[i] :: s.data.toList.drop (i + 1) := List.drop_eq_getElem_cons hlen
      have hbt : bt s i = (s.data.toList[i]).toNat := by rw [bt_get s i h]; simp; rfl
      cases k with
      | zero => omega
      | succ k =>
        cases hq : spP (bt s i) with
        | true =>
          rw [segs_sep s a i h hq]
          obtain ⟨b1, b2⟩ := segs_free s k (i + 1) (i + 1) (by omega) (by omega) (by omega) (by simp)
          have hno : okB (s.data.toList[i]) = false := by unfold okB; rw [← hbt, hq]; rfl
          refine ⟨fun x hx => ?_, ?_⟩
          · rcases List.mem_cons.1 hx with rfl | hx
            · rw [ext_take]; exact hf
            · exact b1 x hx
          · rw [List.flatMap_cons, b2, ext_take, hd, List.filter_cons_of_neg (by rw [hno]; simp)]
            simp
        | false =>
          have hyes : okB (s.data.toList[i]) = true := by unfold okB; rw [← hbt, hq]; rfl
          have e : (s.data.toList.drop a).take (i + 1 - a) = (s.data.toList.drop a).take (i - a) ++ [s.data.toList[i]] := by
            rw [show i + 1 - a = (i - a) + 1 by omega, List.take_succ_eq_append_getElem (by rw [List.length_drop]; omega)]
            congr 1
            simp [show a + (i - a) = i by omega]
          rw [segs_on s a i h hq]
          obtain ⟨b1, b2⟩ := segs_free s k a (i + 1) (by omega) (by omega) (by omega) (by
            rw [e]
            intro b hb
            rcases List.mem_append.1 hb with hb | hb
            · exact hf b hb
            · rw [List.mem_singleton.1 hb]; exact hyes)
          refine ⟨b1, ?_⟩
          rw [b2, e, hd, List.filter_cons_of_pos hyes]; simp
    · have : i = s.size := by omega
      subst this
      rw [segs_end s a _ h]
      have e : s.data.toList.drop s.size = [] := List.drop_eq_nil_of_le (by rw [data_len]; omega)
      rw [e]
      refine ⟨fun x hx => ?_, ?_⟩
      · rw [List.mem_singleton.1 hx, ext_take]; exact hf
      · simp
theorem flat_flat {α : Type} (f : α → List ByteArray) (g : α → List UInt8) (h : ∀ x, (f x).flatMap (fun y => y.data.toList) = g x) (L : List α) : (L.flatMap f).flatMap (fun y => y.data.toList) = L.flatMap g := by
  induction L with
  | nil => rfl
  | cons x L ih => rw [List.flatMap_cons, List.flatMap_append, ih, h, List.flatMap_cons]
theorem rW_words (s : ByteArray) (room : Int) (h4 : 4 ≤ room) : (∀ x ∈ rW s room, Word room x) ∧ (rW s room).flatMap (fun x => x.data.toList) = s.data.toList.filter okB := by
  obtain ⟨a1, a2⟩ := segs_free s s.size 0 0 (by omega) (by omega) (by omega) (by simp)
  unfold rW
  refine ⟨fun x hx => ?_, ?_⟩
  · obtain ⟨y, hy, hx⟩ := List.mem_flatMap.1 hx
    exact (parts_words room h4 _ _ (Nat.le_refl _) (a1 y hy)).1 x hx
  · have : ∀ (L : List (Nat × Nat)), (∀ x ∈ L, ∀ b ∈ (s.extract x.1 x.2).data.toList, okB b = true) → (L.flatMap fun x => parts room (s.extract x.1 x.2)).flatMap (fun x => x.data.toList) = L.flatMap (fun x => (s.extract x.1 x.2).data.toList) := by
      intro L
      induction L with
      | nil => intro _; rfl
      | cons x L ih =>
        intro hL
        rw [List.flatMap_cons, List.flatMap_append, List.flatMap_cons, ih (fun y hy => hL y (by simp [hy])), (parts_words room h4 _ _ (Nat.le_refl _) (hL x (by simp))).2]
    rw [this _ a1, a2]; simp

/-! ### words, joined, are the same words -/
theorem spP_32 : spP 32 = true := by decide
theorem okB_not {b : UInt8} (h : okB b = true) : spP b.toNat = false := by unfold okB at h; simpa using h
theorem segs_join (s : ByteArray) (room : Int) : ∀ (x : ByteArray) (l : List ByteArray), (∀ y ∈ x :: l, Word room y) → ∀ i, i ≤ s.size → s.data.toList.drop i = Lib.join ((x :: l).map (·.data.toList)) [32] →
    (segs s i i).map (fun y => s.extract y.1 y.2) = x :: l
  | x, l, hw, i, hi, h => by
    have hx := hw x (by simp)
    have hA : At s i x.data.toList (Lib.joinTail [32] (l.map (·.data.toList))) := by unfold At; rw [h, List.map_cons, Lib.join_cons]
    have hz := hA.size hi
    rw [data_len] at hz
    have hbt : ∀ j, j < x.size → spP (bt s (i + j)) = false := fun j hj => by
      have e : s.data.toList[i + j]? = x.data.toList[j]? := by
        rw [← List.getElem?_drop, hA, List.getElem?_append_left (by rw [data_len]; exact hj)]
      have hlt : i + j < s.size := by omega
      rw [List.getElem?_eq_getElem (by rw [data_len]; exact hlt), List.getElem?_eq_getElem (by rw [data_len]; exact hj)] at e
      have e := Option.some.inj e
      have hb2 : bt s (i + j) = (s.data.toList[i + j]'(by rw [data_len]; exact hlt)).toNat := by rw [bt_get s _ hlt]; simp; rfl
      rw [hb2, e]
      have h2 := okB_not (hx.free _ (List.getElem_mem (l := x.data.toList) (n := j) (by rw [data_len]; exact hj)))
      exact h2
    rw [segs_skip s i x.size i (by omega) hbt]
    have hex : s.extract i (i + x.size) = x := by
      apply ba_ext
      rw [ext_take, hA, show i + x.size - i = x.data.toList.length by rw [data_len]; omega, List.take_left]
    cases l with
    | nil =>
      have : i + x.size = s.size := by simp [Lib.joinTail] at hz; omega
      rw [segs_end s i _ (by omega)]
      simp only [List.map_cons, List.map_nil]
      rw [← this, hex]
    | cons y l =>
      have hA2 : At s (i + x.size) [32] (Lib.join ((y :: l).map (·.data.toList)) [32]) := by
        have := hA.skip
        unfold At at this ⊢
        rw [data_len] at this
        rw [this, List.map_cons, Lib.join_cons]
        simp [Lib.joinTail]
      obtain ⟨g1, g2, g3⟩ := At.head hA2
      have g2' : bt s (i + x.size) = 32 := g2
      rw [segs_sep s i _ g1 (by rw [g2']; exact spP_32), List.map_cons]
      simp only [hex]
      rw [segs_join s room y l (fun z hz => hw z (by simp at hz ⊢; exact .inr hz)) (i + x.size + 1) (by omega) (by simpa [At] using g3)]
theorem join_words (room : Int) (h4 : 4 ≤ room) (WL : List ByteArray) (hw : ∀ y ∈ WL, Word room y) : rW (joinS WL) room = WL := by
  cases WL with
  | nil => rfl
  | cons x l =>
    have h := segs_join (joinS (x :: l)) room x l hw 0 (by omega) (by simp [joinS])
    unfold rW
    have e : (segs (joinS (x :: l)) 0 0).flatMap (fun y => parts room ((joinS (x :: l)).extract y.1 y.2)) = ((segs (joinS (x :: l)) 0 0).map (fun y => (joinS (x :: l)).extract y.1 y.2)).flatMap (parts room) := by rw [List.flatMap_map]
    rw [e, h]
    have : ∀ (L : List ByteArray), (∀ y ∈ L, Word room y) → L.flatMap (parts room) = L := by
      intro L
      induction L with
      | nil => intro _; rfl
      | cons y L ih => intro hL; rw [List.flatMap_cons, parts_self room h4 y (hL y (by simp)), ih (fun z hz => hL z (by simp [hz]))]; rfl
    exact this _ hw

/-! ### the lines -/
theorem joinS_data (xs : List ByteArray) : (joinS xs).data.toList = Lib.join (xs.map (·.data.toList)) [32] := by simp [joinS]
theorem join_split (x : List UInt8) (a : List (List UInt8)) (y : List UInt8) (b : List (List UInt8)) : Lib.join (x :: a ++ y :: b) [32] = Lib.join (x :: a) [32] ++ 32 :: Lib.join (y :: b) [32] := by
  rw [List.cons_append, Lib.join_cons, Lib.join_cons, Lib.join_cons]
  simp [Lib.joinTail]
theorem lines_ne (room : Int) (x : ByteArray) (l : List ByteArray) : lines room (x :: l) ≠ [] := by rw [lines_cons]; simp
theorem joinS_lines (room : Int) : ∀ (k : Nat) (WL : List ByteArray), WL.length ≤ k → joinS (lines room WL) = joinS WL
  | _, [], _ => rfl
  | 0, x :: l, h => by simp at h
  | k + 1, x :: l, h => by
    have hb := lineN_bd room x l
    rw [lines_cons]
    generalize lineN room (x :: l) = n at *
    apply ba_ext
    obtain ⟨a, ha⟩ : ∃ a, (x :: l).take n = x :: a := by
      obtain ⟨m, rfl⟩ : ∃ m, n = m + 1 := ⟨n - 1, by omega⟩
      exact ⟨l.take m, rfl⟩
    cases hd : (x :: l).drop n with
    | nil =>
      have ht : (x :: l).take n = x :: l := by have := List.take_append_drop n (x :: l); rw [hd, List.append_nil] at this; exact this
      rw [ht, joinS_data, lines_nil]
      simp [Lib.join_one]
    | cons y b =>
      have ih := joinS_lines room k (y :: b) (by
        have := congrArg List.length hd
        rw [List.length_drop] at this; simp at this h hb ⊢; omega)
      have ht : (x :: l) = x :: a ++ y :: b := by rw [← ha, ← hd, List.take_append_drop]
      have e1 : (joinS (x :: l)).data.toList = (joinS (x :: a)).data.toList ++ 32 :: (joinS (y :: b)).data.toList := by
        rw [joinS_data, joinS_data, joinS_data, ht, List.map_append]
        exact join_split x.data.toList (a.map fun z : ByteArray => z.data.toList) y.data.toList (b.map fun z : ByteArray => z.data.toList)
      rw [ha, e1, ← ih, joinS_data (joinS (x :: a) :: lines room (y :: b)), joinS_data (lines room (y :: b)), List.map_cons]
      cases hL : lines room (y :: b) with
      | nil => exact absurd hL (lines_ne room y b)
      | cons z c =>
        have := join_split (joinS (x :: a)).data.toList [] z.data.toList (c.map fun z : ByteArray => z.data.toList)
        simpa [Lib.join_one] using this
theorem filter_join (WL : List ByteArray) (hw : ∀ x ∈ WL, ∀ b ∈ x.data.toList, okB b = true) : (joinS WL).data.toList.filter okB = WL.flatMap (fun x => x.data.toList) := by
  rw [joinS_data]
  have n32 : okB 32 = false := by decide
  have hall : ∀ x : ByteArray, (∀ b ∈ x.data.toList, okB b = true) → x.data.toList.filter okB = x.data.toList := fun x h => List.filter_eq_self.2 h
  cases WL with
  | nil => simp [Lib.join_nil]
  | cons x l =>
    rw [List.map_cons, Lib.join_cons, List.filter_append, hall x (hw x (by simp)), List.flatMap_cons]
    congr 1
    have : ∀ L : List ByteArray, (∀ y ∈ L, ∀ b ∈ y.data.toList, okB b = true) → (Lib.joinTail [32] (L.map (·.data.toList))).filter okB = L.flatMap (fun y => y.data.toList) := by
      intro L
      induction L with
      | nil => intro _; rfl
      | cons y L ih =>
        intro hL
        have := ih (fun z hz => hL z (by simp [hz]))
        have e : Lib.joinTail [32] ((y :: L).map (·.data.toList)) = [32] ++ y.data.toList ++ Lib.joinTail [32] (L.map (·.data.toList)) := by simp [Lib.joinTail]
        have e3 : ([32] : List UInt8).filter okB = [] := by decide
        rw [e, List.filter_append, List.filter_append, this, hall y (hL y (by simp)), List.flatMap_cons, e3]
        simp
    exact this l (fun y hy => hw y (by simp [hy]))

/-! ### widths of lines -/
def wsum : List ByteArray → Int
  | [] => 0
  | x :: l => 1 + wd x + wsum l
theorem bt_low (s : ByteArray) (q : Nat) (x : UInt8) (X R : List UInt8) (h : At s q (x :: X) R) (hx : x.toNat < 128) : bt s q < 128 := by rw [h.head.2.1]; exact hx
theorem wd_blank (X Y : List UInt8) : wd ⟨(X ++ 32 :: Y).toArray⟩ = wd ⟨X.toArray⟩ + 1 + wd ⟨Y.toArray⟩ := by
  have k32 : wd ⟨#[32]⟩ = 1 := by decide +kernel
  have hA : At (⟨(X ++ 32 :: Y).toArray⟩ : ByteArray) X.length [32] Y := by simp [At]
  have hs : (⟨(X ++ 32 :: Y).toArray⟩ : ByteArray).size = X.length + 1 + Y.length := by simp [ByteArray.size]; omega
  rw [wd_cut _ X.length (by omega) (NoX.low _ _ _ (bt_low _ _ 32 [] Y hA (by decide)))]
  have e1 : (⟨(X ++ 32 :: Y).toArray⟩ : ByteArray).extract 0 X.length = ⟨X.toArray⟩ := by apply ba_ext; rw [ext_take]; simp
  have e2 : (⟨(X ++ 32 :: Y).toArray⟩ : ByteArray).extract X.length (⟨(X ++ 32 :: Y).toArray⟩ : ByteArray).size = ⟨(32 :: Y).toArray⟩ := by apply ba_ext; rw [ext_take, hs, List.take_of_length_le (by simp; omega)]; simp
  rw [e1, e2]
  have hA2 : At (⟨(32 :: Y).toArray⟩ : ByteArray) 0 [32] Y := rfl
  have hs2 : (⟨(32 :: Y).toArray⟩ : ByteArray).size = Y.length + 1 := by simp [ByteArray.size]
  have hx : NoX (⟨(32 :: Y).toArray⟩ : ByteArray) 0 1 := fun x hx h => by
    have h0 : x.1 = 0 := by omega
    have hd : Utf8.decode (⟨(32 :: Y).toArray⟩ : ByteArray) 0 = (32, 1) := by
      rw [decode_at]
      have : ((⟨(32 :: Y).toArray⟩ : ByteArray).get! 0).toNat = 32 := (bt_get _ 0 (by omega)).trans rfl
      rw [this]; rfl
    rw [h0, pc_2, hd]; exact Nat.le_refl _
  rw [wd_cut _ 1 (by omega) hx]
  have e3 : (⟨(32 :: Y).toArray⟩ : ByteArray).extract 0 1 = ⟨#[32]⟩ := by apply ba_ext; rw [ext_take]; simp
  have e4 : (⟨(32 :: Y).toArray⟩ : ByteArray).extract 1 (⟨(32 :: Y).toArray⟩ : ByteArray).size = ⟨Y.toArray⟩ := by apply ba_ext; rw [ext_take, hs2, List.take_of_length_le (by simp)]; simp
  rw [e3, e4, k32]; omega
theorem wd_joinS : ∀ (l : List ByteArray) (x : ByteArray), wd (joinS (x :: l)) = wd x + wsum l
  | [], x => by
    have : joinS [x] = x := by apply ba_ext; rw [joinS_data]; simp [Lib.join_one]
    rw [this]; simp [wsum]
  | y :: l, x => by
    have e : joinS (x :: y :: l) = ⟨(x.data.toList ++ 32 :: (joinS (y :: l)).data.toList).toArray⟩ := by
      apply ba_ext
      rw [joinS_data, joinS_data]
      have := join_split x.data.toList [] y.data.toList (l.map (·.data.toList))
      simpa [Lib.join_one] using this
    rw [e, wd_blank]
    have e1 : (⟨x.data.toList.toArray⟩ : ByteArray) = x := by apply ba_ext; simp
    have e2 : (⟨(joinS (y :: l)).data.toList.toArray⟩ : ByteArray) = joinS (y :: l) := by apply ba_ext; simp
    rw [e1, e2, wd_joinS l y]
    simp only [wsum]; omega
theorem lineG_spec (room : Int) : ∀ (l : List ByteArray) (t : Int), t ≤ room → t + wsum (l.take (lineG room t l)) ≤ room ∧ (∀ y b, l.drop (lineG room t l) = y :: b → room < t + wsum (l.take (lineG room t l)) + (1 + wd y))
  | [], t, h => by
    refine ⟨by simp [wsum]; exact h, fun y b e => by simp [lineG] at e⟩
  | x :: l, t, h => by
    unfold lineG
    split
    · rename_i c
      refine ⟨by simp [wsum]; exact h, fun y b e => ?_⟩
      simp at e
      obtain ⟨rfl, rfl⟩ := e
      simp [wsum]; omega
    · rename_i c
      obtain ⟨a1, a2⟩ := lineG_spec room l (t + (1 + wd x)) (by omega)
      refine ⟨?_, fun y b e => ?_⟩
      · rw [List.take_succ_cons]; simp only [wsum]; omega
      · rw [List.drop_succ_cons] at e
        have := a2 y b e
        rw [List.take_succ_cons]; simp only [wsum]; omega
/-- a line: it holds something, begins and ends with no blank, is no wider than it may be -/
structure Line (room : Int) (y : ByteArray) : Prop where
  pos : 0 < y.size
  first : ¬ bt y 0 = 32
  last : ¬ bt y (y.size - 1) = 32
  fits : wd y ≤ room
/-- its first word has k bytes -/
def Fst (y : ByteArray) (k : Nat) : Prop := k ≤ y.size ∧ (∀ m, m < k → ¬ bt y m = 32) ∧ (k < y.size → bt y k = 32)
theorem bt_list (y : ByteArray) (m : Nat) (b : UInt8) (h : y.data.toList[m]? = some b) : m < y.size ∧ bt y m = b.toNat := by
  obtain ⟨h1, h2⟩ := List.getElem?_eq_some_iff.1 h
  rw [data_len] at h1
  refine ⟨h1, ?_⟩
  rw [bt_get y m h1, ← h2]; simp; rfl
theorem free_32 {room : Int} {x : ByteArray} (h : Word room x) (m : Nat) (hm : m < x.size) : ¬ bt x m = 32 := by
  have e : x.data.toList[m]? = some (x.data.toList[m]'(by rw [data_len]; exact hm)) := List.getElem?_eq_getElem _
  have h1 := h.free _ (List.mem_of_getElem? e)
  rw [(bt_list x m _ e).2]
  intro e2
  have := okB_not h1
  rw [e2] at this; cases this
theorem bt_left (X Y : List UInt8) (m : Nat) (h : m < X.length) : bt ⟨(X ++ Y).toArray⟩ m = bt ⟨X.toArray⟩ m := by
  have e1 : (X ++ Y)[m]? = some X[m] := by rw [List.getElem?_append_left h]; exact List.getElem?_eq_getElem h
  rw [(bt_list ⟨(X ++ Y).toArray⟩ m X[m] e1).2, (bt_list ⟨X.toArray⟩ m X[m] (List.getElem?_eq_getElem h)).2]
theorem ba_self (x : ByteArray) : (⟨x.data.toList.toArray⟩ : ByteArray) = x := by apply ba_ext; simp
theorem joinS_fst (room : Int) (x : ByteArray) (l : List ByteArray) (hx : Word room x) : Fst (joinS (x :: l)) x.size ∧ (joinS (x :: l)).extract 0 x.size = x := by
  have hd : (joinS (x :: l)).data.toList = x.data.toList ++ Lib.joinTail [32] (l.map (·.data.toList)) := by rw [joinS_data, List.map_cons, Lib.join_cons]
  have hj : joinS (x :: l) = ⟨(x.data.toList ++ Lib.joinTail [32] (l.map (·.data.toList))).toArray⟩ := by rw [← hd]
  have hsz : (joinS (x :: l)).size = x.size + (Lib.joinTail [32] (l.map (·.data.toList))).length := by rw [← data_len, hd, List.length_append, data_len]
  refine ⟨⟨by omega, fun m hm => ?_, fun h => ?_⟩, ?_⟩
  · rw [hj, bt_left _ _ m (by rw [data_len]; exact hm), ba_self]
    exact free_32 hx m hm
  · cases l with
    | nil => simp [Lib.joinTail] at hsz; omega
    | cons y l =>
      have : (joinS (x :: y :: l)).data.toList[x.size]? = some 32 := by
        rw [hd, List.getElem?_append_right (by rw [data_len]; omega), data_len, Nat.sub_self]
        simp [Lib.joinTail]
      exact (bt_list _ _ _ this).2
  · apply ba_ext
    rw [ext_take, hd, List.drop_zero, show x.size - 0 = x.data.toList.length by rw [data_len]; omega, List.take_left]
theorem joinS_last (room : Int) : ∀ (l : List ByteArray) (x : ByteArray), (∀ y ∈ x :: l, Word room y) → ∃ b, (joinS (x :: l)).data.toList.getLast? = some b ∧ okB b = true
  | [], x, h => by
    have : joinS [x] = x := by apply ba_ext; rw [joinS_data]; simp [Lib.join_one]
    rw [this]
    have hx := h x (by simp)
    refine ⟨x.data.toList.getLast hx.some, List.getLast?_eq_some_getLast hx.some, hx.free _ (List.getLast_mem _)⟩
  | y :: l, x, h => by
    obtain ⟨b, h1, h2⟩ := joinS_last room l y (fun z hz => h z (by simp at hz ⊢; exact .inr hz))
    refine ⟨b, ?_, h2⟩
    have := join_split x.data.toList [] y.data.toList (l.map (·.data.toList))
    rw [joinS_data] at h1 ⊢
    have e : Lib.join ((x :: y :: l).map (·.data.toList)) [32] = x.data.toList ++ 32 :: Lib.join ((y :: l).map (·.data.toList)) [32] := by simpa [Lib.join_one] using this
    rw [e, List.getLast?_append, List.getLast?_cons, h1]
    simp
theorem joinS_line (room : Int) (x : ByteArray) (l : List ByteArray) (hw : ∀ y ∈ x :: l, Word room y) (hwd : wd x + wsum l ≤ room) : Line room (joinS (x :: l)) := by
  have hx := hw x (by simp)
  obtain ⟨⟨a1, a2, a3⟩, _⟩ := joinS_fst room x l hx
  have hs := hx.size
  obtain ⟨b, h1, h2⟩ := joinS_last room l x hw
  refine ⟨by omega, a2 0 hs, ?_, by rw [wd_joinS]; exact hwd⟩
  rw [List.getLast?_eq_getElem?, data_len] at h1
  rw [(bt_list _ _ _ h1).2]
  intro e
  have := okB_not h2
  rw [e] at this; cases this
/-- what the lines keep -/
def LinesOk (room : Int) (L : List ByteArray) : Prop := ∀ i y, L[i]? = some y → Line room y ∧ ∀ j z, i = j + 1 → L[j]? = some z → ∃ k, Fst y k ∧ room ≤ wd z + wd (y.extract 0 k)
theorem lines_ok (room : Int) : ∀ (k : Nat) (WL : List ByteArray), WL.length ≤ k → (∀ y ∈ WL, Word room y) → LinesOk room (lines room WL)
  | _, [], _, _ => by intro i y h; simp [lines_nil] at h
  | 0, x :: l, h, _ => by simp at h
  | k + 1, x :: l, h, hw => by
    have hx := hw x (by simp)
    obtain ⟨g1, g2⟩ := lineG_spec room l (wd x) hx.fits
    have hn : lineN room (x :: l) = lineG room (wd x) l + 1 := rfl
    rw [lines_cons, hn]
    rw [List.take_succ_cons, List.drop_succ_cons]
    generalize lineG room (wd x) l = n at *
    have ih := lines_ok room k (l.drop n) (by rw [List.length_drop]; simp at h; omega) (fun y hy => hw y (by simp [List.mem_of_mem_drop hy]))
    have hl0 : Line room (joinS (x :: l.take n)) := joinS_line room x _ (fun y hy => by
      rcases List.mem_cons.1 hy with rfl | hy
      · exact hx
      · exact hw y (by simp [List.mem_of_mem_take hy])) g1
    intro i y hi
    cases i with
    | zero =>
      simp at hi; subst hi
      exact ⟨hl0, fun j z hj => by omega⟩
    | succ i =>
      rw [List.getElem?_cons_succ] at hi
      obtain ⟨b1, b2⟩ := ih i y hi
      refine ⟨b1, fun j z hj hz => ?_⟩
      have : j = i := by omega
      subst this
      cases j with
      | succ j =>
        rw [List.getElem?_cons_succ] at hz
        exact b2 j z rfl hz
      | zero =>
        simp at hz; subst hz
        cases hd : l.drop n with
        | nil => rw [hd] at hi; simp [lines_nil] at hi
        | cons x' l' =>
          have g3 := g2 x' l' hd
          rw [hd, lines_cons] at hi
          simp at hi; subst hi
          have hx' : Word room x' := hw x' (by
            have : x' ∈ l.drop n := by rw [hd]; simp
            simp [List.mem_of_mem_drop this])
          have hb := lineN_bd room x' l'
          obtain ⟨m, hm⟩ : ∃ m, lineN room (x' :: l') = m + 1 := ⟨lineN room (x' :: l') - 1, by omega⟩
          rw [hm, List.take_succ_cons]
          obtain ⟨f1, f2⟩ := joinS_fst room x' (l'.take m) hx'
          refine ⟨x'.size, f1, ?_⟩
          rw [f2, wd_joinS]; omega
end Go.Proofs.YteegnmblbjcfpaaDoor.T
