/-
  From of what Told has written: the same tree, anew.
-/
import Derived.Test.YtbldeiejlebbiaaPlaceNode
set_option linter.unusedVariables false
namespace Go.Proofs.Ytbldeiejlebbiaa.T
open Go Go.Lib Go.RowKit

theorem row_base {B B' size n : Nat} {e : TypeId} {w : World} {v : Value} {xs : List Value} (h : w.ownsRow B e size v n xs) (hB : B' ≤ B) : w.ownsRow B' e size v n xs := by
  refine ⟨h.1, ?_⟩
  rcases h.2 with h' | ⟨g, cap, cur, h1, h2, h3⟩
  · exact .inl h'
  · exact .inr ⟨g, cap, cur, h1, by omega, h3⟩
theorem nodeAt_take {ns : List Nd} {k j : Nat} (h : j ≤ k) : nodeAt (ns.take k) j = nodeAt ns j := by
  cases j with
  | zero => rfl
  | succ j => rw [nodeAt_succ, nodeAt_succ, List.getElem?_take, if_pos (by omega)]
theorem Pushed.same {ns ms : List Nd} {k : Nat} {q : Nd} (hw : Wf ns) (hq : ns[k]? = some q) (hP : Pushed (ns.take k) q.p q.x ms (k + 1)) (hl : ms.length = k + 1) : ms = ns.take (k + 1) := by
  have hk : k < ns.length := (List.getElem?_eq_some_iff.1 hq).1
  obtain ⟨h1, ⟨t, rfl⟩, _, ⟨r, h4, h5, h6, _⟩, _⟩ := hP
  have htl : (ns.take k).length = k := by rw [List.length_take]; omega
  rw [List.length_append, htl] at hl
  obtain ⟨r', rfl⟩ : ∃ r', t = [r'] := List.length_eq_one_iff.1 (by omega)
  have hr : r' = r := by
    rw [nodeAt_succ, List.getElem?_append_right (by omega), htl, Nat.sub_self] at h4
    simpa using h4
  subst hr
  obtain ⟨a1, ⟨s1, a2, a3⟩, _⟩ := h1.up k r' h4
  obtain ⟨b1, ⟨s2, b2, b3⟩, _⟩ := hw.up k q hq
  have e1 : nodeAt (ns.take k ++ [r']) q.p = some s2 := nodeAt_pre (List.prefix_append _ _) (by rw [nodeAt_take b1]; exact b2)
  rw [h5, e1] at a2
  cases a2
  have : r' = q := by
    cases r'; cases q
    simp only at h5 h6 a3 b3
    subst h5 h6 a3 b3
    rfl
  subst this
  rw [List.take_add_one, hq]
  rfl
theorem take_new {ns : List Nd} {k : Nat} {q : Nd} (hw : Wf ns) (hq : ns[k]? = some q) : (q.p, q.x) ∉ (ns.take k).map stepOf := fun h => by
  obtain ⟨r, hr, he⟩ := List.mem_map.1 h
  obtain ⟨i, hi, hie⟩ := List.mem_iff_getElem.1 hr
  have hik : i < k := by rw [List.length_take] at hi; omega
  have : ns[i]? = some r := by
    rw [← hie, List.getElem_take]; exact List.getElem?_eq_getElem _
  unfold stepOf at he
  simp only [Prod.mk.injEq] at he
  have := hw.one i k r q this hq he.1 he.2
  omega
theorem ndsB_length : ∀ (l : List Nd) (k : Nat), (∀ q ∈ l, q.x.n.size ≤ 120) → (ndsB k l).length ≤ 129 * l.length
  | [], _, _ => Nat.le_refl _
  | q :: l, k, h => by
    have ih := ndsB_length l (k + 1) (fun x hx => h x (List.mem_cons_of_mem _ hx))
    have h1 := ndB_length k q
    have h2 := h q (List.mem_cons_self ..)
    unfold ndsB
    rw [List.length_append, List.length_cons]
    omega
def FromPost (ns : List Nd) (w : World) (e : Ending) (w' : World) : Prop :=
  ∃ T v m, e = .returned (.tuple #[.pointer (some ⟨T, 0, none⟩), .int .i64 0]) ∧ TreeAt w.heap.size w' T v m ns ∧ Below w.heap.size w w'
set_option maxRecDepth 100000 in
set_option maxHeartbeats 4000000 in
theorem From_in {ns : List Nd} (hw : Wf ns) (hl : ns.length ≤ 4095) (w : World) :
    Calls Try.prog 14 #[.string ⟨(toldB ns).toArray⟩] w (FromPost ns w) := by
  have h120 : ∀ q ∈ ns, q.x.n.size ≤ 120 := fun q hq => by
    obtain ⟨i, hi, rfl⟩ := List.mem_iff_getElem.1 hq
    have := mayB_bd (hw.up i _ (List.getElem?_eq_getElem hi)).2.2.2
    omega
  have hnl := ndsB_length ns 1 h120
  have C1 := cutShort_read ns.length (by omega) (ndsB 1 ns) (by omega) w
  unfold toldB
  generalize hS0 : (⟨(shN ns.length ++ ndsB 1 ns).toArray⟩ : ByteArray) = S0 at *
  generalize hS1 : (⟨(ndsB 1 ns).toArray⟩ : ByteArray) = S1 at *
  have HS1 := Lib.hid hS1
  clear hS0 hS1
  have hN0 : decide ((ns.length : Int) ≥ 4096) = false := by simp; omega
  have hN1 : decide (4096 ≤ ns.length) = false := by simp; omega
  go_enter Try.func14, Try.ntmps14
  go_wp2_with (first | (go_at_call 13; refine (New_in _).mono ?_; rintro e w2 ⟨T, v, m, rfl, ht2, hb2⟩) | (go_at_call 20; refine C1.mono ?_; rintro e w1 ⟨rfl, hb1⟩))
  have ht : TreeAt w.heap.size w2 T v m [] := ⟨ht2.blk, row_base ht2.row hb1.size, ht2.map, ⟨Nat.le_trans hb1.size ht2.lo.1, Nat.le_trans hb1.size ht2.lo.2⟩, ht2.ok, ht2.few⟩
  have hb12 : Below w.heap.size w w2 := hb1.trans (hb2.mono hb1.size)
  go_loopw [0, 5, 21] (fun u b i wr => ∃ (k : Nat) (v' : Value), i = .int .i64 (k : Int) ∧ b = .bool true ∧ u = .string ⟨(ndsB (k + 1) (ns.drop k)).toArray⟩ ∧ k ≤ ns.length ∧ Wf (ns.take k) ∧ TreeAt w.heap.size wr T v' m (ns.take k) ∧ Below w.heap.size w wr)
    (fun _ _ i _ => ns.length - (RowKit.intOf i).toNat)
  case atStart => exact ⟨0, v, rfl, rfl, congrArg Value.string HS1.out.symm, Nat.zero_le _, Wf.nil, ht, hb12⟩
  case round =>
    obtain ⟨k, v', rfl, rfl, rfl, hk, hwk, htk, hbw⟩ := hrel
    by_cases hlt : k < ns.length
    · have hq : ns[k]? = some (ns[k]'hlt) := List.getElem?_eq_getElem hlt
      have hdr : ns.drop k = ns[k]'hlt :: ns.drop (k + 1) := List.drop_eq_getElem_cons hlt
      generalize ns[k]'hlt = q at *
      obtain ⟨a1, ⟨r, a2, a3⟩, a5, a6⟩ := hw.up k q hq
      have htl : (ns.take k).length = k := by rw [List.length_take]; omega
      have hrl := ndsB_length (ns.drop (k + 1)) (k + 1 + 1) (fun x hx => h120 x (List.mem_of_mem_drop hx))
      rw [List.length_drop] at hrl
      have cR := readNode_in q r (ndsB (k + 1 + 1) (ns.drop (k + 1))) wr htk hwk (by rw [nodeAt_take a1]; exact a2) (by omega) a6 (by omega) (take_new hw hq) (by omega)
      rw [htl] at cR
      have hu : ndsB (k + 1) (ns.drop k) = ndB (k + 1) q ++ ndsB (k + 1 + 1) (ns.drop (k + 1)) := by rw [hdr]; rfl
      rw [hu]
      have hN : decide ((k : Int) < (ns.length : Int)) = true := by simp; omega
      have HQ := Lib.hid hq
      have HTL := Lib.hid htl
      clear hq hdr hu htl h120 hnl C1 hrl
      generalize (⟨(ndB (k + 1) q ++ ndsB (k + 1 + 1) (ns.drop (k + 1))).toArray⟩ : ByteArray) = S at *
      go_wp2_with (go_at_call 21; refine cR.mono ?_; rintro e w3 ⟨ms, v3, rfl, hP, hms, ht3, hk3, hb3⟩)
      rw [HTL.out] at hP hms
      have hsame := hP.same hw HQ.out hms
      subst hsame
      go_roundw
      case rel => exact ⟨k + 1, v3, by go_num, rfl, rfl, hlt, hP.1, ht3, hbw.trans hb3⟩
      case measure => simp [RowKit.intOf]; omega
    · have : k = ns.length := by omega
      subst this
      rw [List.take_length] at htk
      rw [List.drop_length]
      have hN : decide ((ns.length : Int) < (ns.length : Int)) = false := by simp
      have he : (⟨(ndsB (ns.length + 1) []).toArray⟩ : ByteArray) = ⟨#[]⟩ := rfl
      rw [he]
      go_wp2
      go_ret2
      exact ⟨T, v', m, rfl, htk, hbw⟩
end Go.Proofs.Ytbldeiejlebbiaa.T
