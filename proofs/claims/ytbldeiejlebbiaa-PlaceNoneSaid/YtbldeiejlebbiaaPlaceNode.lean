/-
  readNode of what Told has written.
-/
import Derived.Test.YtbldeiejlebbiaaPlaceCutP
import Derived.Test.YtbldeiejlebbiaaPlaceTreeAdd
set_option linter.unusedVariables false
namespace Go.Proofs.Ytbldeiejlebbiaa.T
open Go Go.Lib Go.RowKit

theorem ext_take' (s : ByteArray) (p q : Nat) : (s.extract p q).data.toList = (s.data.toList.drop p).take (q - p) := by simp [List.extract]
theorem cutShort_read (n : Nat) (hn : n < 2097152) (rest : List UInt8) (hr : rest.length ≤ 268435000) (w : World) :
    Calls Try.prog 20 #[.string ⟨(shN n ++ rest).toArray⟩] w fun e w' => e = .returned (.tuple #[.int .i64 (n : Int), .string ⟨rest.toArray⟩, .bool true]) ∧ Below w.heap.size w w' := by
  have h3 := shN_length n
  have hsz : (⟨(shN n ++ rest).toArray⟩ : ByteArray).size = (shN n ++ rest).length := rfl
  have := cutShort_in ⟨(shN n ++ rest).toArray⟩ (by rw [hsz, List.length_append]; omega) w
  rw [cs_read n hn rest] at this
  exact this
def NodePost (B T m : Nat) (ns : List Nd) (q : Nd) (rest : List UInt8) (w : World) (e : Ending) (w' : World) : Prop :=
  ∃ ms v', e = .returned (.tuple #[.string ⟨rest.toArray⟩, .bool true]) ∧ Pushed ns q.p q.x ms (ns.length + 1) ∧ ms.length = ns.length + 1 ∧ TreeAt B w' T v' m ms ∧ KeepT T m w w' ∧ Below B w w'
theorem Pushed.new {ns ms : List Nd} {j n : Nat} {x : Pl} (h : Pushed ns j x ms n) (hi : (j, x) ∉ ns.map stepOf) : n = ns.length + 1 ∧ ms.length = ns.length + 1 := by
  obtain ⟨_, ⟨t, rfl⟩, h3, ⟨q, h4, rfl, rfl, h6⟩, _⟩ := h
  obtain ⟨n, rfl⟩ : ∃ k, n = k + 1 := ⟨n - 1, by omega⟩
  rw [nodeAt_succ] at h4
  have hlt := (List.getElem?_eq_some_iff.1 h4).1
  have hge : ns.length ≤ n := by
    rcases Nat.lt_or_ge n ns.length with h | h
    · rw [List.getElem?_append_left h] at h4
      exact (hi (List.mem_map.2 ⟨q, List.mem_of_getElem? h4, rfl⟩)).elim
    · exact h
  simp only [List.length_append] at h3 hlt ⊢
  omega
set_option maxRecDepth 100000 in
set_option maxHeartbeats 4000000 in
theorem readNode_in {B : Nat} {T : Nat} {v : Value} {m : Nat} {ns : List Nd} (q r : Nd) (rest : List UInt8) (w : World) (h : TreeAt B w T v m ns) (hw : Wf ns) (hq : nodeAt ns q.p = some r) (hd : r.d < 64) (hm : mayB q.x = true) (hroom : ns.length < 4095) (hi : (q.p, q.x) ∉ ns.map stepOf) (hr : rest.length ≤ 268400000) :
    Calls Try.prog 21 #[.pointer (some ⟨T, 0, none⟩), .string ⟨(ndB (ns.length + 1) q ++ rest).toArray⟩] w (NodePost B T m ns q rest w) := by
  have hmb := mayB_bd hm
  have hp : q.p ≤ ns.length := by have := (List.getElem?_eq_some_iff.1 hq).1; simp at this; omega
  have hnl : q.x.n.data.toList.length = q.x.n.size := rfl
  have s3 := shN_length q.x.k.toNat
  have s2 := shN_length q.x.n.size
  have C1 := fun W => cutShort_read (ns.length + 1 - q.p) (by omega) (shN q.x.n.size ++ (q.x.n.data.toList ++ (shN q.x.k.toNat ++ rest))) (by simp only [List.length_append]; omega) W
  have C2 := fun W => cutShort_read q.x.n.size (by omega) (q.x.n.data.toList ++ (shN q.x.k.toNat ++ rest)) (by simp only [List.length_append]; omega) W
  have C3 := fun W => cutShort_read q.x.k.toNat (by omega) rest (by omega) W
  have hkn : ((q.x.k.toNat : Nat) : Int) = q.x.k := by omega
  rw [hkn] at C3
  have hE : ndB (ns.length + 1) q ++ rest = shN (ns.length + 1 - q.p) ++ (shN q.x.n.size ++ (q.x.n.data.toList ++ (shN q.x.k.toNat ++ rest))) := by
    unfold ndB; simp only [List.append_assoc]
  rw [hE]
  have hS2 : (⟨(q.x.n.data.toList ++ (shN q.x.k.toNat ++ rest)).toArray⟩ : ByteArray).size = q.x.n.size + (shN q.x.k.toNat ++ rest).length := by
    show (q.x.n.data.toList ++ (shN q.x.k.toNat ++ rest)).length = _
    rw [List.length_append, hnl]
  have hext1 : (⟨(q.x.n.data.toList ++ (shN q.x.k.toNat ++ rest)).toArray⟩ : ByteArray).extract 0 q.x.n.size = q.x.n := by
    apply ByteArray.ext
    apply Array.ext'
    rw [ext_take', Nat.sub_zero, List.drop_zero, ← hnl]
    show List.take _ (q.x.n.data.toList ++ (shN q.x.k.toNat ++ rest)) = _
    exact List.take_left
  have hext2 : (⟨(q.x.n.data.toList ++ (shN q.x.k.toNat ++ rest)).toArray⟩ : ByteArray).extract q.x.n.size (⟨(q.x.n.data.toList ++ (shN q.x.k.toNat ++ rest)).toArray⟩ : ByteArray).size = ⟨(shN q.x.k.toNat ++ rest).toArray⟩ := by
    rw [ext_list, ← hnl, List.drop_left]
  generalize (⟨(shN (ns.length + 1 - q.p) ++ (shN q.x.n.size ++ (q.x.n.data.toList ++ (shN q.x.k.toNat ++ rest)))).toArray⟩ : ByteArray) = S0 at *
  generalize (⟨(shN q.x.n.size ++ (q.x.n.data.toList ++ (shN q.x.k.toNat ++ rest))).toArray⟩ : ByteArray) = S1 at *
  generalize (⟨(q.x.n.data.toList ++ (shN q.x.k.toNat ++ rest)).toArray⟩ : ByteArray) = S2 at *
  generalize (⟨(shN q.x.k.toNat ++ rest).toArray⟩ : ByteArray) = S3 at *
  have hge : q.x.n.size ≤ S2.size := by omega
  have hsl1 : ∀ W : World, (Instr.slice 9 (.string S2) none (some (.int .i64 (q.x.n.size : Int))) none).run Try.prog W = .ok (.string q.x.n) W := fun W => by
    rw [run_slice_string_to_if (P := Try.prog) W 9 S2 .i64 (q.x.n.size : Int) Try.underlying9, if_pos (by omega), Int.toNat_natCast, hext1]
  have hsl2 : ∀ W : World, (Instr.slice 9 (.string S2) (some (.int .i64 (q.x.n.size : Int))) none none).run Try.prog W = .ok (.string S3) W := fun W => by
    rw [run_slice_string_from_if (P := Try.prog) W 9 S2 .i64 (q.x.n.size : Int) Try.underlying9, if_pos (by omega), Int.toNat_natCast, hext2]
  have hN : decide ((q.x.n.size : Int) > (S2.size : Int)) = false := by simp; omega
  have hbk : (ns.length : Int) + 1 - ((ns.length + 1 - q.p : Nat) : Int) = (q.p : Int) := by omega
  generalize hb : ns.length + 1 - q.p = bk at *
  have hfew := h.few
  clear hE hS2 hext1 hext2 hnl s3 s2 hkn
  have HI := Lib.hid hi
  have HQ := Lib.hid hq
  clear hi hq
  go_enter Try.func21, Try.ntmps21
  have HBK := Lib.hid hbk
  have HBB := Lib.hid hb
  have HGE := Lib.hid hge
  have hN2 : decide (S2.size < q.x.n.size) = false := by simp; omega
  have HC2 := Lib.hid C2
  have HC3 := Lib.hid C3
  have H1 := Lib.hid hsl1
  have H2 := Lib.hid hsl2
  have HT := Lib.hid h
  have HW := Lib.hid hw
  clear C2 C3 hsl1 hsl2 hw hbk hb hN h
  go_wp2_with (go_at_call 20; first | (refine (C2' _).mono ?_; rintro e w2 ⟨rfl, hb2⟩; clear C2') | (refine (C1 _).mono ?_; rintro e w1 ⟨rfl, hb1⟩; clear C1; have C2' := HC2.out))
  have hsl1 := H1.out
  have hsl2 := H2.out
  have hb12 : Below w.heap.size w w2 := hb1.trans (hb2.mono hb1.size)
  go_region
  have C3' := HC3.out
  go_wp2_with (first | (go_at_call 4; refine cP.mono ?_; rintro e w4 ⟨ms, n4, v4, rfl, hP, ht4, hk4, hb4⟩; obtain ⟨rfl, hms⟩ := hP.new HI.out) | (go_at_call 9; refine cL.mono ?_; rintro e w' ⟨rfl, rfl⟩; have hbk := HBK.out) | (go_at_call 20; refine (C3' _).mono ?_; rintro e w3 ⟨rfl, hb3⟩; have hb13 := hb12.trans (Below.mono (Below.drew' hb3) hb12.size); have ht3 := HT.out.below hb13; have cL := Len_in w3 ht3; have cP := Push_ok q.p r q.x w3 ht3 HW.out HQ.out hm hd hroom))
  go_ret2
  exact ⟨ms, v4, rfl, hP, hms, ht4, (KeepT.of_below hb13).trans hk4, (hb13.mono HT.out.base).trans hb4⟩
end Go.Proofs.Ytbldeiejlebbiaa.T
