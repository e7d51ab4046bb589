/-
  A slice that reads as runs; place.tooMany.
-/
import Derived.Test.YtbldeiejlebbiaaDoorPlaceFold
set_option linter.unusedVariables false
namespace Go.Proofs.YtbldeiejlebbiaaDoor.T
open Go Go.Lib Go.RowKit

/-- a run as it lies in memory: its slice, the places that this reads as, its number -/
structure Rz where
  v : Value
  ps : List Pl
  t : Int
def RzAt (w : World) (bk off : Nat) (zs : List Rz) : Prop := ∀ (j : Nat) (z : Rz), zs[j]? = some z → w.cell? ⟨bk, off + j * 2, none⟩ = some z.v ∧ w.cell? ⟨bk, off + j * 2 + 1, none⟩ = some (.int .i64 z.t)
/-- a slice that reads as these runs -/
def RzSl (B : Nat) (w : World) (v : Value) (zs : List Rz) : Prop :=
  ∃ a c, v = .slice a zs.length c ∧ (zs ≠ [] → ∃ bk o, a = some ⟨bk, o, none⟩ ∧ bk < B ∧ RzAt w bk o zs) ∧ (∀ z ∈ zs, PlSl B w z.v z.ps)
theorem RzSl.below {B B' : Nat} {w w' : World} {v : Value} {zs : List Rz} (h : RzSl B w v zs) (hb : Below B w w') (hB : B ≤ B') : RzSl B' w' v zs := by
  obtain ⟨a, c, hv, h1, h2⟩ := h
  refine ⟨a, c, hv, fun hne => ?_, fun z hz => (h2 z hz).below hb hB⟩
  obtain ⟨bk, o, ha, hk, hc⟩ := h1 hne
  exact ⟨bk, o, ha, by omega, fun j z hj => ⟨(hb.cell (p := ⟨bk, o + j * 2, none⟩) hk).trans (hc j z hj).1, (hb.cell (p := ⟨bk, o + j * 2 + 1, none⟩) hk).trans (hc j z hj).2⟩⟩
def toZ (q : Value × Rn) : Rz := ⟨q.1, q.2.ps, q.2.t⟩
theorem qcs_at : ∀ (qs : List (Value × Rn)) (j : Nat) (q : Value × Rn), qs[j]? = some q → (qcs qs)[2 * j]? = some q.1 ∧ (qcs qs)[2 * j + 1]? = some (.int .i64 (q.2.t : Int))
  | [], j, q, h => by simp at h
  | p :: l, 0, q, h => by simp at h; subst h; simp [qcs]
  | p :: l, j + 1, q, h => by
    have := qcs_at l j q (by simpa using h)
    have e : qcs (p :: l) = p.1 :: .int .i64 (p.2.t : Int) :: qcs l := by simp [qcs]
    rw [e]
    rw [show 2 * (j + 1) = 2 * j + 1 + 1 by omega]
    simpa using this
theorem RunsAt.sl {e ts : TypeId} {B : Nat} {w : World} {v : Value} {qs : List (Value × Rn)} (h : RunsAt e ts B w v qs) : RzSl w.heap.size w v (qs.map toZ) := by
  have hp : ∀ z ∈ qs.map toZ, PlSl w.heap.size w z.v z.ps := fun z hz => by
    obtain ⟨q, hq, rfl⟩ := List.mem_map.1 hz
    exact (h.each q hq).sl
  cases hqs : qs with
  | nil =>
    subst hqs
    rcases h.row with ⟨_, ⟨rfl, _⟩ | ⟨g, cap, cur, rfl, hg, hg1, _⟩⟩
    · exact ⟨none, 0, rfl, (fun h => absurd rfl h), hp⟩
    · exact ⟨_, cap, rfl, (fun h => absurd rfl h), hp⟩
  | cons q0 qs0 =>
    obtain ⟨g, cap, rfl, hgB, hgs⟩ := h.slice (by rw [hqs]; simp)
    rw [← hqs]
    refine ⟨some ⟨g, 0, none⟩, cap, by rw [List.length_map], fun _ => ⟨g, 0, rfl, hgs, fun j z hj => ?_⟩, hp⟩
    rw [List.getElem?_map] at hj
    obtain ⟨q, hq, rfl⟩ := Option.map_eq_some_iff.1 hj
    obtain ⟨e1, e2⟩ := qcs_at qs j q hq
    have hjl : j < qs.length := (List.getElem?_eq_some_iff.1 hq).1
    exact ⟨by rw [Nat.zero_add, h.row.cellAt (j * 2) (by omega), Nat.mul_comm]; exact e1, by rw [Nat.zero_add, h.row.cellAt (j * 2 + 1) (by omega), Nat.mul_comm]; exact e2⟩

/-- are runs more places than a stack has? -/
def tooB : List Rz → Nat → Bool
  | [], _ => false
  | z :: zs, n => if z.t > 64 ∨ z.ps.length > 64 then true else if n + z.ps.length * z.t.toNat > 64 then true else tooB zs (n + z.ps.length * z.t.toNat)
set_option maxRecDepth 100000 in
set_option maxHeartbeats 8000000 in
theorem tooMany_in (zs : List Rz) (hn : zs.length ≤ 8796093022100) (ht : ∀ z ∈ zs, 1 ≤ z.t) (B : Nat) (v : Value) (w : World) (hv : RzSl B w v zs) :
    Calls Tryd.prog 45 #[v] w fun e w' => e = .returned (.bool (tooB zs 0)) ∧ Below w.heap.size w w' := by
  obtain ⟨a, c, rfl, h1, h2⟩ := hv
  generalize hM : tooB zs 0 = M at *
  have HM := Lib.hid hM
  have HT := Lib.hid ht
  have H2 := Lib.hid h2
  clear hM ht h2
  go_enter Tryd.func45, Tryd.ntmps45
  go_wp2
  go_loopg [3, 8] (zs.length + 1) (fun g x i wr => ∃ (k n : Nat), k + g = zs.length + 1 ∧ k ≤ zs.length ∧ n ≤ 64 ∧ i = .int .i64 k ∧ x = .int .i64 n ∧ tooB (zs.drop k) n = M ∧ Below w.heap.size w wr)
  case atStart => exact ⟨0, 0, by omega, Nat.zero_le _, by omega, rfl, rfl, HM.out, Below.refl _ _⟩
  case round =>
    obtain ⟨k, n, hkg, hk, hn64, rfl, rfl, hto, hbw⟩ := hrel
    have hszr := hbw.size
    rcases Nat.lt_or_ge k zs.length with hlt | hge
    · obtain ⟨bk, o, rfl, _, hA⟩ := h1 (by intro e; subst e; simp at hlt)
      obtain ⟨z, hz⟩ : ∃ z, zs[k]? = some z := ⟨_, List.getElem?_eq_getElem hlt⟩
      have kp : ∀ (p : Addr) (u : Value), w.cell? p = some u → wr.cell? p = some u := fun p u hp => (hbw.cell (World.block_lt_of_cell? w p hp)).trans hp
      have c1 := kp _ _ (hA k z hz).1
      have c2 := kp _ _ (hA k z hz).2
      have hd : zs.drop k = z :: zs.drop (k + 1) := by
        obtain ⟨hlt', e⟩ := List.getElem?_eq_some_iff.1 hz
        rw [List.drop_eq_getElem_cons hlt', e]
      have ht1 := HT.out z (List.mem_of_getElem? hz)
      obtain ⟨za, zc, hzv, _⟩ := H2.out z (List.mem_of_getElem? hz)
      have hto' : (if z.t > 64 ∨ z.ps.length > 64 then true else if n + z.ps.length * z.t.toNat > 64 then true else tooB (zs.drop (k + 1)) (n + z.ps.length * z.t.toNat)) = M := by
        rw [← hto, hd]; rfl
      obtain ⟨zv, zps, zt⟩ := z
      simp only at c1 c2 ht1 hzv hto'
      subst hzv
      clear hto hd hz hA kp
      generalize zps.length = m at *
      have HTO := Lib.hid hto'
      clear hto'
      have hbb : ∀ (o : Obj), Below w.heap.size w (wr.alloc o) := fun o => hbw.alloc hszr o
      have hN : decide ((k : Int) < (zs.length : Int)) = true := by simp; omega
      by_cases h64 : zt > 64
      · obtain rfl : M = true := by rw [← HTO.out, if_pos (.inl h64)]
        have hd1 : decide (64 < zt) = true := by simp; omega
        go_wp2
        go_ret
        exact ⟨rfl, hbb _⟩
      · have hd1 : decide (64 < zt) = false := by simp; omega
        by_cases hm : m > 64
        · obtain rfl : M = true := by rw [← HTO.out, if_pos (.inr hm)]
          have hd2 : decide (64 < (m : Int)) = true := by simp; omega
          go_wp2
          go_ret
          exact ⟨rfl, hbb _⟩
        · have hd2 : decide (64 < (m : Int)) = false := by simp; omega
          obtain ⟨t, rfl⟩ : ∃ t : Nat, zt = t := ⟨zt.toNat, by omega⟩
          obtain ⟨q, hq⟩ : ∃ q, q = m * t := ⟨_, rfl⟩
          have hqi : (m : Int) * (t : Int) = (q : Int) := by rw [hq]; simp
          have hqb : q ≤ 64 * 64 := by rw [hq]; exact Nat.mul_le_mul (by omega) (by omega)
          have hto : (if n + q > 64 then true else tooB (zs.drop (k + 1)) (n + q)) = M := by
            have := HTO.out
            rw [if_neg (show ¬ ((t : Int) > 64 ∨ m > 64) by omega), Int.toNat_natCast, ← hq] at this
            exact this
          have HT2 := Lib.hid hto
          clear hto hq
          by_cases hnq : n + q > 64
          · obtain rfl : M = true := by rw [← HT2.out, if_pos hnq]
            have hd3 : decide (64 < ((n : Int) + (q : Int))) = true := by simp; omega
            go_wp2
            go_ret
            exact ⟨rfl, hbb _⟩
          · have hd3 : decide (64 < ((n : Int) + (q : Int))) = false := by simp; omega
            have hnx : tooB (zs.drop (k + 1)) (n + q) = M := by rw [← HT2.out, if_neg hnq]
            have HNX := Lib.hid hnx
            clear hnx
            go_wp2
            go_roundg (zs.length - k)
            case measure => omega
            case rel => exact ⟨k + 1, n + q, by omega, hlt, by omega, by go_num, by go_num, HNX.out, hbb _⟩
    · have hkl : k = zs.length := by omega
      have hM0 : M = false := by rw [← hto, List.drop_of_length_le (by omega)]; rfl
      subst hM0
      have hN : decide ((k : Int) < (zs.length : Int)) = false := by simp; omega
      clear hkl hto
      go_wp2
      go_ret
      exact ⟨rfl, hbw⟩
end Go.Proofs.YtbldeiejlebbiaaDoor.T
