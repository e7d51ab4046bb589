/-
  errataref03.Text.
-/
import Derived.Test.YtiolmpilgkippaaDoorPlaceCommon
set_option linter.unusedVariables false
namespace Go.Proofs.YtiolmpilgkippaaDoor.T
open Go Go.Lib Go.RowKit

def jnB (l : List Pl) : ByteArray := ⟨(jn (l.reverse.map plB)).toArray⟩
theorem jnB_data (l : List Pl) : (jnB l).data.toList = jn (l.reverse.map plB) := rfl
theorem plB_len {p : Pl} (h : mayB p = true) : (plB p).length ≤ 142 := by
  obtain ⟨h1, h2, h3⟩ := may_bd h
  have hi := Lib.itoa_length_le p.k (by omega) (by omega)
  have e : p.n.data.toList.length = p.n.size := rfl
  unfold plB
  rw [List.length_append, List.length_append, e]
  simp; omega
theorem jn_len2 : ∀ (l : List Pl), (∀ p ∈ l, mayB p = true) → (jn (l.map plB)).length ≤ 145 * l.length
  | [], _ => by simp [jn]
  | [p], h => by have := plB_len (h p (by simp)); simp [jn]; omega
  | p :: q :: r, h => by
    have ih := jn_len2 (q :: r) (fun x hx => h x (List.mem_cons_of_mem _ hx))
    have h1 := plB_len (h p (by simp))
    have e : jn ((p :: q :: r).map plB) = plB p ++ sepL ++ jn ((q :: r).map plB) := rfl
    rw [e, List.length_append, List.length_append]
    simp [sepL] at ih ⊢
    omega
theorem jnB_drop {l : List Pl} {j : Nat} {p : Pl} (hp : l[j]? = some p) : jnB (l.drop j) = if l.drop (j + 1) = [] then ⟨(plB p).toArray⟩ else ⟨(jn ((l.drop (j + 1)).reverse.map plB) ++ sepL ++ plB p).toArray⟩ := by
  obtain ⟨h1, e1⟩ := List.getElem?_eq_some_iff.1 hp
  unfold jnB
  rw [List.drop_eq_getElem_cons h1, e1]
  simp only [List.reverse_cons, List.map_append, List.map_cons, List.map_nil]
  split
  · rename_i h
    rw [h]; rfl
  · rename_i h
    rw [jn_snoc _ _ (by simpa using h)]
theorem jnB_empty (l : List Pl) : (jnB l).toList = [] ↔ l = [] := by
  rw [ByteArray.toList_eq, jnB_data, jn_empty _ (fun x hx => by
    obtain ⟨p, _, rfl⟩ := List.mem_map.1 hx
    exact plB_ne p)]
  simp

set_option maxRecDepth 100000 in
set_option maxHeartbeats 8000000 in
theorem refText_in (l : List Pl) (hs : Slim l) (B : Nat) (v : Value) (w : World) (h : PlSl B w v l) :
    Calls Tryd.prog 13 #[v] w fun e w' => e = .returned (.tuple #[.string ⟨(textL l).toArray⟩, .int .i64 (checkN l)]) ∧ Below w.heap.size w w' := by
  have hC := refCheck_in l hs B v w h
  rw [textL_eq]
  obtain ⟨a, c, rfl, hc1, hc2, hcells⟩ := h
  generalize hc : checkN l = C at *
  have HC := Lib.hid hc
  clear hc
  go_enter Tryd.func13, Tryd.ntmps13
  by_cases hC0 : C = 0
  · subst hC0
    rw [if_pos rfl]
    obtain ⟨hall, h64⟩ := check_all HC.out
    have hmay := all_may HC.out
    go_wp2_with (go_at_call 16; refine hC.mono ?_; rintro e w1 ⟨rfl, hb1⟩; have hsz1 := hb1.size)
    go_loopw [5, 6] (fun s i wr => ∃ (k : Nat), k ≤ l.length ∧ i = .int .i64 ((k : Int) - 1) ∧ s = .string (jnB (l.drop k)) ∧ Below w1.heap.size w1 wr)
      (fun _ i _ => (RowKit.intOf i + 1).toNat)
    case atStart => exact ⟨l.length, Nat.le_refl _, rfl, by rw [List.drop_length]; rfl, Below.refl _ _⟩
    case round =>
      obtain ⟨k, hk, rfl, rfl, hbw⟩ := hrel
      have hszr := hbw.size
      cases k with
      | zero =>
        have hN : decide (((0 : Nat) : Int) - 1 ≥ 0) = false := by decide
        go_wp2
        go_ret2
        exact ⟨rfl, hb1.trans (hbw.mono hsz1)⟩
      | succ j =>
        have ej : (((j + 1 : Nat) : Int) - 1) = (j : Int) := by omega
        rw [ej]
        obtain ⟨bk, o, rfl, hbk, hat⟩ := hcells (by intro e; subst e; simp at hk)
        have hx : l[j]? = some l[j] := List.getElem?_eq_getElem (by omega)
        have kp : ∀ (p : Addr) (u : Value), w.cell? p = some u → wr.cell? p = some u := fun p u hp =>
          have h1 := World.block_lt_of_cell? w p hp
          (hbw.cell (by omega)).trans ((hb1.cell h1).trans hp)
        have c1 := kp _ _ (hat j _ hx).1
        have c2 := kp _ _ (hat j _ hx).2
        have hm := hmay l[j] (List.getElem_mem _)
        obtain ⟨m1, m2, m3⟩ := may_bd hm
        have hjd := jnB_drop hx
        have hje := jnB_empty (l.drop (j + 1))
        have hjs : (jnB (l.drop (j + 1))).size ≤ 145 * 64 := by
          have h1 := jn_len2 (l.drop (j + 1)).reverse (fun p hp => hmay p (List.mem_of_mem_drop (List.mem_reverse.1 hp)))
          have e : (jnB (l.drop (j + 1))).size = (jn ((l.drop (j + 1)).reverse.map plB)).length := List.size_toArray
          rw [e]
          rw [List.length_reverse, List.length_drop] at h1
          omega
        have hdat := jnB_data (l.drop (j + 1))
        have kb : bk < wr.heap.size := World.block_lt_of_cell? wr _ c1
        clear hat kp hcells
        generalize l[j] = x at *
        obtain ⟨kn, hkn⟩ : ∃ kn : Nat, x.k = kn := ⟨x.k.toNat, by omega⟩
        have hdg := fun W => digits_in kn (by omega) W
        have hdl := dec_len7 kn (by omega)
        have hit : Lib.itoa x.k = decDigits kn := by rw [itoa_nat m2, hkn, Int.toNat_natCast]
        rw [hkn] at c2
        have hplB : plB x = x.n.data.toList ++ [58] ++ decDigits kn := by unfold plB; rw [hit]
        rw [hplB] at hjd
        generalize hDD : decDigits kn = DD at *
        generalize hS0 : jnB (l.drop (j + 1)) = S0 at *
        generalize hQ : l.drop (j + 1) = Q at *
        have HJ := Lib.hid hjd
        have HE := Lib.hid hje
        have HDT := Lib.hid hdat
        clear hjd hje hdat hx hplB hit hDD hS0 hQ hm
        have hDs : (⟨DD.toArray⟩ : ByteArray).size ≤ 7 := by
          have : (⟨DD.toArray⟩ : ByteArray).size = DD.length := List.size_toArray
          omega
        have hDB : (⟨DD.toArray⟩ : ByteArray).data.toList = DD := rfl
        have hN : decide ((j : Int) ≥ 0) = true := by simp
        generalize (⟨DD.toArray⟩ : ByteArray) = DB at *
        have HDB := Lib.hid hDB
        have HKN := Lib.hid hkn
        clear hDB hkn
        generalize x.n = nm at *
        have f1 : ¬ 9223372036854775807 < S0.size + nm.size := by omega
        have f2 : ¬ 9223372036854775807 < S0.size + nm.size + 1 := by omega
        have f3 : ¬ 9223372036854775807 < S0.size + nm.size + 1 + DB.size := by omega
        have f4 : ¬ 9223372036854775807 < S0.size + 3 := by omega
        have f5 : ¬ 9223372036854775807 < S0.size + 3 + nm.size := by omega
        have f6 : ¬ 9223372036854775807 < S0.size + 3 + nm.size + 1 := by omega
        have f7 : ¬ 9223372036854775807 < S0.size + 3 + nm.size + 1 + DB.size := by omega
        by_cases hQ0 : Q = []
        · have hE1 : S0.toList = [] := HE.out.2 hQ0
          have hS0d : S0.data.toList = [] := by rw [← ByteArray.toList_eq]; exact hE1
          have hgoal : ∀ T : ByteArray, T.data.toList = S0.data.toList ++ (nm.data.toList ++ (58 :: DB.data.toList)) → T = jnB (l.drop j) := fun T hT => by
            rw [HJ.out, if_pos hQ0]
            refine ba_ext ?_
            rw [hT, hS0d, HDB.out]
            simp
          have HG := Lib.hid hgoal
          clear hgoal hS0d hQ0
          go_wp2
          all_goals first
            | (exfalso; have hx : S0.toList.isEmpty = false := by assumption
               rw [hE1] at hx; cases hx)
            | skip
          go_region_with (go_at_call 54; refine (hdg _).mono ?_; rintro e w2 ⟨rfl, hb2⟩; have d1 := (hb2.cell (p := ⟨bk, o + j * 2, none⟩) (by simp; omega)).trans c1; have d2 := (hb2.cell (p := ⟨bk, o + j * 2 + 1, none⟩) (by simp; omega)).trans c2)
          all_goals
            go_wp2
            go_roundw
            case rel => exact ⟨j, by omega, by go_num, by congr 1; apply HG.out; simp, by first | exact hbw.trans (Below.drew' (hb2.mono (by simp; omega))) | exact hbw.trans (hb2.mono (by simp; omega)) | exact (hbw.drew).trans (hb2.mono (by simp; omega)) | exact ((hbw.drew).trans (hb2.mono (by simp; omega))).drew⟩
            case measure => simp [RowKit.intOf]
        · have hE1 : S0.toList ≠ [] := fun e => hQ0 (HE.out.1 e)
          have hgoal : ∀ T : ByteArray, T.data.toList = S0.data.toList ++ (32 :: 60 :: 32 :: (nm.data.toList ++ (58 :: DB.data.toList))) → T = jnB (l.drop j) := fun T hT => by
            rw [HJ.out, if_neg hQ0]
            refine ba_ext ?_
            rw [hT, HDT.out, HDB.out]
            simp [sepL]
          have HG := Lib.hid hgoal
          clear hgoal hQ0
          go_wp2
          all_goals first
            | (exfalso; have hx : (!S0.toList.isEmpty) = false := by assumption
               exact hE1 (List.isEmpty_iff.1 (by simpa using hx)))
            | skip
          go_region_with (go_at_call 54; refine (hdg _).mono ?_; rintro e w2 ⟨rfl, hb2⟩; have d1 := (hb2.cell (p := ⟨bk, o + j * 2, none⟩) (by simp; omega)).trans c1; have d2 := (hb2.cell (p := ⟨bk, o + j * 2 + 1, none⟩) (by simp; omega)).trans c2)
          all_goals
            go_wp2
            go_roundw
            case rel => exact ⟨j, by omega, by go_num, by congr 1; apply HG.out; simp, by first | exact hbw.trans (Below.drew' (hb2.mono (by simp; omega))) | exact hbw.trans (hb2.mono (by simp; omega)) | exact (hbw.drew).trans (hb2.mono (by simp; omega)) | exact ((hbw.drew).trans (hb2.mono (by simp; omega))).drew⟩
            case measure => simp [RowKit.intOf]
  · rw [if_neg hC0]
    have hC1 : ((C : Int) != 0) = true := by simp; omega
    go_wp2_with (go_at_call 16; refine hC.mono ?_; rintro e w1 ⟨rfl, hb1⟩; have hsz1 := hb1.size)
    go_ret2
    exact ⟨rfl, hb1⟩
end Go.Proofs.YtiolmpilgkippaaDoor.T
