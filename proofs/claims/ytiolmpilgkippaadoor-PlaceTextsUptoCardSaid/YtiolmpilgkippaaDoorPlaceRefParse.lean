/-
  errataref03.Parse.
-/
import Derived.Test.YtiolmpilgkippaaDoorPlaceRefPlace
set_option linter.unusedVariables false
namespace Go.Proofs.YtiolmpilgkippaaDoor.T
open Go Go.Lib Go.RowKit

theorem mem_len : ∀ (xs : List (List UInt8)) (x : List UInt8), x ∈ xs → x.length ≤ (jn xs).length
  | [], x, h => by cases h
  | [y], x, h => by have := List.mem_singleton.1 h; subst this; exact Nat.le_refl _
  | y :: z :: r, x, h => by
    rw [jn_cons y (by simp), List.length_append, List.length_append]
    rcases List.mem_cons.1 h with rfl | h
    · omega
    · have := mem_len (z :: r) x h
      omega
theorem pcs_len (s : ByteArray) : (∀ q ∈ pcsOf s.data.toList, q.length ≤ s.size) ∧ (pcsOf s.data.toList).length ≤ s.size + 1 := by
  have e : s.data.toList.length = s.size := rfl
  unfold pcsOf
  split
  · exact ⟨(fun q h => by cases h), by simp⟩
  · refine ⟨fun q h => ?_, ?_⟩
    · have := mem_len _ q h
      rw [jn_spl] at this
      omega
    · have := jn_len (spl s.data.toList.length s.data.toList)
      rw [jn_spl] at this
      omega
theorem refL_slim (s : ByteArray) (hs : s.size ≤ 16777216) : Slim (refL s.data.toList) := by
  intro p hp
  unfold refL at hp
  obtain ⟨q, hq, rfl⟩ := List.mem_map.1 (List.mem_reverse.1 hp)
  have := (pcs_len s).1 q hq
  show ((q.take (colAt q)).toArray).size ≤ _
  rw [List.size_toArray, List.length_take]
  omega
theorem place_mk (q : List UInt8) : placeF (mkB q).data.toList = placeF q := rfl

set_option maxRecDepth 100000 in
set_option maxHeartbeats 8000000 in
theorem refParse_in (s : ByteArray) (hs : s.size ≤ 16777216) (w : World) :
    Calls Tryd.prog 21 #[.string s] w (IsRead 111 (parseL s) w) := by
  have hPi := pieces_in s hs w
  obtain ⟨hpl1, hpl2⟩ := pcs_len s
  have hslim := refL_slim s hs
  have hpe := parse_eq s
  generalize hL : parseL s = L at *
  have hPB : pcsB s = (pcsOf s.data.toList).map mkB := rfl
  rw [hPB] at hPi
  have hRL : refL s.data.toList = ((pcsOf s.data.toList).map placeF).reverse := rfl
  have HPE := Lib.hid hpe
  have HRL := Lib.hid hRL
  clear hL hPB hpe hRL
  obtain ⟨i0, hi, hz0, hz1, hz2⟩ := info_parts infoRef
  generalize hQS : pcsOf s.data.toList = qs at *
  have hqn : (qs.map mkB).length = qs.length := by simp
  go_enter Tryd.func21, Tryd.ntmps21
  go_wp2_with fail
  refine hPi.mono ?_
  rintro e w1 ⟨tv, rfl, hrow, hb1⟩
  have hsz1 := hb1.size
  obtain ⟨ta, tc, rfl, ht1, ht2, ht3⟩ := hrow.sl
  rw [hqn] at ht1 ⊢
  clear hPi
  go_wp2
  go_loopw [5, 6] (fun v i wr => ∃ (k : Nat), k ≤ qs.length ∧ i = .int .i64 ((k : Int) - 1) ∧ PRow 111 w1.heap.size wr v ((qs.drop k).map placeF).reverse ∧ Below w1.heap.size w1 wr)
    (fun _ i _ => (RowKit.intOf i + 1).toNat)
  case atStart => exact ⟨qs.length, Nat.le_refl _, by first | rfl | go_num, by rw [List.drop_length]; exact PRow.nil _ _ _, Below.refl _ _⟩
  case round =>
    obtain ⟨k, hk, rfl, hrow2, hbw⟩ := hrel
    have hszr := hbw.size
    cases k with
    | zero =>
      have hN : decide (((0 : Nat) : Int) - 1 ≥ 0) = false := by decide
      rw [List.drop_zero, ← HRL.out] at hrow2
      have hT := refText_in (refL s.data.toList) hslim wr.heap.size _ wr (PRow.sl hrow2)
      rw [textL_eq] at hT
      generalize hRR : refL s.data.toList = R at *
      by_cases hok : refOk s.data.toList = true
      · have hL2 := HPE.out
        rw [if_pos hok] at hL2
        subst hL2
        unfold refOk at hok
        rw [hRR, Bool.and_eq_true, beq_iff_eq, beq_iff_eq] at hok
        obtain ⟨k1, k2⟩ := hok
        rw [k1, if_pos rfl, k2] at hT
        have es : (⟨s.data.toList.toArray⟩ : ByteArray) = s := rfl
        rw [es] at hT
        clear k1 k2 hRR
        go_wp2_with fail
        refine hT.mono ?_
        rintro e w2 ⟨rfl, hb2⟩
        have hb12 := hbw.trans (hb2.mono hszr)
        go_wp2
        go_ret2
        exact ⟨_, rfl, PRow.base (PRow.below hrow2 hb2) hsz1, hb1.trans (hb12.mono hsz1)⟩
      · have hL2 := HPE.out
        rw [if_neg hok] at hL2
        subst hL2
        have hbad : checkN R ≠ 0 ∨ (checkN R = 0 ∧ (⟨(jn (R.reverse.map plB)).toArray⟩ : ByteArray) ≠ s) := by
          by_cases h : checkN R = 0
          · right
            refine ⟨h, fun e => hok ?_⟩
            unfold refOk
            rw [hRR, h]
            have e2 : jn (R.reverse.map plB) = s.data.toList := by rw [← e]
            rw [e2]
            simp
          · exact .inl h
        clear hok hRR
        rcases hbad with hb | ⟨hb, hbs⟩
        · rw [if_neg hb] at hT
          generalize checkN R = C at *
          have hC1 : ((C : Int) != 0) = true := by simp; omega
          go_wp2_with fail
          refine hT.mono ?_
          rintro e w2 ⟨rfl, hb2⟩
          have hb12 := hbw.trans (hb2.mono hszr)
          go_wp2
          go_ret2
          exact ⟨_, rfl, PRow.nil _ _ _, hb1.trans (hb12.mono hsz1)⟩
        · rw [hb, if_pos rfl] at hT
          generalize (⟨(jn (R.reverse.map plB)).toArray⟩ : ByteArray) = T at *
          have hne : (T.toList != s.toList) = true := by
            rw [bne_iff_ne]
            intro e
            rw [ByteArray.toList_eq, ByteArray.toList_eq] at e
            exact hbs (ba_ext e)
          go_wp2_with fail
          refine hT.mono ?_
          rintro e w2 ⟨rfl, hb2⟩
          have hb12 := hbw.trans (hb2.mono hszr)
          go_wp2
          all_goals first
            | (go_ret2
               exact ⟨_, rfl, PRow.nil _ _ _, hb1.trans (hb12.mono hsz1)⟩)
            | (exfalso; simp_all; done)
    | succ j =>
      have ej : (((j + 1 : Nat) : Int) - 1) = (j : Int) := by omega
      rw [ej]
      have hmne : qs.map mkB ≠ [] := fun e => by
        have h0 : (qs.map mkB).length = 0 := by rw [e]; rfl
        rw [hqn] at h0
        omega
      obtain ⟨bk, o, rfl, hbk, hat⟩ := ht3 hmne
      clear hmne
      have hx : qs[j]? = some qs[j] := List.getElem?_eq_getElem (by omega)
      have hq := hpl1 qs[j] (List.getElem_mem _)
      have c1 := (hat.below hbw hbk) j (mkB qs[j]) (by rw [List.getElem?_map, hx]; rfl)
      have hd : (qs.drop j) = qs[j] :: qs.drop (j + 1) := List.drop_eq_getElem_cons (by omega)
      have hnew : ((qs.drop j).map placeF).reverse = ((qs.drop (j + 1)).map placeF).reverse ++ [placeF qs[j]] := by rw [hd, List.map_cons, List.reverse_cons]
      have hms : (mkB qs[j]).size = qs[j].length := List.size_toArray
      have hPl := fun W => refPlace_in (mkB qs[j]) (by omega) W
      have hpm := place_mk qs[j]
      rw [hpm] at hPl
      have HNW := Lib.hid hnew
      clear hnew hd hat hx hpm hms hq
      generalize mkB qs[j] = one at *
      generalize placeF qs[j] = pl at *
      have hln : ((qs.drop (j + 1)).map placeF).reverse.length = qs.length - (j + 1) := by simp
      have hrow3 : wr.ownsRow w1.heap.size 111 2 u5 (qs.length - (j + 1)) (plCs ((qs.drop (j + 1)).map placeF).reverse) := by
        have h := hrow2
        unfold PRow at h
        rw [hln] at h
        exact h
      generalize ((qs.drop (j + 1)).map placeF).reverse = acc at *
      have hN : decide ((j : Int) ≥ 0) = true := by simp
      go_wp2_with (first | (go_at_call 61; refine (hPl _).mono ?_; rintro e w2 ⟨rfl, hb2⟩; have hbw2 := hbw.trans (hb2.mono hszr); have hsz2 := hbw2.size; have hrow4 := row_none hrow3 (below_grown hb2)) | (at_builtin; refine wpList_append_own _ rfl _ _ 29 rfl w1.heap.size 111 i0 (.agg #[.string ⟨#[]⟩, .int .i64 0]) 2 24 Tryd.underlying29 hi hz0 hz1 hz2 rfl (by decide) _ (qs.length - (j + 1)) _ rfl (hrow4.alloc _) ⟨w2.heap.size, 0, none⟩ 1 1 [.string pl.n, .int .i64 pl.k] rfl rfl (cell2_new _ _ _ _) (by simp [Value.oneCell']) (by unfold maxLen; omega) (by omega) (by simp; omega) ?_; intro v' w3 hown' hgrow _; have hbw3 := hbw2.grown (grown_of_alloc' hgrow) hsz2 (fun j hj => (World.ownsRow.lt hrow4 j hj).1)))
      go_roundw
      case rel =>
        refine ⟨j, by omega, by go_num, ?_, hbw3⟩
        rw [HNW.out]
        unfold PRow
        rw [plCs_snoc, List.length_append, hln]
        exact hown'
      case measure => simp [RowKit.intOf]
end Go.Proofs.YtiolmpilgkippaaDoor.T
