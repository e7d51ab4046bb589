/-
  erratalaw01.TextLines, walked.
-/
import Derived.Test.YteegnmblbjcfpaaDoorTextJoined
import Derived.Test.YteegnmblbjcfpaaDoorTextWorksWalk
set_option linter.unusedVariables false
namespace Go.Proofs.YteegnmblbjcfpaaDoor.T
open Go Go.Lib Go.RowKit Go.Shelf

theorem join_back (xs : List ByteArray) : tot xs + xs.length ≤ (joinS xs).size + 1 := by
  rw [← data_len, joinS_data]
  cases xs with
  | nil => simp [tot]
  | cons x l =>
    rw [List.map_cons, Lib.join_cons, List.length_append, data_len, tot_cons]
    have : ∀ L : List ByteArray, (Lib.joinTail [32] (L.map (·.data.toList))).length = tot L + L.length := by
      intro L
      induction L with
      | nil => rfl
      | cons y L ih =>
        have e : Lib.joinTail [32] ((y :: L).map (·.data.toList)) = [32] ++ y.data.toList ++ Lib.joinTail [32] (L.map (·.data.toList)) := by simp [Lib.joinTail]
        rw [e, List.length_append, List.length_append, ih, tot_cons, data_len]
        simp; omega
    rw [this]; simp; omega
theorem lines_len (room : Int) (xs : List ByteArray) : (lines room xs).length ≤ xs.length := by
  have hl : ∀ (f : Nat) (l : List ByteArray), (linesF room f l).length ≤ f := by
    intro f
    induction f with
    | zero => intro l; simp [linesF]
    | succ f ih =>
      intro l
      unfold linesF
      split
      · simp
      · have := ih (l.drop (lineN room l)); simp; omega
  exact hl _ _
/-- all that the walk asks of the lines of a text -/
theorem lines_all (s : ByteArray) (room : Int) (h4 : 4 ≤ room) (hs : s.size ≤ 1048576) : ∃ (L : List ByteArray) (J P : ByteArray), lines room (nW s room) = L ∧ joinS L = J ∧ lines room (nW J room) = L ∧
    (⟨(J.data.toList.filter okB).toArray⟩ : ByteArray) = P ∧ (⟨(s.data.toList.filter okB).toArray⟩ : ByteArray) = P ∧ J.size ≤ 2097152 ∧ L.length ≤ 1048576 ∧ tot L + L.length ≤ 2097153 ∧ LinesOk room L := by
  obtain ⟨w1, w2⟩ := rW_words s room h4
  have hl := rW_len s room h4
  have ht := rW_tot s room h4
  have hJ := joinS_lines room _ (rW s room) (Nat.le_refl _)
  have hf := filter_join (rW s room) (fun x hx => (w1 x hx).free)
  have hw := join_words room h4 (rW s room) w1
  have hok := lines_ok room _ (rW s room) (Nat.le_refl _) w1
  have hll := lines_len room (rW s room)
  have hb := join_back (lines room (rW s room))
  have hz : (joinS (rW s room)).size ≤ 2097152 := by
    have := join_tot (rW s room)
    rw [← data_len, joinS_data]; omega
  refine ⟨lines room (rW s room), joinS (rW s room), ⟨((rW s room).flatMap (fun x => x.data.toList)).toArray⟩, by rw [nW_rW], hJ, by rw [nW_rW, hw], by rw [hf], by rw [w2], hz, by omega, ?_, hok⟩
  rw [hJ] at hb; omega

def AtMost (B : Nat) (w : World) (e : Ending) (w' : World) : Prop := e = .returned (.bool true) ∧ Below B w w'

set_option maxRecDepth 100000 in
set_option maxHeartbeats 8000000 in
theorem textLines_arg (s : ByteArray) (room : Int) (hr : room < 4) (w : World) (hT : Tabs w) (h2 : 2 ≤ w.heap.size) :
    Calls Tryd.prog 8 #[.string s, .int .i64 room] w fun e w' => e = .returned (.bool true) ∧ Below w.heap.size w w' := by
  have cW := works_in w hT h2
  have cA := fun W => wrap_arg s room hr W
  go_enter Tryd.func8, Tryd.ntmps8
  go_wp2_with fail
  refine cW.mono ?_
  rintro e w1 ⟨rfl, hb1⟩
  go_wp2_with fail
  refine (cA _).mono ?_
  rintro e w2 ⟨rfl, rfl⟩
  go_wp2
  go_ret
  exact ⟨rfl, hb1⟩

set_option maxRecDepth 100000 in
set_option maxHeartbeats 8000000 in
theorem textLines_some (s : ByteArray) (room : Int) (h4 : 4 ≤ room) (hr2 : room ≤ 9223372036854775807) (hs : s.size ≤ 1048576) (w : World) (hT : Tabs w) (h2 : 2 ≤ w.heap.size) :
    Calls Tryd.prog 8 #[.string s, .int .i64 room] w fun e w' => e = .returned (.bool true) ∧ Below w.heap.size w w' := by
  obtain ⟨L, J, P, e1, e2, e3, e4, e5, hJz, hLz, hLt, hok⟩ := lines_all s room h4 hs
  have two : ∀ W, Below w.heap.size w W → 2 ≤ W.heap.size := fun W hb => by have := hb.size; omega
  have cW := works_in w hT h2
  have c1 := fun (W : World) (hb : Below w.heap.size w W) => wrap_in s room h4 hr2 (by omega) W (hT.below hb h2) (two W hb)
  have c2 := fun (W : World) (hb : Below w.heap.size w W) => wrap_in J room h4 hr2 (by omega) W (hT.below hb h2) (two W hb)
  have cj := fun (B : Nat) (v : Value) (W : World) (hB : B ≤ W.heap.size) (hv : WsAt B W v L) => joined_in B v L (by omega) W hB hv
  have p1 := fun (W : World) => plain_in J (by omega) W
  have p2 := fun (W : World) => plain_in s (by omega) W
  rw [e1] at c1
  rw [e3] at c2
  rw [e2] at cj
  rw [e4] at p1
  rw [e5] at p2
  have cX := fun (y : ByteArray) (hy : y.size ≤ 67108864) (W : World) (hb : Below w.heap.size w W) => callsIn_wide.1 (Width_in y hy W (hT.below hb h2) (two W hb))
  have cX2 : ∀ (y : ByteArray), y.size ≤ 67108864 → ∀ (W : World), Below w.heap.size w W → Calls Tryd.prog 16 #[.string y] W fun e W' => e = .returned (.int .i64 (wd y)) ∧ Below W.heap.size W W' := cX
  have hLy : ∀ (i : Nat) (y : ByteArray), L[i]? = some y → y.size ≤ 2097153 := fun i y hy => by
    have h1 := List.take_append_drop i L
    have h2 : L.drop i = y :: L.drop (i + 1) := by
      obtain ⟨hlt, he⟩ := List.getElem?_eq_some_iff.1 hy
      rw [List.drop_eq_getElem_cons hlt, he]
    rw [h2] at h1
    have h3 := tot_app (L.take i) (y :: L.drop (i + 1))
    rw [h1, tot_cons] at h3; omega
  clear e1 e2 e3 e4 e5 cX
  have C1 := Lib.hid c1; have C2 := Lib.hid c2; have CJ := Lib.hid cj; have P1 := Lib.hid p1; have P2 := Lib.hid p2; have CX := Lib.hid cX2; have OK := Lib.hid hok; have LY := Lib.hid hLy; have TWO := Lib.hid two
  clear c1 c2 cj p1 p2 cX2 hok hLy two
  have hJ3 : ¬ room < 4 := by omega
  go_enter Tryd.func8, Tryd.ntmps8
  go_wp2_with fail
  refine cW.mono ?_
  rintro e w1 ⟨rfl, hb1⟩
  clear cW
  go_wp2_with fail
  refine (C1.out _ hb1).mono ?_
  rintro e w2 ⟨vl, rfl, rl2, hb2'⟩
  have hz1 := hb1.size
  have hb2 := hb1.trans (hb2'.mono hz1)
  have hz2 := hb2.size
  have hwl := rl2.ws
  go_wp2_with fail
  refine (CJ.out _ _ _ (Nat.le_refl _) hwl).mono ?_
  rintro e w3 ⟨rfl, hb3'⟩
  have hb3 := hb2.trans (hb3'.mono hz2)
  have hz3 := hb3.size
  go_wp2_with fail
  refine (C2.out _ hb3).mono ?_
  rintro e w4 ⟨va, rfl, ra4, hb4'⟩
  have hq4 := hb3'.trans (hb4'.mono hb3'.size)
  have hb4 := hb3.trans (hb4'.mono hz3)
  have hz4 := hb4.size
  have hwa := ra4.ws
  go_wp2_with fail
  refine (sameTexts_ws _ _ _ _ _ (by omega) _ hwa (ws_below hwl hq4)).mono ?_
  rintro e w5 ⟨rfl, n5, rfl⟩
  have hq5 := below_drewN hq4 n5
  have hb5 := below_drewN hb4 n5
  have hz5 := hb5.size
  have hzz : w2.heap.size ≤ (w4.drewN n5).heap.size := hq5.size
  generalize w4.drewN n5 = W5 at *
  clear hq4 hwa ra4 hb4' hb4 hz4
  have hv5 := ws_below hwl hq5
  clear hwl
  go_wp2_with fail
  refine (CJ.out _ _ _ hzz hv5).mono ?_
  rintro e w6 ⟨rfl, hb6'⟩
  have hq6 := hq5.trans (hb6'.mono hzz)
  have hz6 := hq6.size
  go_wp2_with fail
  refine (P1.out _).mono ?_
  rintro e w7 ⟨rfl, hb7'⟩
  have hq7 := hq6.trans (hb7'.mono hz6)
  have hz7 := hq7.size
  go_wp2_with fail
  refine (P2.out _).mono ?_
  rintro e w8 ⟨rfl, hb8'⟩
  have hq8 := hq7.trans (hb8'.mono hz7)
  have hv8 := ws_below (ws_below (ws_below hv5 (hb6'.mono hzz)) (hb7'.mono hz6)) (hb8'.mono hz7)
  clear hb6' hb7' hb8' hv5 hq5 hq6 hq7 hb5 hz5 hb3' hb3 hz3
  have hz8 := hq8.size
  obtain ⟨a, c, rfl, hc1, hc2, hcells⟩ := hv8
  have hcl : ∀ (k : Nat) (x : ByteArray), L[k]? = some x → ∃ bk o, a = some ⟨bk, o, none⟩ ∧ ∀ W, Below w2.heap.size w8 W → W.cell? ⟨bk, o + k, none⟩ = some (.string x) := fun k x hk => by
    obtain ⟨bk, o, h1, h2, h3⟩ := hcells (by rintro rfl; simp at hk)
    exact ⟨bk, o, h1, fun W hb => (hb.cell (p := ⟨bk, o + k, none⟩) h2).trans (h3 k x hk)⟩
  have hb8 : ∀ W, Below w2.heap.size w8 W → Below w.heap.size w W := fun W hb => hb2.trans ((hq8.trans hb).mono hz2)
  have cy : ∀ (y : ByteArray), y.size ≤ 67108864 → ∀ (W : World), Below w2.heap.size w8 W → Calls Tryd.prog 16 #[.string y] W fun e W' => e = .returned (.int .i64 (wd y)) ∧ Below w2.heap.size w8 W' :=
    fun y hy W hb => (CX.out y hy W (hb8 W hb)).mono fun e W' k => ⟨k.1, hb.trans (k.2.mono (by have := hb.size; omega))⟩
  have HC := Lib.hid hcl
  have CY := Lib.hid cy
  have HB8 := Lib.hid hb8
  clear hcells hcl cy hb8 CX C1 C2 CJ P1 P2
  go_wp2
  go_loopw [9] (fun i wr => ∃ k : Nat, k ≤ L.length ∧ i = .int .i64 k ∧ Below w2.heap.size w8 wr) (fun i _ => L.length - (intOf i).toNat)
  case atStart => exact ⟨0, Nat.zero_le _, rfl, Below.refl _ _⟩
  case round =>
    obtain ⟨k, hk, rfl, hbr⟩ := hrel
    by_cases hlt : k < L.length
    · obtain ⟨y, hy⟩ : ∃ y, L[k]? = some y := ⟨_, List.getElem?_eq_getElem hlt⟩
      obtain ⟨bk, o, rfl, hcy⟩ := HC.out k y hy
      obtain ⟨⟨hpos, hfst, hlast, hfit⟩, hpair⟩ := OK.out k y hy
      have hyz := LY.out k y hy
      have hwy := wd_bd y
      have cyy := CY.out y (by omega)
      have hne : ¬ y.toList = [] := by
        rw [toList_data']
        intro h
        have := congrArg List.length h
        rw [data_len, List.length_nil] at this; omega
      have hE : y.toList.isEmpty = false := by cases h : y.toList with
        | nil => exact absurd h hne
        | cons a b => rfl
      have hF : ((y[0].toNat : Int) == 32) = false := by rw [beq_eq_false_iff_ne]; rw [bt_get y 0 hpos] at hfst; omega
      have hG : ((y[y.size - 1].toNat : Int) == 32) = false := by rw [beq_eq_false_iff_ne]; rw [bt_get y (y.size - 1) (by omega)] at hlast; omega
      have hN : decide (wd y > room) = false := by simp; omega
      have hS : IntKind.i64.wrap ((y.size : Int) - 1) = ((y.size - 1 : Nat) : Int) := by rw [IntWalk.i64_in _ (by omega)]; omega
      have hS0 : y.size - 1 < y.size := by omega
      have HCY := Lib.hid hcy
      have CYY := Lib.hid cyy
      have HP := Lib.hid hpair
      have hc0 := hcy wr hbr
      have HK := Lib.hid hk
      clear hcy cyy hpair hfst hlast hk hy
      go_wp2_with fail
      refine (CYY.out _ hbr).mono ?_
      rintro e w9 ⟨rfl, hb9⟩
      have hc9 := HCY.out _ hb9
      go_wp2
      go_quiet (fail)
      clear hS hE hne hF hG hN hc9 hc0
      have hbX := below_drewN hb9 nq
      generalize w9.drewN nq = X at *
      have hcX := HCY.out X hbX
      by_cases hk0 : k = 0
      · subst hk0
        go_wp2
        go_roundw
        case rel => exact ⟨1, by omega, by first | rfl | go_num, hbX⟩
        case measure => simp [intOf]; omega
      · obtain ⟨j, rfl⟩ : ∃ j, k = j + 1 := ⟨k - 1, by omega⟩
        obtain ⟨z, hz⟩ : ∃ z, L[j]? = some z := ⟨_, List.getElem?_eq_getElem (by omega)⟩
        obtain ⟨K, ⟨f1, f2, f3⟩, hroom⟩ := HP.out j z rfl hz
        obtain ⟨bk', o', hbo, hcz⟩ := HC.out j z hz
        have hbo' : bk = bk' ∧ o = o' := by simpa using hbo
        obtain ⟨rfl, rfl⟩ := hbo'
        have hzz2 := LY.out j z hz
        have hkp : 0 < j + 1 := by omega
        have HCZ := Lib.hid hcz
        have F2 := Lib.hid f2
        have F3 := Lib.hid f3
        have hxs : (y.extract 0 K).size ≤ 67108864 := by simp; omega
        have hwx := wd_bd (y.extract 0 K)
        have hxz : (y.extract 0 K).size ≤ y.size := by simp; omega
        have hcZ := hcz X hbX
        clear hbo hcz f2 f3 hk0 hz
        go_wp2
        go_loopw [11] (fun u wr => ∃ m : Nat, m ≤ K ∧ u = .int .i64 m ∧ wr = X) (fun u _ => K - (intOf u).toNat)
        case atStart => exact ⟨0, Nat.zero_le _, rfl, rfl⟩
        case round =>
          obtain ⟨m, hm, rfl, rfl⟩ := hrel
          by_cases hmK : m < K
          · have hmy : m < y.size := by omega
            have hm32 : ((y[m].toNat : Int) != 32) = true := by
              have := F2.out m hmK
              rw [bt_get y m hmy] at this
              simp; omega
            go_wp2
            go_roundw
            case rel => exact ⟨m + 1, by omega, by first | rfl | go_num, by first | rfl | trivial⟩
            case measure => simp [intOf]; omega
          · obtain rfl : m = K := by omega
            have hsl : ∀ W : World, (Instr.slice 9 (.string y) none (some (.int .i64 (m : Int))) none).run Tryd.prog W = .ok (.string (y.extract 0 m)) W := fun W => by
              rw [run_slice_string_to_if (P := Tryd.prog) W 9 y .i64 (m : Int) Tryd.underlying9, if_pos (by omega), Int.toNat_natCast]
            have hsub : IntKind.i64.wrap (room - wd (y.extract 0 m)) = room - wd (y.extract 0 m) := IntWalk.i64_in _ (by omega)
            have hsj : IntKind.i64.wrap (((j + 1 : Nat) : Int) - 1) = (j : Int) := by rw [IntWalk.i64_in _ (by omega)]; omega
            have hsj2 : IntKind.i64.wrap ((j : Int) + 1 - 1) = (j : Int) := by rw [IntWalk.i64_in _ (by omega)]; omega
            have hsj3 : IntKind.i64.wrap (j : Int) = (j : Int) := IntWalk.i64_in _ (by omega)
            have hge : decide (wd z < room - wd (y.extract 0 m)) = false := by simp; omega
            have hj0 : j < L.length := by omega
            generalize y.extract 0 m = x at *
            have hex : (m < y.size ∧ (∀ h : m < y.size, ((y[m].toNat : Int) != 32) = false)) ∨ m = y.size := by
              rcases Nat.lt_or_ge m y.size with h | h
              · left
                refine ⟨h, fun h => ?_⟩
                have := F3.out h
                rw [bt_get y m h] at this
                rw [this]; rfl
              · exact .inr (by omega)
            have HB := Lib.hid hbX
            rcases hex with ⟨hms, h32⟩ | hms
            · have h32 := h32 hms
              go_wp2
              go_region_with (first
                | (go_at_call 16; (with_reducible refine (CY.out z (by omega) _ (by first | assumption | exact Below.drew (by assumption))).mono ?_); rintro e wa ⟨rfl, hba⟩; have hca := HCY.out _ hba)
                | (go_at_call 16; (with_reducible refine (CY.out x hxs _ (by first | assumption | exact Below.drew (by assumption))).mono ?_); rintro e wb ⟨rfl, hbb⟩))
              all_goals
                go_wp2
                go_roundw
                case rel => exact ⟨j + 1 + 1, by omega, by first | rfl | go_num, by first | assumption | exact Below.drew (by assumption) | exact below_drewN (by assumption) _⟩
                case measure => simp [intOf]; omega
            · subst hms
              go_wp2
              go_region_with (first
                | (go_at_call 16; (with_reducible refine (CY.out z (by omega) _ (by first | assumption | exact Below.drew (by assumption))).mono ?_); rintro e wa ⟨rfl, hba⟩; have hca := HCY.out _ hba)
                | (go_at_call 16; (with_reducible refine (CY.out x hxs _ (by first | assumption | exact Below.drew (by assumption))).mono ?_); rintro e wb ⟨rfl, hbb⟩))
              all_goals
                go_wp2
                go_roundw
                case rel => exact ⟨j + 1 + 1, by omega, by first | rfl | go_num, by first | assumption | exact Below.drew (by assumption) | exact below_drewN (by assumption) _⟩
                case measure => simp [intOf]; omega
    · obtain rfl : k = L.length := by omega
      have hbf := HB8.out _ hbr
      go_wp2
      go_ret
      exact ⟨rfl, hbf⟩
end Go.Proofs.YteegnmblbjcfpaaDoor.T
