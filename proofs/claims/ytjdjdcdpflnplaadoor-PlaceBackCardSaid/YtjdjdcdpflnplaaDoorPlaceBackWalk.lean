/-
  erratalaw03.PlaceBack.
-/
import Derived.Test.YtjdjdcdpflnplaaDoorPlaceBackQ
set_option linter.unusedVariables false
namespace Go.Proofs.YtjdjdcdpflnplaaDoor.T
open Go Go.Lib Go.RowKit Go.Shelf

set_option maxRecDepth 1000000 in
set_option maxHeartbeats 16000000 in
theorem placeBack_in (l m : List Pl) (hl : l.length ≤ 5864062014690) (hm : m.length ≤ 5864062014690) (hs : Slim l) (hsm : Slim m) (u0 u1 : Value) (w : World) (h0 : PlSl w.heap.size w u0 l) (h1 : PlSl w.heap.size w u1 m) (hE : Env w) :
    Calls Tryd.prog 7 #[u0, u1] w fun e w' => e = .returned (.bool true) ∧ Below w.heap.size w w' := by
  have h6 := hE.sz
  have cF1 := Lib.hid (fit_in l (by omega) hs u0 w h0)
  have cF2 := Lib.hid (fun W (hb : Below w.heap.size w W) => fit_in m (by omega) hsm u1 W (h1.below hb hb.size))
  have HE := Lib.hid (fun W (hb : Below w.heap.size w W) => hE.below hb h6)
  clear hs hsm h0 h1 hE hl hm
  go_enter Tryd.func7, Tryd.ntmps7
  go_wp2_with fail
  refine (cF1.out).mono ?_
  rintro e w1 ⟨av, r1, rfl, hc1, hA1, hb1⟩
  have HC1 := Lib.hid hc1
  have HA1 := Lib.hid hA1
  have HW1 := Lib.hid hb1
  obtain ⟨aa, ca, rfl⟩ := hA1.isSl
  clear hA1 hb1 hc1 cF1
  go_wp2_with fail
  refine (cF2.out w1 HW1.out).mono ?_
  rintro e w2 ⟨bv, r2, rfl, hc2, hB2, hb2⟩
  have HC2 := Lib.hid hc2
  have HB2 := Lib.hid hB2
  have HA2 := Lib.hid (PRow.below HA1.out hb2)
  have HW2 := Lib.hid (HW1.out.trans (hb2.mono HW1.out.size))
  obtain ⟨ab, cb, rfl⟩ := hB2.isSl
  clear hB2 hb2 hc2 HA1 HW1 cF2
  go_wp2_with fail
  refine (textQ HC1.out _ w2 HA2.out.sl (HE.out w2 HW2.out)).mono ?_
  rintro e w3 ⟨rfl, hb3⟩
  have HA3 := Lib.hid (PRow.below HA2.out hb3)
  have HB3 := Lib.hid (PRow.below HB2.out hb3)
  have HW3 := Lib.hid (HW2.out.trans (hb3.mono HW2.out.size))
  clear hb3 HA2 HB2 HW2
  go_wp2_with fail
  refine (textQ HC2.out _ w3 HB3.out.sl (HE.out w3 HW3.out)).mono ?_
  rintro e w4 ⟨rfl, hb4⟩
  have HA4 := Lib.hid (PRow.below HA3.out hb4)
  have HB4 := Lib.hid (PRow.below HB3.out hb4)
  have HW4 := Lib.hid (HW3.out.trans (hb4.mono HW3.out.size))
  clear hb4 HA3 HB3 HW3
  obtain ⟨bq, hq, cAl⟩ : ∃ bq, ((tB r1).toList == (tB r2).toList) = bq ∧ Calls Tryd.prog 32 #[.slice aa r1.length ca, .slice ab r2.length cb] w4 fun e w' => e = .returned (.bool bq) ∧ Dr w4 w' := by
    by_cases h : r1 = r2
    · subst h
      exact ⟨true, beq_self_eq_true _, alikeYes r1 w4.heap.size _ _ w4 HA4.out.sl HB4.out.sl⟩
    · exact ⟨false, tB_ne HC1.out HC2.out h, alikeNo h w4.heap.size _ _ w4 HA4.out.sl HB4.out.sl⟩
  have CAL := Lib.hid cAl
  clear cAl
  go_wp2_with fail
  refine CAL.out.mono ?_
  rintro e w5 ⟨rfl, hd5⟩
  have hb5 := hd5.below w4.heap.size
  have HA5 := Lib.hid (PRow.below HA4.out hb5)
  have HW5 := Lib.hid (HW4.out.trans (hb5.mono HW4.out.size))
  clear hd5 hb5 HA4 HB4 HW4 CAL hq
  go_wp2_with fail
  refine (parseQ HC1.out w5 (HE.out w5 HW5.out)).mono ?_
  rintro e w6 ⟨xv, rfl, hx6, hb6⟩
  have HX6 := Lib.hid hx6
  have HA6 := Lib.hid (PRow.below HA5.out hb6)
  have HW6 := Lib.hid (HW5.out.trans (hb6.mono HW5.out.size))
  clear hx6 hb6 HA5 HW5
  go_wp2_with fail
  refine (foldQ HC1.out _ w6 HA6.out.sl).mono ?_
  rintro e w7 ⟨rv, qs, rfl, hqs, hR7, hb7⟩
  have HQS := Lib.hid hqs
  have HR7 := Lib.hid hR7.sl
  obtain ⟨ra, rc, rfl, _⟩ := hR7.sl
  have HX7 := Lib.hid (PRow.below HX6.out hb7)
  have HA7 := Lib.hid (PRow.below HA6.out hb7)
  have HW7 := Lib.hid (HW6.out.trans (hb7.mono HW6.out.size))
  clear hqs hR7 hb7 HX6 HA6 HW6
  rw [List.length_map]
  go_wp2_with fail
  refine (unfoldQ HC1.out HQS.out _ w7 (by have := HR7.out; rwa [List.length_map] at this)).mono ?_
  rintro e w8 ⟨yv, rfl, hy8, hb8⟩
  have HR8 := Lib.hid (HR7.out.below hb8 hb8.size)
  have HY8 := Lib.hid hy8
  have HX8 := Lib.hid (PRow.below HX7.out hb8)
  have HA8 := Lib.hid (PRow.below HA7.out hb8)
  have HW8 := Lib.hid (HW7.out.trans (hb8.mono HW7.out.size))
  clear hy8 hb8 HX7 HA7 HR7 HW7
  go_wp2_with fail
  refine (alikeYes r1 w8.heap.size _ _ w8 HX8.out.sl HA8.out.sl).mono ?_
  rintro e w9 ⟨rfl, hd9⟩
  have hb9 := hd9.below w8.heap.size
  have HR9 := Lib.hid (HR8.out.below hb9 hb9.size)
  have HY9 := Lib.hid (PRow.below HY8.out hb9)
  have HA9 := Lib.hid (PRow.below HA8.out hb9)
  have HW9 := Lib.hid (HW8.out.trans (hb9.mono HW8.out.size))
  clear hd9 hb9 HX8 HY8 HA8 HR8 HW8
  go_wp2_with fail
  refine (alikeYes r1 w9.heap.size _ _ w9 HY9.out.sl HA9.out.sl).mono ?_
  rintro e w10 ⟨rfl, hd10⟩
  have hb10 := hd10.below w9.heap.size
  have hRz := HR9.out.below hb10 hb10.size
  have HW10 := Lib.hid (HW9.out.trans (hb10.mono HW9.out.size))
  clear hd10 hb10 HY9 HA9 HR9 HW9
  obtain ⟨ra', rc', he, hZ, hP⟩ := hRz
  simp only [Value.slice.injEq] at he
  obtain ⟨rfl, _, rfl⟩ := he
  have HN : Hid (∀ k, k < qs.length → ∃ bk o, ra = some ⟨bk, o, none⟩ ∧ ∃ a c m t, RunAt w10 bk o (foldL r1) k a c m t ∧ ∀ j, k = j + 1 → ∃ t', w10.cell? ⟨bk, o + j * 2 + 1, none⟩ = some (.int .i64 ((t' : Nat) : Int)) ∧ ¬ (t = 1 ∧ t' = 1) ∧ t' ≤ 64) := fun k hk => by
    obtain ⟨bk, o, hra, _, hA⟩ := hZ (by intro e; rw [List.map_eq_nil_iff] at e; subst e; simp at hk)
    obtain ⟨a, c, m, t, h1, h2⟩ := runs_at HC1.out HQS.out hA hP k hk
    exact ⟨bk, o, hra, a, c, m, t, h1, h2⟩
  have HAL := Lib.hid (alive_in w10 (HE.out w10 HW10.out))
  have hlen : qs.length = (foldL r1).length := by rw [← HQS.out, List.length_map]
  have hmf := many_fold r1
  have hle := many_le (foldL r1)
  have h64 := (check_all HC1.out).2
  have hn64 : qs.length ≤ 64 := by
    obtain ⟨b, hg⟩ := foldL_good r1
    have h4 := hg.qs_le (l := r1)
    rw [unf_foldL] at h4
    omega
  have HLEN := Lib.hid hlen
  have HMF := Lib.hid hmf
  have HLE := Lib.hid hle
  clear hZ hP hlen hmf hle HQS HC2 HE
  generalize r1.length = na at *
  generalize foldL r1 = rs at *
  generalize qs.length = nr at *
  go_wp2
  go_loop [17, 18] (fun n i => ∃ k : Nat, k ≤ nr ∧ i = .int .i64 k ∧ n = .int .i64 (many (rs.take k) : Nat)) (fun _ i => nr - (RowKit.intOf i).toNat)
  case atStart => exact ⟨0, Nat.zero_le _, rfl, rfl⟩
  case round =>
    obtain ⟨k, hk, rfl, rfl⟩ := hrel
    by_cases hlt : k < nr
    · obtain ⟨bk, o, rfl, a, c, m, t, hR, hJ⟩ := HN.out k hlt
      have c0 := hR.c0
      have c1 := hR.c1
      have t1 := hR.t1
      have m8 := hR.m8
      have t64 := hR.t64
      have hs1 := hR.sum
      have hs2 := HLE.out (k + 1)
      have hs3 := HMF.out.1
      obtain ⟨s, hs⟩ : ∃ s, s = many (rs.take k) := ⟨_, rfl⟩
      obtain ⟨s', hs'⟩ : ∃ s, s = many (rs.take (k + 1)) := ⟨_, rfl⟩
      rw [← hs, ← hs'] at hs1
      rw [← hs'] at hs2
      rw [← hs]
      have hsn : ((s : Int) + (m : Int)) = (s' : Int) := by omega
      have hsm : s + m ≤ 64 := by omega
      have HS' := Lib.hid hs'
      have HSN := Lib.hid hsn
      clear hs hs' hsn hR hs1 HN
      have hN : decide ((k : Int) < (nr : Int)) = true := by simp; omega
      have hd1 : decide ((t : Int) < 1) = false := by simp; omega
      by_cases ht : 1 < t
      · have hm := m8 ht
        have e1 : decide ((1 : Int) < (t : Int)) = true := by simp; omega
        have e2 : decide ((8 : Int) < (m : Int)) = false := by simp; omega
        have e3 : ((t : Int) == 1) = false := by simp; omega
        have e4 : decide ((t : Int) = 1) = false := by simp; omega
        clear hJ
        cases k with
        | zero =>
          simp only [Nat.zero_mul, Nat.add_zero] at c0 c1
          go_wp2
          go_round
          case rel => exact ⟨1, by omega, by go_num, by rw [HSN.out, HS'.out]⟩
          case measure => simp [RowKit.intOf] <;> omega
        | succ j =>
          have e5 : decide ((0 : Int) < ((j + 1 : Nat) : Int)) = true := decide_eq_true (by omega)
          go_wp2
          go_round
          case rel => exact ⟨j + 2, by omega, by go_num, by rw [HSN.out, HS'.out]⟩
          case measure => simp [RowKit.intOf] <;> omega
      · obtain rfl : t = 1 := by omega
        cases k with
        | zero =>
          clear hJ
          simp only [Nat.zero_mul, Nat.add_zero] at c0 c1
          go_wp2
          go_round
          case rel => exact ⟨1, by omega, by go_num, by rw [HSN.out, HS'.out]⟩
          case measure => simp [RowKit.intOf] <;> omega
        | succ j =>
          obtain ⟨t', c2, hne, ht'⟩ := hJ j rfl
          have e5 : decide ((0 : Int) < ((j + 1 : Nat) : Int)) = true := decide_eq_true (by omega)
          have e6 : ((t' : Int) == 1) = false := by simp; omega
          have e7 : decide ((t' : Int) = 1) = false := by simp; omega
          clear hJ
          go_wp2
          go_round
          case rel => exact ⟨j + 2, by omega, by go_num, by rw [HSN.out, HS'.out]⟩
          case measure => simp [RowKit.intOf] <;> omega
    · obtain rfl : k = nr := by omega
      have hN : decide ((k : Int) < (k : Int)) = false := by simp
      have hall : rs.take k = rs := by rw [HLEN.out, List.take_length]
      rw [hall]
      obtain ⟨s, hs⟩ : ∃ s, s = many rs := ⟨_, rfl⟩
      have h1 := HMF.out.1
      have h2 := HMF.out.2
      rw [← hs] at h1 h2 ⊢
      have e1 : decide (s ≤ na) = true := decide_eq_true h1
      have HAL' := HAL.out
      by_cases h0 : 0 < s
      · have e2 : decide ((0 : Int) < (s : Int)) = true := by simp; omega
        have e3 : decide ((0 : Int) < (na : Int)) = true := by simp; omega
        have h3 : 0 < na := by omega
        clear h2 hs hall HAL
        go_wp2_with fail
        refine HAL'.mono ?_
        rintro e w11 ⟨rfl, hb11⟩
        go_wp2
        go_ret
        exact ⟨rfl, HW10.out.trans (hb11.mono HW10.out.size)⟩
      · obtain rfl : s = 0 := by omega
        obtain rfl : na = 0 := by omega
        clear h1 h2 hs hall HAL
        go_wp2_with fail
        refine HAL'.mono ?_
        rintro e w11 ⟨rfl, hb11⟩
        go_wp2
        go_ret
        exact ⟨rfl, HW10.out.trans (hb11.mono HW10.out.size)⟩
end Go.Proofs.YtjdjdcdpflnplaaDoor.T
