/-
  erratalaw09.CasesNone answers true.
-/
import Derived.Test.YtefmffofboddgaaGreatCasesRows
set_option linter.unusedVariables false
namespace Go.Proofs.YtefmffofboddgaaGreat.T
open Go Go.Lib Go.RowKit

theorem alo (W : World) (o : Obj) : Below W.heap.size W (W.alloc o) := (Below.refl _ _).alloc (Nat.le_refl _) _
theorem carry {W W' : World} {p : Addr} {v : Value} (h : W.cell? p = some v) (hb : Below W.heap.size W W') : W'.cell? p = some v := (hb.cell (World.block_lt_of_cell? _ _ h)).trans h
theorem nil_tm (B : Nat) (W : World) : TmSl B W (.slice none 0 0) [] := ⟨none, 0, rfl, Nat.le_refl _, by omega, fun h => absurd rfl h⟩
theorem TmSl.take {B : Nat} {w : World} {a : Option Addr} {n c : Nat} {l : List Tm} (h : TmSl B w (.slice a n c) l) (k : Nat) (hk : k ≤ l.length) : TmSl B w (.slice a k c) (l.take k) := by
  obtain ⟨a', c', e, h1, h2, h3⟩ := h
  cases e
  have hl : (l.take k).length = k := by rw [List.length_take]; omega
  refine ⟨a, c, by rw [hl], by omega, h2, fun hne => ?_⟩
  obtain ⟨bk, o, ha, hb, hc⟩ := h3 (by intro e; subst e; simp at hne)
  exact ⟨bk, o, ha, hb, hc.take k⟩
theorem own_one (W : World) (u : Value) (x : Cl) (hx : x.t.length ≤ 1000000) (h : TmSl W.heap.size W u x.t) : Calls Tryz.prog 5 #[.slice (some ⟨W.heap.size, 0, none⟩) 1 1] (W.alloc (.cells #[u, .bool x.d, .int .i64 x.to] 29)) fun e w' => ∃ v, e = .returned v ∧ ClSl w'.heap.size w' v [x] ∧ Below W.heap.size W w' :=
  (own_in [x] (by simp) (by intro y hy; obtain rfl := List.mem_singleton.1 hy; exact hx) _ _ (one_row W u x h)).mono (by
    rintro e w' ⟨v, rfl, h1, h2⟩
    exact ⟨v, rfl, h1, more (alo _ _) h2⟩)
theorem mkF (W : World) : (Instr.makeSlice 45 (.int .i64 1) (.int .i64 1)).run Tryz.prog W = .ok (.slice (some ⟨W.heap.size, 0, none⟩) 1 1) (W.alloc (.cells #[Value.nilFunc] 77)) := by kernel_rfl
attribute [local go_sem] mkF
def badL : List Cl := [⟨[], false, 0⟩]
theorem own_bad (W : World) : Calls Tryz.prog 5 #[.slice (some ⟨W.heap.size, 0, none⟩) 1 1] (W.alloc (.cells #[.slice none 0 0, .bool false, .int .i64 0] 29)) fun e w' => ∃ u, e = .returned u ∧ ClSl w'.heap.size w' u badL ∧ Below W.heap.size W w' :=
  (own_in badL (by decide) (by intro x hx; obtain rfl := List.mem_singleton.1 hx; simp) _ _ (one_row W (.slice none 0 0) ⟨[], false, 0⟩ (nil_tm _ _))).mono (by
    rintro e w' ⟨u, rfl, h1, h2⟩
    exact ⟨u, rfl, h1, more (alo _ _) h2⟩)

set_option maxRecDepth 100000 in
set_option maxHeartbeats 4000000 in
theorem casesNone_in (w : World) : Calls Tryz.prog 3 #[] w fun e w' => e = .returned (.bool true) ∧ Below w.heap.size w w' := by
  go_enter Tryz.func3, Tryz.ntmps3
  go_wp2_with fail
  refine (new_in w).mono ?_
  rintro e w1 ⟨rfl, b1, h1⟩
  have hB : w.heap.size ≤ w.heap.size := Nat.le_refl _
  generalize hBB : w.heap.size = B at b1
  go_wp2_with fail
  refine (own_bad w1).mono ?_
  rintro e w2 ⟨v3, rfl, s3, h2⟩
  have H2 := more h1 h2
  have b2 := carry b1 h2
  clear h1 h2 b1
  go_wp2_with fail
  refine (pick_bad none 9 2 v3 w2 (finds_nil w2 9) (by decide)).mono ?_
  unfold choZ
  rintro e w3 ⟨rfl, h3⟩
  have H3 := more H2 h3
  have b3 := carry b2 h3
  have s4 := s3.below h3 h3.size
  clear H2 h3 b2 s3
  have c3 := Lib.hid (fun W (hW : Below w3.heap.size w3 W) => pick_bad (some ⟨B, 0, none⟩) 9 50 v3 W (finds_nine W B (carry b3 hW)) (by decide))
  unfold choZ at c3
  go_wp2_with fail
  refine (c3.out _ (alo _ _)).mono ?_
  rintro e w4 ⟨rfl, h4⟩
  have h4 := more (alo _ _) h4
  have H4 := more H3 h4
  have b4 := carry b3 h4
  have s5 := s4.below h4 h4.size
  clear H3 h4 b3 s4 c3
  have c4 := Lib.hid (fun W (hW : Below w4.heap.size w4 W) => pick_wrong badL (by decide) (by intro x hx; obtain rfl := List.mem_singleton.1 hx; simp) 0 90 chk_bad (by decide) ⟨B, 0, none⟩ v3 W (s5.below hW hW.size))
  unfold choZ at c4
  go_wp2_with fail
  refine (c4.out _ (alo _ _)).mono ?_
  rintro e w5 ⟨rfl, h5⟩
  have h5 := more (alo _ _) h5
  have H5 := more H4 h5
  have b5 := carry b4 h5
  clear H4 h5 b4 s5 c4
  have c5 := Lib.hid (fun W => spick_none none 9 W)
  unfold choZ at c5
  go_wp2_with fail
  refine (c5.out _).mono ?_
  rintro e w6 ⟨rfl, h6⟩
  have h6 := more (alo _ _) h6
  have H6 := more H5 h6
  have b6 := carry b5 h6
  clear H5 h6 b5 c5
  go_wp2
  have hs6 := H6.size
  go_loopw [12, 13] (fun v i wr => ∃ (k : Nat) (qs : List (Value × Cl)), k ≤ 65 ∧ i = .int .i64 k ∧ qs.map (·.2) = manyL.take k ∧ Rws w6.heap.size wr v qs ∧ Below w6.heap.size w6 wr)
    (fun _ i _ => 65 - (intOf i).toNat)
  case atStart => exact ⟨0, [], Nat.zero_le _, rfl, by simp, Rws.nil _ _, alo _ _⟩
  case round =>
    obtain ⟨k, qs, hk, rfl, hqs, hrow, hbr⟩ := hrel
    have hszr := hbr.size
    by_cases hlt : k < 65
    · have hN : decide ((k : Int) < 65) = true := by simp; omega
      have hwrap : IntKind.u8.wrap ((k : Int) + 1) = (k : Int) + 1 := by
        unfold IntKind.wrap; simp [IntKind.signed, IntKind.bits]; omega
      have hqk : qs.length = k := by
        have := congrArg List.length hqs
        rw [List.length_map, List.length_take] at this
        have h65 : manyL.length = 65 := rfl
        omega
      have hsz1 : (wr.alloc (.cells #[.int .u8 ((k : Int) + 1), .int .u8 0] 38)).heap.size = wr.heap.size + 1 := by simp
      obtain ⟨v', w', hrun, hrow', hgrow⟩ := push_row w6.heap.size (wr.alloc (.cells #[.int .u8 ((k : Int) + 1), .int .u8 0] 38)) _ qs (hrow.below (alo _ _)) (.slice (some ⟨wr.heap.size, 0, none⟩) 1 1, ⟨[⟨(k : Int) + 1, 0⟩], false, 0⟩) (one_ask wr _ _ _ hszr) (by omega) (by rw [hsz1]; omega)
      have hb' : Below w6.heap.size w6 w' := (more hbr (alo _ _)).trans (grown_below hgrow (by rw [hsz1]; omega) (fun g hg => (World.ownsRow.lt hrow.row g hg).1))
      rw [hsz1] at hrun
      have HS := Lib.hid (many_succ k hlt)
      have HQ := Lib.hid hqs
      clear hqs
      go_wp2_with (at_builtin; refine wpList_append_run rfl _ _ 30 rfl _ _ _ _ rfl rfl hrun ?_)
      go_roundw
      case rel => exact ⟨k + 1, qs ++ [_], hlt, by go_num, by rw [HS.out, List.map_append, HQ.out]; rfl, hrow', hb'⟩
      case measure => simp [intOf]; omega
    · have : k = 65 := by omega
      subst this
      have hm : manyL.take 65 = manyL := rfl
      rw [hm] at hqs
      have sl := hrow.sl
      rw [hqs] at sl
      have H7 := more H6 hbr
      have b7 := carry b6 hbr
      clear hrow hbr hqs H6 b6
      obtain ⟨ua, uc, rfl, hu1, hu2, hu3⟩ := id sl
      obtain ⟨ub, uo, rfl, _, _⟩ := hu3 (by decide)
      have sl64 := sl.take 64 (by decide)
      have hml : manyL.length = 65 := rfl
      rw [hml] at hu1 sl
      have o8 := own_in manyL (by decide) (by intro x hx; obtain ⟨i, _, rfl⟩ := List.mem_map.1 hx; simp) _ wr sl
      go_wp2_with fail
      refine o8.mono ?_
      rintro e w8 ⟨v8, rfl, s8, h8⟩
      have H8 := more H7 h8
      have b8 := carry b7 h8
      have t8 := sl64.below h8 h8.size
      clear H7 h8 b7 sl sl64 o8 hu3
      have c8 := Check_in manyL (by decide) (by intro x hx; obtain ⟨i, _, rfl⟩ := List.mem_map.1 hx; simp) v8 w8 s8
      rw [chk_many] at c8
      go_wp2_with fail
      refine c8.mono ?_
      rintro e w9 ⟨rfl, h9⟩
      have H9 := more H8 h9
      have b9 := carry b8 h9
      have t9 := t8.below h9 h9.size
      clear H8 h9 b8 s8 t8 c8
      have hS := slice_frontR ub uo 65 uc 64 (by omega) (by omega) w9
      have o9 := own_in (manyL.take 64) (by decide) (by intro x hx; obtain ⟨i, _, rfl⟩ := List.mem_map.1 (List.mem_of_mem_take hx); simp) _ w9 t9
      go_wp2_with fail
      refine o9.mono ?_
      rintro e w10 ⟨v10, rfl, s10, h10⟩
      have H10 := more H9 h10
      have b10 := carry b9 h10
      clear H9 h10 b9 t9 o9 hS
      have c10 := Check_in (manyL.take 64) (by decide) (by intro x hx; obtain ⟨i, _, rfl⟩ := List.mem_map.1 (List.mem_of_mem_take hx); simp) v10 w10 s10
      rw [chk_64] at c10
      go_wp2_with fail
      refine c10.mono ?_
      rintro e w11 ⟨rfl, h11⟩
      have H11 := more H10 h11
      have b11 := carry b10 h11
      clear H10 h11 b10 s10 c10
      go_wp2
      go_loopw [18, 19] (fun v i wr => ∃ (k : Nat), k ≤ 257 ∧ i = .int .i64 k ∧ TRow 38 w11.heap.size wr v (List.replicate k ⟨1, 0⟩) ∧ Below w11.heap.size w11 wr)
        (fun _ i _ => 257 - (intOf i).toNat)
      case atStart => exact ⟨0, Nat.zero_le _, rfl, TRow.nil _ _ _, Below.refl _ _⟩
      case round =>
        obtain ⟨k, hk, rfl, hrow, hbr⟩ := hrel
        have hszr := hbr.size
        by_cases hlt : k < 257
        · have hN : decide ((k : Int) < 257) = true := by simp; omega
          obtain ⟨v', w', hrun, hrow', hgrow⟩ := app_run (sl := 27) (by kernel_rfl) infoAsk w11.heap.size wr _ _ hrow ⟨1, 0⟩ (by simp; omega) hszr _ (.inl rfl)
          have hb' : Below w11.heap.size w11 w' := hbr.trans (grown_below hgrow hszr (fun g hg => (World.ownsRow.lt hrow g hg).1))
          have HS := Lib.hid (long_succ k)
          go_wp2_with (at_builtin; refine wpList_append_run rfl _ _ 27 rfl _ _ _ _ rfl rfl hrun ?_)
          go_roundw
          case rel => exact ⟨k + 1, hlt, by go_num, by rw [HS.out]; exact hrow', hb'⟩
          case measure => simp [intOf]; omega
        · have : k = 257 := by omega
          subst this
          have tl := hrow.sl
          have H12 := more H11 hbr
          have b12 := carry b11 hbr
          clear hrow hbr H11 b11
          obtain ⟨la, lc, rfl, hl1, hl2, hl3⟩ := id tl
          obtain ⟨lb, lo, rfl, _, _⟩ := hl3 (by decide)
          have hrl : (List.replicate 257 (⟨1, 0⟩ : Tm)).length = 257 := rfl
          rw [hrl] at hl1 tl
          have tl2 : TmSl wr.heap.size wr (.slice (some ⟨lb, lo, none⟩) 256 lc) (longL.take 256) := TmSl.take tl 256 (by decide)
          have o12 := own_one wr (.slice (some ⟨lb, lo, none⟩) 257 lc) ⟨longL, false, 0⟩ (by decide) tl
          clear hl3 tl
          go_wp2_with fail
          refine o12.mono ?_
          rintro e w13 ⟨v13, rfl, s13, h13⟩
          have H13 := more H12 h13
          have b13 := carry b12 h13
          have t13 := tl2.below h13 h13.size
          clear H12 h13 b12 tl2 o12
          have c13 := Check_in [⟨longL, false, 0⟩] (by decide) (by intro x hx; obtain rfl := List.mem_singleton.1 hx; decide) v13 w13 s13
          rw [chk_long] at c13
          go_wp2_with fail
          refine c13.mono ?_
          rintro e w14 ⟨rfl, h14⟩
          have H14 := more H13 h14
          have b14 := carry b13 h14
          have t14 := t13.below h14 h14.size
          clear H13 h14 b13 s13 c13 t13
          have hS := slice_frontA lb lo 257 lc 256 (by omega) (by omega) w14
          have o14 := own_one w14 (.slice (some ⟨lb, lo, none⟩) 256 lc) ⟨longL.take 256, false, 0⟩ (by decide) t14
          go_wp2_with fail
          refine o14.mono ?_
          rintro e w15 ⟨v15, rfl, s15, h15⟩
          have H15 := more H14 h15
          have b15 := carry b14 h15
          clear H14 h15 b14 t14 o14 hS
          have c15 := Check_in [⟨longL.take 256, false, 0⟩] (by decide) (by intro x hx; obtain rfl := List.mem_singleton.1 hx; decide) v15 w15 s15
          rw [chk_256] at c15
          go_wp2_with fail
          refine c15.mono ?_
          rintro e w16 ⟨rfl, h16⟩
          have H16 := more H15 h16
          have b16 := carry b15 h16
          clear H15 h16 b15 s15 c15
          go_wp2_with fail
          refine (len_none w16).mono ?_
          rintro e w16' ⟨rfl, rfl⟩
          go_wp2_with fail
          refine (compile_nil _).mono ?_
          rintro e w17 ⟨q1, rfl, r0, r1, h17⟩
          have H17 := more H16 h17
          have b17 := carry b16 h17
          clear H16 h17 b16
          have o17 := own_one w17 (.slice none 0 0) ⟨[], true, 0⟩ (by decide) (nil_tm _ _)
          go_wp2_with fail
          refine o17.mono ?_
          rintro e w18 ⟨v18, rfl, s18, h18⟩
          have H18 := more H17 h18
          have b18 := carry b17 h18
          have r0 := carry r0 h18
          have r1 := carry r1 h18
          clear H17 h18 b17 o17
          have c18 := compile_def 0 v18 w18 s18
          go_wp2_with fail
          refine c18.mono ?_
          rintro e w19 ⟨q2, rfl, d1, h19⟩
          have H19 := more H18 h19
          have b19 := carry b18 h19
          have r0 := carry r0 h19
          have r1 := carry r1 h19
          clear H18 h19 b18 s18 c18
          go_wp2_with fail
          refine (Fold_nobook none 9 _ w19).mono ?_
          rintro e w19' ⟨rfl, rfl⟩
          go_wp2_with fail
          refine (Fold_noswitch ⟨B, 0, none⟩ 9 _ _).mono ?_
          rintro e w19' ⟨rfl, rfl⟩
          have c19 := Lib.hid (Fold_handle ⟨B, 0, none⟩ ⟨q2, 0, none⟩ 9 50 (.slice none 0 0) _ (finds_nine _ B b19) (by decide))
          go_wp2_with fail
          refine c19.out.mono ?_
          rintro e w20 ⟨rfl, h20⟩
          have H20 := more H19 h20
          have b20 := carry b19 h20
          have r0 := carry r0 h20
          have r1 := carry r1 h20
          have d1 := carry d1 h20
          clear H19 h20 b19 c19
          have c20 := Fold_few ⟨B, 0, none⟩ q2 w20 d1
          go_wp2_with fail
          refine c20.mono ?_
          rintro e w21 ⟨rfl, h21⟩
          have H21 := more H20 h21
          have b21 := carry b20 h21
          have r0 := carry r0 h21
          have r1 := carry r1 h21
          have d1 := carry d1 h21
          clear H20 h21 b20 c20
          have c21 := Lib.hid (Fold_nofunc ⟨B, 0, none⟩ q2 w21.heap.size (w21.alloc (.cells #[Value.nilFunc] 77)) (carry d1 (alo _ _)) (read_new1 _ _ _))
          go_wp2_with fail
          refine c21.out.mono ?_
          rintro e w22 ⟨rfl, h22⟩
          have h22 := more (alo _ _) h22
          have H22 := more H21 h22
          have b22 := carry b21 h22
          have r0 := carry r0 h22
          have r1 := carry r1 h22
          clear H21 h22 b21 c21 d1
          have c22 := Fold_zero ⟨B, 0, none⟩ q1 w22 r0 r1
          go_wp2_with fail
          refine c22.mono ?_
          rintro e w23 ⟨rfl, h23⟩
          have H23 := more H22 h23
          have b23 := carry b22 h23
          have r0 := carry r0 h23
          clear H22 h23 b22 c22 r1
          have c23 := spick_zero q1 ⟨B, 0, none⟩ w23 r0
          unfold choNo at c23
          go_wp2_with fail
          refine c23.mono ?_
          rintro e w24 ⟨rfl, h24⟩
          have H24 := more H23 h24
          clear H23 h24 b23 c23 r0
          have c24 := Lib.hid (fun W => spick_bad q1 none 0 2 W (finds_nil W 0) (by decide))
          unfold choZ at c24
          obtain ⟨g0, g1, g2⟩ := box3 (w := w24) (x := .int .i64 (-1)) (y := .int .i64 (-1)) (z := .int .i64 0) (t := 32) (Below.refl _ _)
          go_wp2_with fail
          refine (c24.out _).mono ?_
          rintro e w25 ⟨rfl, h25⟩
          have H25 := more (more H24 (alo _ _)) h25
          have g0 := carry g0 h25
          have g1 := carry g1 h25
          have g2 := carry g2 h25
          have k0 := carry g0 (alo w25 (.cells #[.int .i64 0, .int .i64 0, .int .i64 0] 32))
          have k1 := carry g1 (alo w25 (.cells #[.int .i64 0, .int .i64 0, .int .i64 0] 32))
          have k2 := carry g2 (alo w25 (.cells #[.int .i64 0, .int .i64 0, .int .i64 0] 32))
          have H26 := more H25 (alo w25 (.cells #[.int .i64 0, .int .i64 0, .int .i64 0] 32))
          clear H24 h25 c24
          go_wp2
          go_ret
          exact ⟨rfl, H26⟩
end Go.Proofs.YtefmffofboddgaaGreat.T
