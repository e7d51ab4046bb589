/-
  erratalaw03.fit.
-/
import Derived.Test.YtbldeiejlebbiaaDoorPlaceUnfold
set_option linter.unusedVariables false
namespace Go.Proofs.YtbldeiejlebbiaaDoor.T
open Go Go.Lib Go.RowKit

def bC (bs : List UInt8) : List Value := bs.map fun b => Value.int .u8 b.toNat
def BRow (B : Nat) (w : World) (v : Value) (bs : List UInt8) : Prop := w.ownsRow B 5 1 v bs.length (bC bs)
theorem infoU8 : (Tryd.prog.info? 5).map (fun i => (i.zero, i.size, i.bytes)) = some (some (.int .u8 0), 1, 1) := by kernel_rfl
theorem push_byte (B : Nat) (W : World) (v : Value) (bs : List UInt8) (hrow : BRow B W v bs) (c : Nat) (hc : c < 256) (h64 : bs.length ≤ 1000000) (hB : B ≤ W.heap.size) :
    ∃ v' w', (Builtin.append_ #[117, 117] 117 #[v, .slice (some ⟨W.heap.size, 0, none⟩) 1 1]).run Tryd.prog (W.alloc (.cells #[.int .u8 (c : Int)] 5)) = .ok v' w' ∧ BRow B w' v' (bs ++ [UInt8.ofNat c]) ∧ W.grownBy w' v.ownBlock := by
  obtain ⟨i0, hi, hz0, hz1, hz2⟩ := info_parts infoU8
  have e : bC [UInt8.ofNat c] = [.int .u8 (c : Int)] := by simp [bC, Nat.mod_eq_of_lt hc]
  obtain ⟨v', w', h1, h2, h3, _⟩ := run_append_own (P := Tryd.prog) (W.alloc (.cells #[.int .u8 (c : Int)] 5)) B 117 117 5 i0 (.int .u8 0) 1 1 Tryd.underlying117 hi hz0 hz1 hz2 rfl (by decide) v bs.length (bC bs) (World.ownsRow.alloc hrow _) ⟨W.heap.size, 0, none⟩ 1 1 (bC [UInt8.ofNat c]) rfl (by
      intro j u hj
      rw [e] at hj
      have : ((⟨W.heap.size, 0, none⟩ : Addr).add j) = ⟨W.heap.size, j, none⟩ := by unfold Addr.add; split <;> simp_all
      rw [this, World.cell?_alloc_at _ _ _ _ rfl]
      simpa using hj) (by intro x hx; rw [e] at hx; obtain rfl := List.mem_singleton.1 hx; rfl) (by unfold maxLen; omega) (by omega) (by simp; omega)
  refine ⟨v', w', h1, ?_, grown_of_alloc' h3⟩
  unfold BRow
  have e2 : bC (bs ++ [UInt8.ofNat c]) = bC bs ++ bC [UInt8.ofNat c] := by simp [bC]
  rw [e2, List.length_append]
  exact h2
theorem brow_string {B : Nat} {w : World} {v : Value} {l : List UInt8} (h : BRow B w v l) : (convert 117 9 v).run Tryd.prog w = .ok (.string ⟨l.toArray⟩) w := by
  have h' : w.ownsRow B 5 1 v l.length (bC l) := h
  obtain ⟨_, ⟨rfl, h0⟩ | ⟨g, cap, cur, rfl, _⟩⟩ := h
  · have : l = [] := List.eq_nil_of_length_eq_zero h0
    subst this
    have := run_convert_bytes_nil (P := Tryd.prog) w 117 5 Tryd.underlying117 Tryd.underlying5 0 0 9 Tryd.underlying9
    exact this
  · refine run_convert_bytes_back w 117 9 5 ⟨g, 0, none⟩ cap l Tryd.underlying117 Tryd.underlying5 Tryd.underlying9 (fun j hj => ?_)
    refine (h'.cells (g := g) rfl) j _ ?_
    unfold bC
    rw [List.getElem?_map, List.getElem?_eq_getElem hj]
    rfl

theorem okTo_of (bs : List UInt8) (h : ∀ b ∈ bs, okB b.toNat = true) : ∀ n, n ≤ bs.length → okTo ⟨bs.toArray⟩ n = true := by
  intro n
  induction n with
  | zero => intro _; rfl
  | succ n ih =>
    intro hn
    have hb : bt ⟨bs.toArray⟩ n = bs[n].toNat := by
      rw [bt_get _ _ (by show n < bs.toArray.size; simp; omega)]
      rfl
    simp only [okTo, ih (by omega), hb, h _ (List.getElem_mem _), Bool.and_self]
theorem may_fit (bs : List UInt8) (h : ∀ b ∈ bs, okB b.toNat = true) (h1 : 1 ≤ bs.length) (h2 : bs.length ≤ 120) (k : Int) (k0 : 0 ≤ k) (k1 : k ≤ 1048576) : mayB ⟨⟨bs.toArray⟩, k⟩ = true := by
  have hs : (⟨bs.toArray⟩ : ByteArray).size = bs.length := by show bs.toArray.size = _; simp
  unfold mayB edgeB
  simp only [hs, okTo_of bs h bs.length (Nat.le_refl _), Bool.and_true, Bool.not_eq_true', Bool.or_eq_false_iff, decide_eq_false_iff_not]
  omega
set_option maxRecDepth 100000 in
set_option maxHeartbeats 8000000 in
theorem fit_in (l : List Pl) (hl : l.length ≤ 5864062014700) (hs : Slim l) (v : Value) (w : World) (h : PlSl w.heap.size w v l) :
    Calls Tryd.prog 30 #[v] w fun e w' => ∃ u r, e = .returned u ∧ checkN r = 0 ∧ PRow 39 w.heap.size w' u r ∧ Below w.heap.size w w' := by
  obtain ⟨a, c, rfl, hc1, hc2, hcells⟩ := h
  go_enter Tryd.func30, Tryd.ntmps30
  go_wp2
  go_loopg [3, 4] (l.length + 1) (fun g x i wr => ∃ (k : Nat) (r : List Pl), k + g = l.length + 1 ∧ k ≤ l.length ∧ k ≤ 64 ∧ i = .int .i64 k ∧ r.length = k ∧ Hid (r.all mayB = true) ∧ PRow 39 w.heap.size wr x r ∧ Below w.heap.size w wr)
  case atStart => exact ⟨0, [], by omega, Nat.zero_le _, by omega, rfl, rfl, rfl, PRow.nil _ _ _, Below.refl _ _⟩
  case round =>
    obtain ⟨k, r, hkg, hk, hk64, rfl, hrk, hall, hrow, hbw⟩ := hrel
    have hszr := hbw.size
    by_cases hgo : k < l.length ∧ k < 64
    · obtain ⟨hlt, hlt64⟩ := hgo
      obtain ⟨bk, o, rfl, hbk, hat⟩ := hcells (by intro e; subst e; simp at hlt)
      obtain ⟨x, hx⟩ : ∃ x, l[k]? = some x := ⟨_, List.getElem?_eq_getElem hlt⟩
      have hxs := hs.at hx
      have HX : Hid (∀ W, Below w.heap.size w W → W.cell? ⟨bk, o + k * 2, none⟩ = some (.string x.n) ∧ W.cell? ⟨bk, o + k * 2 + 1, none⟩ = some (.int .i64 x.k)) := fun W hb => hat.below hb hbk k _ hx
      clear hat hcells hx
      obtain ⟨n, z⟩ := x
      simp only at hxs HX
      have hN : decide ((k : Int) < (l.length : Int)) = true := by simp; omega
      have hN64 : decide ((k : Int) < 64) = true := by simp; omega
      go_wp2
      go_loopg [5, 6] (n.size + 1) (fun g y i wq => ∃ (j : Nat) (bs : List UInt8), j + g = n.size + 1 ∧ j ≤ n.size ∧ i = .int .i64 j ∧ bs.length ≤ 120 ∧ Hid (∀ b ∈ bs, okB b.toNat = true) ∧ BRow w.heap.size wq y bs ∧ PRow 39 w.heap.size wq u3 r ∧ Below w.heap.size w wq)
      case atStart => exact ⟨0, [], by omega, Nat.zero_le _, rfl, by simp, (fun b hb => by cases hb), World.ownsRow_nil _ _ _ _, hrow, hbw⟩
      case round =>
        obtain ⟨j, bs, hjg, hj, rfl, hbl, hok, hbr, hrow, hbq⟩ := hrel
        have hszq := hbq.size
        have d1 := (HX.out _ hbq).1
        have d2 := (HX.out _ hbq).2
        obtain ⟨ya, yc, rfl⟩ : ∃ ya yc, u5 = .slice ya bs.length yc := by
          rcases hbr with ⟨_, ⟨rfl, h0⟩ | ⟨g, cap, cur, rfl, _⟩⟩
          · exact ⟨none, 0, by rw [h0]⟩
          · exact ⟨_, _, rfl⟩
        by_cases hin : j < n.size ∧ bs.length < 120
        · have hN1 : decide ((j : Int) < (n.size : Int)) = true := by simp; omega
          have hN2 : decide ((bs.length : Int) < 120) = true := by simp; omega
          have ix := fun W : World => idx_bt n j hin.1 W
          have hc := bt_lt n j
          obtain ⟨ch, hcc⟩ : ∃ ch, ch = bt n j := ⟨_, rfl⟩
          rw [← hcc] at ix hc
          clear hcc
          by_cases b1 : 33 ≤ ch
          · have e1 : decide ((33 : Int) ≤ (ch : Int)) = true := by simp; omega
            by_cases b2 : ch ≤ 126
            · have e2 : decide ((ch : Int) ≤ 126) = true := by simp; omega
              by_cases b3 : ch = 58
              · have e3 : ((ch : Int) != 58) = false := by simp; omega
                subst b3
                go_wp2
                go_roundg (n.size - j)
                case measure => omega
                case rel => exact ⟨j + 1, bs, by omega, hin.1, by go_num, hbl, hok, hbr, hrow, hbq⟩
              · have e3 : ((ch : Int) != 58) = true := by simp; omega
                obtain ⟨v', w', hrun, hbr2, hgr⟩ := push_byte w.heap.size wr _ bs hbr ch hc (by omega) hszq
                have hrow2 := PRow.kept' hrow hgr (apart_ty (by decide) hrow hbr)
                have hbq2 := hbq.trans ((Below.refl _ wr).grown hgr hszq (fun q hq => (World.ownsRow.lt hbr q hq).1))
                have hokc : okB ch = true := by
                  unfold okB
                  simp only [Bool.not_eq_true', Bool.or_eq_false_iff, decide_eq_false_iff_not, beq_eq_false_iff_ne]
                  omega
                have hok2 : Hid (∀ b ∈ bs ++ [UInt8.ofNat ch], okB b.toNat = true) := fun b hb => by
                  rcases List.mem_append.1 hb with hb | hb
                  · exact hok.out b hb
                  · obtain rfl := List.mem_singleton.1 hb
                    rw [show (UInt8.ofNat ch).toNat = ch by simp [Nat.mod_eq_of_lt hc]]
                    exact hokc
                clear hrow hbr hokc
                go_wp2_with (at_builtin; refine wpList_append_run rfl _ _ 117 rfl _ _ _ _ rfl rfl hrun ?_)
                go_roundg (n.size - j)
                case measure => omega
                case rel => exact ⟨j + 1, bs ++ [UInt8.ofNat ch], by omega, hin.1, by go_num, by rw [List.length_append, List.length_singleton]; omega, hok2, hbr2, hrow2, hbq2⟩
            · have e2 : decide ((ch : Int) ≤ 126) = false := by simp; omega
              go_wp2
              go_roundg (n.size - j)
              case measure => omega
              case rel => exact ⟨j + 1, bs, by omega, hin.1, by go_num, hbl, hok, hbr, hrow, hbq⟩
          · have e1 : decide ((33 : Int) ≤ (ch : Int)) = false := by simp; omega
            go_wp2
            go_roundg (n.size - j)
            case measure => omega
            case rel => exact ⟨j + 1, bs, by omega, hin.1, by go_num, hbl, hok, hbr, hrow, hbq⟩
        · have hm0 : -1048577 < z.tmod 1048577 ∧ z.tmod 1048577 < 1048577 := ⟨Int.lt_tmod_of_pos z (by decide), Int.tmod_lt_of_pos z (by decide)⟩
          obtain ⟨m0, hm0e⟩ : ∃ m0, z.tmod 1048577 = m0 := ⟨_, rfl⟩
          rw [hm0e] at hm0
          have hm1 : 0 ≤ (m0 + 1048577).tmod 1048577 ∧ (m0 + 1048577).tmod 1048577 < 1048577 := ⟨Int.tmod_nonneg _ (by omega), Int.tmod_lt_of_pos _ (by decide)⟩
          obtain ⟨m1, hm1e⟩ : ∃ m1, (m0 + 1048577).tmod 1048577 = m1 := ⟨_, rfl⟩
          rw [hm1e] at hm1
          have hwr : IntKind.i64.wrap (m0 + 1048577) = m0 + 1048577 := IntWalk.i64_in _ (by omega)
          by_cases hj1 : j < n.size
          · have hb120 : ¬ bs.length < 120 := fun h => hin ⟨hj1, h⟩
            have hN1 : decide ((j : Int) < (n.size : Int)) = true := decide_eq_true (by omega)
            have hN2 : decide ((bs.length : Int) < 120) = false := decide_eq_false (by omega)
            have hN3 : decide ((bs.length : Int) = 0) = false := decide_eq_false (by omega)
            have hN4 : ((bs.length : Int) == 0) = false := by rw [beq_eq_false_iff_ne]; omega
            go_wp2_with fail
            have hcv := brow_string (World.ownsRow.drew hbr)
            obtain ⟨v9, w9, hrun9, hrow9, hgr9⟩ := app_run (sl := 23) (by kernel_rfl) infoOwn w.heap.size wr _ r hrow ⟨⟨(bs).toArray⟩, m1⟩ (by omega) hbq.size
            have hb9 := hrow.grown hbq hgr9 hbq.size
            have hall9 : Hid ((r ++ [(⟨⟨(bs).toArray⟩, m1⟩ : Pl)]).all mayB = true) := by
              show _ = _
              rw [List.all_append, hall.out]
              simp only [List.all_cons, List.all_nil, Bool.and_true, Bool.true_and]
              exact may_fit _ hok.out (by omega) hbl m1 hm1.1 (by omega)
            have d3 := (HX.out _ hbq).2
            go_region_law (refine step_append_run rfl (.tmp 60) (.tmp 72) 23 rfl _ (.slice (some ⟨wr.heap.size, 0, none⟩) 1 1) v9 w9 (by simp [Act.eval]) (by simp [Act.eval]) hrun9 ?_)
            all_goals
              go_wp2
              go_roundg (l.length - k)
              case measure => omega
              case rel => exact ⟨k + 1, _, by omega, by omega, by omega, by go_num, by rw [List.length_append, List.length_singleton, hrk], hall9, hrow9, hb9⟩
          · have hN1 : decide ((j : Int) < (n.size : Int)) = false := decide_eq_false (by omega)
            by_cases hb0 : bs.length = 0
            · obtain rfl : bs = [] := List.eq_nil_of_length_eq_zero hb0
              obtain ⟨v7, w7, hrun7, hbr7, hgr7⟩ := push_byte w.heap.size wr _ [] hbr 102 (by decide) (by simp) hszq
              have hrow7 := PRow.kept' hrow hgr7 (apart_ty (by decide) hrow hbr)
              have hbq7 := hbq.trans ((Below.refl _ wr).grown hgr7 hszq (fun q hq => (World.ownsRow.lt hbr q hq).1))
              rw [List.nil_append] at hbr7
              have hok7 : Hid (∀ b ∈ [UInt8.ofNat 102], okB b.toNat = true) := fun b hb => by
                obtain rfl := List.mem_singleton.1 hb
                decide
              obtain ⟨yb, yd, rfl⟩ : ∃ yb yd, v7 = .slice yb 1 yd := by
                rcases hbr7 with ⟨_, ⟨rfl, h0⟩ | ⟨g, cap, cur, rfl, _⟩⟩
                · cases h0
                · exact ⟨_, _, rfl⟩
              clear hb0 hbr hok hin
              go_wp2_with (at_builtin; refine wpList_append_run rfl _ _ 117 rfl _ _ _ _ rfl rfl hrun7 ?_)
              have hcv := brow_string (World.ownsRow.drew hbr7)
              obtain ⟨v9, w9, hrun9, hrow9, hgr9⟩ := app_run (sl := 23) (by kernel_rfl) infoOwn w.heap.size w7 _ r hrow7 ⟨⟨([UInt8.ofNat 102]).toArray⟩, m1⟩ (by omega) hbq7.size
              have hb9 := hrow7.grown hbq7 hgr9 hbq7.size
              have hall9 : Hid ((r ++ [(⟨⟨([UInt8.ofNat 102]).toArray⟩, m1⟩ : Pl)]).all mayB = true) := by
                show _ = _
                rw [List.all_append, hall.out]
                simp only [List.all_cons, List.all_nil, Bool.and_true, Bool.true_and]
                exact may_fit _ hok7.out (by simp) (by simp) m1 hm1.1 (by omega)
              have d3 := (HX.out _ hbq7).2
              go_region_law (refine step_append_run rfl (.tmp 60) (.tmp 72) 23 rfl _ (.slice (some ⟨w7.heap.size, 0, none⟩) 1 1) v9 w9 (by simp [Act.eval]) (by simp [Act.eval]) hrun9 ?_)
              all_goals
                go_wp2
                go_roundg (l.length - k)
                case measure => omega
                case rel => exact ⟨k + 1, _, by omega, by omega, by omega, by go_num, by rw [List.length_append, List.length_singleton, hrk], hall9, hrow9, hb9⟩
            · have hN3 : decide ((bs.length : Int) = 0) = false := decide_eq_false (by omega)
              have hN4 : ((bs.length : Int) == 0) = false := by rw [beq_eq_false_iff_ne]; omega
              go_wp2_with fail
              have hcv := brow_string (World.ownsRow.drew hbr)
              obtain ⟨v9, w9, hrun9, hrow9, hgr9⟩ := app_run (sl := 23) (by kernel_rfl) infoOwn w.heap.size wr _ r hrow ⟨⟨(bs).toArray⟩, m1⟩ (by omega) hbq.size
              have hb9 := hrow.grown hbq hgr9 hbq.size
              have hall9 : Hid ((r ++ [(⟨⟨(bs).toArray⟩, m1⟩ : Pl)]).all mayB = true) := by
                show _ = _
                rw [List.all_append, hall.out]
                simp only [List.all_cons, List.all_nil, Bool.and_true, Bool.true_and]
                exact may_fit _ hok.out (by omega) hbl m1 hm1.1 (by omega)
              have d3 := (HX.out _ hbq).2
              go_region_law (refine step_append_run rfl (.tmp 60) (.tmp 72) 23 rfl _ (.slice (some ⟨wr.heap.size, 0, none⟩) 1 1) v9 w9 (by simp [Act.eval]) (by simp [Act.eval]) hrun9 ?_)
              all_goals
                go_wp2
                go_roundg (l.length - k)
                case measure => omega
                case rel => exact ⟨k + 1, _, by omega, by omega, by omega, by go_num, by rw [List.length_append, List.length_singleton, hrk], hall9, hrow9, hb9⟩
    · have hck : checkN r = 0 := by unfold checkN; rw [if_pos hall.out, if_neg (by omega)]
      by_cases hlt : k < l.length
      · have hN : decide ((k : Int) < (l.length : Int)) = true := by simp; omega
        have hN64 : decide ((k : Int) < 64) = false := by simp; omega
        go_wp2
        go_ret
        exact ⟨_, r, rfl, hck, hrow, hbw⟩
      · have hN : decide ((k : Int) < (l.length : Int)) = false := by simp; omega
        go_wp2
        go_ret
        exact ⟨_, r, rfl, hck, hrow, hbw⟩
end Go.Proofs.YtbldeiejlebbiaaDoor.T
