/-
  erratalaw03.PlaceFolds.
-/
import Derived.Test.YtjdjdcdpflnplaaDoorPlaceRefFold
import Derived.Test.YtjdjdcdpflnplaaDoorPlaceRunsEq
import Derived.Test.YtjdjdcdpflnplaaDoorPlaceGrow
import Derived.Test.YtjdjdcdpflnplaaDoorPlaceManyP
set_option linter.unusedVariables false
namespace Go.Proofs.YtjdjdcdpflnplaaDoor.T
open Go Go.Lib Go.RowKit Go.Shelf

theorem foldA_small (l : List Pl) : (foldA l).length ≤ 64 ∧ ∀ r ∈ foldA l, r.ps.length ≤ 64 := by
  unfold foldA
  by_cases hc : checkN l = 0
  · rw [if_pos hc]
    obtain ⟨b, hg⟩ := foldL_good l
    have h4 := hg.qs_le (l := l)
    rw [unf_foldL] at h4
    have h64 := (check_all hc).2
    refine ⟨by omega, fun r hr => ?_⟩
    have hm : ∀ rs : List Rn, r ∈ rs → r.ps.length ≤ many rs := by
      intro rs
      induction rs with
      | nil => intro h; cases h
      | cons x rs ih =>
        intro h
        rcases List.mem_cons.1 h with e | h
        · rw [e]; simp only [many]; omega
        · have := ih h; simp only [many]; omega
    have := hm _ hr
    have := (many_fold l).1
    omega
  · rw [if_neg hc]
    exact ⟨by simp, fun r h => by cases h⟩
theorem twin_of {qs qs' : List (Value × Rn)} {rs : List Rn} (h : qs.map (·.2) = rs) (h' : qs'.map (·.2) = rs) : Twin (qs.map toZ) (qs'.map toZ) := by
  unfold Twin
  have e : ∀ l : List (Value × Rn), (l.map toZ).map (fun z => (z.ps, z.t)) = (l.map (·.2)).map (fun r => (r.ps, (r.t : Int))) := fun l => by
    rw [List.map_map, List.map_map]; rfl
  rw [e, e, h, h']
theorem RunsAt.isSl {e ts : TypeId} {B : Nat} {w : World} {v : Value} {qs : List (Value × Rn)} (h : RunsAt e ts B w v qs) : ∃ a c, v = .slice a qs.length c := by
  obtain ⟨a, c, hv, _⟩ := h.sl
  rw [List.length_map] at hv
  exact ⟨a, c, hv⟩
theorem row_cell {ts : TypeId} {B : Nat} {w : World} {g n cap : Nat} {qs : List (Value × Rn)} (h : w.ownsRow B ts 2 (.slice (some ⟨g, 0, none⟩) n cap) qs.length (qcs qs)) {i : Nat} {q : Value × Rn} (hq : qs[i]? = some q) : w.cell? ⟨g, i * 2, none⟩ = some q.1 := by
  have hn : n = qs.length := by
    rcases h.2 with ⟨h0, _⟩ | ⟨_, _, _, hv, _⟩
    · cases h0
    · simp only [Value.slice.injEq] at hv; exact hv.2.1
  subst hn
  have hjl : i < qs.length := (List.getElem?_eq_some_iff.1 hq).1
  rw [h.cellAt (i * 2) (by omega), Nat.mul_comm]
  exact (qcs_at qs i q hq).1
theorem Lent.within {lo hi B : Nat} {a b : World} {v : Value} {l : List Pl} (h : Lent B a v l) (k : Within lo hi a b) (hlt : ∀ g, v.ownBlock = some g → g < lo) : Lent B b v l := by
  obtain ⟨g, cap, rfl, hr⟩ := h
  exact ⟨g, cap, rfl, k.row hr (fun j hj => .inl (hlt j hj))⟩
def upP : Pl := ⟨⟨#[94]⟩, 0⟩
set_option maxRecDepth 1000000 in
set_option maxHeartbeats 16000000 in
theorem placeFolds_in (l : List Pl) (hl : l.length ≤ 5864062014690) (hs : Slim l) (u0 : Value) (w : World) (h0 : PlSl w.heap.size w u0 l) (hE : Env w) :
    Calls Tryd.prog 3 #[u0] w fun e w' => e = .returned (.bool true) ∧ Below w.heap.size w w' := by
  have h6 := hE.sz
  have cL := Lib.hid (lent_in l (by omega) u0 w h0)
  have cR := Lib.hid (fun W (hb : Below w.heap.size w W) => ref_in l (by omega) u0 W (h0.below hb hb.size))
  have cF := Lib.hid (fun W v (hv : PlSl W.heap.size W v l) => Fold_in l (by omega) hs v W hv)
  have cG := Lib.hid (fun W v (hv : PlSl W.heap.size W v l) => refFold_in l (by omega) hs v W hv)
  have cK := Lib.hid (fun W v B (hv : Lent B W v l) (hb : Below w.heap.size w W) => kept_in l (by omega) B v u0 W hv (h0.below hb hb.size))
  have HE := Lib.hid (fun W (hb : Below w.heap.size w W) => hE.below hb h6)
  have hsm := foldA_small l
  obtain ⟨hsm1, hsm2⟩ := hsm
  have HSM := Lib.hid hsm2
  clear hsm2 hE
  generalize checkN l = C at *
  generalize foldA l = rs at *
  go_enter Tryd.func3, Tryd.ntmps3
  go_wp2_with fail
  refine (cL.out).mono ?_
  rintro e w1 ⟨av, rfl, hA1, hb1⟩
  have HA1 := Lib.hid hA1
  have HW1 := Lib.hid hb1
  obtain ⟨ga, caa, rfl, hga1, hga2⟩ := hA1.blk
  clear hA1 hb1 cL
  go_wp2_with fail
  refine (cF.out w1 _ HA1.out.sl).mono ?_
  rintro e w2 ⟨xv, qs, rfl, hqs, hR2, hb2⟩
  have HQS := Lib.hid hqs
  have HX2 := Lib.hid hR2
  have HA2 := Lib.hid (HA1.out.below hb2)
  have HW2 := Lib.hid (HW1.out.trans (hb2.mono HW1.out.size))
  have HB : Hid (∀ q ∈ qs, ∀ k, q.1.ownBlock = some k → w1.heap.size ≤ k ∧ k < w2.heap.size) := fun q hq k hk => World.ownsRow.lt (hR2.each q hq) k hk
  obtain ⟨xa, xc, hxv⟩ := hR2.isSl
  have hs12 := hb2.size
  clear hqs hR2 hb2
  subst hxv
  go_wp2_with fail
  refine (cR.out w2 HW2.out).mono ?_
  rintro e w3 ⟨rv, rfl, hr3, hb3⟩
  have HX3 := Lib.hid (HX2.out.below hb3)
  have HA3 := Lib.hid (HA2.out.below hb3)
  have HW3 := Lib.hid (HW2.out.trans (hb3.mono HW2.out.size))
  have HR3 := Lib.hid hr3
  have hs23 := hb3.size
  clear hr3 hb3 HX2 HA2 HW2
  go_wp2_with fail
  refine (cG.out w3 rv HR3.out.sl).mono ?_
  rintro e w4 ⟨yv, qs', rfl, hqs', hY4, hb4⟩
  have HQS' := Lib.hid hqs'
  have HY4 := Lib.hid hY4
  have HX4 := Lib.hid (HX3.out.below hb4)
  have HA4 := Lib.hid (HA3.out.below hb4)
  have HW4 := Lib.hid (HW3.out.trans (hb4.mono HW3.out.size))
  have hs34 := hb4.size
  clear hqs' hY4 hb4 HX3 HA3 HW3 HR3
  go_wp2_with fail
  refine (cF.out w4 _ HA4.out.sl).mono ?_
  rintro e w5 ⟨zv, qz, rfl, hqz, hZ5, hb5⟩
  have HQZ := Lib.hid hqz
  have HZ5 := Lib.hid hZ5
  have HY5 := Lib.hid (HY4.out.below hb5)
  have HX5 := Lib.hid (HX4.out.below hb5)
  have HA5 := Lib.hid (HA4.out.below hb5)
  have HW5 := Lib.hid (HW4.out.trans (hb5.mono HW4.out.size))
  have hs45 := hb5.size
  clear hqz hZ5 hb5 HY4 HX4 HA4 HW4
  have hnq : qs.length ≤ 64 := by have := congrArg List.length HQS.out; rw [List.length_map] at this; omega
  have hnz : qz.length ≤ 64 := by have := congrArg List.length HQZ.out; rw [List.length_map] at this; omega
  have HT := Lib.hid (twin_of HQS.out HQS'.out)
  have HTZ := Lib.hid (twin_of HQZ.out HQS'.out)
  have cRX := Lib.hid (fun W (hx : RzSl W.heap.size W (.slice xa qs.length xc) (qs.map toZ)) (hy : RzSl W.heap.size W yv (qs'.map toZ)) => runs_in _ _ (by rw [List.length_map]; omega) HT.out W.heap.size _ _ W hx hy)
  have cRZ := Lib.hid (fun W (hx : RzSl W.heap.size W zv (qz.map toZ)) (hy : RzSl W.heap.size W yv (qs'.map toZ)) => runs_in _ _ (by rw [List.length_map]; omega) HTZ.out W.heap.size _ _ W hx hy)
  have HPS : Hid (∀ q ∈ qs, q.2.ps.length ≤ 64) := fun q hq => HSM.out q.2 (by rw [← HQS.out]; exact List.mem_map.2 ⟨q, hq, rfl⟩)
  go_wp2_with fail
  refine (cRX.out w5 HX5.out.sl HY5.out.sl).mono ?_
  rintro e w6 ⟨rfl, hd6⟩
  have hb6 := hd6.below w5.heap.size
  have HZ6 := Lib.hid (HZ5.out.below hb6)
  have HY6 := Lib.hid (HY5.out.below hb6)
  have HX6 := Lib.hid (HX5.out.below hb6)
  have HA6 := Lib.hid (HA5.out.below hb6)
  have HW6 := Lib.hid (HW5.out.trans (hb6.mono HW5.out.size))
  have hs56 := hb6.size
  clear hd6 hb6 HZ5 HY5 HX5 HA5 HW5
  go_wp2_with fail
  refine (cK.out w6 _ _ HA6.out HW6.out).mono ?_
  rintro e w7 ⟨rfl, hb7⟩
  have HZ7 := Lib.hid (HZ6.out.below hb7)
  have HY7 := Lib.hid (HY6.out.below hb7)
  have HX7 := Lib.hid (HX6.out.below hb7)
  have HA7 := Lib.hid (HA6.out.below hb7)
  have HW7 := Lib.hid (HW6.out.trans (hb7.mono HW6.out.size))
  have hs67 := hb7.size
  clear hb7 HZ6 HY6 HX6 HA6 HW6
  have hs01 := HW1.out.size
  go_wp2
  obtain ⟨lo, hlo⟩ : ∃ lo, lo = w1.heap.size := ⟨_, rfl⟩
  obtain ⟨hi, hhi⟩ : ∃ hi, hi = w2.heap.size := ⟨_, rfl⟩
  have hlo7 : lo ≤ w7.heap.size := by omega
  have hX7 := HX7.out
  have hY7 : RunsAt 96 47 hi w7 yv qs' := ⟨by have := HY7.out.row; exact ⟨this.1, this.2.imp id (fun ⟨g, cap, cur, a1, a2, a3⟩ => ⟨g, cap, cur, a1, by omega, a3⟩)⟩, fun q hq => (HY7.out.each q hq).base (by omega), HY7.out.inc⟩
  have hZ7 : RunsAt 39 37 hi w7 zv qz := ⟨by have := HZ7.out.row; exact ⟨this.1, this.2.imp id (fun ⟨g, cap, cur, a1, a2, a3⟩ => ⟨g, cap, cur, a1, by omega, a3⟩)⟩, fun q hq => (HZ7.out.each q hq).base (by omega), HZ7.out.inc⟩
  have HY := Lib.hid hY7
  have HZ := Lib.hid hZ7
  rw [← hlo] at HB hga2 hX7
  rw [← hhi] at HB
  have HX := Lib.hid hX7
  have hga3 : ga < lo := hga2
  clear hY7 hZ7 hX7 HX7 HY7 HZ7 hlo hhi hs01 hs12 hs23 hs34 hs45 hs56 hs67 HSM
  go_loopg [10] (qs.length + 1) (fun g i wr => ∃ (k : Nat), k + g = qs.length + 1 ∧ k ≤ qs.length ∧ i = .int .i64 k ∧ RunsAt 39 37 lo wr (.slice xa qs.length xc) qs ∧ Within lo hi w7 wr)
  case atStart => exact ⟨0, by omega, Nat.zero_le _, rfl, HX.out, Within.refl _ _ _⟩
  case round =>
    obtain ⟨k, hkg, hk, rfl, hR, hW⟩ := hrel
    have hszr := hW.size
    have HRr := Lib.hid hR
    have HWr := Lib.hid hW
    clear hW
    by_cases hlt : k < qs.length
    · obtain ⟨g0, cap0, hx0, hg0B, hg0s⟩ := hR.slice (by intro e; subst e; simp at hlt)
      simp only [Value.slice.injEq] at hx0
      obtain ⟨rfl, _, rfl⟩ := hx0
      obtain ⟨q, hq⟩ : ∃ q, qs[k]? = some q := ⟨_, List.getElem?_eq_getElem hlt⟩
      have hmem := List.mem_of_getElem? hq
      have cX := row_cell hR.row hq
      have hrow := hR.each q hmem
      have h64 := HPS.out q hmem
      have hub : Hid (∀ j, q.1.ownBlock = some j → j < wr.heap.size) := fun j hj => (World.ownsRow.lt hrow j hj).2
      have HQ := Lib.hid hq
      have HBq := Lib.hid (HB.out q hmem)
      obtain ⟨qv, ⟨qp, qt⟩⟩ := q
      simp only at cX hrow h64 hub HBq
      have hst := Gro.start hrow
      obtain ⟨qa, qc, rfl⟩ := hrow.isSl
      clear hR hq hmem hrow
      have hN : decide ((k : Int) < (qs.length : Int)) = true := by simp; omega
      obtain ⟨wo, rfl⟩ : ∃ wo : World, wo = wr := ⟨_, rfl⟩
      obtain ⟨np, hnp⟩ : ∃ n, n = qp.length := ⟨_, rfl⟩
      rw [← hnp] at hst cX hub HBq h64 HQ
      have HNP := Lib.hid hnp
      clear hnp
      go_wp2
      go_loopg [11, 12] 41 (fun g y z wq => ∃ (j : Nat), j + g = 41 ∧ j ≤ 40 ∧ z = .int .i64 j ∧ Gro lo wo (.slice qa np qc) qp j y wq ∧ wo.heap.size ≤ wq.heap.size)
      case atStart => exact ⟨0, by omega, Nat.zero_le _, rfl, hst, Nat.le_refl _⟩
      case round =>
        obtain ⟨j, hjg, hj, rfl, hG, hsz⟩ := hrel
        by_cases hj4 : j < 40
        · have hN2 : decide ((j : Int) < 40) = true := by simp; omega
          obtain ⟨g', w', hrun, hG', hsz'⟩ := hG.step (by omega) hub.out upP (by have := HNP.out; omega)
          simp only [upP] at hrun
          have HG' := Lib.hid hG'
          clear hG hG'
          go_wp2_with (at_builtin; refine wpList_append_run rfl _ _ 23 rfl _ _ _ _ rfl rfl hrun ?_)
          go_roundg (40 - j)
          case measure => omega
          case rel => exact ⟨j + 1, by omega, hj4, by go_num, HG'.out, by omega⟩
        · obtain rfl : j = 40 := by omega
          have hN2 : decide (((40 : Nat) : Int) < 40) = false := by simp
          obtain ⟨ms, hms, hrow⟩ := hG.row
          obtain ⟨ya, yc, hy⟩ := hrow.isSl
          rw [List.length_append, hms, ← HNP.out] at hy
          have hR2 := RunsAt.regrow (ts := 37) (by decide) HRr.out HQ.out hG.oth hG.base
          have hW2 := HWr.out.trans (Within.of_grown hG.oth HBq.out)
          have HR2 := Lib.hid hR2
          have HW2 := Lib.hid hW2
          have hc := cRX.out wr hR2.sl (hW2.runs HY.out (Nat.le_refl _)).sl
          have CC := Lib.hid hc
          clear hG hrow hR2 hW2 hc hms
          subst hy
          have hd : decide (((np + 40 : Nat) : Int) < 40) = false := by simp; omega
          go_wp2_with fail
          refine CC.out.mono ?_
          rintro e w8 ⟨rfl, hd8⟩
          have hb8 := hd8.below wr.heap.size
          go_wp2
          go_roundg (qs.length - k)
          case measure => omega
          case rel => exact ⟨k + 1, by omega, hlt, by go_num, HR2.out.below hb8, HW2.out.trans (Within.of_below hb8)⟩
    · have hN : decide ((k : Int) < (qs.length : Int)) = false := by simp; omega
      obtain ⟨wo, rfl⟩ : ∃ wo : World, wo = wr := ⟨_, rfl⟩
      have hw0 := HWr.out
      have hrow0 := HRr.out.row
      have heach0 : ∀ (m : Nat) (q : Value × Rn), qs[m]? = some q → PRow 39 lo wo q.1 q.2.ps := fun m q hm => HRr.out.each q (List.mem_of_getElem? hm)
      have HINC := Lib.hid HRr.out.inc
      have HE0 := Lib.hid heach0
      have HR0 := Lib.hid hrow0
      have HW0 := Lib.hid hw0
      clear hw0 hrow0 heach0 hR
      go_wp2
      go_loopg [13] (qs.length + 1) (fun g i wr => ∃ (k : Nat), k + g = qs.length + 1 ∧ k ≤ qs.length ∧ i = .int .i64 k ∧ wr.ownsRow lo 37 2 (.slice xa qs.length xc) qs.length (qcs qs) ∧ Hid (∀ (m : Nat) (q : Value × Rn), k ≤ m → qs[m]? = some q → PRow 39 lo wr q.1 q.2.ps) ∧ Within lo hi w7 wr)
      case atStart => exact ⟨0, by omega, Nat.zero_le _, rfl, HR0.out, (fun m q _ hm => HE0.out m q hm), HW0.out⟩
      case round =>
        obtain ⟨k, hkg, hk, rfl, hrow, hEa, hW⟩ := hrel
        have hszr := hW.size
        have HRw := Lib.hid hrow
        have HWr := Lib.hid hW
        clear hW
        by_cases hlt : k < qs.length
        · obtain ⟨g0, cap0, hx0, _⟩ : ∃ g cap, Value.slice xa qs.length xc = .slice (some ⟨g, 0, none⟩) qs.length cap ∧ True := by
            rcases hrow.2 with ⟨h0, h1⟩ | ⟨g, cap, cur, hv, _⟩
            · omega
            · exact ⟨g, cap, hv, trivial⟩
          simp only [Value.slice.injEq] at hx0
          obtain ⟨rfl, _, rfl⟩ := hx0
          obtain ⟨q, hq⟩ : ∃ q, qs[k]? = some q := ⟨_, List.getElem?_eq_getElem hlt⟩
          have hmem := List.mem_of_getElem? hq
          have cX := row_cell hrow hq
          have hrq := hEa.out k q (Nat.le_refl _) hq
          have h64 := HPS.out q hmem
          have HBq := Lib.hid (HB.out q hmem)
          have hne : Hid (∀ (m : Nat) (p : Value × Rn), k + 1 ≤ m → qs[m]? = some p → p.1.ownBlock = none ∨ p.1.ownBlock ≠ q.1.ownBlock) := fun m p hm hp =>
            Inc.ne HINC.out (i := m) (j := k) (by omega) (by rw [List.getElem?_map, hp]; rfl) (by rw [List.getElem?_map, hq]; rfl)
          have cS := spoil_in lo q.2.ps.length (by omega) q.1 wr ⟨_, hrq⟩ (by omega)
          have HRQ := Lib.hid hrq
          obtain ⟨qv, ⟨qp, qt⟩⟩ := q
          simp only at cX h64 HBq hne cS HRQ
          obtain ⟨qa, qc, hqv⟩ := HRQ.out.isSl
          subst hqv
          have CS := Lib.hid cS
          clear hrow hq hmem hrq cS
          have hN : decide ((k : Int) < (qs.length : Int)) = true := by simp; omega
          go_wp2_with fail
          refine CS.out.mono ?_
          rintro e w8 ⟨rfl, hg8⟩
          have hrow8 := HRw.out.kept hg8 (apart_ty (by decide) HRw.out HRQ.out)
          have hE8 : Hid (∀ (m : Nat) (p : Value × Rn), k + 1 ≤ m → qs[m]? = some p → PRow 39 lo w8 p.1 p.2.ps) := fun m p hm hp => PRow.kept' (hEa.out m p (by omega) hp) hg8 (hne.out m p hm hp)
          have hW8 := HWr.out.trans (Within.of_grown hg8 HBq.out)
          clear hg8
          go_wp2
          go_roundg (qs.length - k)
          case measure => omega
          case rel => exact ⟨k + 1, by omega, hlt, by go_num, hrow8, hE8, hW8⟩
        · have hN : decide ((k : Int) < (qs.length : Int)) = false := by simp; omega
          have hWf := HWr.out
          have hbw := HW7.out.trans ((hWf.below hlo7).mono (by have := HW1.out.size; omega))
          have cZ := cRZ.out wr (hWf.runs HZ.out (Nat.le_refl _)).sl (hWf.runs HY.out (Nat.le_refl _)).sl
          have hAf := HA7.out.within hWf (fun g hg => by cases hg; exact hga3)
          have CZ := Lib.hid cZ
          have HAf := Lib.hid hAf
          have HBW := Lib.hid hbw
          clear hWf cZ hAf hbw hrow
          go_wp2_with fail
          refine CZ.out.mono ?_
          rintro e w9 ⟨rfl, hd9⟩
          have hb9 := hd9.below wr.heap.size
          have hbw9 := HBW.out.trans (hb9.mono HBW.out.size)
          have cK9 := cK.out w9 _ _ (HAf.out.below hb9) hbw9
          have CK9 := Lib.hid cK9
          have HBW9 := Lib.hid hbw9
          clear cK9 hbw9 hb9 hd9
          go_wp2_with fail
          refine CK9.out.mono ?_
          rintro e w10 ⟨rfl, hb10⟩
          have HBW10 := Lib.hid (HBW9.out.trans (hb10.mono HBW9.out.size))
          clear hb10
          go_wp2_with fail
          refine (alive_in w10 (HE.out w10 HBW10.out)).mono ?_
          rintro e w11 ⟨rfl, hb11⟩
          have hfin := HBW10.out.trans (hb11.mono HBW10.out.size)
          go_wp2
          go_ret
          exact ⟨rfl, hfin⟩
end Go.Proofs.YtjdjdcdpflnplaaDoor.T
