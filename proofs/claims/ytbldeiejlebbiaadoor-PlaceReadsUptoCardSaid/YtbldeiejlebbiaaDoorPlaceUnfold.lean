/-
  place.Unfold, of runs that are right and not too many.
-/
import Derived.Test.YtbldeiejlebbiaaDoorPlaceManyP
set_option linter.unusedVariables false
namespace Go.Proofs.YtbldeiejlebbiaaDoor.T
open Go Go.Lib Go.RowKit

/-- a run in a box -/
def RBox (w : World) (b : Nat) (v : Value) (t : Int) : Prop := w.heap[b]? = some (.cells #[v, .int .i64 t] 37 (0, 0))
theorem RBox.new (w : World) (v : Value) (t : Int) : RBox (w.alloc (.cells #[v, .int .i64 t] 37)) w.heap.size v t := by
  unfold RBox World.alloc
  simp
theorem RBox.c0 {w : World} {b : Nat} {v : Value} {t : Int} (h : RBox w b v t) : w.cell? ⟨b, 0, none⟩ = some v := by unfold RBox at h; unfold World.cell?; simp [h]
theorem RBox.c1 {w : World} {b : Nat} {v : Value} {t : Int} (h : RBox w b v t) : w.cell? ⟨b, 1, none⟩ = some (.int .i64 t) := by unfold RBox at h; unfold World.cell?; simp [h]
theorem RBox.below {w w' : World} {b : Nat} {v : Value} {t : Int} (h : RBox w b v t) (hb : Below w.heap.size w w') : RBox w' b v t := by
  have hlt := (Array.getElem?_eq_some_iff.1 h).1
  unfold RBox
  rw [hb.block b hlt]
  exact h
theorem RBox.grown {w w' : World} {b : Nat} {v : Value} {t : Int} (h : RBox w b v t) {B n : Nat} {u : Value} {xs : List Value} (hr : w.ownsRow B 39 2 u n xs) (hg : w.grownBy w' u.ownBlock) : RBox w' b v t := by
  have hlt := (Array.getElem?_eq_some_iff.1 h).1
  unfold RBox
  rw [hg.block b hlt ?_]
  · exact h
  · intro e
    obtain ⟨_, ⟨rfl, _⟩ | ⟨g, cap, cur, rfl, _, hgg, _⟩⟩ := hr
    · simp [Value.ownBlock] at e
    · simp only [Value.ownBlock, Option.some.injEq] at e
      subst e
      unfold RBox at h
      rw [h] at hgg
      simp at hgg
set_option maxRecDepth 100000 in
set_option maxHeartbeats 8000000 in
theorem Unfold_in (zs : List Rz) (hn : zs.length ≤ 8796093022100) (hz : ∀ z ∈ zs, 1 ≤ z.t ∧ z.ps ≠ [] ∧ checkN z.ps = 0) (hs : ∀ z ∈ zs, Slim z.ps) (hto : tooB zs 0 = false) (v : Value) (w : World) (hv : RzSl w.heap.size w v zs) :
    Calls Tryd.prog 17 #[v] w (IsTwo 39 (flatZ zs) 0 w) := by
  have cM := fun W (hb : Below w.heap.size w W) => tooMany_in zs hn (fun z h => (hz z h).1) _ v W (hv.below hb hb.size)
  rw [hto] at cM
  obtain ⟨hlen, hz64⟩ := tooB_len zs 0 (by omega) hto
  obtain ⟨a, c, rfl, h1, h2⟩ := hv
  have HZ := Lib.hid hz
  have HS := Lib.hid hs
  have H2 := Lib.hid h2
  have H64 := Lib.hid hz64
  have CM := Lib.hid cM
  clear hz hs h2 hz64 cM hto
  have kp : ∀ {W : World}, Below w.heap.size w W → ∀ (p : Addr) (u : Value), w.cell? p = some u → W.cell? p = some u := fun hb p u hp => (hb.cell (World.block_lt_of_cell? w p hp)).trans hp
  have KP := @kp
  have hKP : Hid (∀ {W : World}, Below w.heap.size w W → ∀ (p : Addr) (u : Value), w.cell? p = some u → W.cell? p = some u) := Lib.hid kp
  clear KP kp
  go_enter Tryd.func17, Tryd.ntmps17
  go_wp2
  go_loopg [12] (zs.length + 1) (fun g i wr => ∃ (k : Nat), k + g = zs.length + 1 ∧ k ≤ zs.length ∧ i = .int .i64 k ∧ Below w.heap.size w wr)
  case atStart => exact ⟨0, by omega, Nat.zero_le _, rfl, Below.refl _ _⟩
  case round =>
    obtain ⟨k, hkg, hk, rfl, hbw⟩ := hrel
    have hszr := hbw.size
    rcases Nat.lt_or_ge k zs.length with hlt | hge
    · obtain ⟨bk, o, rfl, _, hA⟩ := h1 (by intro e; subst e; simp at hlt)
      obtain ⟨z, hzk⟩ : ∃ z, zs[k]? = some z := ⟨_, List.getElem?_eq_getElem hlt⟩
      have c1 := hKP.out hbw _ _ (hA k z hzk).1
      have c2 := hKP.out hbw _ _ (hA k z hzk).2
      have hmem := List.mem_of_getElem? hzk
      have ht1 := (HZ.out z hmem).1
      have hp1 := List.length_pos_iff.2 (HZ.out z hmem).2.1
      obtain ⟨za, zc, hzv, _⟩ := H2.out z hmem
      obtain ⟨zv, zps, zt⟩ := z
      simp only at c1 c2 ht1 hzv hp1
      subst hzv
      clear hA hzk hmem
      generalize zps.length = m at *
      have hbb : ∀ (o : Obj), Below w.heap.size w (wr.alloc o) := fun o => hbw.alloc hszr o
      have hN : decide ((k : Int) < (zs.length : Int)) = true := by simp; omega
      have hd1 : decide (zt < 1) = false := by simp; omega
      have hd2 : decide ((m : Int) = 0) = false := by simp; omega
      have hd3 : ((m : Int) == 0) = false := by simp; omega
      go_wp2
      go_roundg (zs.length - k)
      case measure => omega
      case rel => exact ⟨k + 1, by omega, hlt, by go_num, hbb _⟩
    · have hN : decide ((k : Int) < (zs.length : Int)) = false := by simp; omega
      have cM := CM.out wr hbw
      go_wp2_with fail
      refine cM.mono ?_
      rintro e w2 ⟨rfl, hb2⟩
      have hbw2 := hbw.trans (hb2.mono hszr)
      clear hge hN cM
      go_wp2
      go_loopg [6, 30] (zs.length + 1) (fun g x i wr => ∃ (k : Nat), k + g = zs.length + 1 ∧ k ≤ zs.length ∧ i = .int .i64 k ∧ PRow 39 w.heap.size wr x (flatZ (zs.take k)) ∧ Below w.heap.size w wr)
      case atStart => exact ⟨0, by omega, Nat.zero_le _, rfl, PRow.nil _ _ _, hbw2⟩
      case round =>
        obtain ⟨k, hkg, hk, rfl, hrow, hbw⟩ := hrel
        have hszr := hbw.size
        rcases Nat.lt_or_ge k zs.length with hlt | hge
        · obtain ⟨bk, o, rfl, _, hA⟩ := h1 (by intro e; subst e; simp at hlt)
          obtain ⟨z, hzk⟩ : ∃ z, zs[k]? = some z := ⟨_, List.getElem?_eq_getElem hlt⟩
          have c1 := hKP.out hbw _ _ (hA k z hzk).1
          have c2 := hKP.out hbw _ _ (hA k z hzk).2
          have hmem := List.mem_of_getElem? hzk
          have ht1 := (HZ.out z hmem).1
          have hck := (HZ.out z hmem).2.2
          have hsl := HS.out z hmem
          have hpl := H2.out z hmem
          have h64 := H64.out z hmem
          have htk : flatZ (zs.take (k + 1)) = flatZ (zs.take k) ++ (List.replicate z.t.toNat z.ps).flatten := by
            rw [List.take_add_one, hzk, flatZ_append]
            simp [flatZ]
          have hfl : (flatZ (zs.take (k + 1))).length ≤ 64 := by
            have e : flatZ zs = flatZ (zs.take (k + 1)) ++ flatZ (zs.drop (k + 1)) := by rw [← flatZ_append, List.take_append_drop]
            rw [e, List.length_append] at hlen
            omega
          obtain ⟨zv, zps, zt⟩ := z
          simp only at c1 c2 ht1 hck hsl hpl h64 htk
          obtain ⟨t, rfl⟩ : ∃ t : Nat, zt = t := ⟨zt.toNat, by omega⟩
          rw [Int.toNat_natCast] at htk
          have cK := Check_in zps hsl w.heap.size zv
          rw [hck] at cK
          have HTK := Lib.hid htk
          have HFL := Lib.hid hfl
          have HPL := Lib.hid hpl
          obtain ⟨za, zc, rfl, _⟩ := hpl
          clear hA hzk hmem htk hfl hck
          have hbx := RBox.new wr (.slice za zps.length zc) (t : Int)
          have hb3 : Below w.heap.size w (wr.alloc (.cells #[.slice za zps.length zc, .int .i64 (t : Int)] 37)) := hbw.alloc hszr _
          have hrow3 : PRow 39 w.heap.size (wr.alloc (.cells #[.slice za zps.length zc, .int .i64 (t : Int)] 37)) u6 (flatZ (zs.take k)) := World.ownsRow.alloc hrow _
          have cK3 := cK _ (HPL.out.below hb3 (Nat.le_refl _))
          have hN : decide ((k : Int) < (zs.length : Int)) = true := by simp; omega
          go_wp2_with fail
          refine cK3.mono ?_
          rintro e w4 ⟨rfl, hb4⟩
          have hbx4 := hbx.below hb4
          have hrow4 := PRow.below hrow3 hb4
          have hbw4 := hb3.trans (hb4.mono hb3.size)
          have x1 := hbx4.c1
          clear hrow3 hbx cK cK3 c1 c2
          have HB4 := Lib.hid hbx4
          clear hbx4
          obtain ⟨b8, hb8⟩ : ∃ b8, b8 = wr.heap.size := ⟨_, rfl⟩
          rw [← hb8] at x1 HB4
          clear hb4 hb3
          have hN2 : decide ((k : Int) < (zs.length : Int)) = true := hN
          rw [← hb8]
          clear hb8 hszr hbw hrow
          go_wp2
          go_loopg [6, 42] (t + 1) (fun g x i wq => ∃ (j : Nat), j + g = t + 1 ∧ j ≤ t ∧ i = .int .i64 j ∧ PRow 39 w.heap.size wq x (flatZ (zs.take k) ++ (List.replicate j zps).flatten) ∧ Hid (RBox wq b8 (.slice za zps.length zc) (t : Int)) ∧ Below w.heap.size w wq)
          case atStart => exact ⟨0, by omega, Nat.zero_le _, rfl, by simpa using hrow4, HB4, hbw4⟩
          case round =>
            obtain ⟨j, hjg, hj, rfl, hrow, hbx, hbq⟩ := hrel
            have x0 := hbx.out.c0
            have x1 := hbx.out.c1
            rcases Nat.lt_or_ge j t with hjt | hjt
            · have hlen2 : (flatZ (zs.take k) ++ (List.replicate j zps).flatten).length + zps.length ≤ 128 := by
                have h1 := HFL.out
                rw [HTK.out, List.length_append, rep_len] at h1
                have h2 : zps.length * j ≤ zps.length * t := Nat.mul_le_mul_left _ hj
                rw [List.length_append, rep_len]
                omega
              have cC := copies_in zps (by omega) hsl _ _ (HPL.out.below hbq hbq.size)
              have hN3 : decide ((j : Int) < (t : Int)) = true := by simp; omega
              go_wp2_with fail
              refine cC.mono ?_
              rintro e w5 ⟨v5, rfl, hrow5, hb5⟩
              have hrow6 := PRow.below hrow hb5
              have hbx5 := hbx.out.below hb5
              have hbq5 := hbq.trans (hb5.mono hbq.size)
              obtain ⟨v6, w6, hrun, hrow7, hgr⟩ := app_all placeTy infoOwn w.heap.size w5.heap.size w5 u6 v5 _ zps hrow6 hrow5.sl (by omega) hbq5.size
              have hbx6 := Lib.hid (hbx5.grown hrow6 hgr)
              have hbq6 : Below w.heap.size w w6 := hbq5.trans ((Below.refl _ w5).grown hgr hbq5.size (fun q hq => (World.ownsRow.lt hrow6 q hq).1))
              rw [List.append_assoc] at hrow7
              have e : (List.replicate j zps).flatten ++ zps = (List.replicate (j + 1) zps).flatten := by rw [List.replicate_succ', List.flatten_append]; simp
              rw [e] at hrow7
              clear e hrow6 hbx5 hrow5 hrow
              go_wp2_with (at_builtin; refine wpList_append_run rfl _ _ 23 rfl _ _ _ _ rfl rfl hrun ?_)
              go_roundg (t - j)
              case measure => omega
              case rel => exact ⟨j + 1, by omega, hjt, by go_num, hrow7, hbx6, hbq6⟩
            · have hjt' : j = t := by omega
              rw [hjt', ← HTK.out] at hrow
              have hN3 : decide ((j : Int) < (t : Int)) = false := by simp; omega
              clear hjt'
              go_wp2
              go_roundg (zs.length - k)
              case measure => omega
              case rel => exact ⟨k + 1, by omega, hlt, by go_num, hrow, hbq⟩
        · have hkl : k = zs.length := by omega
          rw [hkl, List.take_length] at hrow
          have hN : decide ((k : Int) < (zs.length : Int)) = false := by simp; omega
          go_wp2
          go_ret2
          exact ⟨_, rfl, hrow, hbw⟩
end Go.Proofs.YtbldeiejlebbiaaDoor.T
