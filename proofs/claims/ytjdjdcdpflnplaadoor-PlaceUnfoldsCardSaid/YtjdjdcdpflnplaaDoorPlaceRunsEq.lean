/-
  erratalaw03.same and runs of things that are one: they only read.
-/
import Derived.Test.YtjdjdcdpflnplaaDoorPlaceMany
set_option linter.unusedVariables false
namespace Go.Proofs.YtjdjdcdpflnplaaDoor.T
open Go Go.Lib Go.RowKit

set_option maxRecDepth 100000 in
set_option maxHeartbeats 4000000 in
theorem sameQ_in (l : List Pl) (B : Nat) (a b : Value) (w : World) (ha : PlSl B w a l) (hb : PlSl B w b l) :
    Calls Tryd.prog 19 #[a, b] w fun e w' => e = .returned (.bool true) ∧ Dr w w' := by
  obtain ⟨pa, ca, rfl, ha1, ha2, ha3⟩ := ha
  obtain ⟨pb, cb, rfl, hb1, hb2, hb3⟩ := hb
  go_enter Tryd.func19, Tryd.ntmps19
  go_wp2
  go_loopw [5] (fun i wr => ∃ (k : Nat), k ≤ l.length ∧ i = .int .i64 k ∧ Dr w wr)
    (fun i _ => l.length - (RowKit.intOf i).toNat)
  case atStart => exact ⟨0, Nat.zero_le _, rfl, Dr.refl _⟩
  case round =>
    obtain ⟨k, hk, rfl, hbw⟩ := hrel
    by_cases hlt : k < l.length
    · obtain ⟨bk, o, rfl, _, hA⟩ := ha3 (by intro e; subst e; simp at hlt)
      obtain ⟨bk2, o2, rfl, _, hB⟩ := hb3 (by intro e; subst e; simp at hlt)
      have hx : l[k]? = some l[k] := List.getElem?_eq_getElem hlt
      have kp : ∀ (p : Addr) (u : Value), w.cell? p = some u → wr.cell? p = some u := fun p u hp => (hbw.cell p).trans hp
      have c1 := kp _ _ (hA k _ hx).1
      have c2 := kp _ _ (hA k _ hx).2
      have c3 := kp _ _ (hB k _ hx).1
      have c4 := kp _ _ (hB k _ hx).2
      clear hA hB ha3 hb3 kp
      generalize l[k] = x at *
      clear hx
      generalize l.length = n at *
      have hN : decide ((k : Int) < (n : Int)) = true := by simp; omega
      have t1 : (x.n.toList != x.n.toList) = false := by simp
      have t2 : (x.k != x.k) = false := by simp
      go_wp2
      go_quiet (fail)
      go_wp2
      go_roundw
      case rel => exact ⟨k + 1, hlt, by go_num, by first | exact hbw.drewN _ | exact hbw.drew | exact hbw⟩
      case measure => simp [RowKit.intOf]; omega
    · have : k = l.length := by omega
      subst this
      go_wp2
      go_ret
      exact ⟨rfl, hbw⟩

/-- runs that are one, wherever they lie -/
def Twin (zs zs' : List Rz) : Prop := zs.map (fun z => (z.ps, z.t)) = zs'.map (fun z => (z.ps, z.t))
theorem Twin.len {zs zs' : List Rz} (h : Twin zs zs') : zs.length = zs'.length := by
  have := congrArg List.length h
  simpa using this
theorem Twin.at {zs zs' : List Rz} (h : Twin zs zs') {k : Nat} {z : Rz} (hz : zs[k]? = some z) : ∃ z', zs'[k]? = some z' ∧ z'.ps = z.ps ∧ z'.t = z.t := by
  have h1 : (zs.map (fun z => (z.ps, z.t)))[k]? = some (z.ps, z.t) := by rw [List.getElem?_map, hz]; rfl
  rw [h, List.getElem?_map] at h1
  obtain ⟨z', hz', e⟩ := Option.map_eq_some_iff.1 h1
  simp only [Prod.mk.injEq] at e
  exact ⟨z', hz', e.1, e.2⟩
set_option maxRecDepth 100000 in
set_option maxHeartbeats 8000000 in
theorem runs_in (zs zs' : List Rz) (hn : zs.length ≤ 1000000) (ht : Twin zs zs') (B : Nat) (u v : Value) (w : World) (hu : RzSl B w u zs) (hv : RzSl B w v zs') :
    Calls Tryd.prog 13 #[u, v] w fun e w' => e = .returned (.bool true) ∧ Dr w w' := by
  obtain ⟨pa, ca, rfl, ha1, ha2⟩ := hu
  obtain ⟨pb, cb, rfl, hb1, hb2⟩ := hv
  have hl := ht.len
  rw [← hl]
  have HD : Hid (∀ k, k < zs.length → ∃ bk o bk2 o2, pa = some ⟨bk, o, none⟩ ∧ pb = some ⟨bk2, o2, none⟩ ∧ ∃ (a : Option Addr) (c : Nat) (a2 : Option Addr) (c2 m : Nat) (t : Int), w.cell? ⟨bk, o + k * 2, none⟩ = some (.slice a m c) ∧ w.cell? ⟨bk, o + k * 2 + 1, none⟩ = some (.int .i64 t) ∧ w.cell? ⟨bk2, o2 + k * 2, none⟩ = some (.slice a2 m c2) ∧ w.cell? ⟨bk2, o2 + k * 2 + 1, none⟩ = some (.int .i64 t) ∧ ∀ W, Dr w W → Calls Tryd.prog 19 #[.slice a m c, .slice a2 m c2] W fun e w' => e = .returned (.bool true) ∧ Dr W w') := fun k hk => by
    obtain ⟨bk, o, rfl, _, hA⟩ := ha1 (by intro e; subst e; simp at hk)
    obtain ⟨bk2, o2, rfl, _, hB⟩ := hb1 (by intro e; rw [e, List.length_nil] at hl; omega)
    obtain ⟨z, hz⟩ : ∃ z, zs[k]? = some z := ⟨_, List.getElem?_eq_getElem hk⟩
    obtain ⟨z', hz', e1, e2⟩ := ht.at hz
    have p1 := ha2 z (List.mem_of_getElem? hz)
    have p2 := hb2 z' (List.mem_of_getElem? hz')
    rw [e1] at p2
    have p1' := p1
    have p2' := p2
    obtain ⟨a, c, hv1, _⟩ := p1
    obtain ⟨a2, c2, hv2, _⟩ := p2
    obtain ⟨c0, c1⟩ := hA k z hz
    obtain ⟨d0, d1⟩ := hB k z' hz'
    rw [e2] at d1
    rw [hv1] at c0 p1'
    rw [hv2] at d0 p2'
    refine ⟨bk, o, bk2, o2, rfl, rfl, a, c, a2, c2, z.ps.length, z.t, c0, c1, d0, d1, fun W hW => sameQ_in z.ps B _ _ W ?_ ?_⟩
    · exact p1'.below (hW.below B) (Nat.le_refl _)
    · exact p2'.below (hW.below B) (Nat.le_refl _)
  clear ha1 ha2 hb1 hb2 ht
  clear hl
  generalize zs.length = n at *
  go_enter Tryd.func13, Tryd.ntmps13
  go_wp2
  go_loopg [5] (n + 1) (fun g i wr => ∃ (k : Nat), k + g = n + 1 ∧ k ≤ n ∧ i = .int .i64 k ∧ Dr w wr)
  case atStart => exact ⟨0, by omega, Nat.zero_le _, rfl, Dr.refl _⟩
  case round =>
    obtain ⟨k, hkg, hk, rfl, hbw⟩ := hrel
    by_cases hlt : k < n
    · obtain ⟨bk, o, bk2, o2, rfl, rfl, a, c, a2, c2, m, t, d0, d1, d2, d3, cS⟩ := HD.out k hlt
      have k0 := (hbw.cell _).trans d0
      have k1 := (hbw.cell _).trans d1
      have k2 := (hbw.cell _).trans d2
      have k3 := (hbw.cell _).trans d3
      clear d0 d1 d2 d3
      have CS := Lib.hid cS
      clear cS HD
      have hN : decide ((k : Int) < (n : Int)) = true := by simp; omega
      have t2 : (t != t) = false := by simp
      go_wp2
      go_quiet (first | (go_at_call 19; refine Calls.quiet_of (CS.out _ ?_); first | exact hbw.drewN _ | exact hbw.drew | exact hbw))
      go_wp2
      go_roundg (n - k)
      case measure => omega
      case rel => exact ⟨k + 1, by omega, hlt, by go_num, by first | exact hbw.drewN _ | exact hbw.drew | exact hbw⟩
    · have hN : decide ((k : Int) < (n : Int)) = false := by simp; omega
      go_wp2
      go_ret
      exact ⟨rfl, hbw⟩
end Go.Proofs.YtjdjdcdpflnplaaDoor.T
