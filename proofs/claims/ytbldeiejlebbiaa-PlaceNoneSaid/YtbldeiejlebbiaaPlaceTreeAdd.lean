/-
  Add on a tree, where nothing is wrong; what outlives a tree's growth.
-/
import Derived.Test.YtbldeiejlebbiaaPlaceTreeStep
import Derived.Test.YtbldeiejlebbiaaPlaceCheck
set_option linter.unusedVariables false
namespace Go.Proofs.Ytbldeiejlebbiaa.T
open Go Go.Lib Go.RowKit

theorem StMap.obj {w : World} {m : Nat} {ns : List (Nat × Pl)} (h : StMap w m ns) : ∃ es n, w.heap[m]? = some (.map es n) := by
  obtain ⟨D, h1, _⟩ := h
  obtain ⟨es, n, h2, _⟩ := h1
  exact ⟨es, n, h2⟩
/-- a row of places outlives a tree's growth -/
theorem PRow.keepT {B B' T m : Nat} {w w' : World} {u v : Value} {l : List Pl} {ns : List Nd} (h : PRow 24 B w u l) (ht : TreeAt B' w T v m ns) (k : KeepT T m w w') : PRow 24 B w' u l := by
  obtain ⟨hl, hn | ⟨g, cap, cur, rfl, hg, hcur, r⟩⟩ := h
  · exact ⟨hl, .inl hn⟩
  · refine ⟨hl, .inr ⟨g, cap, cur, rfl, hg, k.blk g _ hcur (fun e => ?_) (fun e => ?_) (fun cs fr e => ?_), r⟩⟩
    · subst e
      rw [ht.blk] at hcur
      simp at hcur
    · subst e
      obtain ⟨es, n, hm⟩ := ht.map.obj
      rw [hm] at hcur
      simp at hcur
    · simp at e
def AddPost (B T m : Nat) (ns : List Nd) (l : List Pl) (w : World) (e : Ending) (w' : World) : Prop :=
  ∃ ms n v' q, e = .returned (.tuple #[.int .i64 ((n : Nat) : Int), .int .i64 0]) ∧ Wf ms ∧ ns <+: ms ∧ ms.length ≤ ns.length + l.length ∧ nodeAt ms n = some q ∧ path ms n = l ∧ TreeAt B w' T v' m ms ∧ KeepT T m w w' ∧ Below B w w'
set_option maxRecDepth 100000 in
set_option maxHeartbeats 4000000 in
theorem Add_in {B : Nat} {T : Nat} {v : Value} {m : Nat} {ns : List Nd} (l : List Pl) (Bl : Nat) (u : Value) (w : World) (h : TreeAt B w T v m ns) (hw : Wf ns) (hl : PRow 24 Bl w u l) (hm : ∀ p ∈ l, mayB p = true) (h64 : l.length ≤ 64) (hroom : ns.length + l.length ≤ 4095) :
    Calls Try.prog 5 #[.pointer (some ⟨T, 0, none⟩), u] w (AddPost B T m ns l w) := by
  have hs : Slim l := fun p hp => by have := mayB_bd (hm p hp); omega
  have hck : checkN l = 0 := by
    unfold checkN
    rw [if_pos (List.all_eq_true.2 hm), if_neg (by omega)]
  have cC := Check_in l hs w.heap.size u w hl.sl
  rw [hck] at cC
  obtain ⟨a, c, rfl, hc1, hc2, _⟩ := hl.sl
  go_enter Try.func5, Try.ntmps5
  go_wp2_with (go_at_call 12; refine cC.mono ?_; rintro e w1 ⟨rfl, hb1⟩)
  go_loopw [7, 21] (fun x i wr => ∃ (k n : Nat) (ms : List Nd) (v' : Value) (q : Nd), k ≤ l.length ∧ i = .int .i64 (k : Int) ∧ x = .int .i64 (n : Int) ∧ Wf ms ∧ ns <+: ms ∧ ms.length ≤ ns.length + k ∧ nodeAt ms n = some q ∧ path ms n = l.take k ∧ TreeAt B wr T v' m ms ∧ KeepT T m w wr ∧ Below B w wr)
    (fun _ i _ => l.length - (RowKit.intOf i).toNat)
  case atStart => exact ⟨0, 0, ns, v, zeroNd, Nat.zero_le _, rfl, rfl, hw, List.prefix_refl _, by omega, rfl, rfl, h.below hb1, KeepT.of_below hb1, hb1.mono h.base⟩
  case round =>
    obtain ⟨k, n, ms, v', q, hk, rfl, rfl, hwf, hpre, hlen, hq, hpath, ht, hkt, hbw⟩ := hrel
    by_cases hlt : k < l.length
    · have hx : l[k]? = some l[k] := List.getElem?_eq_getElem hlt
      have hmx := hm _ (List.getElem_mem hlt)
      have htk : l.take (k + 1) = l.take k ++ [l[k]] := by rw [List.take_add_one, hx]; rfl
      have hrow := hl.keepT h hkt
      obtain ⟨a', c', he, _, _, hcells⟩ := hrow.sl
      obtain ⟨bk, o, rfl, hbk, hA⟩ := hcells (by intro e; subst e; simp at hlt)
      cases he
      have c1 := (hA k _ hx).1
      have c2 := (hA k _ hx).2
      clear hA hcells hrow
      generalize l[k] = x at *
      have hbx : Below wr.heap.size wr (wr.alloc (.cells #[.string x.n, .int .i64 x.k] 24)) := (Below.refl _ wr).alloc (Nat.le_refl _) _
      have htx := ht.below hbx
      have hd : q.d < 64 := by
        have := path_depth hwf n n q (Nat.le_refl _) hq
        rw [hpath, List.length_take] at this
        omega
      have cP := Push_ok n q x _ htx hwf hq hmx hd (by omega)
      have HP := Lib.hid hpath
      have HX := Lib.hid hx
      have HT := Lib.hid htk
      have HQ := Lib.hid hq
      have HE := Lib.hid hpre
      clear hpath hx htk hq hpre
      have hN : decide ((k : Int) < (l.length : Int)) = true := by simp; omega
      generalize hL : l.length = z at *
      go_wp2_with (go_at_call 4; refine cP.mono ?_; rintro e w2 ⟨ms2, n2, v2, rfl, hP, ht2, hk2, hb2⟩)
      go_roundw
      case rel =>
        have hp2 := hP.path hwf HQ.out
        obtain ⟨p1, p2, p3, ⟨q2, p4, _⟩, _⟩ := hP
        refine ⟨k + 1, n2, ms2, v2, q2, hlt, by go_num, rfl, p1, HE.out.trans p2, by omega, p4, by rw [hp2, HP.out, HT.out], ht2, (hkt.trans (KeepT.of_below hbx)).trans hk2, (hbw.trans (hbx.mono ht.base)).trans hb2⟩
      case measure => simp [RowKit.intOf]; omega
    · have : k = l.length := by omega
      subst this
      rw [List.take_length] at hpath
      have hN : decide ((l.length : Int) < (l.length : Int)) = false := by simp
      go_wp2
      go_ret2
      exact ⟨ms, n, v', q, rfl, hwf, hpre, hlen, hq, hpath, ht, hkt, hbw⟩
end Go.Proofs.Ytbldeiejlebbiaa.T
