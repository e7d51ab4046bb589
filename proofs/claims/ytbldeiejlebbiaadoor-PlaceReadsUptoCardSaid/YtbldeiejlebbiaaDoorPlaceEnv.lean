/-
  What the library's own variables hold; strings.Cut, strconv.Itoa, strconv.Atoi.
-/
import Derived.WalkSmall
import Derived.Lib.SmallJoins
import Derived.Lib.AtoiAllCases
import Derived.Test.YtbldeiejlebbiaaDoorPlaceBase
set_option linter.unusedVariables false
namespace Go.Proofs.YtbldeiejlebbiaaDoor.T
open Go Go.Lib Go.RowKit

structure Env (w : World) : Prop where
  mx : ∃ m, w.cell? ⟨0, 0, none⟩ = some (.int .i64 m)
  es : ∃ tp p, w.cell? ⟨2, 0, none⟩ = some (.iface tp p)
  er : ∃ tp p, w.cell? ⟨3, 0, none⟩ = some (.iface tp p)
  tb : Lib.TabIs Tryd.prog w "internal/strconv.uint64pow10" .u64 Lib.pow10Tab
  sz : 6 ≤ w.heap.size
theorem Env.below {B : Nat} {w w' : World} (h : Env w) (hb : Below B w w') (hB : 6 ≤ B) : Env w' where
  mx := by obtain ⟨m, e⟩ := h.mx; exact ⟨m, (hb.cell (p := ⟨_, 0, none⟩) (by show 0 < B; omega)).trans e⟩
  es := by obtain ⟨m, p, e⟩ := h.es; exact ⟨m, p, (hb.cell (p := ⟨_, 0, none⟩) (by show 2 < B; omega)).trans e⟩
  er := by obtain ⟨m, p, e⟩ := h.er; exact ⟨m, p, (hb.cell (p := ⟨_, 0, none⟩) (by show 3 < B; omega)).trans e⟩
  tb := var?_below hb (show Tryd.prog.globalNamed "internal/strconv.uint64pow10" = some 1 by kernel_rfl) (by show 1 < B; omega) h.tb
  sz := Nat.le_trans h.sz hb.size

def cutA (s sep : ByteArray) : ByteArray := ⟨(Lib.cut s.data.toList sep.data.toList).1.toArray⟩
def cutB (s sep : ByteArray) : ByteArray := ⟨(Lib.cut s.data.toList sep.data.toList).2.1.toArray⟩
def cutC (s sep : ByteArray) : Bool := (Lib.cut s.data.toList sep.data.toList).2.2
theorem cut_le (s sep : ByteArray) : (cutA s sep).size ≤ s.size ∧ (cutB s sep).size ≤ s.size := by
  have e : s.data.toList.length = s.size := rfl
  unfold cutA cutB Lib.cut
  split
  · constructor
    · show ((s.data.toList.take _).toArray).size ≤ _
      rw [List.size_toArray, List.length_take]; omega
    · show ((s.data.toList.drop _).toArray).size ≤ _
      rw [List.size_toArray, List.length_drop]; omega
  · constructor
    · show (s.data.toList.toArray).size ≤ _
      rw [List.size_toArray]; omega
    · show ([].toArray : Array UInt8).size ≤ _
      simp
theorem Cut_in (s sep : ByteArray) (hs : s.size ≤ 16777216) (w : World) (hE : Env w) :
    Calls Tryd.prog 66 #[.string s, .string sep] w fun e w' => e = .returned (.tuple #[.string (cutA s sep), .string (cutB s sep), .bool (cutC s sep)]) ∧ Below w.heap.size w w' := by
  obtain ⟨m, hm⟩ := hE.mx
  refine (Tryd.strings_Cut s sep m w (by omega) hm).mono ?_
  rintro e w' ⟨rfl, q, rfl⟩
  exact ⟨rfl, Go.below_drewN (Below.refl _ _) q⟩
def itB (n : Int) : ByteArray := ⟨(Lib.itoa n).toArray⟩
theorem Itoa_in (n : Int) (h0 : -9223372036854775808 ≤ n) (h1 : n ≤ 9223372036854775807) (w : World) (hE : Env w) :
    Calls Tryd.prog 64 #[.int .i64 n] w fun e w' => e = .returned (.string (itB n)) ∧ Below w.heap.size w w' := by
  refine (Tryd.strconv_Itoa n h0 h1 w hE.tb).mono ?_
  rintro e w' ⟨rfl, q, os, rfl⟩
  refine ⟨rfl, ?_⟩
  refine (Go.below_drewN (Below.refl w.heap.size w) q).trans ?_
  exact ⟨rfl, rfl, rfl, by show (w.drewN q).heap.size ≤ ((w.drewN q).heap ++ os).size; rw [Array.size_append]; omega, fun k hk => by
    have hk' : k < (w.drewN q).heap.size := hk
    show ((w.drewN q).heap ++ os)[k]? = _
    rw [Array.getElem?_append_left hk']⟩
def atV (s : ByteArray) : Option Int := match Lib.atoiAll s.data.toList with | .ok v => some v | _ => none
theorem atV_bd {s : ByteArray} {v : Int} (h : atV s = some v) : -9223372036854775808 ≤ v ∧ v ≤ 9223372036854775807 := by
  unfold atV at h
  split at h
  · rename_i u hu
    cases h
    exact Lib.atoiAll_bounds hu
  · cases h
theorem Atoi_ok (s : ByteArray) (hs : s.size ≤ 16777216) (v : Int) (h : atV s = some v) (w : World) :
    Calls Tryd.prog 80 #[.string s] w fun e w' => e = .returned (.tuple #[.int .i64 v, .nilIface]) ∧ Below w.heap.size w w' := by
  have hv : Lib.atoiAll s.data.toList = .ok v := by
    unfold atV at h
    split at h
    · rename_i u hu
      cases h
      exact hu
    · cases h
  refine (Tryd.strconv_Atoi_ok s (by omega) v hv w).mono ?_
  rintro e w' ⟨rfl, hw⟩
  refine ⟨rfl, ?_⟩
  rcases hw with rfl | ⟨t, rfl⟩
  · exact Below.refl _ _
  · exact Lib.bytesWorld_below w _ t
theorem Atoi_no (s : ByteArray) (hs : s.size ≤ 16777216) (h : atV s = none) (w : World) (hE : Env w) :
    Calls Tryd.prog 80 #[.string s] w fun e w' => ∃ (z : Int) (t : TypeId) (a : Addr), e = .returned (.tuple #[.int .i64 z, .iface t (.pointer (some a))]) ∧ Below w.heap.size w w' := by
  rcases hv : Lib.atoiAll s.data.toList with v | _ | _
  · unfold atV at h; rw [hv] at h; cases h
  · obtain ⟨tp, p, hc⟩ := hE.es
    refine (Any.strconv_Atoi_syntax Tryd.laysC172 s (by omega) hv _ w hc (.inr ⟨_, _, rfl⟩)).mono ?_
    rintro e w' ⟨N, rfl, _, _, hb⟩
    exact ⟨_, _, _, rfl, hb⟩
  · obtain ⟨tp, p, hc⟩ := hE.er
    refine (Tryd.strconv_Atoi_range s (by omega) hv _ w hc (.inr ⟨_, _, rfl⟩)).mono ?_
    rintro e w' ⟨N, rfl, _, _, hb⟩
    exact ⟨_, _, _, rfl, hb⟩
end Go.Proofs.YtbldeiejlebbiaaDoor.T
