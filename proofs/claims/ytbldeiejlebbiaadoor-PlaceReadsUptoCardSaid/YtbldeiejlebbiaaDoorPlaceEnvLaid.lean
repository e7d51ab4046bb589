/-
  What the rows of layer 3 list of the library's variables, as the walks want it.
-/
import Derived.LaidLaws
import Derived.RowKitTokens
import Derived.MakeChecks
import Derived.Test.YtbldeiejlebbiaaDoorPlaceOpen
import Derived.Test.YtbldeiejlebbiaaDoorPlaceEnv
set_option linter.unusedVariables false
namespace Go.Proofs.YtbldeiejlebbiaaDoor.T
open Go.ChangeShapes Go.WideShapes Go.ChangeAt Go.RowKit Go.Lib

theorem star : "*" ++ "errors.errorString" = "*errors.errorString" := by decide
theorem errRow (u : TypeId) (h : Tryd.prog.typeName? 3 u = some "*errors.errorString") : u = 184 :=
  typeName_ptr_named (nm := "errors.errorString") (by rw [star]; kernel_rfl) (by kernel_rfl) (by decide) u (by rw [star]; exact h)
theorem errFields : ∃ f : Field, Tryd.prog.underlying 186 = some (.struct #[f]) ∧ f.type = 9 ∧ f.offset = 0 := ⟨{ name := "s", type := 9, offset := 0, embedded := false, tag := "", pkgPath := "errors", byteOffset := 0 }, by kernel_rfl, rfl, rfl⟩
def laid5 : List (String × DataW Unit) := [("math/bits.deBruijn32tab", Rows.laid_math_bits_deBruijn32tab), ("math/bits.deBruijn64tab", Rows.laid_math_bits_deBruijn64tab), ("internal/strconv.uint64pow10", Rows.laid_internal_strconv_uint64pow10), ("strconv.ErrRange", Rows.laid_strconv_ErrRange), ("strconv.ErrSyntax", Rows.laid_strconv_ErrSyntax)]
theorem pow_eq : (Rows.laid_internal_strconv_uint64pow10 : DataW Unit) = Lib.tabData .u64 Lib.pow10Tab := by kernel_rfl
theorem sentinel_cell {n : String} {text : List UInt8} {r : List (String × DataW Unit)} {W : World} {g : Nat} (h : laidMet Tryd.prog ((n, .iface "*errors.errorString" (.ptr (.agg [.lit (.string text)]))) :: r) W)
    (hg : Tryd.prog.globalNamed n = some g) (ht : (Tryd.prog.globals[g]?).map (·.type) = some 135) : ∃ tp p, W.cell? ⟨g, 0, none⟩ = some (.iface tp p) := by
  obtain ⟨f, hf, hft, hfo⟩ := errFields
  obtain ⟨ms, hi⟩ : ∃ ms, Tryd.prog.underlying 135 = some (.interface ms) := ⟨#[("Error", 66)], by kernel_rfl⟩
  obtain ⟨a, s, hv, _, _, _⟩ := laid_sentinel h hg ht hi errRow (show Tryd.prog.underlying 184 = some (.pointer 186) by kernel_rfl) hf hft hfo (by kernel_rfl) (by kernel_rfl) (by kernel_rfl)
  have h0 := World.var?_cell hg hv 0
  exact ⟨_, _, by simpa using h0⟩
theorem env_of {W : World} (h : laidMetH Tryd.prog laid5 W) (hsh : W.ShapedOpen Tryd.prog) : T.Env W := by
  rw [MakeChecks.laidMetH_plain _ _ _ (by kernel_rfl)] at h
  have h2 := h.tail.tail
  have h3 := h2.tail
  have h4 := h3.tail
  have hg5 : Tryd.prog.globalNamed "math/bits.deBruijn64tab" = some 5 := by kernel_rfl
  have hsz : 6 ≤ W.heap.size := by
    obtain ⟨ps, ⟨g, t, cs, fuel, p, q, hg, ht, hv, hd, _, _⟩, _⟩ := h.tail
    obtain rfl := Option.some.inj (hg5.symm.trans hg)
    unfold World.var? at hv
    rw [hg5] at hv
    simp only [Option.bind_some] at hv
    rcases Nat.lt_or_ge 5 W.heap.size with h' | h'
    · omega
    · rw [Array.getElem?_eq_none h'] at hv
      cases hv
  have htb : Lib.TabIs Tryd.prog W "internal/strconv.uint64pow10" .u64 Lib.pow10Tab := by
    have h2' : laidMet Tryd.prog (("internal/strconv.uint64pow10", Lib.tabData .u64 Lib.pow10Tab) :: [("strconv.ErrRange", Rows.laid_strconv_ErrRange), ("strconv.ErrSyntax", Rows.laid_strconv_ErrSyntax)]) W := by
      rw [← pow_eq]; exact h2
    refine Lib.tabIs_of_head (g := 1) (t := 171) (e := 158) (n := 20) (by kernel_rfl) (by kernel_rfl) (by kernel_rfl) (by kernel_rfl) (by kernel_rfl) (by kernel_rfl) h2'
  exact ⟨Tryd.laysM145.s1_3 W hsh, sentinel_cell h4 (by kernel_rfl) (by kernel_rfl), sentinel_cell h3 (by kernel_rfl) (by kernel_rfl), htb, hsz⟩
end Go.Proofs.YtbldeiejlebbiaaDoor.T
