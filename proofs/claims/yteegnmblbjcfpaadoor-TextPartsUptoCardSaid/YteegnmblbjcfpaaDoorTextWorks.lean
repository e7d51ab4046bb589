/-
  erratalaw01.works: what each of the outright statements asks first.
-/
import Derived.Deep.QuietTactic
import Derived.BigQuiet
import Derived.Test.YteegnmblbjcfpaaDoorTextWrap
import Derived.Test.YteegnmblbjcfpaaDoorTextTook
set_option linter.unusedVariables false
namespace Go.Proofs.YteegnmblbjcfpaaDoor.T
open Go Go.Lib Go.RowKit Go.Shelf

theorem after {w W : World} {P : Program} {f : FuncId} {args : Array Value} {v : Value} (hb : Below w.heap.size w W) (h : Calls P f args W fun e W' => e = .returned v ∧ Below W.heap.size W W') :
    Calls P f args W fun e W' => e = .returned v ∧ Below w.heap.size w W' := h.mono fun e W' k => ⟨k.1, hb.trans (k.2.mono hb.size)⟩
theorem equalIn_func_nil (d : Nat) (w : World) (f : Fn) (a b : Array Value) : (Op.equalIn (d + 1) 25 (.func f a b) .nilFunc).run Tryd.prog w = .ok false w := by
  simp [Op.equalIn, run_underlying Tryd.underlying25]
theorem equal_func_nil (w : World) (f : Fn) (a b : Array Value) : (Op.equal 25 (.func f a b) .nilFunc).run Tryd.prog w = .ok false w := equalIn_func_nil 9999 w f a b
theorem eql_func_nil (w : World) (f : Fn) (a b : Array Value) : (binOp .eql 25 (.func f a b) .nilFunc).run Tryd.prog w = .ok (.bool false) w := by
  simp only [binOp]
  simp [equal_func_nil w f a b]
/-- two slices of the same texts are the same -/
theorem sameTexts_ws (B1 B2 : Nat) (va vb : Value) (xs : List ByteArray) (hxs : xs.length ≤ 16777216) (w : World) (ha : WsAt B1 w va xs) (hb : WsAt B2 w vb xs) :
    Calls Tryd.prog 28 #[va, vb] w fun e w' => e = .returned (.bool true) ∧ ∃ n, w' = w.drewN n := by
  obtain ⟨a, c, rfl, hc1, hc2, hca⟩ := ha
  obtain ⟨b, d, rfl, hd1, hd2, hcb⟩ := hb
  cases xs with
  | nil =>
    clear hca hcb
    go_enter Tryd.func28, Tryd.ntmps28
    go_wp2
    refine wp_loop_rounds 1 ?_
    rw [rounds_succ]
    go_wp2
    go_ret
    exact ⟨rfl, 0, rfl⟩
  | cons x0 l0 =>
    obtain ⟨ga, oa, rfl, hga, hcla⟩ := hca (by simp)
    obtain ⟨gb, ob, rfl, hgb, hclb⟩ := hcb (by simp)
    clear hca hcb
    generalize (x0 :: l0) = xs at *
    go_enter Tryd.func28, Tryd.ntmps28
    go_wp2
    go_loopw [5] (fun i wr => ∃ k : Nat, k ≤ xs.length ∧ i = .int .i64 k ∧ ∃ n, wr = w.drewN n) (fun i _ => xs.length - (intOf i).toNat)
    case atStart => exact ⟨0, Nat.zero_le _, rfl, 0, rfl⟩
    case round =>
      obtain ⟨k, hk, rfl, n, rfl⟩ := hrel
      by_cases hlt : k < xs.length
      · obtain ⟨y, hy⟩ : ∃ y, xs[k]? = some y := ⟨_, List.getElem?_eq_getElem hlt⟩
        have ea : w.cell? ⟨ga, oa + k, none⟩ = some (.string y) := hcla k y hy
        have eb : w.cell? ⟨gb, ob + k, none⟩ = some (.string y) := hclb k y hy
        clear hy
        go_wp2
        go_quiet (fail)
        go_wp2
        go_roundw
        case rel => exact ⟨k + 1, by omega, by go_num, n + nq, rfl⟩
        case measure => simp [intOf]; omega
      · obtain rfl : k = xs.length := by omega
        go_wp2
        go_ret
        exact ⟨rfl, n, rfl⟩
theorem ws_new (W : World) (a b c : ByteArray) : WsAt (W.heap.size + 1) (W.alloc (.cells #[.string a, .string b, .string c] 9)) (.slice (some ⟨W.heap.size, 0, none⟩) 3 3) [a, b, c] := by
  refine ⟨_, 3, rfl, by simp, by omega, fun _ => ⟨W.heap.size, 0, rfl, by omega, fun j x hj => ?_⟩⟩
  have h := cell3_new W (.string a) (.string b) (.string c) 9 j (.string x) (by
    match j, hj with
    | 0, hj => simpa using hj
    | 1, hj => simpa using hj
    | 2, hj => simpa using hj
    | j + 3, hj => simp at hj)
  have e : (⟨W.heap.size, 0, none⟩ : Addr).add j = ⟨W.heap.size, 0 + j, none⟩ := by unfold Addr.add; split <;> simp_all
  rw [e] at h
  exact h

theorem k_quote : (⟨(quL ⟨#[97, 10, 255, 92, 34]⟩ (pcs ⟨#[97, 10, 255, 92, 34]⟩) ++ [34]).toArray⟩ : ByteArray) = ⟨#[34, 97, 92, 120, 48, 97, 92, 120, 102, 102, 92, 92, 92, 34, 34]⟩ := by decide +kernel
theorem k_unq : unT ⟨#[34, 97, 92, 120, 48, 97, 92, 120, 102, 102, 92, 92, 92, 34, 34]⟩ = some ⟨#[97, 10, 255, 92, 34]⟩ := by decide +kernel
theorem k_width : widthL (pcs ⟨#[97, 10, 255, 92, 34]⟩) = 12 := by decide +kernel
theorem k_show : (⟨(shT ⟨#[255]⟩ false (pcs ⟨#[255]⟩)).toArray⟩ : ByteArray) = ⟨#[92, 120, 102, 102]⟩ := by decide +kernel
theorem k_cut : (⟨#[97, 98, 255]⟩ : ByteArray).extract 0 (fit ⟨#[97, 98, 255]⟩ 5) = ⟨#[97, 98]⟩ := by decide +kernel
theorem k_brk : brksOf (pcs ⟨#[255]⟩) = [0] := by decide +kernel
theorem k_wrap : lines 5 (nW ⟨#[116, 111, 32, 98, 101, 32, 32, 111, 114, 32, 110, 111, 116]⟩ 5) = [⟨#[116, 111, 32, 98, 101]⟩, ⟨#[111, 114]⟩, ⟨#[110, 111, 116]⟩] := by decide +kernel
end Go.Proofs.YteegnmblbjcfpaaDoor.T
