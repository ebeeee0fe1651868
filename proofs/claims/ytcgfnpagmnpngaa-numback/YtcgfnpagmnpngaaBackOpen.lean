/- NumBack for whatever two texts: long ones are not gone through. -/
import Derived.Test.YtcgfnpagmnpngaaBackLaw
namespace Go.Proofs.Ytcgfnpagmnpngaa
open Go.RowKit Go.ChangeShapes Go.WideShapes Go.ChangeAt

set_option maxHeartbeats 800000 in
set_option maxRecDepth 100000 in
theorem back_long (n m : Int) (s0 s1 : ByteArray) (w : World) (h : 1000 < s0.size ∨ s0.size ≤ 1000 ∧ 1000 < s1.size) :
    Calls Try.prog 5 #[.int .u64 n, .int .i64 m, .agg #[.string s0, .string s1]] w fun e w' => e = .returned (.bool true) ∧ Below w.heap.size w w' := by
  rcases h with h | ⟨h0, h⟩
  · go_enter Try.func5, Try.ntmps5
    go_wp2_with fail
    refine (wakes_any _).mono ?_
    rintro e w1 ⟨rfl, hb1⟩
    go_wp2_with fail
    go_ret
    exact ⟨rfl, below2 (below_alloc1 _ _) hb1⟩
  · go_enter Try.func5, Try.ntmps5
    go_wp2_with fail
    refine (wakes_any _).mono ?_
    rintro e w1 ⟨rfl, hb1⟩
    go_wp2_with fail
    go_ret
    exact ⟨rfl, below2 (below_alloc1 _ _) hb1⟩

theorem Try.cells44 : Try.prog.cellsOf 44 = 2 := by kernel_rfl
theorem Try.cells9 : Try.prog.cellsOf 9 = 1 := by kernel_rfl

theorem list2 {α : Type} (l : List α) (h : l.length = 2) : ∃ a b, l = [a, b] := by
  match l, h with
  | [a, b], _ => exact ⟨a, b, rfl⟩

theorem open_two {H : Type} {enc : TypeId × Value → H} {W : World} {base : Nat} {v : Value} {d : DataW H} {ps : List MemPlace}
    (hv : Value.okWide Try.prog W .any base 44 v) (h : DataW.Trod enc Try.prog W 0 (fun _ => true) true 44 v d ps) : ∃ s0 s1, v = .agg #[.string s0, .string s1] := by
  obtain ⟨cs, rfl, hsz, _⟩ : ∃ cs, v = .agg cs ∧ cs.size = Try.prog.cellsOf 44 ∧ Row.okWide Try.prog W .any base 44 cs := by
    simpa [Value.okWide, Try.underlying44] using hv
  rw [Try.cells44] at hsz
  obtain ⟨l⟩ := cs
  obtain ⟨c0, c1, rfl⟩ := list2 l hsz
  obtain ⟨fuel, hf⟩ := h
  obtain ⟨xs, m, _, _, _, hl, hx⟩ := DataW.trod_array Try.underlying44 hf
  have e0 := hx 0 (by omega)
  have e1 := hx 1 (by omega)
  rw [Try.cells9] at e0 e1
  have g0 : xs[0]? = some xs[0] := by simp
  have g1 : xs[1]? = some xs[1] := by simp
  rw [g0] at e0
  rw [g1] at e1
  obtain ⟨s0, h0, _⟩ := DataW.trod_string Try.underlying9 e0
  obtain ⟨s1, h1, _⟩ := DataW.trod_string Try.underlying9 e1
  simp [Value.cells] at h0 h1
  exact ⟨s0, s1, by rw [h0, h1]⟩

theorem back_walk (n m : Int) (v : Value) (W : World) (hn : 0 ≤ n ∧ n ≤ 18446744073709551615) (hm : -9223372036854775808 ≤ m ∧ m ≤ 9223372036854775807)
    {H : Type} {enc : TypeId × Value → H} {base : Nat} {d : DataW H} {ps : List MemPlace}
    (hv : Value.okWide Try.prog W .any base 44 v) (h : DataW.Trod enc Try.prog W 0 (fun _ => true) true 44 v d ps) :
    Calls Try.prog 5 #[.int .u64 n, .int .i64 m, v] W fun e w' => e = .returned (.bool true) ∧ Below W.heap.size W w' := by
  obtain ⟨s0, s1, rfl⟩ := open_two hv h
  by_cases hs : 1000 < s0.size ∨ s0.size ≤ 1000 ∧ 1000 < s1.size
  · exact back_long n m s0 s1 W hs
  · exact back_in n m s0 s1 W hn hm (by omega) (by omega)

end Go.Proofs.Ytcgfnpagmnpngaa
