/- The contract of the document's Decode. -/
import Derived.Test.YtndbhalkhejgjaaVRefEnc
import Derived.Test.YtndbhalkhejgjaaVDecode
namespace Go.Proofs.Ytndbhalkhejgjaa
open Go.RowKit

/-- What the document's Decode answers. -/
def gotG (d : V × Nat × Bool) : Value := .agg #[.int .i64 d.1.k, .int .i64 d.1.n, .string d.1.s, .int .i64 (d.2.1 : Int), .bool d.2.2]

set_option maxHeartbeats 800000 in
set_option maxRecDepth 100000 in
theorem refDecode_out (s : ByteArray) (p : Int) (w : World) (hp : p < 0 ∨ (s.size : Int) ≤ p) :
    Calls Try.prog 18 #[.string s, .int .i64 p] w fun e w' => e = .returned (gotG (noV, 0, false)) ∧ Below w.heap.size w w' := by
  rcases hp with h | h
  · go_enter Try.func18, Try.ntmps18
    go_wp2_with fail
    exact bodyPost_ret (v := gotG (noV, 0, false)) (by simp [results, Try.results18, go_sem, gotG, noV]) rfl ⟨rfl, below_alloc1 _ _⟩
  · have h0 : ¬ p < 0 := by omega
    go_enter Try.func18, Try.ntmps18
    go_wp2_with fail
    exact bodyPost_ret (v := gotG (noV, 0, false)) (by simp [results, Try.results18, go_sem, gotG, noV]) rfl ⟨rfl, below_alloc1 _ _⟩

set_option maxHeartbeats 800000 in
set_option maxRecDepth 100000 in
theorem refDecode_big (s : ByteArray) (p : Nat) (w : World) (hp : p < s.size) (c : Nat) (hc : bt s p = c) (h4 : 4 ≤ c) :
    Calls Try.prog 18 #[.string s, .int .i64 (p : Int)] w fun e w' => e = .returned (gotG (noV, 0, false)) ∧ Below w.heap.size w w' := by
  have hb := bt_eq s p hp
  rw [hc] at hb
  have e0 : ((c : Int) == 0) = false := ne_beq (by omega)
  have e1 : ((c : Int) == 1) = false := ne_beq (by omega)
  have e2 : ((c : Int) == 2) = false := ne_beq (by omega)
  have e3 : ((c : Int) == 3) = false := ne_beq (by omega)
  have h1 : ¬ (s.size : Int) ≤ (p : Int) := by omega
  clear hc h4
  go_enter Try.func18, Try.ntmps18
  go_wp2_with fail
  exact bodyPost_ret (v := gotG (noV, 0, false)) (by simp [results, Try.results18, go_sem, gotG, noV]) rfl ⟨rfl, below_alloc1 _ _⟩

set_option maxHeartbeats 800000 in
set_option maxRecDepth 100000 in
theorem refDecode_0 (s : ByteArray) (p : Nat) (w : World) (hp : p < s.size) (hc : bt s p = 0) :
    Calls Try.prog 18 #[.string s, .int .i64 (p : Int)] w fun e w' => e = .returned (gotG (noV, 1, true)) ∧ Below w.heap.size w w' := by
  have hb := bt_eq s p hp
  rw [hc] at hb
  have h1 : ¬ (s.size : Int) ≤ (p : Int) := by omega
  clear hc
  go_enter Try.func18, Try.ntmps18
  go_wp2_with fail
  exact bodyPost_ret (v := gotG (noV, 1, true)) (by simp [results, Try.results18, go_sem, gotG, noV]) rfl ⟨rfl, below_alloc1 _ _⟩

set_option maxHeartbeats 800000 in
set_option maxRecDepth 100000 in
theorem refDecode_1 (s : ByteArray) (p : Nat) (w : World) (hp : p < s.size) (hs : s.size ≤ 281474976710656) (hc : bt s p = 1) (d : V × Nat × Bool) (hd : d = if p + 1 < s.size ∧ bt s (p + 1) ≤ 1 then (⟨1, (bt s (p + 1) : Int), ⟨#[]⟩⟩, 2, true) else (noV, 0, false)) :
    Calls Try.prog 18 #[.string s, .int .i64 (p : Int)] w fun e w' => e = .returned (gotG d) ∧ Below w.heap.size w w' := by
  have hb := bt_eq s p hp
  rw [hc] at hb
  have h1 : ¬ (s.size : Int) ≤ (p : Int) := by omega
  by_cases h2 : p + 1 < s.size
  · have hb2 := bt_eq s (p + 1) h2
    by_cases h3 : bt s (p + 1) ≤ 1
    · rw [hd, if_pos ⟨h2, h3⟩]
      generalize bt s (p + 1) = c at *
      have h3' : (c : Int) ≤ 1 := by omega
      have h2' : (p : Int) + 1 < (s.size : Int) := by omega
      clear hc hd h3
      go_enter Try.func18, Try.ntmps18
      go_wp2_with fail
      exact bodyPost_ret (v := gotG (⟨1, (c : Int), ⟨#[]⟩⟩, 2, true)) (by simp [results, Try.results18, go_sem, gotG]) rfl ⟨rfl, below_alloc1 _ _⟩
    · rw [hd, if_neg (by omega)]
      generalize bt s (p + 1) = c at *
      have h3' : ¬ (c : Int) ≤ 1 := by omega
      have h2' : (p : Int) + 1 < (s.size : Int) := by omega
      clear hc hd h3
      go_enter Try.func18, Try.ntmps18
      go_wp2_with fail
      exact bodyPost_ret (v := gotG (noV, 0, false)) (by simp [results, Try.results18, go_sem, gotG, noV]) rfl ⟨rfl, below_alloc1 _ _⟩
  · rw [hd, if_neg (by omega)]
    have h2' : ¬ (p : Int) + 1 < (s.size : Int) := by omega
    clear hc hd
    go_enter Try.func18, Try.ntmps18
    go_wp2_with fail
    exact bodyPost_ret (v := gotG (noV, 0, false)) (by simp [results, Try.results18, go_sem, gotG, noV]) rfl ⟨rfl, below_alloc1 _ _⟩

end Go.Proofs.Ytndbhalkhejgjaa
