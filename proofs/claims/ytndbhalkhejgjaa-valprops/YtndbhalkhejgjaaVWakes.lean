/- The laws' own example answers true. -/
import Derived.Test.YtndbhalkhejgjaaVSet
import Derived.Test.YtndbhalkhejgjaaVName
import Derived.Test.YtndbhalkhejgjaaVEncode
import Derived.Test.YtndbhalkhejgjaaVDecode
namespace Go.Proofs.Ytndbhalkhejgjaa
open Go.RowKit

theorem decode_300 (w : World) : Calls Try.prog 17 #[.string ⟨#[2, 216, 4]⟩, .int .i64 0] w fun e w' =>
    e = .returned (.tuple #[.agg #[.int .i64 2, .int .i64 300, .string ⟨#[]⟩], .int .i64 3, .bool true]) ∧ Below w.heap.size w w' := by
  have h := decode_any ⟨#[2, 216, 4]⟩ 0 w (by decide)
  rw [show decV ⟨#[2, 216, 4]⟩ 0 = (⟨2, 300, ⟨#[]⟩⟩, 3, true) by kernel_rfl] at h
  exact h

theorem encode_300 (w : World) : Calls Try.prog 19 #[.agg #[.int .i64 2, .int .i64 300, .string ⟨#[]⟩]] w fun e w' =>
    e = .returned (.string ⟨#[2, 216, 4]⟩) ∧ Below w.heap.size w w' := by
  have h := encode_any ⟨2, 300, ⟨#[]⟩⟩ w ⟨by decide, by decide⟩
  rw [show ba (encV ⟨2, 300, ⟨#[]⟩⟩) = ⟨#[2, 216, 4]⟩ by kernel_rfl] at h
  exact h

theorem name_yes (w : World) : Calls Try.prog 11 #[.string ⟨#[97, 95, 49]⟩] w fun e w' => e = .returned (.bool true) ∧ w' = w := by
  have h := name_any ⟨#[97, 95, 49]⟩ w
  rw [show nameB ⟨#[97, 95, 49]⟩ = true by kernel_rfl] at h
  exact h

theorem name_no (w : World) : Calls Try.prog 11 #[.string ⟨#[49, 97]⟩] w fun e w' => e = .returned (.bool false) ∧ w' = w := by
  have h := name_any ⟨#[49, 97]⟩ w
  rw [show nameB ⟨#[49, 97]⟩ = false by kernel_rfl] at h
  exact h

theorem rd_one {w : World} {b : Nat} {p : Pr} (h : B4 w b (.string p.name) (.int .i64 p.v.k) (.int .i64 p.v.n) (.string p.v.s)) : Rd w b 0 [p] := by
  intro i q hq
  cases i with
  | zero =>
    simp at hq
    subst hq
    exact ⟨h.c0, h.c1, h.c2, h.c3⟩
  | succ i => simp at hq

theorem set_ab (W w : World) (H : Nat) (hH : W.heap.size = H) (hw : w = W.alloc (.cells #[.string ⟨#[98]⟩, .int .i64 2, .int .i64 300, .string ⟨#[]⟩] 62)) : Calls Try.prog 33 #[.slice (some ⟨H, 0, none⟩) 1 1, .string ⟨#[97]⟩, .agg #[.int .i64 1, .int .i64 1, .string ⟨#[]⟩]] w fun e w' =>
    ∃ g, e = .returned (.slice (some ⟨g, 0, none⟩) 2 2) ∧ w'.cell? ⟨g, 0, none⟩ = some (.string ⟨#[97]⟩) ∧ Below w.heap.size w w' ∧ w.heap.size ≤ g := by
  subst hw
  have hr : Rd (W.alloc (.cells #[.string ⟨#[98]⟩, .int .i64 2, .int .i64 300, .string ⟨#[]⟩] 62)) H 0 [⟨⟨#[98]⟩, ⟨2, 300, ⟨#[]⟩⟩⟩] := rd_one (B4.new W _ _ _ _ _ hH)
  have h := set_some [⟨⟨#[98]⟩, ⟨2, 300, ⟨#[]⟩⟩⟩] ⟨#[97]⟩ ⟨1, 1, ⟨#[]⟩⟩ H 0 1 _ (by intro p hp; simp at hp; subst hp; exact ⟨by decide, by decide⟩) (by decide) (by decide) (by simp; omega) hr (by decide)
  rw [show setL [⟨⟨#[98]⟩, ⟨2, 300, ⟨#[]⟩⟩⟩] ⟨#[97]⟩ ⟨1, 1, ⟨#[]⟩⟩ = [⟨⟨#[97]⟩, ⟨1, 1, ⟨#[]⟩⟩⟩, ⟨⟨#[98]⟩, ⟨2, 300, ⟨#[]⟩⟩⟩] by kernel_rfl] at h
  refine h.mono ?_
  rintro e w' ⟨g, rfl, hown, hb⟩
  refine ⟨g, rfl, ?_, hb, (hown.lt g rfl).1⟩
  exact (owns_rd hown 0 _ rfl).1

theorem below_wakes {w w1 w2 w3 w4 : World} {o : Obj} {x : Obj} (h1 : Below w.heap.size w w1) (h2 : Below ((w1.alloc o).alloc x).heap.size ((w1.alloc o).alloc x) w3) (h3 : Below w3.heap.size w3 w4) (_ : w2 = w) : Below w.heap.size w w4 :=
  below3 (below2 h1 (below_two w1 o x)) h2 h3

set_option maxHeartbeats 800000 in
set_option maxRecDepth 100000 in
theorem vwakes_any (w : World) : Calls Try.prog 10 #[] w fun e w' => e = .returned (.bool true) ∧ Below w.heap.size w w' := by
  have c1 := fun w => decode_300 w
  have c2 := fun w => encode_300 w
  have c3 := fun w => name_yes w
  have c4 := fun w => name_no w
  go_enter Try.func10, Try.ntmps10
  go_wp2_with fail
  refine (c1 _).mono ?_
  rintro e w1 ⟨rfl, hb1⟩
  go_wp2_with fail
  refine (set_ab _ _ _ (by simp) rfl).mono ?_
  rintro e w3 ⟨g, rfl, hc, hb3, hg⟩
  have k0 : w3.cell? ⟨w1.heap.size, 0, none⟩ = some (.int .i64 2) := by rw [hb3.cell (p := ⟨w1.heap.size, 0, none⟩) (by simp; omega)]; simp
  have k1 : w3.cell? ⟨w1.heap.size, 1, none⟩ = some (.int .i64 300) := by rw [hb3.cell (p := ⟨w1.heap.size, 1, none⟩) (by simp; omega)]; simp
  have k2 : w3.cell? ⟨w1.heap.size, 2, none⟩ = some (.string ⟨#[]⟩) := by rw [hb3.cell (p := ⟨w1.heap.size, 2, none⟩) (by simp; omega)]; simp
  have hg2 : g < w3.heap.size := World.block_lt_of_cell? w3 _ hc
  go_wp2_with fail
  refine (c2 _).mono ?_
  rintro e w4 ⟨rfl, hb4⟩
  have hc' : w4.cell? ⟨g, 0, none⟩ = some (.string ⟨#[97]⟩) := (hb4.cell (p := ⟨g, 0, none⟩) hg2).trans hc
  go_wp2_with fail
  refine (c3 _).mono ?_
  rintro e w5 ⟨rfl, rfl⟩
  go_wp2_with fail
  refine (c4 _).mono ?_
  rintro e w6 ⟨rfl, rfl⟩
  go_wp2_with fail
  go_ret
  exact ⟨rfl, below_wakes hb1 hb3 hb4 rfl⟩

end Go.Proofs.Ytndbhalkhejgjaa
