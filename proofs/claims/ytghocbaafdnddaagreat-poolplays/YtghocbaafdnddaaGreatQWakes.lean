/- A pool that wakes. -/
import Derived.Test.YtghocbaafdnddaaGreatQOne
import Derived.Test.YtghocbaafdnddaaGreatDBlock
namespace Go.Proofs.YtghocbaafdnddaaGreat
open Go.RowKit

def w0S : St := ⟨1, [], 0, 0, D0 4⟩
def w1S : St := ⟨1, [⟨0, blk 0, 1, false⟩], 1, 0, D0 4⟩
def w2S : St := ⟨1, [⟨0, blk 5, 1, true⟩], 1, 0, D0 4⟩
def w3S : St := ⟨1, [⟨0, blk 5, 0, true⟩], 1, 0, D0 4⟩
def w4S : St := ⟨1, [⟨1, blk 0, 1, false⟩], 2, 1, (D0 4).wrote 0 (blk 5)⟩

theorem wk1 : pinS w0S 0 = ((blk 0, 0), w1S) := rfl
theorem wk2 : setS w1S 0 (blk 5) = (0, w2S) := by
  have h := blk_size 5
  simp [setS, idx, w1S, w2S, h]
theorem wk3 : pinS w2S 1 = ((⟨#[]⟩, 70), w2S) := rfl
theorem wk4 : unpinS w2S 0 = (0, w3S) := rfl
theorem wk5 : pinS w3S 1 = ((blk 0, 0), w4S) := rfl

set_option maxHeartbeats 3200000 in
set_option maxRecDepth 100000 in
theorem wakes_any (w : World) : Calls Tryz.prog 41 #[] w fun e w' => e = .returned (.bool true) ∧ Below w.heap.size w w' := by
  have cN := new_any 4 w (by decide) (by decide)
  have b0 := fun w => block_any 0 0 rfl w
  have b5 := fun w => block_any 5 5 rfl w
  go_enter Tryz.func41, Tryz.ntmps41
  go_wp2_with fail
  refine cN.mono ?_
  rintro e w1 ⟨g, gs, rfl, d1, b1⟩
  clear cN
  have cP := q1_new (n := 1) (by decide) (by decide) d1 (inv_new 4 (by decide) (by decide)) b1
  clear d1 b1
  go_wp2_with fail
  refine cP.mono ?_
  rintro e w2 ⟨p, rfl, q2⟩
  clear cP
  have c1 := q2.pin (by omega) 0
  rw [show pinS ⟨1, [], 0, 0, D0 4⟩ 0 = ((blk 0, 0), w1S) from wk1] at c1
  simp only at c1
  clear q2
  go_wp2_with fail
  refine c1.mono ?_
  rintro e w3 ⟨rfl, q3⟩
  clear c1
  have c0 := b0 w3
  go_wp2_with fail
  refine c0.mono ?_
  rintro e w4 ⟨rfl, bb4⟩
  have q4 := q3.below bb4
  clear c0 bb4 q3
  have c5 := b5 w4
  go_wp2_with fail
  refine c5.mono ?_
  rintro e w5 ⟨rfl, bb5⟩
  have q5 := q4.below bb5
  clear c5 bb5 q4
  have cs := q5.setp (by omega) 0 (blk 5)
  rw [wk2] at cs
  clear q5
  go_wp2_with fail
  refine cs.mono ?_
  rintro e w6 ⟨rfl, q6⟩
  clear cs
  have c3 := q6.pin (by omega) 1
  rw [wk3] at c3
  clear q6
  go_wp2_with fail
  refine c3.mono ?_
  rintro e w7 ⟨rfl, q7⟩
  clear c3
  have c4 := q7.unpin (by omega) 0
  rw [wk4] at c4
  clear q7
  go_wp2_with fail
  refine c4.mono ?_
  rintro e w8 ⟨rfl, q8⟩
  clear c4
  have c6 := q8.pin (by omega) 1
  rw [wk5] at c6
  clear q8
  go_wp2_with fail
  refine c6.mono ?_
  rintro e w9 ⟨rfl, q9⟩
  clear c6
  have c7 := q9.readUp 0 (by decide) (by decide)
  rw [show w4S.D.seen 0 = blk 5 from rfl] at c7
  go_wp2_with fail
  refine c7.mono ?_
  rintro e w10 ⟨rfl, q10⟩
  clear c7 q9
  have c8 := b0 w10
  go_wp2_with fail
  refine c8.mono ?_
  rintro e w11 ⟨rfl, bb11⟩
  have q11 := q10.below bb11
  clear c8 bb11 q10
  have c9 := b5 w11
  go_wp2_with fail
  refine c9.mono ?_
  rintro e w12 ⟨rfl, bb12⟩
  have q12 := q11.below bb12
  clear c9 bb12 q11
  have c10 := q12.writes
  rw [show ((w4S.wr : Nat) : Int) = 1 from rfl] at c10
  go_wp2_with fail
  refine c10.mono ?_
  rintro e w13 ⟨rfl, rfl⟩
  clear c10
  go_wp2_with fail
  go_ret
  exact ⟨rfl, q12.bel⟩
end Go.Proofs.YtghocbaafdnddaaGreat
