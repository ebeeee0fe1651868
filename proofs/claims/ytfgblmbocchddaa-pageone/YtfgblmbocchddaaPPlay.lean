/- play: one call on a page and on the document's. -/
import Derived.Test.YtfgblmbocchddaaPRefB
import Derived.Test.YtfgblmbocchddaaPRefC
import Derived.Test.YtfgblmbocchddaaPRefD
namespace Go.Proofs.Ytfgblmbocchddaa
open Go.RowKit

theorem PTo.pre {B : Nat} {w0 w w' : World} {qb : Nat} {v : Value} {l' : List Sl} (hb : Below w0.heap.size w0 w) (z : PTo B w qb v l' w') : PTo B w0 qb v l' w' := by
  obtain ⟨v', p, f, g⟩ := z
  exact ⟨v', p, (Fr.of_below hb).trans f (fun _ _ x => x), fun k e => (g k e).imp id (fun h => Nat.le_trans hb.size h)⟩

set_option maxHeartbeats 1600000 in
set_option maxRecDepth 100000 in
theorem play_0 {B : Nat} {w : World} {qb : Nat} {v : Value} {l : List Sl} (h : Pgr B w qb v l) (hBw : B ≤ w.heap.size) (hF : Fine l) (slot : Int) (row : ByteArray) (_hs : i64ok slot) (hr : row.size ≤ 1000000) :
    Calls Try.prog 12 #[.string (pg l), .pointer (some ⟨qb, 0, none⟩), .agg #[.int .i64 0, .int .i64 slot, .string row]] w fun e w' => e = .returned (.tuple #[.string (pg (insN l row)), .bool true]) ∧ PTo B w qb v (insN l row) w' := by
  obtain ⟨P, K, E, hO, hR, cC⟩ := ins_pg hF row hr
  have HR : Hid (insR l row = (P, K, E)) := hR
  clear hR
  have cD := fun w' (hb : Below w.heap.size w w') => rins_any (h.below hb) (Nat.le_trans hBw hb.size) hF row hr P K E HR
  generalize hl' : insN l row = l' at *
  clear hl' HR
  have b0 := below_alloc1 w (.cells #[.int .i64 0, .int .i64 slot, .string row] 33)
  rcases hO with ⟨rfl, rfl, hF'⟩ | ⟨hE, rfl, rfl⟩
  · have hsz : ((pg l').size : Int) = 512 := by rw [pg_size hF']; rfl
    generalize pg l' = P' at *
    generalize pg l = P0 at *
    go_enter Try.func12, Try.ntmps12
    go_wp2_with fail
    refine (cC _).mono ?_
    rintro e w1 ⟨rfl, b1⟩
    have b01 := below2 b0 b1
    have q2 : w1.cell? ⟨w.heap.size, 2, none⟩ = some (.string row) := by rw [b1.cell (p := ⟨w.heap.size, 2, none⟩) (by simp)]; simp
    go_wp2_with fail
    refine (cD _ b01).mono ?_
    rintro e w2 ⟨rfl, z⟩
    have z2 := z.pre b01
    clear z cC cD
    go_wp2_with fail
    go_ret2
    exact ⟨rfl, z2⟩
  · have hE2 : (E != 0) = true := by simpa using hE
    generalize pg l' = P0 at *
    go_enter Try.func12, Try.ntmps12
    go_wp2_with fail
    refine (cC _).mono ?_
    rintro e w1 ⟨rfl, b1⟩
    have b01 := below2 b0 b1
    have q2 : w1.cell? ⟨w.heap.size, 2, none⟩ = some (.string row) := by rw [b1.cell (p := ⟨w.heap.size, 2, none⟩) (by simp)]; simp
    go_wp2_with fail
    refine (cD _ b01).mono ?_
    rintro e w2 ⟨rfl, z⟩
    have z2 := z.pre b01
    clear z cC cD
    go_wp2_with fail
    go_ret2
    exact ⟨rfl, z2⟩

set_option maxHeartbeats 1600000 in
set_option maxRecDepth 100000 in
theorem play_1 {B : Nat} {w : World} {qb : Nat} {v : Value} {l : List Sl} (h : Pgr B w qb v l) (_hBw : B ≤ w.heap.size) (hF : Fine l) (slot : Int) (row : ByteArray) (_hs : i64ok slot) (hr : row.size ≤ 1000000) :
    Calls Try.prog 12 #[.string (pg l), .pointer (some ⟨qb, 0, none⟩), .agg #[.int .i64 1, .int .i64 slot, .string row]] w fun e w' => e = .returned (.tuple #[.string (pg (putN l slot row)), .bool true]) ∧ PTo B w qb v (putN l slot row) w' := by
  obtain ⟨P, E, hO, hR, cC⟩ := put_pg hF slot _hs row hr
  have HR : Hid (putE l slot row = E) := hR.symm
  clear hR
  have cD := fun w' (hb : Below w.heap.size w w') => rput_any (h.below hb) hF slot _hs row hr E HR
  generalize hl' : putN l slot row = l' at *
  clear hl' HR
  have b0 := below_alloc1 w (.cells #[.int .i64 1, .int .i64 slot, .string row] 33)
  rcases hO with ⟨rfl, rfl, hF'⟩ | ⟨hE, rfl, rfl⟩
  · have hsz : ((pg l').size : Int) = 512 := by rw [pg_size hF']; rfl
    generalize pg l' = P' at *
    generalize pg l = P0 at *
    go_enter Try.func12, Try.ntmps12
    go_wp2_with fail
    refine (cC _).mono ?_
    rintro e w1 ⟨rfl, b1⟩
    have b01 := below2 b0 b1
    have q1 : w1.cell? ⟨w.heap.size, 1, none⟩ = some (.int .i64 slot) := by rw [b1.cell (p := ⟨w.heap.size, 1, none⟩) (by simp)]; simp
    have q2 : w1.cell? ⟨w.heap.size, 2, none⟩ = some (.string row) := by rw [b1.cell (p := ⟨w.heap.size, 2, none⟩) (by simp)]; simp
    go_wp2_with fail
    refine (cD _ b01).mono ?_
    rintro e w2 ⟨rfl, z⟩
    have z2 := z.pre b01
    clear z cC cD
    go_wp2_with fail
    go_ret2
    exact ⟨rfl, z2⟩
  · have hE2 : (E != 0) = true := by simpa using hE
    generalize pg l' = P0 at *
    go_enter Try.func12, Try.ntmps12
    go_wp2_with fail
    refine (cC _).mono ?_
    rintro e w1 ⟨rfl, b1⟩
    have b01 := below2 b0 b1
    have q1 : w1.cell? ⟨w.heap.size, 1, none⟩ = some (.int .i64 slot) := by rw [b1.cell (p := ⟨w.heap.size, 1, none⟩) (by simp)]; simp
    have q2 : w1.cell? ⟨w.heap.size, 2, none⟩ = some (.string row) := by rw [b1.cell (p := ⟨w.heap.size, 2, none⟩) (by simp)]; simp
    go_wp2_with fail
    refine (cD _ b01).mono ?_
    rintro e w2 ⟨rfl, z⟩
    have z2 := z.pre b01
    clear z cC cD
    go_wp2_with fail
    go_ret2
    exact ⟨rfl, z2⟩

set_option maxHeartbeats 1600000 in
set_option maxRecDepth 100000 in
theorem play_2 {B : Nat} {w : World} {qb : Nat} {v : Value} {l : List Sl} (h : Pgr B w qb v l) (_hBw : B ≤ w.heap.size) (hF : Fine l) (slot : Int) (row : ByteArray) (_hs : i64ok slot) (_hr : row.size ≤ 1000000) :
    Calls Try.prog 12 #[.string (pg l), .pointer (some ⟨qb, 0, none⟩), .agg #[.int .i64 2, .int .i64 slot, .string row]] w fun e w' => e = .returned (.tuple #[.string (pg (delN l slot)), .bool true]) ∧ PTo B w qb v (delN l slot) w' := by
  obtain ⟨P, E, hO, hR, cC⟩ := del_pg hF slot _hs
  have HR : Hid (delE l slot = E) := hR.symm
  clear hR
  have cD := fun w' (hb : Below w.heap.size w w') => rdel_any (h.below hb) hF slot _hs E HR
  generalize hl' : delN l slot = l' at *
  clear hl' HR
  have b0 := below_alloc1 w (.cells #[.int .i64 2, .int .i64 slot, .string row] 33)
  rcases hO with ⟨rfl, rfl, hF'⟩ | ⟨hE, rfl, rfl⟩
  · have hsz : ((pg l').size : Int) = 512 := by rw [pg_size hF']; rfl
    generalize pg l' = P' at *
    generalize pg l = P0 at *
    go_enter Try.func12, Try.ntmps12
    go_wp2_with fail
    refine (cC _).mono ?_
    rintro e w1 ⟨rfl, b1⟩
    have b01 := below2 b0 b1
    have q1 : w1.cell? ⟨w.heap.size, 1, none⟩ = some (.int .i64 slot) := by rw [b1.cell (p := ⟨w.heap.size, 1, none⟩) (by simp)]; simp
    go_wp2_with fail
    refine (cD _ b01).mono ?_
    rintro e w2 ⟨rfl, z⟩
    have z2 := z.pre b01
    clear z cC cD
    go_wp2_with fail
    go_ret2
    exact ⟨rfl, z2⟩
  · have hE2 : (E != 0) = true := by simpa using hE
    generalize pg l' = P0 at *
    go_enter Try.func12, Try.ntmps12
    go_wp2_with fail
    refine (cC _).mono ?_
    rintro e w1 ⟨rfl, b1⟩
    have b01 := below2 b0 b1
    have q1 : w1.cell? ⟨w.heap.size, 1, none⟩ = some (.int .i64 slot) := by rw [b1.cell (p := ⟨w.heap.size, 1, none⟩) (by simp)]; simp
    go_wp2_with fail
    refine (cD _ b01).mono ?_
    rintro e w2 ⟨rfl, z⟩
    have z2 := z.pre b01
    clear z cC cD
    go_wp2_with fail
    go_ret2
    exact ⟨rfl, z2⟩

set_option maxHeartbeats 800000 in
theorem play_else {B : Nat} {w : World} {qb : Nat} {v : Value} {l : List Sl} (h : Pgr B w qb v l) (kind slot : Int) (row : ByteArray) (h0 : kind ≠ 0) (h1 : kind ≠ 1) (h2 : kind ≠ 2) :
    Calls Try.prog 12 #[.string (pg l), .pointer (some ⟨qb, 0, none⟩), .agg #[.int .i64 kind, .int .i64 slot, .string row]] w fun e w' => e = .returned (.tuple #[.string (pg l), .bool true]) ∧ PTo B w qb v l w' := by
  have k0 : (kind == 0) = false := by simpa using h0
  have k1 : (kind == 1) = false := by simpa using h1
  have k2 : (kind == 2) = false := by simpa using h2
  have b0 := below_alloc1 w (.cells #[.int .i64 kind, .int .i64 slot, .string row] 33)
  have z := (PTo.same (h.below b0)).pre b0
  clear h0 h1 h2
  go_enter Try.func12, Try.ntmps12
  go_wp2_with fail
  go_ret2
  exact ⟨rfl, z⟩

/-- What a step makes of the slots. -/
def stepN (l : List Sl) (x : St) : List Sl := if x.kind = 0 then insN l x.row else if x.kind = 1 then putN l x.slot x.row else if x.kind = 2 then delN l x.slot else l

theorem step_fine {l : List Sl} (hF : Fine l) (x : St) : Fine (stepN l x) := by
  unfold stepN insN putN delN
  split
  · split
    · exact ins_fine hF _ (by assumption)
    · exact hF
  · split
    · split
      · exact put_fine hF _ _ (by assumption)
      · exact hF
    · split
      · split
        · exact del_fine hF _
        · exact hF
      · exact hF

theorem play_any {B : Nat} {w : World} {qb : Nat} {v : Value} {l : List Sl} (h : Pgr B w qb v l) (hBw : B ≤ w.heap.size) (hF : Fine l) (x : St) (hs : i64ok x.slot) (hr : x.row.size ≤ 1000000) (l' : List Sl) (HL : Hid (stepN l x = l')) :
    Calls Try.prog 12 #[.string (pg l), .pointer (some ⟨qb, 0, none⟩), .agg #[.int .i64 x.kind, .int .i64 x.slot, .string x.row]] w fun e w' => e = .returned (.tuple #[.string (pg l'), .bool true]) ∧ PTo B w qb v l' w' := by
  have HL := HL.out
  subst HL
  unfold stepN
  by_cases k0 : x.kind = 0
  · rw [if_pos k0, k0]
    exact play_0 h hBw hF x.slot x.row hs hr
  · rw [if_neg k0]
    by_cases k1 : x.kind = 1
    · rw [if_pos k1, k1]
      exact play_1 h hBw hF x.slot x.row hs hr
    · rw [if_neg k1]
      by_cases k2 : x.kind = 2
      · rw [if_pos k2, k2]
        exact play_2 h hBw hF x.slot x.row hs hr
      · rw [if_neg k2]
        exact play_else h x.kind x.slot x.row k0 k1 k2

/-- A page that is new. -/
theorem Pgr.new (w : World) : Pgr w.heap.size (w.alloc (.cells #[.slice none 0 0] 29)) w.heap.size (.slice none 0 0) [] :=
  ⟨heap_alloc_new w _, ⟨World.ownsRow_nil _ _ _ _⟩, Nat.le_refl _, by simp [Value.ownBlock]⟩
theorem PTo.below {B : Nat} {W w w' : World} {qb : Nat} {v : Value} {l l' : List Sl} (h : Pgr B w qb v l) (hb : Below B W w) (hB : B ≤ w.heap.size) (z : PTo B w qb v l' w') : Below B W w' := by
  obtain ⟨v', _, f, _⟩ := z
  exact f.below hb hB (fun k r => (h.lt k r).1)

end Go.Proofs.Ytfgblmbocchddaa
