/- New. -/
import Derived.Test.YtkjioabhdglkpaaGreatQFlush
import Derived.Test.YtkjioabhdglkpaaGreatQEvict
namespace Go.Proofs.YtkjioabhdglkpaaGreat
open Go.RowKit

theorem chan_bytes : ∃ i, Tryz.prog.info? 84 = some i ∧ i.bytes = 8 := by
  have h : (Tryz.prog.info? 84).map (·.bytes) = some 8 := by kernel_rfl
  obtain ⟨i, hi, hb⟩ := Option.map_eq_some_iff.1 h
  exact ⟨i, hi, hb⟩
theorem mk_chan (n : Nat) (hn : n ≤ 64) (w : World) : (Instr.makeChan 98 (.int .i64 (n : Int))).run Tryz.prog w = .ok (.chan (some w.heap.size)) (w.alloc (.chan n #[] false 0 0 false)) := by
  obtain ⟨i, hi, hb⟩ := chan_bytes
  exact Conc.run_makeChan (P := Tryz.prog) (w := w) Tryz.underlying98 hi .i64 n (by omega) (by rw [hb]; omega)

theorem heap_alloc_old (w : World) (o : Obj) {k : Nat} (hk : k < w.heap.size) : (w.alloc o).heap[k]? = w.heap[k]? := (below_alloc1 w o).block k hk
theorem heap_alloc_at (w : World) (o : Obj) {k : Nat} (hk : k = w.heap.size) : (w.alloc o).heap[k]? = some o := by rw [hk]; exact heap_alloc_new _ _

section
variable {B bd : Nat} {w : World}

set_option maxHeartbeats 800000 in
theorem pnew_nil (n : Int) : Calls Tryz.prog 23 #[.pointer none, .int .i64 n] w fun e w' => e = .returned (.tuple #[.pointer none, .int .i64 1]) ∧ w' = w := by
  go_enter Tryz.func23, Tryz.ntmps23
  go_wp2_with fail
  go_ret2
  exact ⟨rfl, rfl⟩

set_option maxHeartbeats 800000 in
theorem pnew_bad (g : Nat) (n : Int) (hn : n < 1 ∨ 64 < n) : Calls Tryz.prog 23 #[.pointer (some ⟨g, 0, none⟩), .int .i64 n] w fun e w' => e = .returned (.tuple #[.pointer none, .int .i64 1]) ∧ w' = w := by
  rcases hn with h | h
  · have h1 : decide (n < 1) = true := by simpa using h
    clear h
    go_enter Tryz.func23, Tryz.ntmps23
    go_wp2_with fail
    go_ret2
    exact ⟨rfl, rfl⟩
  · have h1 : decide (n < 1) = false := by simp; omega
    have h2 : decide (64 < n) = true := by simpa using h
    clear h
    go_enter Tryz.func23, Tryz.ntmps23
    go_wp2_with fail
    go_ret2
    exact ⟨rfl, rfl⟩

/-- The frames' blocks. -/
def blks (s k : Nat) : List Nat := (List.range k).map (fun j => s + j)
theorem blks_succ (s k : Nat) : blks s (k + 1) = blks s k ++ [s + k] := by simp [blks, List.range_succ]
theorem blks_mem {s k b : Nat} (h : b ∈ blks s k) : s ≤ b ∧ b < s + k := by
  simp only [blks, List.mem_map, List.mem_range] at h
  obtain ⟨j, hj, rfl⟩ := h
  omega
theorem blks_nd (s k : Nat) : (blks s k).Nodup := by
  induction k with
  | zero => simp [blks]
  | succ k ih =>
    rw [blks_succ]
    refine List.nodup_append.2 ⟨ih, by simp, fun a ha c hc e => ?_⟩
    simp at hc
    have := blks_mem ha
    omega
theorem blks_len (s k : Nat) : (blks s k).length = k := by simp [blks]

/-- What New has laid behind k frames. -/
structure Nw (w : World) (g n k : Nat) (wr : World) : Prop where
  size : wr.heap.size = w.heap.size + 2 + k
  chan : ∃ s, wr.heap[w.heap.size]? = some (.chan n ((blks (w.heap.size + 2) k).map ptr).toArray false s 0 false)
  pool : wr.heap[w.heap.size + 1]? = some (.cells #[.pointer (some ⟨g, 0, none⟩), .chan (some w.heap.size), .slice none 0 0, .int .i64 0, .int .i64 0] 100 (0, 0))
  fr : ∀ b ∈ blks (w.heap.size + 2) k, wr.heap[b]? = some (fobj Fm0)
  bel : Below w.heap.size w wr

theorem Nw.next {g n k : Nat} {wr : World} (h : Nw w g n k wr) {s : Nat} : Nw w g n (k + 1) ((wr.alloc (fobj Fm0)).setChan w.heap.size n ((blks (w.heap.size + 2) k).map ptr ++ [Value.pointer (some ⟨w.heap.size + 2 + k, 0, none⟩)]).toArray false s 0 false) := by
  have hs := h.size
  have ne : ∀ b, b ≠ w.heap.size → ((wr.alloc (fobj Fm0)).setChan w.heap.size n ((blks (w.heap.size + 2) k).map ptr ++ [Value.pointer (some ⟨w.heap.size + 2 + k, 0, none⟩)]).toArray false s 0 false).heap[b]? = (wr.alloc (fobj Fm0)).heap[b]? := fun b hb => by
    simp only [World.setChan]
    rw [Array.getElem?_setIfInBounds_ne (fun z => hb z.symm)]
  have old : ∀ b, b < wr.heap.size → (wr.alloc (fobj Fm0)).heap[b]? = wr.heap[b]? := fun b hb => (below_alloc1 wr _).block b hb
  refine ⟨?_, ⟨s, ?_⟩, ?_, ?_, ?_⟩
  · rw [Conc.size_setChan]
    simp [hs]
    omega
  · rw [Conc.heap_setChan _ _ _ _ _ _ _ _ (by simp; omega), blks_succ]
    simp [ptr]
  · rw [ne _ (by omega), old _ (by omega)]
    exact h.pool
  · intro b hb
    rw [blks_succ] at hb
    rcases List.mem_append.1 hb with q | q
    · have := blks_mem q
      rw [ne _ (by omega), old _ (by omega)]
      exact h.fr b q
    · rw [List.mem_singleton] at q
      subst q
      rw [ne _ (by omega), ← hs]
      exact heap_alloc_new _ _
  · exact Conc.below_setChan (below2 h.bel (below_alloc1 wr _)) (Nat.le_refl _) _ _ _ _ _ _

set_option maxHeartbeats 1600000 in
set_option maxRecDepth 100000 in
theorem pnew_ok (g n : Nat) (h1 : 1 ≤ n) (h2 : n ≤ 64) : Calls Tryz.prog 23 #[.pointer (some ⟨g, 0, none⟩), .int .i64 (n : Int)] w fun e w' => e = .returned (.tuple #[.pointer (some ⟨w.heap.size + 1, 0, none⟩), .int .i64 0]) ∧ Nw w g n n w' := by
  have d1 : decide ((n : Int) < 1) = false := by simp; omega
  have d2 : decide (64 < (n : Int)) = false := by simp; omega
  have hmc := mk_chan n h2
  go_enter Tryz.func23, Tryz.ntmps23
  go_upto_region 4 with fail
  clear hmc d1 d2
  go_wp2_with fail
  go_loopw [23] (fun si wr => ∃ k : Nat, k ≤ n ∧ si = .int .i64 (k : Int) ∧ Nw w g n k wr) (fun si _ => n - (intOf si).toNat)
  case atStart =>
    refine ⟨0, Nat.zero_le _, rfl, ⟨by simp, ⟨0, ?_⟩, ?_, fun b hb => by simp [blks] at hb, ?_⟩⟩
    · rw [heap_alloc_old _ _ (by simp)]
      exact heap_alloc_new _ _
    · exact heap_alloc_at _ _ (by simp)
    · exact below2 (below_alloc1 _ _) (below_alloc1 _ _)
  case round =>
    obtain ⟨k, hk, rfl, hnw⟩ := hrel
    have hs := hnw.size
    obtain ⟨cs, kc⟩ := hnw.chan
    have hpc : wr.cell? ⟨w.heap.size + 1, 1, none⟩ = some (.chan (some w.heap.size)) := by simp [World.cell?, hnw.pool]
    have HN : Hid (Nw w g n k wr) := hnw
    by_cases hlt : k < n
    · have hlt2 : (k : Int) < (n : Int) := by omega
      clear hnw
      go_upto_region 6 with fail
      refine OpsTo.region ?_
      show OpsTo _ _ _ [0, 1, 2, 3, 4, 5, 6] _ _
      refine OpsTo.valS 25 (.pointer (some ⟨w.heap.size + 1, 0, none⟩)) rfl rfl rfl (by go_simp) ?_
      simp only [List.setIfInBounds_toArray, List.set_cons_zero, List.set_cons_succ]
      refine OpsTo.valS 26 (.pointer (some ⟨w.heap.size + 1, 0, none⟩)) rfl rfl rfl (by go_simp) ?_
      simp only [List.setIfInBounds_toArray, List.set_cons_zero, List.set_cons_succ]
      refine OpsTo.valS 27 (.pointer (some ⟨w.heap.size + 1, 1, none⟩)) rfl rfl rfl (by go_simp) ?_
      simp only [List.setIfInBounds_toArray, List.set_cons_zero, List.set_cons_succ]
      refine OpsTo.valS 28 (.chan (some w.heap.size)) rfl rfl rfl (by go_simp) ?_
      simp only [List.setIfInBounds_toArray, List.set_cons_zero, List.set_cons_succ]
      refine OpsTo.valS 29 (.agg #[.int .i64 0, .string ⟨#[]⟩, .int .i64 0, .bool false]) rfl rfl rfl (by go_simp) ?_
      simp only [List.setIfInBounds_toArray, List.set_cons_zero, List.set_cons_succ]
      refine OpsTo.valD 30 (.pointer (some ⟨wr.heap.size, 0, none⟩)) (wr.alloc (.cells #[.int .i64 0, .string ⟨#[]⟩, .int .i64 0, .bool false] 117)) rfl rfl rfl (by go_simp) ?_
      simp only [List.setIfInBounds_toArray, List.set_cons_zero, List.set_cons_succ]
      have kc2 : (wr.alloc (.cells #[.int .i64 0, .string ⟨#[]⟩, .int .i64 0, .bool false] 117)).heap[w.heap.size]? = some (.chan n ((blks (w.heap.size + 2) k).map ptr).toArray false cs 0 false) := ((below_alloc1 wr _).block _ (by omega)).trans kc
      refine OpsTo.sendD w.heap.size (.pointer (some ⟨wr.heap.size, 0, none⟩)) rfl rfl rfl (by simp [execOp, Conc.scase, Act.eval]) kc2 (by simp [blks_len]; omega) ?_
      rw [List.push_toArray]
      refine OpsTo.done ?_
      simp only [Exit.inBlock, Exit.then]
      have HN2 : Hid (∀ s, Nw w g n (k + 1) _) := fun s => HN.out.next (s := s)
      clear kc kc2 hpc
      go_wp2_with fail
      go_roundw
      case rel =>
        refine ⟨k + 1, by omega, by go_num, ?_⟩
        exact HN2.out _
      case measure => simp [intOf]; omega
    · obtain rfl : k = n := by omega
      clear hnw
      go_wp2_with fail
      go_ret2
      exact ⟨rfl, HN.out⟩

def px0 (w : World) (g gs : Nat) (dv : Value) (n : Nat) (D : DS) : PX :=
  { p := w.heap.size + 1, c := w.heap.size, g := g, gs := gs, fv := .slice none 0 0, hv := .slice none 0 0, dv := dv, n := n, L := [], O := [], F := blks (w.heap.size + 2) n, rd := 0, wr := 0, D := D }

theorem Nw.pd {g gs n : Nat} {dv : Value} {D : DS} {w' : World} (h : Nw w g n n w') (hd : Dev B w g gs dv D) (hB : B ≤ w.heap.size) : Pd B w' (px0 w g gs dv n D) := by
  obtain ⟨s, hc⟩ := h.chan
  refine ⟨h.pool, ⟨s, 0, hc⟩, World.ownsRow_nil _ _ _ _, fun y hy => (by cases hy), fun b hb => ⟨h.fr b hb, by have := blks_mem hb; omega⟩, ?_, ?_, ?_, hB, hd.below h.bel⟩
  · exact blks_nd _ _
  · show 0 + 0 + (blks (w.heap.size + 2) n).length = n
    rw [blks_len]
    omega
  · show B ≤ w.heap.size + 1
    omega

/-- A new pool of a device. -/
theorem new_pool (g gs n : Nat) (dv : Value) (D : DS) (bd : Nat) (h1 : 1 ≤ n) (h2 : n ≤ 64) (hd : Dev B w g gs dv D) (hI : Inv bd D) (hB : B ≤ w.heap.size) :
    Calls Tryz.prog 23 #[.pointer (some ⟨g, 0, none⟩), .int .i64 (n : Int)] w fun e w' => ∃ x, e = .returned (.tuple #[.pointer (some ⟨x.p, 0, none⟩), .int .i64 0]) ∧ Pd B w' x ∧ Good bd x ∧ x.st = ⟨n, [], 0, 0, D⟩ ∧ x.g = g ∧ x.gs = gs ∧ Below w.heap.size w w' := by
  refine (pnew_ok g n h1 h2).mono ?_
  rintro e w' ⟨rfl, hn⟩
  exact ⟨px0 w g gs dv n D, rfl, hn.pd hd hB, ⟨rfl, rfl, ⟨hI, fun f hf => (by cases hf), by simp [px0, PX.st, frs], ⟨h1, h2⟩, Nat.zero_le _, Nat.zero_le _, Nat.zero_le _⟩⟩, rfl, rfl, rfl, hn.bel⟩
end
end Go.Proofs.YtkjioabhdglkpaaGreat
