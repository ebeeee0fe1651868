/- slices.Repeat of one sector. -/
import Derived.Test.YtkjioabhdglkpaaGreatDBlock
import Derived.Test.YtkjioabhdglkpaaGreatShelf
import Derived.Laws.CopyOwn
import Derived.Deep.RegionLaw
namespace Go.Proofs.YtkjioabhdglkpaaGreat
open Go.RowKit

theorem Tryz.info114 : (Tryz.prog.info? 114).map (fun i => (i.zero, i.size, i.bytes)) = some (some (.agg #[.string ⟨#[]⟩, .string ⟨#[]⟩]), 2, 32) := by kernel_rfl

/-- copy, of elements of any size. -/
theorem run_copy_rowN {P : Program} (w : World) (dT sT ty elem : TypeId) (g o dLen dCap : Nat) (a : Addr) (sLen sCap m size : Nat) (i : TypeInfo) (cur : Array Value) (t : TypeId) (cs : List Value)
    (hu : P.underlying dT = some (.slice elem)) (hi : P.info? elem = some i) (hsz : i.size = size)
    (hg : w.heap[g]? = some (.cells cur t (0, 0))) (hm : m = Nat.min sLen dLen) (hn : cs.length = m * size)
    (hsrc : ∀ j v, cs[j]? = some v → w.cell? (a.add j) = some v) (hfit : o + cs.length ≤ cur.size) (h1 : ∀ v ∈ cs, v.oneCell' = true) :
    (Builtin.copy_ #[dT, sT] ty #[.slice (some ⟨g, o, none⟩) dLen dCap, .slice (some a) sLen sCap]).run P w =
      .ok (goInt m) (w.setRow g (cur.toList.take o ++ cs ++ cur.toList.drop (o + cs.length)).toArray) := by
  subst hsz hm
  have hl := run_loadCells_list (P := P) w a cs hsrc
  have hst := run_storeCells_at P g o t cs 0 cur w hg (by simpa using hfit) h1
  rw [hn] at hl
  simp [Builtin.copy_, run_underlying hu, Builtin.lenOf, Builtin.firstCells, sizeOf, typeInfo, hi, hl, hst]

/-- A row whose first cells are all one text. -/
def AllZ (w : World) (gs n k : Nat) (z : ByteArray) : Prop := ∃ cur : Array Value, w.heap[gs]? = some (.cells cur 114 (0, 0)) ∧ cur.size = n * 2 ∧ cur.toList.take (k * 2) = List.replicate (k * 2) (.string z)

theorem allZ_step {w : World} {gs n k m : Nat} {z : ByteArray} (h : AllZ w gs n k z) (hm : k + m ≤ n) (hmk : m ≤ k) (ty : TypeId) (c1 c2 : Nat) (i : TypeInfo) (hi : Tryz.prog.info? 114 = some i) (hsz : i.size = 2) (d : Nat) (hd : m = Nat.min k d) (o : Nat) (ho : o = k * 2) :
    ∃ w', (Builtin.copy_ #[101, 101] ty #[.slice (some ⟨gs, o, none⟩) d c1, .slice (some ⟨gs, 0, none⟩) k c2]).run Tryz.prog w = .ok (.int .i64 (m : Int)) w' ∧ AllZ w' gs n (k + m) z ∧ w.grownBy w' (some gs) := by
  subst ho
  obtain ⟨cur, h1, h2, h3⟩ := h
  have hc := run_copy_rowN (P := Tryz.prog) w 101 101 ty 114 gs (k * 2) d c1 ⟨gs, 0, none⟩ k c2 m 2 i cur 114 (List.replicate (m * 2) (.string z)) Tryz.underlying101 hi hsz h1 hd (by simp) (by
    intro j v hj
    rw [List.getElem?_replicate] at hj
    split at hj
    · rename_i hj2
      cases hj
      have hadd : (⟨gs, 0, none⟩ : Addr).add j = ⟨gs, j, none⟩ := by rw [Addr.add_lit, Nat.zero_add]
      rw [hadd, cell_of_row w gs j cur _ _ h1, ← Array.getElem?_toList]
      have := congrArg (·[j]?) h3
      simp only [List.getElem?_take, List.getElem?_replicate] at this
      rw [if_pos (by omega), if_pos (by omega)] at this
      exact this
    · cases hj) (by simp; omega) (by intro v hv; rw [List.mem_replicate] at hv; rw [hv.2]; rfl)
  refine ⟨_, hc, ⟨_, setRow_heap w gs cur _ _ _ h1, ?_, ?_⟩, ⟨rfl, rfl, rfl, by simp, fun k _ hk => setRow_other w gs k _ (fun e => hk (by simp [e]))⟩⟩
  · simp; omega
  · rw [h3, List.toList_toArray, List.take_left' (by simp; omega), Nat.add_mul, List.replicate_append_replicate]

set_option maxHeartbeats 800000 in
set_option maxRecDepth 100000 in
theorem srepeat_any (z : ByteArray) (n : Nat) (hn1 : 1 ≤ n) (hn2 : n ≤ 8192) (b0 : Nat) (w : World) (hc : w.cell? ⟨b0, 0, none⟩ = some (.string z)) (hc1 : w.cell? ⟨b0, 1, none⟩ = some (.string z)) :
    Calls Tryz.prog 71 #[.slice (some ⟨b0, 0, none⟩) 1 1, .int .i64 (n : Int)] w fun e w' =>
      e = .returned (.slice (some ⟨w.heap.size, 0, none⟩) n n) ∧ AllZ w' w.heap.size n n z ∧ Below w.heap.size w w' := by
  obtain ⟨i0, hi, hz0, hz1, hz2⟩ := info_parts Tryz.info114
  have hmul := fun w => Tryz.bits_Mul 1 n (by omega) (by omega) w
  rw [Nat.one_mul, Nat.div_eq_of_lt (by omega : n < 18446744073709551616), Nat.mod_eq_of_lt (by omega : n < 18446744073709551616)] at hmul
  obtain ⟨M, hM⟩ : ∃ M, M = madeCells (Value.agg #[.string ⟨#[]⟩, .string ⟨#[]⟩]).cells ((n : Int).toNat * i0.size) := ⟨_, rfl⟩
  have hmk : ∀ W : World, (Instr.makeSlice 101 (.int .i64 (n : Int)) (.int .i64 (n : Int))).run Tryz.prog W = .ok (.slice (some ⟨W.heap.size, 0, none⟩) n n) (W.alloc (.cells M 114)) := by
    intro W
    have h := run_make (P := Tryz.prog) W 101 114 i0 _ Tryz.underlying101 hi hz0 .i64 .i64 n n (by omega) (by omega) (by rw [hz2]; omega) (by omega)
    rw [← hM] at h
    simpa using h
  have hMs : M.size = n * 2 := by rw [hM, size_madeCells, hz1]; simp
  clear hM
  obtain ⟨w1, hcp1, ha1, hg1⟩ : ∃ w', (Builtin.copy_ #[101, 101] 3 #[.slice (some ⟨w.heap.size, 0, none⟩) n n, .slice (some ⟨b0, 0, none⟩) 1 1]).run Tryz.prog (w.alloc (.cells M 114)) = .ok (.int .i64 1) w' ∧ AllZ w' w.heap.size n 1 z ∧ (w.alloc (.cells M 114)).grownBy w' (some w.heap.size) := by
    have hc' := run_copy_rowN (P := Tryz.prog) (w.alloc (.cells M 114)) 101 101 3 114 w.heap.size 0 n n ⟨b0, 0, none⟩ 1 1 1 2 i0 M 114 [.string z, .string z] Tryz.underlying101 hi hz1 (heap_alloc_new w _) (by show 1 = min 1 n; omega) rfl (by
      intro j v hj
      match j, hj with
      | 0, hj =>
        simp at hj; subst hj
        rw [Addr.add_lit]
        exact ((below_alloc1 w _).cell (World.block_lt_of_cell? w _ hc)).trans hc
      | 1, hj =>
        simp at hj; subst hj
        rw [Addr.add_lit]
        exact ((below_alloc1 w _).cell (World.block_lt_of_cell? w _ hc1)).trans hc1) (by simp; omega) (by intro v hv; simp at hv; subst hv; rfl)
    refine ⟨_, hc', ⟨_, setRow_heap _ w.heap.size M _ _ _ (heap_alloc_new w _), ?_, ?_⟩, ⟨rfl, rfl, rfl, by simp, fun k _ hk => setRow_other _ w.heap.size k _ (fun e => hk (by simp [e]))⟩⟩
    · simp; omega
    · simp
  have hb1 : Below w.heap.size w w1 := (below_alloc1 w _).trans ((Below.refl _ _).grown hg1 (by simp) (fun k hk => by cases hk; exact Nat.le_refl _))
  have hn0 : decide ((n : Int) < 0) = false := by simp
  have hnb : decide (9223372036854775807 < (n : Int)) = false := by simp; omega
  go_enter Tryz.func71, Tryz.ntmps71
  go_wp2_with fail
  refine (hmul _).mono ?_
  rintro e w0 ⟨rfl, e0⟩
  rw [e0]
  go_wp2_with fail
  go_loopw [8] (fun si wr => ∃ k : Nat, 1 ≤ k ∧ k ≤ n ∧ si = .int .i64 (k : Int) ∧ AllZ wr w.heap.size n k z ∧ Below w.heap.size w wr) (fun si _ => n - (intOf si).toNat)
  case atStart => exact ⟨1, by omega, by omega, rfl, ha1, hb1⟩
  case round =>
    obtain ⟨k, hk1, hkn, rfl, ha, hb⟩ := hrel
    by_cases hlt : k < n
    · obtain ⟨m, hm⟩ : ∃ m, m = Nat.min k (n - k) := ⟨_, rfl⟩
      have hm' : m = min k (n - k) := hm
      have hd : AllZ wr.drew w.heap.size n k z := ha
      obtain ⟨w2, hcp, ha2, hg2⟩ := allZ_step hd (m := m) (by omega) (by omega) 3 (n - k) n i0 hi hz1 (n - k) hm (k * 2) rfl
      have hlt2 : (k : Int) < (n : Int) := by omega
      have hle2 : (k : Int) ≤ (n : Int) := by omega
      have b1 : k + m ≤ n := by omega
      have b2 : 1 ≤ m := by omega
      clear hm hm'
      go_wp2_with fail
      go_region
      go_roundw
      case rel =>
        exact ⟨.int .i64 ((k + m : Nat) : Int), _, _, _, _, _, _, _, _, _, _, _, _, _, ⟨k + m, by omega, b1, rfl, ha2, hb.drew.grown hg2 hb.size (fun k hk => by cases hk; exact Nat.le_refl _)⟩, rfl⟩
      case measure => simp [intOf]; omega
    · obtain rfl : k = n := by omega
      go_wp2_with fail
      go_ret
      exact ⟨rfl, ha, hb⟩

end Go.Proofs.YtkjioabhdglkpaaGreat
