/- Layer 10: spots: the last one of a way, its entry, the one ahead; a way that goes on down. -/
import Derived.Test.YtkfoddblgdmabaaTrWay
namespace Go.Proofs.Ytkfoddblgdmabaa.tr
open Go.RowKit

section
variable {w : World} {B : Nat} {M : Mp} {f R H : Nat}

theorem agg_new (W : World) (a b : Value) : (W.alloc (.cells #[a, b] 76)).heap[W.heap.size]? = some (.cells #[a, b] 76 (0, 0)) := heap_alloc_new W _
theorem spot_set {W : World} {x : Nat} {a b u v : Value} (h : W.heap[x]? = some (.cells #[a, b] 76 (0, 0))) : ((W.setCell ⟨x, 0, none⟩ u).setCell ⟨x, 1, none⟩ v).heap[x]? = some (.cells #[u, v] 76 (0, 0)) :=
  heap_setCell_same _ x 1 _ _ v (heap_setCell_same W x 0 _ _ u h)

set_option maxHeartbeats 1600000 in
theorem last_any {v : Value} {way : List (Nat × Nat)} (hr : RowS w B v way) {q : Nat × Nat} (hq : way.getLast? = some q) : Calls Try.prog 30 #[v] w fun e w' => e = .returned (.agg #[.pointer (some ⟨q.1, 0, none⟩), .int .i64 (q.2 : Int)]) ∧ Below w.heap.size w w' := by
  obtain ⟨n, hn⟩ : ∃ n, way.length = n + 1 := by
    cases way with
    | nil => simp at hq
    | cons a l => exact ⟨l.length, rfl⟩
  have hi : way[n]? = some q := by
    rw [List.getLast?_eq_getElem?, hn] at hq
    exact hq
  obtain ⟨b, c, e, hlc, _, hb, hc⟩ := hr.cell gS_len hi
  obtain ⟨a', c', e', _, hcm⟩ := hr.len
  rw [e] at e'
  cases e'
  unfold maxLen at hcm
  rw [hn] at e hlc
  subst e
  have k0 := (hc 0 _ rfl).1
  have k1 := (hc 1 _ rfl).1
  rw [Nat.add_zero] at k0
  have h1 : ((n + 1 : Nat) : Int) - 1 = (n : Int) := by omega
  have h2 : (n : Int) < (n : Int) + 1 := by omega
  clear hc hr hi hq hn
  obtain ⟨q1, q2⟩ := q
  go_enter Try.func30, Try.ntmps30
  go_wp2_with fail
  refine bodyPost_ret (v := .agg #[.pointer (some ⟨q1, 0, none⟩), .int .i64 (q2 : Int)]) (by simp [results, Try.results30, go_sem]) rfl ⟨rfl, below_alloc1 _ _⟩
set_option maxHeartbeats 1600000 in
theorem before_any (b i j : Nat) (hij : i + 1 = j) (hi : i ≤ 100000) : Calls Try.prog 43 #[.agg #[.pointer (some ⟨b, 0, none⟩), .int .i64 (j : Int)]] w fun e w' => e = .returned (.agg #[.pointer (some ⟨b, 0, none⟩), .int .i64 (i : Int)]) ∧ Below w.heap.size w w' := by
  have h1 : (j : Int) - 1 = (i : Int) := by omega
  have h2 : (j : Int) ≤ 100001 := by omega
  have h3 : (1 : Int) ≤ (j : Int) := by omega
  have h4 : (i : Int) ≤ 100000 := by omega
  clear hij
  go_enter Try.func43, Try.ntmps43
  go_wp2_with fail
  refine bodyPost_ret (v := .agg #[.pointer (some ⟨b, 0, none⟩), .int .i64 (i : Int)]) (by simp [results, Try.results43, go_sem]) rfl ⟨rfl, below2 (below_alloc1 _ _) (below_alloc1 _ _)⟩
set_option maxHeartbeats 1600000 in
theorem entry_any {b i : Nat} {n : Nr} {x : Ent} (m : Mm w B M) (hn : M b = some n) (hx : n.es[i]? = some x) : Calls Try.prog 31 #[.agg #[.pointer (some ⟨b, 0, none⟩), .int .i64 (i : Int)]] w fun e w' => (∃ rb c, n.ev = .slice (some ⟨rb, 0, none⟩) n.es.length c ∧ e = .returned (.pointer (some ⟨rb, i * 2, none⟩))) ∧ Below w.heap.size w w' := by
  obtain ⟨rb, rc, e1, hlc, hcm, hrb, d0, d1, _, _⟩ := m.ent hn hx
  have hW := below_alloc1 w (.cells #[.pointer (some ⟨b, 0, none⟩), .int .i64 (i : Int)] 76)
  obtain ⟨c0, _, _, _⟩ := ncell ((m.below hW).top b n hn).1
  obtain ⟨s0, sf0⟩ := cell_obj (j := 0) (agg_new w (.pointer (some ⟨b, 0, none⟩)) (.int .i64 (i : Int)))
  obtain ⟨s1, sf1⟩ := cell_obj (j := 1) (agg_new w (.pointer (some ⟨b, 0, none⟩)) (.int .i64 (i : Int)))
  have s0' : (w.alloc (.cells #[.pointer (some ⟨b, 0, none⟩), .int .i64 (i : Int)] 76)).cell? ⟨w.heap.size, 0, none⟩ = some (.pointer (some ⟨b, 0, none⟩)) := s0.trans rfl
  have s1' : (w.alloc (.cells #[.pointer (some ⟨b, 0, none⟩), .int .i64 (i : Int)] 76)).cell? ⟨w.heap.size, 1, none⟩ = some (.int .i64 (i : Int)) := s1.trans rfl
  have hil : (i : Int) < (n.es.length : Int) := by have := (List.getElem?_eq_some_iff.1 hx).1; omega
  unfold maxLen at hcm
  rw [e1] at c0
  have HE1 : Hid (n.ev = .slice (some ⟨rb, 0, none⟩) n.es.length rc) := e1
  clear e1 m s0 s1 sf0 sf1
  go_enter Try.func31, Try.ntmps31
  go_wp2_with fail
  generalize w.alloc (.cells #[.pointer (some ⟨b, 0, none⟩), .int .i64 (i : Int)] 76) = W1 at *
  go_quiet (fail)
  go_wp2
  go_ret
  exact ⟨⟨rb, rc, HE1.out, rfl⟩, hW.trans ((below_drewN _ _).mono hW.size)⟩
end

end Go.Proofs.Ytkfoddblgdmabaa.tr
