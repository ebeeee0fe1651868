/- Layer 10: slices.Clone at entries and at the addresses of nodes. -/
import Derived.Test.YtkfoddblgdmabaaTrTake
import Derived.Shelf.RegionOpenPlain
import Derived.Deep.RegionLaw
namespace Go.Proofs.Ytkfoddblgdmabaa.tr
open Go.RowKit Go.Lib Go.Shelf

set_option maxHeartbeats 2000000 in
set_option maxRecDepth 100000 in
theorem cloneE_some {w : World} (b off c : Nat) (l : List Ent) (hlen : l.length ≤ 90000) (hc : ∀ j u, (l.flatMap gE)[j]? = some u → w.cell? ⟨b, off + j, none⟩ = some u) : Calls Try.prog 52 #[.slice (some ⟨b, off, none⟩) l.length c] w fun e w' => ∃ v', e = .returned v' ∧ GRow 58 2 gE w' w.heap.size v' l ∧ Below w.heap.size w w' := by
  obtain ⟨i0, hi0, hz0, hz1, hz2⟩ := info_parts Try.infoE
  have q22 : ∀ (w : World) (a : Option Addr) (n c n' c' : Nat), (binOp .eql 45 (.slice a n c) (.slice none n' c')).run Try.prog w = .ok (.bool a.isNone) w := fun w a n c n' c' => Lib.run_eql_slice_nil w _ _ a n c n' c' Try.underlying45
  have HC : Hid (∀ j u, (l.flatMap gE)[j]? = some u → w.cell? ⟨b, off + j, none⟩ = some u) := hc
  clear hc
  obtain ⟨n, hn⟩ : ∃ n, l.length = n := ⟨_, rfl⟩
  have HN : Hid (l.length = n) := hn
  rw [hn] at hlen ⊢
  clear hn
  go_enter Try.func52, Try.ntmps52
  go_wp2_with (at_builtin; refine wpList_append_own _ rfl _ _ 45 rfl w.heap.size 58 i0 _ 2 24 Try.underlying45 hi0 hz0 hz1 hz2 rfl (by decide) _ _ _ rfl (World.ownsRow_made w #[] 0 (Nat.le_refl _) (Nat.zero_le _) (by simp)) ⟨b, off, none⟩ n c (l.flatMap gE) rfl ?qc1 ?qc2 ?qc3 ?qc4 ?qc5 ?qc6 ?_)
  case qc1 => rw [flat_len gE_len, HN.out]
  case qc2 =>
    intro j u hj
    rw [Addr.add_lit]
    exact Lib.cell?_alloc_some _ (HC.out j u hj)
  case qc3 =>
    intro u hu
    obtain ⟨y, _, hy⟩ := List.mem_flatMap.1 hu
    exact gE_one y u hy
  case qc4 => rw [Nat.zero_add]; unfold maxLen; omega
  case qc5 => rw [Nat.zero_add]; omega
  case qc6 => simp
  intro v' w1 hown hgrow hnil
  have hr : GRow 58 2 gE w1 w.heap.size v' l := ⟨by rw [HN.out]; simpa using hown⟩
  have hbl : Below w.heap.size w w1 := (below_alloc1 w _).grown hgrow (by simp) (by intro k hk; simp [Value.ownBlock] at hk; omega)
  clear hown hgrow
  go_wp2
  go_ret
  exact ⟨v', rfl, hr, hbl⟩
set_option maxHeartbeats 1000000 in
theorem cloneE_nil (w : World) (n c : Nat) : Calls Try.prog 52 #[.slice none n c] w fun e w' => e = .returned (.slice none 0 0) ∧ w' = w := by
  have q22 : ∀ (w : World) (a : Option Addr) (n c n' c' : Nat), (binOp .eql 45 (.slice a n c) (.slice none n' c')).run Try.prog w = .ok (.bool a.isNone) w := fun w a n c n' c' => Lib.run_eql_slice_nil w _ _ a n c n' c' Try.underlying45
  go_enter Try.func52, Try.ntmps52
  go_wp2
  go_ret
  exact ⟨rfl, rfl⟩
/-- The whole of a row. -/
theorem cloneE_any {w : World} {B : Nat} {v : Value} {l : List Ent} (h : GRow 58 2 gE w B v l) (hlen : l.length ≤ 90000) : Calls Try.prog 52 #[v] w fun e w' => ∃ v', e = .returned v' ∧ GRow 58 2 gE w' w.heap.size v' l ∧ Below w.heap.size w w' := by
  rcases h.own.2 with ⟨rfl, e⟩ | ⟨b, cap, cur, rfl, hb, hq, _⟩
  · refine (cloneE_nil w 0 0).mono ?_
    rintro e' w' ⟨rfl, rfl⟩
    have : l = [] := List.eq_nil_of_length_eq_zero e
    subst this
    exact ⟨_, rfl, grow_nil _ _ _ _ _, Below.refl _ _⟩
  · refine cloneE_some b 0 cap l hlen (fun j u hj => ?_)
    have hlt : j < (l.flatMap gE).length := (List.getElem?_eq_some_iff.1 hj).1
    rw [flat_len gE_len] at hlt
    rw [Nat.zero_add, h.own.cellAt j hlt]
    exact hj
/-- What lies behind a place of a row. -/
theorem cloneE_tail {w : World} {B b c i : Nat} {l : List Ent} (h : GRow 58 2 gE w B (.slice (some ⟨b, 0, none⟩) l.length c) l) (hlen : l.length ≤ 90000) (hi : i ≤ l.length) (d : Nat) (off : Nat) (ho : off = i * 2 ∨ i = l.length) : Calls Try.prog 52 #[.slice (some ⟨b, off, none⟩) (l.length - i) d] w fun e w' => ∃ v', e = .returned v' ∧ GRow 58 2 gE w' w.heap.size v' (l.drop i) ∧ Below w.heap.size w w' := by
  rw [← List.length_drop]
  refine cloneE_some b off d (l.drop i) (by rw [List.length_drop]; omega) (fun j u hj => ?_)
  have hlt : j < ((l.drop i).flatMap gE).length := (List.getElem?_eq_some_iff.1 hj).1
  rw [flat_len gE_len, List.length_drop] at hlt
  rcases ho with rfl | rfl
  · rw [h.own.cellAt _ (by omega)]
    rw [← flat_drop gE_len l i hi, List.getElem?_drop] at hj
    exact hj
  · omega

set_option maxHeartbeats 2000000 in
set_option maxRecDepth 100000 in
theorem cloneK_some {w : World} (b off c : Nat) (l : List Nat) (hlen : l.length ≤ 90000) (hc : ∀ j u, (l.flatMap gK)[j]? = some u → w.cell? ⟨b, off + j, none⟩ = some u) : Calls Try.prog 61 #[.slice (some ⟨b, off, none⟩) l.length c] w fun e w' => ∃ v', e = .returned v' ∧ GRow 65 1 gK w' w.heap.size v' l ∧ Below w.heap.size w w' := by
  obtain ⟨i0, hi0, hz0, hz1, hz2⟩ := info_parts Try.infoK
  have q22 : ∀ (w : World) (a : Option Addr) (n c n' c' : Nat), (binOp .eql 66 (.slice a n c) (.slice none n' c')).run Try.prog w = .ok (.bool a.isNone) w := fun w a n c n' c' => Lib.run_eql_slice_nil w _ _ a n c n' c' Try.underlying66
  have HC : Hid (∀ j u, (l.flatMap gK)[j]? = some u → w.cell? ⟨b, off + j, none⟩ = some u) := hc
  clear hc
  obtain ⟨n, hn⟩ : ∃ n, l.length = n := ⟨_, rfl⟩
  have HN : Hid (l.length = n) := hn
  rw [hn] at hlen ⊢
  clear hn
  go_enter Try.func61, Try.ntmps61
  go_wp2_with (at_builtin; refine wpList_append_own _ rfl _ _ 66 rfl w.heap.size 65 i0 _ 1 8 Try.underlying66 hi0 hz0 hz1 hz2 rfl (by decide) _ _ _ rfl (World.ownsRow_made w #[] 0 (Nat.le_refl _) (Nat.zero_le _) (by simp)) ⟨b, off, none⟩ n c (l.flatMap gK) rfl ?qc1 ?qc2 ?qc3 ?qc4 ?qc5 ?qc6 ?_)
  case qc1 => rw [flat_len gK_len, HN.out]
  case qc2 =>
    intro j u hj
    rw [Addr.add_lit]
    exact Lib.cell?_alloc_some _ (HC.out j u hj)
  case qc3 =>
    intro u hu
    obtain ⟨y, _, hy⟩ := List.mem_flatMap.1 hu
    exact gK_one y u hy
  case qc4 => rw [Nat.zero_add]; unfold maxLen; omega
  case qc5 => rw [Nat.zero_add]; omega
  case qc6 => simp
  intro v' w1 hown hgrow hnil
  have hr : GRow 65 1 gK w1 w.heap.size v' l := ⟨by rw [HN.out]; simpa using hown⟩
  have hbl : Below w.heap.size w w1 := (below_alloc1 w _).grown hgrow (by simp) (by intro k hk; simp [Value.ownBlock] at hk; omega)
  clear hown hgrow
  go_wp2
  go_ret
  exact ⟨v', rfl, hr, hbl⟩
set_option maxHeartbeats 1000000 in
theorem cloneK_nil (w : World) (n c : Nat) : Calls Try.prog 61 #[.slice none n c] w fun e w' => e = .returned (.slice none 0 0) ∧ w' = w := by
  have q22 : ∀ (w : World) (a : Option Addr) (n c n' c' : Nat), (binOp .eql 66 (.slice a n c) (.slice none n' c')).run Try.prog w = .ok (.bool a.isNone) w := fun w a n c n' c' => Lib.run_eql_slice_nil w _ _ a n c n' c' Try.underlying66
  go_enter Try.func61, Try.ntmps61
  go_wp2
  go_ret
  exact ⟨rfl, rfl⟩
/-- The whole of a row. -/
theorem cloneK_any {w : World} {B : Nat} {v : Value} {l : List Nat} (h : GRow 65 1 gK w B v l) (hlen : l.length ≤ 90000) : Calls Try.prog 61 #[v] w fun e w' => ∃ v', e = .returned v' ∧ GRow 65 1 gK w' w.heap.size v' l ∧ Below w.heap.size w w' := by
  rcases h.own.2 with ⟨rfl, e⟩ | ⟨b, cap, cur, rfl, hb, hq, _⟩
  · refine (cloneK_nil w 0 0).mono ?_
    rintro e' w' ⟨rfl, rfl⟩
    have : l = [] := List.eq_nil_of_length_eq_zero e
    subst this
    exact ⟨_, rfl, grow_nil _ _ _ _ _, Below.refl _ _⟩
  · refine cloneK_some b 0 cap l hlen (fun j u hj => ?_)
    have hlt : j < (l.flatMap gK).length := (List.getElem?_eq_some_iff.1 hj).1
    rw [flat_len gK_len] at hlt
    rw [Nat.zero_add, h.own.cellAt j hlt]
    exact hj
/-- What lies behind a place of a row. -/
theorem cloneK_tail {w : World} {B b c i : Nat} {l : List Nat} (h : GRow 65 1 gK w B (.slice (some ⟨b, 0, none⟩) l.length c) l) (hlen : l.length ≤ 90000) (hi : i ≤ l.length) (d : Nat) (off : Nat) (ho : off = i * 1 ∨ i = l.length) : Calls Try.prog 61 #[.slice (some ⟨b, off, none⟩) (l.length - i) d] w fun e w' => ∃ v', e = .returned v' ∧ GRow 65 1 gK w' w.heap.size v' (l.drop i) ∧ Below w.heap.size w w' := by
  rw [← List.length_drop]
  refine cloneK_some b off d (l.drop i) (by rw [List.length_drop]; omega) (fun j u hj => ?_)
  have hlt : j < ((l.drop i).flatMap gK).length := (List.getElem?_eq_some_iff.1 hj).1
  rw [flat_len gK_len, List.length_drop] at hlt
  rcases ho with rfl | rfl
  · rw [h.own.cellAt _ (by omega)]
    rw [← flat_drop gK_len l i hi, List.getElem?_drop] at hj
    exact hj
  · omega

end Go.Proofs.Ytkfoddblgdmabaa.tr
