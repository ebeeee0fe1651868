/- The contract of the document's Set; Get and Set of any list. -/
import Derived.Test.YtndbhalkhejgjaaVRefSet
namespace Go.Proofs.Ytndbhalkhejgjaa
open Go.RowKit

/-- What stands while the document's Set goes over a list. -/
structure RefAt (w wr : World) (box : Obj) (v : Value) (A : List Pr) : Prop where
  own : wr.ownsRow (w.heap.size + 1) 62 4 v A.length (cellsL A)
  bel : Below (w.heap.size + 1) (w.alloc box) wr
  size : w.heap.size + 1 ≤ wr.heap.size

theorem RefAt.push {w wr w1 : World} {box o : Obj} {v v1 : Value} {p : Pr} {A : List Pr} (h : RefAt w wr box v A) (hg : (wr.alloc o).grownBy w1 v.ownBlock)
    (ho : w1.ownsRow (w.heap.size + 1) 62 4 v1 (A.length + 1) (cellsL A ++ p.cells)) : RefAt w w1 box v1 (A ++ [p]) := by
  refine ⟨?_, (h.bel.alloc h.size o).grown hg (by have := h.size; simp; omega) (fun k hk => (h.own.lt k hk).1), by have := h.size; have := hg.size; simp at this; omega⟩
  rw [cellsL_append, cellsL_one]
  simpa using ho

theorem RefAt.root {w wr : World} {box : Obj} {v : Value} {A : List Pr} (h : RefAt w wr box v A) : Below w.heap.size w wr := (below_alloc1 w box).trans (h.bel.mono (by omega))

theorem RefAt.box {w wr : World} {v : Value} {A : List Pr} {k n : Int} {s : ByteArray} {t : TypeId} (h : RefAt w wr (.cells #[.int .i64 k, .int .i64 n, .string s] t) v A) :
    wr.cell? ⟨w.heap.size, 0, none⟩ = some (.int .i64 k) ∧ wr.cell? ⟨w.heap.size, 1, none⟩ = some (.int .i64 n) ∧ wr.cell? ⟨w.heap.size, 2, none⟩ = some (.string s) := by
  have b0 := h.bel.cell (p := ⟨w.heap.size, 0, none⟩) (by simp)
  have b1 := h.bel.cell (p := ⟨w.heap.size, 1, none⟩) (by simp)
  have b2 := h.bel.cell (p := ⟨w.heap.size, 2, none⟩) (by simp)
  simp at b0 b1 b2
  exact ⟨b0, b1, b2⟩

/-- Cells that came in stay while the row grows. -/
theorem keep4 {w wr w3 : World} {box o : Obj} {v : Value} {A : List Pr} {b j : Nat} {x0 x1 x2 x3 : Value} (hat : RefAt w wr box v A) (hg : (wr.alloc o).grownBy w3 v.ownBlock) (hb : b < w.heap.size) (hbw : b < wr.heap.size)
    (e0 : wr.cell? ⟨b, j, none⟩ = some x0) (e1 : wr.cell? ⟨b, j + 1, none⟩ = some x1) (e2 : wr.cell? ⟨b, j + 2, none⟩ = some x2) (e3 : wr.cell? ⟨b, j + 3, none⟩ = some x3) :
    w3.cell? ⟨b, j, none⟩ = some x0 ∧ w3.cell? ⟨b, j + 1, none⟩ = some x1 ∧ w3.cell? ⟨b, j + 2, none⟩ = some x2 ∧ w3.cell? ⟨b, j + 3, none⟩ = some x3 := by
  have hbl : w3.heap[b]? = (wr.alloc o).heap[b]? := hg.block b (by simp; omega) (fun h => by have := (hat.own.lt b h.symm).1; omega)
  have hc : ∀ i, w3.cell? ⟨b, i, none⟩ = wr.cell? ⟨b, i, none⟩ := fun i => (World.cell?_of_block (w := wr.alloc o) hbl).trans (alloc_cell hbw)
  exact ⟨(hc _).trans e0, (hc _).trans e1, (hc _).trans e2, (hc _).trans e3⟩

set_option maxHeartbeats 1600000 in
set_option maxRecDepth 100000 in
theorem refSet_some (L : List Pr) (name : ByteArray) (v : V) (b off cap : Nat) (w : World) (hb : b < w.heap.size) (hr : Rd w b off L) (hlen : L.length ≤ 1000000) :
    Calls Try.prog 34 #[.slice (some ⟨b, off, none⟩) L.length cap, .string name, v.val] w fun e w' => ∃ x, e = .returned x ∧
      w'.ownsRow w.heap.size 62 4 x (setL L name v).length (cellsL (setL L name v)) ∧ Below w.heap.size w w' := by
  obtain ⟨i0, hi, hz0, hz1, hz2⟩ := info_parts Try.info62
  have HX : Hid (setGo ⟨name, v⟩ L (v.k == 0) = setL L name v) := rfl
  generalize setL L name v = R at *
  obtain ⟨vk, vn, vs⟩ := v
  simp only [V.val] at *
  go_enter Try.func34, Try.ntmps34
  go_wp2_with fail
  go_loopw [7, 8, 9] (fun so sp si wr => ∃ (k : Nat) (A : List Pr) (pl : Bool), k ≤ L.length ∧ si = .int .i64 (k : Int) ∧ sp = .bool pl ∧
      RefAt w wr (.cells #[.int .i64 vk, .int .i64 vn, .string vs] 23) so A ∧ A.length ≤ k + 1 ∧ Hid (pl = false → A.length ≤ k) ∧ Hid (A ++ setGo ⟨name, ⟨vk, vn, vs⟩⟩ (L.drop k) pl = R))
    (fun _ _ si _ => L.length - (intOf si).toNat)
  case atStart =>
    refine ⟨0, [], (vk == 0), Nat.zero_le _, rfl, rfl, ⟨World.ownsRow_nil _ _ _ _, Below.refl _ _, by simp⟩, by simp, ?_, ?_⟩
    · exact fun _ => Nat.zero_le _
    · exact HX.out
  case round =>
    obtain ⟨k, A, pl, hk, rfl, rfl, hat, hA1, HA2, HR⟩ := hrel
    obtain ⟨b0, b1, b2⟩ := hat.box
    by_cases hlt : k < L.length
    · obtain ⟨e0, e1, e2, e3⟩ := (hr.kept hat.root hb) k L[k] (by simp [hlt])
      have HR2 : Hid (A ++ setGo ⟨name, ⟨vk, vn, vs⟩⟩ (L[k] :: L.drop (k + 1)) pl = R) := by rw [← drop_cons_l L k hlt]; exact HR
      clear HR
      generalize L[k] = q at *
      obtain ⟨m, kk, n, s⟩ := q
      simp only at *
      by_cases hm : m = name
      · subst hm
        have HR3 : Hid (A ++ setGo ⟨m, ⟨vk, vn, vs⟩⟩ (L.drop (k + 1)) pl = R) := by rw [← HR2.out, setGo_eq ⟨m, ⟨vk, vn, vs⟩⟩ ⟨m, ⟨kk, n, s⟩⟩ _ _ rfl]; rfl
        clear HR2
        go_wp2_with fail
        go_roundw
        case rel => exact ⟨k + 1, A, pl, by omega, by go_num, rfl, hat, by omega, (fun h => by have := HA2.out h; omega), HR3⟩
        case measure => simp [intOf]; omega
      · have hm' := list_ne hm
        cases pl with
        | true =>
          have HR3 : Hid (A ++ ⟨m, ⟨kk, n, s⟩⟩ :: setGo ⟨name, ⟨vk, vn, vs⟩⟩ (L.drop (k + 1)) true = R) := by rw [← HR2.out, setGo_on _ _ _ hm]; rfl
          clear HR2 hm
          go_wp2_with (at_builtin; refine wpList_append_own _ rfl (.tmp 43) (.tmp 48) 37 rfl (w.heap.size + 1) 62 i0 (.agg #[.string ⟨#[]⟩, .int .i64 0, .int .i64 0, .string ⟨#[]⟩]) 4 48 Try.underlying37 hi hz0 hz1 hz2 rfl (by decide) _ A.length (cellsL A) rfl (hat.own.alloc _) ⟨wr.heap.size, 0, none⟩ 1 1 (Pr.cells ⟨m, ⟨kk, n, s⟩⟩) rfl rfl (fun j u h => new4 wr ⟨m, ⟨kk, n, s⟩⟩ 62 j u h) (cells_one _) (by unfold maxLen; omega) (by omega) (by have := hat.size; simp; omega) ?_; intro v3 w3 hown3 hgrow3 hnil3)
          go_roundw
          case rel => exact ⟨k + 1, A ++ [⟨m, ⟨kk, n, s⟩⟩], true, by omega, by go_num, rfl, hat.push hgrow3 hown3, by simp; omega, (fun h => by cases h), snoc_app _ _ _ _ HR3.out⟩
          case measure => simp [intOf]; omega
        | false =>
          have hA3 := HA2.out rfl
          cases hg : ltS name m with
          | true =>
            have HR3 : Hid (A ++ ⟨name, ⟨vk, vn, vs⟩⟩ :: ⟨m, ⟨kk, n, s⟩⟩ :: setGo ⟨name, ⟨vk, vn, vs⟩⟩ (L.drop (k + 1)) true = R) := by rw [← HR2.out, setGo_at _ _ _ hm hg]; rfl
            have hgt : Op.bytesLess m.toList name.toList = false := ltS_asymm hg
            clear HR2 hm hg
            have hbw : b < wr.heap.size := by have := hat.root.size; omega
            have HLL : Hid ((A ++ [(⟨name, ⟨vk, vn, vs⟩⟩ : Pr)]).length ≤ 1000001) := by unfold Hid; simp; omega
            go_wp2_with (first | (at_builtin; refine wpList_append_own _ rfl (.tmp 37) (.tmp 41) 37 rfl (w.heap.size + 1) 62 i0 (.agg #[.string ⟨#[]⟩, .int .i64 0, .int .i64 0, .string ⟨#[]⟩]) 4 48 Try.underlying37 hi hz0 hz1 hz2 rfl (by decide) _ A.length (cellsL A) rfl (hat.own.alloc _) ⟨wr.heap.size, 0, none⟩ 1 1 (Pr.cells ⟨name, ⟨vk, vn, vs⟩⟩) rfl rfl (fun j u h => new4 wr ⟨name, ⟨vk, vn, vs⟩⟩ 62 j u h) (cells_one _) (by unfold maxLen; omega) (by omega) (by have := hat.size; simp; omega) ?_; intro v3 w3 hown3 hgrow3 hnil3; have hat3 := hat.push (p := ⟨name, ⟨vk, vn, vs⟩⟩) hgrow3 hown3; obtain ⟨g0, g1, g2, g3⟩ := keep4 hat hgrow3 hb hbw e0 e1 e2 e3) | (at_builtin; refine wpList_append_own _ rfl (.tmp 43) (.tmp 48) 37 rfl (w.heap.size + 1) 62 i0 (.agg #[.string ⟨#[]⟩, .int .i64 0, .int .i64 0, .string ⟨#[]⟩]) 4 48 Try.underlying37 hi hz0 hz1 hz2 rfl (by decide) _ (A ++ [(⟨name, ⟨vk, vn, vs⟩⟩ : Pr)]).length (cellsL (A ++ [(⟨name, ⟨vk, vn, vs⟩⟩ : Pr)])) rfl (hat3.own.alloc _) ⟨w3.heap.size, 0, none⟩ 1 1 (Pr.cells ⟨m, ⟨kk, n, s⟩⟩) rfl rfl (fun j u h => new4 w3 ⟨m, ⟨kk, n, s⟩⟩ 62 j u h) (cells_one _) (by have := HLL.out; unfold maxLen; omega) (by have := HLL.out; omega) (by have := hat3.size; simp; omega) ?_; intro v5 w5 hown5 hgrow5 hnil5))
            go_roundw
            case rel => exact ⟨k + 1, (A ++ [⟨name, ⟨vk, vn, vs⟩⟩]) ++ [⟨m, ⟨kk, n, s⟩⟩], true, by omega, by go_num, rfl, hat3.push hgrow5 hown5, by simp; omega, (fun h => by cases h), snoc_app _ _ _ _ (snoc_app _ _ _ _ HR3.out)⟩
            case measure => simp [intOf]; omega
          | false =>
            have HR3 : Hid (A ++ ⟨m, ⟨kk, n, s⟩⟩ :: setGo ⟨name, ⟨vk, vn, vs⟩⟩ (L.drop (k + 1)) false = R) := by rw [← HR2.out, setGo_no _ _ _ hm hg]; rfl
            have hgt : Op.bytesLess m.toList name.toList = true := by
              cases h : Op.bytesLess m.toList name.toList with
              | true => rfl
              | false => exact absurd (ltS_total (a := m) (b := name) h hg) hm
            clear HR2 hm hg
            go_wp2_with (at_builtin; refine wpList_append_own _ rfl (.tmp 43) (.tmp 48) 37 rfl (w.heap.size + 1) 62 i0 (.agg #[.string ⟨#[]⟩, .int .i64 0, .int .i64 0, .string ⟨#[]⟩]) 4 48 Try.underlying37 hi hz0 hz1 hz2 rfl (by decide) _ A.length (cellsL A) rfl (hat.own.alloc _) ⟨wr.heap.size, 0, none⟩ 1 1 (Pr.cells ⟨m, ⟨kk, n, s⟩⟩) rfl rfl (fun j u h => new4 wr ⟨m, ⟨kk, n, s⟩⟩ 62 j u h) (cells_one _) (by unfold maxLen; omega) (by omega) (by have := hat.size; simp; omega) ?_; intro v3 w3 hown3 hgrow3 hnil3)
            go_roundw
            case rel => exact ⟨k + 1, A ++ [⟨m, ⟨kk, n, s⟩⟩], false, by omega, by go_num, rfl, hat.push hgrow3 hown3, by simp; omega, (fun _ => by simp; omega), snoc_app _ _ _ _ HR3.out⟩
            case measure => simp [intOf]; omega
    · have HR3 : Hid (A ++ (if pl then [] else [⟨name, ⟨vk, vn, vs⟩⟩]) = R) := by rw [← HR.out, List.drop_of_length_le (by omega)]; rfl
      clear HR
      cases pl with
      | true =>
        have HR4 : Hid (A = R) := by rw [← HR3.out]; simp [Hid]
        clear HR3
        go_wp2_with fail
        go_ret
        have e := HR4.out
        subst e
        exact ⟨_, rfl, owns_base hat.own (by omega), hat.root⟩
      | false =>
        have hA3 := HA2.out rfl
        have HR4 : Hid (A ++ [⟨name, ⟨vk, vn, vs⟩⟩] = R) := by rw [← HR3.out]; rfl
        clear HR3
        go_wp2_with (at_builtin; refine wpList_append_own _ rfl (.tmp 52) (.tmp 56) 37 rfl (w.heap.size + 1) 62 i0 (.agg #[.string ⟨#[]⟩, .int .i64 0, .int .i64 0, .string ⟨#[]⟩]) 4 48 Try.underlying37 hi hz0 hz1 hz2 rfl (by decide) _ A.length (cellsL A) rfl (hat.own.alloc _) ⟨wr.heap.size, 0, none⟩ 1 1 (Pr.cells ⟨name, ⟨vk, vn, vs⟩⟩) rfl rfl (fun j u h => new4 wr ⟨name, ⟨vk, vn, vs⟩⟩ 62 j u h) (cells_one _) (by unfold maxLen; omega) (by omega) (by have := hat.size; simp; omega) ?_; intro v3 w3 hown3 hgrow3 hnil3)
        go_ret
        have hat3 := hat.push (p := ⟨name, ⟨vk, vn, vs⟩⟩) hgrow3 hown3
        have e := HR4.out
        subst e
        exact ⟨_, rfl, owns_base hat3.own (by omega), hat3.root⟩

end Go.Proofs.Ytndbhalkhejgjaa
