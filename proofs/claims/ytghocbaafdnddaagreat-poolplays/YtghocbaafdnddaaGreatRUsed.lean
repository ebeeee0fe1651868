/- The document's pool: used. -/
import Derived.Test.YtghocbaafdnddaaGreatRGive
namespace Go.Proofs.YtghocbaafdnddaaGreat
open Go.RowKit

/-- A frame by itself, beside a row. -/
structure HB (W : World) (hb : Nat) (f : Fm) (v : Value) : Prop where
  c : W.heap[hb]? = some (.cells #[.int .i64 (f.pg : Int), .int .i64 (f.pins : Int), .string f.s, .bool f.dirty] 93 (0, 0))
  ne : v.ownBlock ≠ some hb
section
variable {W W' : World} {hb N : Nat} {f : Fm} {v v' : Value} {l : List Fm}
theorem HB.app (h : HB W hb f v) (fr : Fr (fun k => v.ownBlock = some k) W W') (new : ∀ k, v'.ownBlock = some k → v.ownBlock = some k ∨ W.heap.size ≤ k) : HB W' hb f v' :=
  ⟨(fr.block hb (lt_of_some h.c) h.ne).trans h.c, fun e => (new hb e).elim h.ne (fun q => by have := lt_of_some h.c; omega)⟩
theorem HB.made (h : HB W hb f v) (o : Obj) : HB (W.alloc o) hb f (.slice (some ⟨W.heap.size, 0, none⟩) 0 0) :=
  ⟨((below_alloc1 W o).block hb (lt_of_some h.c)).trans h.c, fun e => by have := lt_of_some h.c; simp [Value.ownBlock] at e; omega⟩
theorem HB.of (W : World) (f : Fm) (v : Value) (hv : ∀ k, v.ownBlock = some k → k < W.heap.size) : HB (W.alloc (.cells #[.int .i64 (f.pg : Int), .int .i64 (f.pins : Int), .string f.s, .bool f.dirty] 93)) W.heap.size f v :=
  ⟨heap_alloc_new W _, fun e => by have := hv _ e; omega⟩
theorem HB.src (h : HB W hb f v) : ∀ j u, (fcs [f])[j]? = some u → W.cell? ((⟨hb, 0, none⟩ : Addr).add j) = some u := by
  intro j u hu
  rw [Addr.add_lit, Nat.zero_add, cell_of_row W hb j _ _ _ h.c]
  have e : (fcs [f])[j]? = (#[.int .i64 (f.pg : Int), .int .i64 (f.pins : Int), .string f.s, .bool f.dirty] : Array Value)[j]? := by simp [fcs, fc4]
  rw [← e]
  exact hu
theorem FRow.pos (h : FRow W N v l) (hl : 0 < l.length) : ∃ b c, v = .slice (some ⟨b, 0, none⟩) l.length c ∧ l.length ≤ c ∧ c ≤ maxLen := by
  rcases h.own.2 with ⟨_, e⟩ | ⟨g, cap, cur, rfl, _, _, c, d, _⟩
  · omega
  · exact ⟨g, cap, rfl, c, d⟩
end

section
variable {B bd : Nat} {w : World} {y : RX}

set_option maxHeartbeats 3200000 in
set_option maxRecDepth 100000 in
theorem used_any (h : Rp B w y) (hl : y.l.length ≤ 64) (hB : B ≤ w.heap.size) (i z : Nat) (f : Fm) (hi : y.l[i]? = some f) (hz : z + 1 = y.l.length) :
    Calls Tryz.prog 51 #[.pointer (some ⟨y.q, 0, none⟩), .int .i64 (i : Int)] w fun e w' => ∃ b c, e = .returned (.pointer (some ⟨b, z * 4, none⟩)) ∧ RpTo B w y { y with lv := .slice (some ⟨b, 0, none⟩) y.l.length c, l := y.l.eraseIdx i ++ [f] } w' := by
  obtain ⟨_, _, c2, _, _⟩ := h.cell
  obtain ⟨ra, rc, e, hsc, hcm, hBa, haw, hlt, d0, d1, d2, d3, hfz⟩ := h.at hi
  have hlt2 : (i : Int) < (y.l.length : Int) := by omega
  have HL : Hid (y.l.length ≤ 64) := hl
  rw [e] at c2
  have hW := below_alloc1 w (.cells #[.int .i64 (f.pg : Int), .int .i64 (f.pins : Int), .string f.s, .bool f.dirty] 93)
  have h1 := h.below hW
  obtain ⟨ad, hcut⟩ := h1.cut (by omega) hi e hsc
  have k0 : (w.alloc (.cells #[.int .i64 (f.pg : Int), .int .i64 (f.pins : Int), .string f.s, .bool f.dirty] 93)).heap[w.heap.size]? = some (.cells #[.int .i64 (f.pg : Int), .int .i64 (f.pins : Int), .string f.s, .bool f.dirty] 93 (0, 0)) := heap_alloc_new w _
  have T1 : Hid (RpTo B w y y (w.alloc (.cells #[.int .i64 (f.pg : Int), .int .i64 (f.pins : Int), .string f.s, .bool f.dirty] 93))) := RpTo.of_below h hW
  have HLV : Hid (y.lv = .slice (some ⟨ra, 0, none⟩) y.l.length rc) := e
  have HZ0 : Hid ((y.l.eraseIdx i ++ [f]).length = y.l.length) := by
    show _ = _
    rw [List.length_append, List.length_eraseIdx_of_lt hlt]
    simp
    omega
  have HBw0 : Hid (B ≤ w.heap.size) := hB
  have hz2 : (y.l.length : Int) - 1 = (z : Int) := by omega
  have hz3 : (z : Int) < (y.l.length : Int) := by omega
  have hz4 : (z : Int) ≤ 64 := by omega
  have hz5 : (y.l.length : Int) ≤ 64 := by omega
  generalize hm : i + 1 = m at hcut
  generalize hn : y.l.length = n at *
  go_enter Tryz.func51, Tryz.ntmps51
  go_wp2_with fail
  have hs0 : w.heap.size = w.heap.size := rfl
  generalize hW1 : w.alloc (.cells #[.int .i64 (f.pg : Int), .int .i64 (f.pins : Int), .string f.s, .bool f.dirty] 93) = W1 at *
  have HR : Hid (Rp B W1 y) := h1
  have C : Hid (Cut W1 y.q y.l i m n ra rc ad) := hcut
  have HBw : Hid (B ≤ W1.heap.size) := Nat.le_trans HBw0.out T1.out.fr.size
  have CE : Hid (∀ W, Below W1.heap.size W1 W → W.cell? ⟨y.q, 2, none⟩ = some (.slice (some ⟨ra, 0, none⟩) n rc) ∧ W.cell? ⟨w.heap.size, 0, none⟩ = some (.int .i64 (f.pg : Int)) ∧ W.cell? ⟨w.heap.size, 1, none⟩ = some (.int .i64 (f.pins : Int)) ∧ W.cell? ⟨w.heap.size, 2, none⟩ = some (.string f.s) ∧ W.cell? ⟨w.heap.size, 3, none⟩ = some (.bool f.dirty)) := fun W hb => by
    have k1 := (hb.block _ (lt_of_some k0)).trans k0
    exact ⟨hcut.ce W hb, by rw [cell_of_row W _ 0 _ _ _ k1]; rfl, by rw [cell_of_row W _ 1 _ _ _ k1]; rfl, by rw [cell_of_row W _ 2 _ _ _ k1]; rfl, by rw [cell_of_row W _ 3 _ _ _ k1]; rfl⟩
  clear h h1 hi e hcut hm hn hl hB hW k0 hW1 hz hs0 c2 d0 d1 d2 d3
  have hA := C.out.had
  have hwm := C.out.wm
  have hmn : (m : Int) ≤ (n : Int) := by have := C.out.lt; have := C.out.hm; omega
  have hirc : (i : Int) ≤ (rc : Int) := by have := C.out.lt; have := C.out.hrc; omega
  obtain ⟨N, hN⟩ : ∃ N, W1.heap.size = N := ⟨_, rfl⟩
  have HN : Hid (N ≤ W1.heap.size) := Nat.le_of_eq hN.symm
  have HNe : Hid (W1.heap.size = N) := hN
  clear hN
  refine anyL_begin (S := fun W => Below W1.heap.size W1 W) (n := 22) (by kernel_rfl) (below_drew W1) (fun hHeld => ?_)
  refine takeL 0 13 (v := .pointer (some ⟨y.q, 0, none⟩)) rfl rfl (by kernel_rfl) (by kernel_rfl) (by kernel_rfl) (by kernel_rfl) (fun _ _ _ h => h) (Or.inl ⟨by rfl, by (intro W hSw; obtain ⟨s2, s10, s11, s12, s13⟩ := CE.out W hSw; go_simp)⟩) hHeld ?_
  (try simp only [List.setIfInBounds_toArray, List.set_cons_zero, List.set_cons_succ])
  refine takeL 2 15 (v := .pointer (some ⟨y.q, 0, none⟩)) rfl rfl (by kernel_rfl) (by kernel_rfl) (by kernel_rfl) (by kernel_rfl) (fun _ _ _ h => h) (Or.inl ⟨by rfl, by (intro W hSw; obtain ⟨s2, s10, s11, s12, s13⟩ := CE.out W hSw; go_simp)⟩) hHeld ?_
  (try simp only [List.setIfInBounds_toArray, List.set_cons_zero, List.set_cons_succ])
  refine takeL 3 16 (v := .pointer (some ⟨y.q, 0, none⟩)) rfl rfl (by kernel_rfl) (by kernel_rfl) (by kernel_rfl) (by kernel_rfl) (fun _ _ _ h => h) (Or.inl ⟨by rfl, by (intro W hSw; obtain ⟨s2, s10, s11, s12, s13⟩ := CE.out W hSw; go_simp)⟩) hHeld ?_
  (try simp only [List.setIfInBounds_toArray, List.set_cons_zero, List.set_cons_succ])
  refine takeL 4 17 (v := .pointer (some ⟨y.q, 2, none⟩)) rfl rfl (by kernel_rfl) (by kernel_rfl) (by kernel_rfl) (by kernel_rfl) (fun _ _ _ h => h) (Or.inl ⟨by rfl, by (intro W hSw; obtain ⟨s2, s10, s11, s12, s13⟩ := CE.out W hSw; go_simp)⟩) hHeld ?_
  (try simp only [List.setIfInBounds_toArray, List.set_cons_zero, List.set_cons_succ])
  refine takeL 5 18 (v := .slice (some ⟨ra, 0, none⟩) n rc) rfl rfl (by kernel_rfl) (by kernel_rfl) (by kernel_rfl) (by kernel_rfl) (fun _ _ _ h => h) (Or.inl ⟨by rfl, by (intro W hSw; obtain ⟨s2, s10, s11, s12, s13⟩ := CE.out W hSw; go_simp)⟩) hHeld ?_
  (try simp only [List.setIfInBounds_toArray, List.set_cons_zero, List.set_cons_succ])
  refine takeL 6 19 (v := .int .i64 (i : Int)) rfl rfl (by kernel_rfl) (by kernel_rfl) (by kernel_rfl) (by kernel_rfl) (fun _ _ _ h => h) (Or.inl ⟨by rfl, by (intro W hSw; obtain ⟨s2, s10, s11, s12, s13⟩ := CE.out W hSw; go_simp)⟩) hHeld ?_
  (try simp only [List.setIfInBounds_toArray, List.set_cons_zero, List.set_cons_succ])
  refine takeL 7 20 (v := .slice (some ⟨ra, 0, none⟩) i rc) rfl rfl (by kernel_rfl) (by kernel_rfl) (by kernel_rfl) (by kernel_rfl) (fun _ _ _ h => h) (Or.inl ⟨by rfl, by (intro W hSw; obtain ⟨s2, s10, s11, s12, s13⟩ := CE.out W hSw; go_simp)⟩) hHeld ?_
  (try simp only [List.setIfInBounds_toArray, List.set_cons_zero, List.set_cons_succ])
  refine takeL 9 22 (v := .pointer (some ⟨y.q, 0, none⟩)) rfl rfl (by kernel_rfl) (by kernel_rfl) (by kernel_rfl) (by kernel_rfl) (fun _ _ _ h => h) (Or.inl ⟨by rfl, by (intro W hSw; obtain ⟨s2, s10, s11, s12, s13⟩ := CE.out W hSw; go_simp)⟩) hHeld ?_
  (try simp only [List.setIfInBounds_toArray, List.set_cons_zero, List.set_cons_succ])
  refine takeL 10 23 (v := .pointer (some ⟨y.q, 0, none⟩)) rfl rfl (by kernel_rfl) (by kernel_rfl) (by kernel_rfl) (by kernel_rfl) (fun _ _ _ h => h) (Or.inl ⟨by rfl, by (intro W hSw; obtain ⟨s2, s10, s11, s12, s13⟩ := CE.out W hSw; go_simp)⟩) hHeld ?_
  (try simp only [List.setIfInBounds_toArray, List.set_cons_zero, List.set_cons_succ])
  refine takeL 11 24 (v := .pointer (some ⟨y.q, 2, none⟩)) rfl rfl (by kernel_rfl) (by kernel_rfl) (by kernel_rfl) (by kernel_rfl) (fun _ _ _ h => h) (Or.inl ⟨by rfl, by (intro W hSw; obtain ⟨s2, s10, s11, s12, s13⟩ := CE.out W hSw; go_simp)⟩) hHeld ?_
  (try simp only [List.setIfInBounds_toArray, List.set_cons_zero, List.set_cons_succ])
  refine takeL 12 25 (v := .slice (some ⟨ra, 0, none⟩) n rc) rfl rfl (by kernel_rfl) (by kernel_rfl) (by kernel_rfl) (by kernel_rfl) (fun _ _ _ h => h) (Or.inl ⟨by rfl, by (intro W hSw; obtain ⟨s2, s10, s11, s12, s13⟩ := CE.out W hSw; go_simp)⟩) hHeld ?_
  (try simp only [List.setIfInBounds_toArray, List.set_cons_zero, List.set_cons_succ])
  refine takeL 13 26 (v := .int .i64 (i : Int)) rfl rfl (by kernel_rfl) (by kernel_rfl) (by kernel_rfl) (by kernel_rfl) (fun _ _ _ h => h) (Or.inl ⟨by rfl, by (intro W hSw; obtain ⟨s2, s10, s11, s12, s13⟩ := CE.out W hSw; go_simp)⟩) hHeld ?_
  (try simp only [List.setIfInBounds_toArray, List.set_cons_zero, List.set_cons_succ])
  refine takeL 14 27 (v := .int .i64 (m : Int)) rfl rfl (by kernel_rfl) (by kernel_rfl) (by kernel_rfl) (by kernel_rfl) (fun _ _ _ h => h) (Or.inl ⟨by rfl, by (intro W hSw; obtain ⟨s2, s10, s11, s12, s13⟩ := CE.out W hSw; go_simp)⟩) hHeld ?_
  (try simp only [List.setIfInBounds_toArray, List.set_cons_zero, List.set_cons_succ])
  refine takeL 15 28 (v := .slice (some ad) (n - m) (rc - m)) rfl rfl (by kernel_rfl) (by kernel_rfl) (by kernel_rfl) (by kernel_rfl) (fun _ _ _ h => h) (Or.inl ⟨by rfl, by (intro W hSw; obtain ⟨s2, s10, s11, s12, s13⟩ := CE.out W hSw; go_simp)⟩) hHeld ?_
  (try simp only [List.setIfInBounds_toArray, List.set_cons_zero, List.set_cons_succ])
  refine takeL 17 30 (v := .agg #[.int .i64 (f.pg : Int), .int .i64 (f.pins : Int), .string f.s, .bool f.dirty]) rfl rfl (by kernel_rfl) (by kernel_rfl) (by kernel_rfl) (by kernel_rfl) (fun _ _ _ h => h) (Or.inl ⟨by rfl, by (intro W hSw; obtain ⟨s2, s10, s11, s12, s13⟩ := CE.out W hSw; go_simp)⟩) hHeld ?_
  (try simp only [List.setIfInBounds_toArray, List.set_cons_zero, List.set_cons_succ])
  refine anyL_two 1 18 (by kernel_rfl) (upL rfl (fun K hK => ?_)) (upL rfl (fun K hK => ?_))
  · skip
    go_simp
    have row1 := frow_made _ (N := N) (Nat.le_trans HN.out hHeld.size)
    have hb1 := below2 hHeld (below_alloc1 _ (.cells #[] 93))
    refine hK.out _ _ (fun _ => hb1) (fun hHeld0 => ?_)
    have hHeld := hHeld0 (by decide)
    clear hHeld0 hK K
    (try simp only [Act.put, List.setIfInBounds_toArray, List.set_cons_zero, List.set_cons_succ])
    refine anyL_two 8 18 (by kernel_rfl) (upL rfl (fun K hK => ?_)) (upL rfl (fun K hK => ?_))
    · skip
      refine step_append_fr rfl (.tmp 14) (.tmp 20) rfl N _ _ (y.l.take i) (by first | rfl | simp [Act.eval]) row1 ⟨ra, 0, none⟩ i rc C.out.l1 (by first | rfl | simp [Act.eval]) (C.out.s1 _ hHeld) (by have := C.out.lt; have := HL.out; have := C.out.hn; simp; omega) (Nat.le_trans HN.out hHeld.size) ?_
      intro v2 w2 row2 fr2 new2
      have hb2 := fr2.below hHeld hHeld.size (fun k e => Nat.le_trans (Nat.le_of_eq HNe.out) (row1.blk e).1)
      refine hK.out _ _ (fun _ => hb2) (fun hHeld0 => ?_)
      have hHeld := hHeld0 (by decide)
      clear hHeld0 hK K
      (try simp only [Act.put, List.setIfInBounds_toArray])
      refine anyL_two 16 18 (by kernel_rfl) (upL rfl (fun K hK => ?_)) (upL rfl (fun K hK => ?_))
      · skip
        refine step_append_fr rfl (.tmp 21) (.tmp 28) rfl N _ _ (y.l.drop m) (by first | rfl | simp [Act.eval]) row2 ad (n - m) (rc - m) C.out.l2 (by first | rfl | simp [Act.eval]) (C.out.s2 _ hHeld) (by have := HL.out; have := C.out.hn; have := C.out.l1; simp; omega) (Nat.le_trans HN.out hHeld.size) ?_
        intro v3 w3 row3 fr3 new3
        have hb3 := fr3.below hHeld hHeld.size (fun k e => Nat.le_trans (Nat.le_of_eq HNe.out) (row2.blk e).1)
        refine hK.out _ _ (fun _ => hb3) (fun hHeld0 => ?_)
        have hHeld := hHeld0 (by decide)
        clear hHeld0 hK K
        (try simp only [Act.put])
        refine anyL_one 18 (by kernel_rfl) (upL rfl (fun K hK => ?_))
        go_simp
        have hbh := below2 hHeld (below_alloc1 _ (.cells #[.int .i64 (f.pg : Int), .int .i64 (f.pins : Int), .string f.s, .bool f.dirty] 93))
        have HBh := HB.of _ f _ (fun k e => (row3.blk e).2)
        have rowh := row3.below (below_alloc1 _ (.cells #[.int .i64 (f.pg : Int), .int .i64 (f.pins : Int), .string f.s, .bool f.dirty] 93))
        refine hK.out _ _ (fun _ => hbh) (fun hHeld0 => ?_)
        have hHeld := hHeld0 (by decide)
        clear hHeld0 hK K
        (try simp only [Act.put, List.setIfInBounds_toArray, List.set_cons_zero, List.set_cons_succ])
        refine anyL_one 19 (by kernel_rfl) (upL rfl (fun K hK => ?_))
        refine step_append_fr rfl (.tmp 29) (.tmp 31) rfl N _ _ ([f]) (by first | rfl | simp [Act.eval]) rowh ⟨_, 0, none⟩ 1 1 rfl (by first | rfl | simp [Act.eval]) (HBh.src) (by have := HL.out; have := C.out.hn; have := C.out.l1; simp; omega) (Nat.le_trans HN.out hHeld.size) ?_
        intro v5 w5 row5 fr5 new5
        have hb5 := fr5.below hHeld hHeld.size (fun k e => Nat.le_trans (Nat.le_of_eq HNe.out) (rowh.blk e).1)
        refine hK.out _ _ (fun _ => hb5) (fun hHeld0 => ?_)
        have hHeld := hHeld0 (by decide)
        clear hHeld0 hK K
        (try simp only [Act.put, List.setIfInBounds_toArray])
        refine anyL_one 20 (by kernel_rfl) (upL rfl (fun K hK => ?_))
        go_simp
        refine hK.out _ _ (fun _ => hHeld) (fun hHeld0 => ?_)
        have hHeld := hHeld0 (by decide)
        clear hHeld0 hK K
        (try simp only [Act.put, List.setIfInBounds_toArray, List.set_cons_zero, List.set_cons_succ])
        refine anyL_one 21 (by kernel_rfl) (upL rfl (fun K hK => ?_))
        go_simp
        refine hK.out _ _ (fun _ => hHeld) (fun hHeld0 => ?_)
        have hHeld := hHeld0 (by decide)
        clear hHeld0 hK K
        (try simp only [Act.put, List.setIfInBounds_toArray, List.set_cons_zero, List.set_cons_succ])
        obtain ⟨Z, hZ⟩ : ∃ Z, y.l.eraseIdx i ++ [f] = Z := ⟨_, rfl⟩
        have HZ : Hid (y.l.eraseIdx i ++ [f] = Z) := hZ
        have hZn : Z.length = n := by rw [← hZ]; exact HZ0.out
        have row6 : FRow w5 N v5 Z := by rw [← hZ, ← C.out.l3]; exact row5
        clear hZ row5
        obtain ⟨b, c5, rfl, hc5, _⟩ := row6.pos (by omega)
        obtain ⟨cz, fz, tz⟩ := HR.out.laid hHeld row6 (Nat.le_of_eq HNe.out) HBw.out
        rw [HLV.out] at cz
        rw [hZn] at hc5 tz ⊢
        have TZ : Hid (RpTo B W1 y _ _) := tz
        obtain ⟨_, _, cy, _, _⟩ := tz.pd.cell
        simp only at cy
        clear tz row6
        refine anyL_one 22 (by kernel_rfl) (upL rfl (fun K hK => ?_))
        go_simp
        refine hK.out _ _ (fun q => absurd rfl q) (fun _ => ?_)
        clear hK K
        (try simp only [Act.put, List.setIfInBounds_toArray, List.set_cons_zero, List.set_cons_succ])
        refine anyL_done (by kernel_rfl) ?_ _
        go_wp2_with fail
        go_quiet (fail)
        go_wp2_with fail
        go_ret
        refine ⟨b, c5, rfl, ?_⟩
        rw [HZ.out]
        exact (T1.out.trans TZ.out).below (belowDrN _ _)
      · skip
        go_simp
        have hbh := below2 hHeld (below_alloc1 _ (.cells #[.int .i64 (f.pg : Int), .int .i64 (f.pins : Int), .string f.s, .bool f.dirty] 93))
        have HBh := HB.of _ f _ (fun k e => (row2.blk e).2)
        have rowh := row2.below (below_alloc1 _ (.cells #[.int .i64 (f.pg : Int), .int .i64 (f.pins : Int), .string f.s, .bool f.dirty] 93))
        refine hK.out _ _ (fun _ => hbh) (fun hHeld0 => ?_)
        have hHeld := hHeld0 (by decide)
        clear hHeld0 hK K
        (try simp only [Act.put, List.setIfInBounds_toArray, List.set_cons_zero, List.set_cons_succ])
        refine anyL_one 16 (by kernel_rfl) (upL rfl (fun K hK => ?_))
        refine step_append_fr rfl (.tmp 21) (.tmp 28) rfl N _ _ (y.l.drop m) (by first | rfl | simp [Act.eval]) rowh ad (n - m) (rc - m) C.out.l2 (by first | rfl | simp [Act.eval]) (C.out.s2 _ hHeld) (by have := HL.out; have := C.out.hn; have := C.out.l1; simp; omega) (Nat.le_trans HN.out hHeld.size) ?_
        intro v3 w3 row3 fr3 new3
        have hb3 := fr3.below hHeld hHeld.size (fun k e => Nat.le_trans (Nat.le_of_eq HNe.out) (rowh.blk e).1)
        refine hK.out _ _ (fun _ => hb3) (fun hHeld0 => ?_)
        have hHeld := hHeld0 (by decide)
        clear hHeld0 hK K
        (try simp only [Act.put, List.setIfInBounds_toArray])
        have HB3 := HBh.app fr3 new3
        refine anyL_one 19 (by kernel_rfl) (upL rfl (fun K hK => ?_))
        refine step_append_fr rfl (.tmp 29) (.tmp 31) rfl N _ _ ([f]) (by first | rfl | simp [Act.eval]) row3 ⟨_, 0, none⟩ 1 1 rfl (by first | rfl | simp [Act.eval]) (HB3.src) (by have := HL.out; have := C.out.hn; have := C.out.l1; simp; omega) (Nat.le_trans HN.out hHeld.size) ?_
        intro v5 w5 row5 fr5 new5
        have hb5 := fr5.below hHeld hHeld.size (fun k e => Nat.le_trans (Nat.le_of_eq HNe.out) (row3.blk e).1)
        refine hK.out _ _ (fun _ => hb5) (fun hHeld0 => ?_)
        have hHeld := hHeld0 (by decide)
        clear hHeld0 hK K
        (try simp only [Act.put])
        refine anyL_one 20 (by kernel_rfl) (upL rfl (fun K hK => ?_))
        go_simp
        refine hK.out _ _ (fun _ => hHeld) (fun hHeld0 => ?_)
        have hHeld := hHeld0 (by decide)
        clear hHeld0 hK K
        (try simp only [Act.put, List.setIfInBounds_toArray, List.set_cons_zero, List.set_cons_succ])
        refine anyL_one 21 (by kernel_rfl) (upL rfl (fun K hK => ?_))
        go_simp
        refine hK.out _ _ (fun _ => hHeld) (fun hHeld0 => ?_)
        have hHeld := hHeld0 (by decide)
        clear hHeld0 hK K
        (try simp only [Act.put, List.setIfInBounds_toArray, List.set_cons_zero, List.set_cons_succ])
        obtain ⟨Z, hZ⟩ : ∃ Z, y.l.eraseIdx i ++ [f] = Z := ⟨_, rfl⟩
        have HZ : Hid (y.l.eraseIdx i ++ [f] = Z) := hZ
        have hZn : Z.length = n := by rw [← hZ]; exact HZ0.out
        have row6 : FRow w5 N v5 Z := by rw [← hZ, ← C.out.l3]; exact row5
        clear hZ row5
        obtain ⟨b, c5, rfl, hc5, _⟩ := row6.pos (by omega)
        obtain ⟨cz, fz, tz⟩ := HR.out.laid hHeld row6 (Nat.le_of_eq HNe.out) HBw.out
        rw [HLV.out] at cz
        rw [hZn] at hc5 tz ⊢
        have TZ : Hid (RpTo B W1 y _ _) := tz
        obtain ⟨_, _, cy, _, _⟩ := tz.pd.cell
        simp only at cy
        clear tz row6
        refine anyL_one 22 (by kernel_rfl) (upL rfl (fun K hK => ?_))
        go_simp
        refine hK.out _ _ (fun q => absurd rfl q) (fun _ => ?_)
        clear hK K
        (try simp only [Act.put, List.setIfInBounds_toArray, List.set_cons_zero, List.set_cons_succ])
        refine anyL_done (by kernel_rfl) ?_ _
        go_wp2_with fail
        go_quiet (fail)
        go_wp2_with fail
        go_ret
        refine ⟨b, c5, rfl, ?_⟩
        rw [HZ.out]
        exact (T1.out.trans TZ.out).below (belowDrN _ _)
    · skip
      go_simp
      have hbh := below2 hHeld (below_alloc1 _ (.cells #[.int .i64 (f.pg : Int), .int .i64 (f.pins : Int), .string f.s, .bool f.dirty] 93))
      have HBh := HB.of _ f _ (fun k e => (row1.blk e).2)
      have rowh := row1.below (below_alloc1 _ (.cells #[.int .i64 (f.pg : Int), .int .i64 (f.pins : Int), .string f.s, .bool f.dirty] 93))
      refine hK.out _ _ (fun _ => hbh) (fun hHeld0 => ?_)
      have hHeld := hHeld0 (by decide)
      clear hHeld0 hK K
      (try simp only [Act.put, List.setIfInBounds_toArray, List.set_cons_zero, List.set_cons_succ])
      refine anyL_one 8 (by kernel_rfl) (upL rfl (fun K hK => ?_))
      refine step_append_fr rfl (.tmp 14) (.tmp 20) rfl N _ _ (y.l.take i) (by first | rfl | simp [Act.eval]) rowh ⟨ra, 0, none⟩ i rc C.out.l1 (by first | rfl | simp [Act.eval]) (C.out.s1 _ hHeld) (by have := C.out.lt; have := HL.out; have := C.out.hn; simp; omega) (Nat.le_trans HN.out hHeld.size) ?_
      intro v2 w2 row2 fr2 new2
      have hb2 := fr2.below hHeld hHeld.size (fun k e => Nat.le_trans (Nat.le_of_eq HNe.out) (rowh.blk e).1)
      refine hK.out _ _ (fun _ => hb2) (fun hHeld0 => ?_)
      have hHeld := hHeld0 (by decide)
      clear hHeld0 hK K
      (try simp only [Act.put, List.setIfInBounds_toArray])
      have HB2 := HBh.app fr2 new2
      refine anyL_one 16 (by kernel_rfl) (upL rfl (fun K hK => ?_))
      refine step_append_fr rfl (.tmp 21) (.tmp 28) rfl N _ _ (y.l.drop m) (by first | rfl | simp [Act.eval]) row2 ad (n - m) (rc - m) C.out.l2 (by first | rfl | simp [Act.eval]) (C.out.s2 _ hHeld) (by have := HL.out; have := C.out.hn; have := C.out.l1; simp; omega) (Nat.le_trans HN.out hHeld.size) ?_
      intro v3 w3 row3 fr3 new3
      have hb3 := fr3.below hHeld hHeld.size (fun k e => Nat.le_trans (Nat.le_of_eq HNe.out) (row2.blk e).1)
      refine hK.out _ _ (fun _ => hb3) (fun hHeld0 => ?_)
      have hHeld := hHeld0 (by decide)
      clear hHeld0 hK K
      (try simp only [Act.put])
      have HB3 := HB2.app fr3 new3
      refine anyL_one 19 (by kernel_rfl) (upL rfl (fun K hK => ?_))
      refine step_append_fr rfl (.tmp 29) (.tmp 31) rfl N _ _ ([f]) (by first | rfl | simp [Act.eval]) row3 ⟨_, 0, none⟩ 1 1 rfl (by first | rfl | simp [Act.eval]) (HB3.src) (by have := HL.out; have := C.out.hn; have := C.out.l1; simp; omega) (Nat.le_trans HN.out hHeld.size) ?_
      intro v5 w5 row5 fr5 new5
      have hb5 := fr5.below hHeld hHeld.size (fun k e => Nat.le_trans (Nat.le_of_eq HNe.out) (row3.blk e).1)
      refine hK.out _ _ (fun _ => hb5) (fun hHeld0 => ?_)
      have hHeld := hHeld0 (by decide)
      clear hHeld0 hK K
      (try simp only [Act.put])
      refine anyL_one 20 (by kernel_rfl) (upL rfl (fun K hK => ?_))
      go_simp
      refine hK.out _ _ (fun _ => hHeld) (fun hHeld0 => ?_)
      have hHeld := hHeld0 (by decide)
      clear hHeld0 hK K
      (try simp only [Act.put, List.setIfInBounds_toArray, List.set_cons_zero, List.set_cons_succ])
      refine anyL_one 21 (by kernel_rfl) (upL rfl (fun K hK => ?_))
      go_simp
      refine hK.out _ _ (fun _ => hHeld) (fun hHeld0 => ?_)
      have hHeld := hHeld0 (by decide)
      clear hHeld0 hK K
      (try simp only [Act.put, List.setIfInBounds_toArray, List.set_cons_zero, List.set_cons_succ])
      obtain ⟨Z, hZ⟩ : ∃ Z, y.l.eraseIdx i ++ [f] = Z := ⟨_, rfl⟩
      have HZ : Hid (y.l.eraseIdx i ++ [f] = Z) := hZ
      have hZn : Z.length = n := by rw [← hZ]; exact HZ0.out
      have row6 : FRow w5 N v5 Z := by rw [← hZ, ← C.out.l3]; exact row5
      clear hZ row5
      obtain ⟨b, c5, rfl, hc5, _⟩ := row6.pos (by omega)
      obtain ⟨cz, fz, tz⟩ := HR.out.laid hHeld row6 (Nat.le_of_eq HNe.out) HBw.out
      rw [HLV.out] at cz
      rw [hZn] at hc5 tz ⊢
      have TZ : Hid (RpTo B W1 y _ _) := tz
      obtain ⟨_, _, cy, _, _⟩ := tz.pd.cell
      simp only at cy
      clear tz row6
      refine anyL_one 22 (by kernel_rfl) (upL rfl (fun K hK => ?_))
      go_simp
      refine hK.out _ _ (fun q => absurd rfl q) (fun _ => ?_)
      clear hK K
      (try simp only [Act.put, List.setIfInBounds_toArray, List.set_cons_zero, List.set_cons_succ])
      refine anyL_done (by kernel_rfl) ?_ _
      go_wp2_with fail
      go_quiet (fail)
      go_wp2_with fail
      go_ret
      refine ⟨b, c5, rfl, ?_⟩
      rw [HZ.out]
      exact (T1.out.trans TZ.out).below (belowDrN _ _)
  · skip
    go_simp
    have hbh := below2 hHeld (below_alloc1 _ (.cells #[.int .i64 (f.pg : Int), .int .i64 (f.pins : Int), .string f.s, .bool f.dirty] 93))
    have HBh := HB.of W1.drew f (.slice none 0 0) (fun k e => by simp [Value.ownBlock] at e)
    refine hK.out _ _ (fun _ => hbh) (fun hHeld0 => ?_)
    have hHeld := hHeld0 (by decide)
    clear hHeld0 hK K
    (try simp only [Act.put, List.setIfInBounds_toArray, List.set_cons_zero, List.set_cons_succ])
    refine anyL_one 1 (by kernel_rfl) (upL rfl (fun K hK => ?_))
    go_simp
    have row1 := frow_made _ (N := N) (Nat.le_trans HN.out hHeld.size)
    have hb1 := below2 hHeld (below_alloc1 _ (.cells #[] 93))
    have HB1 := HBh.made (.cells #[] 93)
    refine hK.out _ _ (fun _ => hb1) (fun hHeld0 => ?_)
    have hHeld := hHeld0 (by decide)
    clear hHeld0 hK K
    (try simp only [Act.put, List.setIfInBounds_toArray, List.set_cons_zero, List.set_cons_succ])
    refine anyL_one 8 (by kernel_rfl) (upL rfl (fun K hK => ?_))
    refine step_append_fr rfl (.tmp 14) (.tmp 20) rfl N _ _ (y.l.take i) (by first | rfl | simp [Act.eval]) row1 ⟨ra, 0, none⟩ i rc C.out.l1 (by first | rfl | simp [Act.eval]) (C.out.s1 _ hHeld) (by have := C.out.lt; have := HL.out; have := C.out.hn; simp; omega) (Nat.le_trans HN.out hHeld.size) ?_
    intro v2 w2 row2 fr2 new2
    have hb2 := fr2.below hHeld hHeld.size (fun k e => Nat.le_trans (Nat.le_of_eq HNe.out) (row1.blk e).1)
    refine hK.out _ _ (fun _ => hb2) (fun hHeld0 => ?_)
    have hHeld := hHeld0 (by decide)
    clear hHeld0 hK K
    (try simp only [Act.put, List.setIfInBounds_toArray])
    have HB2 := HB1.app fr2 new2
    refine anyL_one 16 (by kernel_rfl) (upL rfl (fun K hK => ?_))
    refine step_append_fr rfl (.tmp 21) (.tmp 28) rfl N _ _ (y.l.drop m) (by first | rfl | simp [Act.eval]) row2 ad (n - m) (rc - m) C.out.l2 (by first | rfl | simp [Act.eval]) (C.out.s2 _ hHeld) (by have := HL.out; have := C.out.hn; have := C.out.l1; simp; omega) (Nat.le_trans HN.out hHeld.size) ?_
    intro v3 w3 row3 fr3 new3
    have hb3 := fr3.below hHeld hHeld.size (fun k e => Nat.le_trans (Nat.le_of_eq HNe.out) (row2.blk e).1)
    refine hK.out _ _ (fun _ => hb3) (fun hHeld0 => ?_)
    have hHeld := hHeld0 (by decide)
    clear hHeld0 hK K
    (try simp only [Act.put])
    have HB3 := HB2.app fr3 new3
    refine anyL_one 19 (by kernel_rfl) (upL rfl (fun K hK => ?_))
    refine step_append_fr rfl (.tmp 29) (.tmp 31) rfl N _ _ ([f]) (by first | rfl | simp [Act.eval]) row3 ⟨_, 0, none⟩ 1 1 rfl (by first | rfl | simp [Act.eval]) (HB3.src) (by have := HL.out; have := C.out.hn; have := C.out.l1; simp; omega) (Nat.le_trans HN.out hHeld.size) ?_
    intro v5 w5 row5 fr5 new5
    have hb5 := fr5.below hHeld hHeld.size (fun k e => Nat.le_trans (Nat.le_of_eq HNe.out) (row3.blk e).1)
    refine hK.out _ _ (fun _ => hb5) (fun hHeld0 => ?_)
    have hHeld := hHeld0 (by decide)
    clear hHeld0 hK K
    (try simp only [Act.put])
    refine anyL_one 20 (by kernel_rfl) (upL rfl (fun K hK => ?_))
    go_simp
    refine hK.out _ _ (fun _ => hHeld) (fun hHeld0 => ?_)
    have hHeld := hHeld0 (by decide)
    clear hHeld0 hK K
    (try simp only [Act.put, List.setIfInBounds_toArray, List.set_cons_zero, List.set_cons_succ])
    refine anyL_one 21 (by kernel_rfl) (upL rfl (fun K hK => ?_))
    go_simp
    refine hK.out _ _ (fun _ => hHeld) (fun hHeld0 => ?_)
    have hHeld := hHeld0 (by decide)
    clear hHeld0 hK K
    (try simp only [Act.put, List.setIfInBounds_toArray, List.set_cons_zero, List.set_cons_succ])
    obtain ⟨Z, hZ⟩ : ∃ Z, y.l.eraseIdx i ++ [f] = Z := ⟨_, rfl⟩
    have HZ : Hid (y.l.eraseIdx i ++ [f] = Z) := hZ
    have hZn : Z.length = n := by rw [← hZ]; exact HZ0.out
    have row6 : FRow w5 N v5 Z := by rw [← hZ, ← C.out.l3]; exact row5
    clear hZ row5
    obtain ⟨b, c5, rfl, hc5, _⟩ := row6.pos (by omega)
    obtain ⟨cz, fz, tz⟩ := HR.out.laid hHeld row6 (Nat.le_of_eq HNe.out) HBw.out
    rw [HLV.out] at cz
    rw [hZn] at hc5 tz ⊢
    have TZ : Hid (RpTo B W1 y _ _) := tz
    obtain ⟨_, _, cy, _, _⟩ := tz.pd.cell
    simp only at cy
    clear tz row6
    refine anyL_one 22 (by kernel_rfl) (upL rfl (fun K hK => ?_))
    go_simp
    refine hK.out _ _ (fun q => absurd rfl q) (fun _ => ?_)
    clear hK K
    (try simp only [Act.put, List.setIfInBounds_toArray, List.set_cons_zero, List.set_cons_succ])
    refine anyL_done (by kernel_rfl) ?_ _
    go_wp2_with fail
    go_quiet (fail)
    go_wp2_with fail
    go_ret
    refine ⟨b, c5, rfl, ?_⟩
    rw [HZ.out]
    exact (T1.out.trans TZ.out).below (belowDrN _ _)
end
end Go.Proofs.YtghocbaafdnddaaGreat
