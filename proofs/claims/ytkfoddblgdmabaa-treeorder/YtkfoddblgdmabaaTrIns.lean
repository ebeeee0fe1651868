/- Layer 10: slices.Insert at entries and at the addresses of nodes. -/
import Derived.Test.YtkfoddblgdmabaaTrDel
import Derived.Shelf.RegionOpenPlain
import Derived.Deep.RegionLaw
namespace Go.Proofs.Ytkfoddblgdmabaa.tr
open Go.RowKit Go.Lib Go.Shelf

set_option maxHeartbeats 4000000 in
set_option maxRecDepth 1000000 in
theorem insE_end {w : World} {B : Nat} {v : Value} {l : List Ent} (h : GRow 58 2 gE w B v l) (x : Ent) (hlen : l.length ≤ 90000) {vb vc : Nat} (hv : GRow 58 2 gE w 0 (.slice (some ⟨vb, 0, none⟩) 1 vc) [x]) (hB : B ≤ w.heap.size) : Calls Try.prog 59 #[v, .int .i64 (l.length : Int), .slice (some ⟨vb, 0, none⟩) 1 vc] w fun e w' => ∃ v', e = .returned v' ∧ GRow 58 2 gE w' B v' (l ++ [x]) ∧ Fr (fun k => v.ownBlock = some k) w w' ∧ (∀ k, v'.ownBlock = some k → v.ownBlock = some k ∨ w.heap.size ≤ k) := by
  have hm : ∀ j u, ([x].flatMap gE)[j]? = some u → w.cell? ((⟨vb, 0, none⟩ : Addr).add j) = some u := fun j u hu => by
    have hj : j < ([x].flatMap gE).length := (List.getElem?_eq_some_iff.1 hu).1
    rw [flat_len gE_len] at hj
    rw [Addr.add_lit, Nat.zero_add, hv.own.cellAt j (by simpa using hj)]
    exact hu
  obtain ⟨v', w', hr, h2, h3, h4⟩ := run_append_row (tS := 45) gE_len gE_one Try.underlying45 Try.infoE rfl (by decide) (by decide) 45 [x] h ⟨vb, 0, none⟩ vc hm (by simp; omega) hB
  obtain ⟨a, c, rfl, hlc, hcm⟩ := h.len
  unfold maxLen at hcm
  have H2 : Hid (GRow 58 2 gE w' B v' (l ++ [x])) := h2
  have H4 : Hid (∀ k, v'.ownBlock = some k → (Value.slice a l.length c).ownBlock = some k ∨ w.heap.size ≤ k) := h4
  clear h2 h4 hm hv h
  generalize l ++ [x] = L2 at *
  generalize l.length = n at *
  cases a with
  | none =>
    go_enter Try.func59, Try.ntmps59
    go_wp2_with (at_builtin; refine Lib.wpList_append_run _ rfl _ _ _ _ rfl _ _ rfl rfl _ _ hr ?_)
    all_goals (go_ret; exact ⟨_, rfl, H2, h3, H4⟩)
  | some a =>
    obtain ⟨ab, ao, asp⟩ := a
    go_enter Try.func59, Try.ntmps59
    go_wp2_with (at_builtin; refine Lib.wpList_append_run _ rfl _ _ _ _ rfl _ _ rfl rfl _ _ hr ?_)
    all_goals (go_ret; exact ⟨_, rfl, H2, h3, H4⟩)

set_option maxHeartbeats 4000000 in
set_option maxRecDepth 1000000 in
theorem insE_shift {w : World} {B b c i n : Nat} {cur : Array Value} {l : List Ent} (hb : w.heap[b]? = some (.cells cur 58 (0, 0))) (hB : B ≤ b) (hn : l.length = n) (hroom : n + 1 ≤ c) (hcm : c ≤ maxLen) (hcs : cur.size = c * 2) (ht : cur.toList.take (n * 2) = l.flatMap gE) (x : Ent) (hi : i < n) (hlen : n ≤ 90000) {vb vc : Nat} (hv : GRow 58 2 gE w 0 (.slice (some ⟨vb, 0, none⟩) 1 vc) [x]) (hvb : vb ≠ b) :
    Calls Try.prog 59 #[.slice (some ⟨b, 0, none⟩) n c, .int .i64 (i : Int), .slice (some ⟨vb, 0, none⟩) 1 vc] w fun e w' => e = .returned (.slice (some ⟨b, 0, none⟩) (n + 1) c) ∧ GRow 58 2 gE w' B (.slice (some ⟨b, 0, none⟩) (n + 1) c) (insL i x l) ∧ Fr (fun k => some b = some k) w w' := by
  have hg := gE_len
  have hcm' := hcm
  unfold maxLen at hcm'
  obtain ⟨vb', vc', vcur, hve, hvo, _, hvc1, hvc2, hvs, hvt⟩ := hv.obj (by simp)
  cases hve
  obtain ⟨R, hR⟩ : ∃ R, cur.toList = l.flatMap gE ++ R := ⟨cur.toList.drop (n * 2), by rw [← ht, List.take_append_drop]⟩
  have hRl : R.length = c * 2 - n * 2 := by
    have := congrArg List.length hR
    rw [List.length_append, flat_len hg] at this
    simp only [Array.length_toList, hcs] at this
    omega
  have cells : ∀ k, w.cell? ⟨b, k, none⟩ = cur[k]? ∧ w.frozen? ⟨b, k, none⟩ = false := fun k => cell_obj hb
  have hsome : ∀ k, k < c * 2 → (w.cell? ⟨b, k, none⟩).isSome = true := fun k hk => by rw [(cells k).1, Array.getElem?_eq_getElem (by omega)]; rfl
  obtain ⟨D, hD⟩ : ∃ D, D = (l.drop i).flatMap gE := ⟨_, rfl⟩
  have hDl : D.length = (n - i) * 2 := by rw [hD, flat_len hg, List.length_drop, hn]
  have hDone : ∀ u ∈ D, u.oneCell' = true := by
    intro u hu
    rw [hD] at hu
    obtain ⟨y, _, hy⟩ := List.mem_flatMap.1 hu
    exact gE_one y u hy
  have hDc : ∀ t u, D[t]? = some u → w.cell? ⟨b, i * 2 + t, none⟩ = some u := fun t u hu => by
    have ht' : t < D.length := (List.getElem?_eq_some_iff.1 hu).1
    rw [(cells _).1, ← Array.getElem?_toList, hR, List.getElem?_append_left (by rw [flat_len hg, hn]; omega), ← List.getElem?_drop, flat_drop hg l i (by omega), ← hD]
    exact hu
  have hXc : ∀ j u, (gE x)[j]? = some u → w.cell? ⟨vb, j, none⟩ = some u := fun j u hu => by
    have hj : j < (gE x).length := (List.getElem?_eq_some_iff.1 hu).1
    rw [hg] at hj
    rw [hv.own.cellAt j (by omega)]
    simpa using hu
  have hsz : (Try.prog.info? 58).map (·.size) = some 2 := by
    obtain ⟨i0, hi0, _, h1, _⟩ := info_parts Try.infoE
    rw [hi0]; simp [h1]
  obtain ⟨W1, hW1⟩ : ∃ W1, W1 = w.drew.setCells b ((i + 1) * 2) D := ⟨_, rfl⟩
  have hcp1 : ∀ ty, (Builtin.copy_ #[45, 45] ty #[.slice (some ⟨b, (i + 1) * 2, none⟩) (n - i) (c - (i + 1)), .slice (some ⟨b, i * 2, none⟩) (n + 1 - i) (c - i)]).run Try.prog w.drew = .ok (goInt ((n - i : Nat) : Int)) W1 := fun ty => by
    rw [hW1]
    exact run_copy_k w.drew 45 45 ty 58 2 b ((i + 1) * 2) _ _ ⟨b, i * 2, none⟩ _ _ (n - i) D Try.underlying45 hsz (by simp only [Nat.min_def]; split <;> omega) hDl (fun j u hj => by rw [Addr.add_lit]; exact hDc j u hj) (fun j hj => hsome _ (by omega)) (fun j hj => (cells _).2) hDone
  have hW1b : W1.heap[b]? = some (.cells (wrL cur.toList ((i + 1) * 2) D).toArray 58 (0, 0)) := by rw [hW1]; exact heap_setCells b _ D _ w.drew cur hb
  have cells1 : ∀ k, W1.cell? ⟨b, k, none⟩ = (wrL cur.toList ((i + 1) * 2) D).toArray[k]? ∧ W1.frozen? ⟨b, k, none⟩ = false := fun k => cell_obj hW1b
  have hsome1 : ∀ k, k < c * 2 → (W1.cell? ⟨b, k, none⟩).isSome = true := fun k hk => by rw [(cells1 k).1, Array.getElem?_eq_getElem (by simp [wrL_len]; omega)]; rfl
  have hXc1 : ∀ j u, (gE x)[j]? = some u → W1.cell? ⟨vb, j, none⟩ = some u := fun j u hu => by
    rw [hW1, World.cell?_setCells_out b _ _ _ _ (fun q _ => absurd q hvb)]
    exact hXc j u hu
  have hcp2 : ∀ ty, (Builtin.copy_ #[45, 45] ty #[.slice (some ⟨b, i * 2, none⟩) (n + 1 - i) (c - i), .slice (some ⟨vb, 0, none⟩) 1 vc]).run Try.prog W1 = .ok (goInt ((1 : Nat) : Int)) (W1.setCells b (i * 2) (gE x)) := fun ty =>
    run_copy_k W1 45 45 ty 58 2 b (i * 2) _ _ ⟨vb, 0, none⟩ _ _ 1 (gE x) Try.underlying45 hsz (by simp only [Nat.min_def]; split <;> omega) (by rw [hg]) (fun j u hj => by rw [Addr.add_lit, Nat.zero_add]; exact hXc1 j u hj) (fun j hj => hsome1 _ (by rw [hg] at hj; omega)) (fun j hj => (cells1 _).2) (gE_one x)
  have hov : ∀ lb cb, (callFunc 65 #[.slice (some ⟨vb, 0, none⟩) 1 vc, .slice (some ⟨b, (i + 1) * 2, none⟩) lb cb]).run Try.prog w = .ok (.value (.bool false)) w := fun lb cb => by
    rw [run_callFunc_extern Try.func65 (by kernel_rfl) (by kernel_rfl) (by kernel_rfl) (e := Extern.SlicesOverlaps.overlaps #[45, 45] #[4]) (by kernel_rfl),
      Lib.run_overlaps_apart w 45 4 58 Try.underlying45 2 (fun w => by kernel_rfl) ⟨vb, 0, none⟩ ⟨b, (i + 1) * 2, none⟩ 1 vc lb cb hvb 58 58 vcur.size cur.size (by simp [World.shape?, hvo]) (by simp [World.shape?, hb]) (by omega) (frozen_of_row w vb 0 _ _ hvo) (frozen_of_row w vb _ _ _ hvo)]
    rfl
  have HF : Hid (GRow 58 2 gE (W1.setCells b (i * 2) (gE x)) B (.slice (some ⟨b, 0, none⟩) (n + 1) c) (insL i x l)) := by
    have hl2 : (insL i x l).length = n + 1 := by rw [insL_len, hn]
    suffices hT : (wrL (wrL cur.toList ((i + 1) * 2) D).toArray.toList (i * 2) (gE x)).take ((insL i x l).length * 2) = (insL i x l).flatMap gE by
      have := GRow.written hg (gE x) hW1b hB (by omega) hcm (by simp [wrL_len, hcs]) hT
      rw [hl2] at this
      exact this
    have eI : l.flatMap gE = (l.take i).flatMap gE ++ D := by rw [hD, ← List.flatMap_append, List.take_append_drop]
    have lI : ((l.take i).flatMap gE).length = i * 2 := by rw [flat_len hg, List.length_take, Nat.min_eq_left (by omega)]
    -- the first copy
    obtain ⟨Y1, Y2, hY, hY1⟩ : ∃ Y1 Y2, D ++ R = Y1 ++ Y2 ∧ Y1.length = 2 := ⟨(D ++ R).take 2, (D ++ R).drop 2, by rw [List.take_append_drop], by rw [List.length_take, List.length_append]; omega⟩
    have hYl : Y1.length + Y2.length = D.length + R.length := by
      have := congrArg List.length hY
      rw [List.length_append, List.length_append] at this
      omega
    have e1 : wrL cur.toList ((i + 1) * 2) D = (l.take i).flatMap gE ++ Y1 ++ D ++ Y2.drop D.length := by
      rw [hR, eI, List.append_assoc, hY, ← List.append_assoc]
      have := wrL_eq D ((l.take i).flatMap gE ++ Y1) Y2 (by omega)
      rw [List.length_append, lI, hY1, ← Nat.succ_mul] at this
      exact this
    rw [List.toList_toArray, e1, List.append_assoc, List.append_assoc]
    have := wrL_eq (gE x) ((l.take i).flatMap gE) (Y1 ++ (D ++ Y2.drop D.length)) (by rw [hg, List.length_append]; omega)
    rw [lI, hg, show 2 = Y1.length from hY1.symm, List.drop_left] at this
    rw [hY1] at this
    rw [this, hl2, insL, List.flatMap_append, List.flatMap_cons, ← hD, show ∀ P Q S T : List Value, P ++ Q ++ (S ++ T) = (P ++ (Q ++ S)) ++ T from fun P Q S T => by simp [List.append_assoc]]
    refine List.take_left' ?_
    rw [List.length_append, List.length_append, lI, hg, hDl]
    omega
  have HR : Hid (Fr (fun k => some b = some k) w (W1.setCells b (i * 2) (gE x))) := by
    refine Fr.setCells (F := fun k => some b = some k) (b := b) (Or.inl rfl) _ _ ?_
    rw [hW1]
    exact Fr.setCells (F := fun k => some b = some k) (b := b) (Or.inl rfl) _ _ (Fr.refl _ _).drew
  have hz2 : ¬ ((i : Int) = (n : Int)) := by omega
  have hw1 : IntKind.i64.wrap ((i : Int) + 1) = (i : Int) + 1 := by rw [IntKind.wrap_i64]; omega
  have hin : i ≤ n := by omega
  have htn : ((i : Int) + 1).toNat = i + 1 := by omega
  have hb2 : ¬ (c = i + 1) := by omega
  have hb1 : (0 : Int) ≤ (i : Int) + 1 := by omega
  have hb4 : ¬ (c = i) := by omega
  have hb3 : (i : Int) + 1 ≤ (n : Int) + 1 := by omega
  have hb5 : (i : Int) ≤ (n : Int) + 1 := by omega
  have hb6 : ¬ ((c : Int) < (n : Int) + 1) := by omega
  clear hW1 hW1b hsome1 cells1 hsome cells hR hRl hb ht hcs hDl hDone hDc hXc hXc1 hv hvo hvs hvt hsz hD
  generalize insL i x l = L2 at *
  go_enter Try.func59, Try.ntmps59
  go_wp2_with (simp only [hov])
  go_region_law (refine step_copy_k rfl _ _ 45 45 rfl _ _ (by simp [Act.eval, Act.put]) (by simp [Act.eval, Act.put]) (hcp1 _) ?_)
  go_wp2_with (at_builtin; refine wpList_copy_k _ rfl _ _ 45 45 rfl _ _ rfl rfl (hcp2 _) ?_)
  go_ret
  exact ⟨rfl, HF.out, HR.out⟩

set_option maxHeartbeats 4000000 in
set_option maxRecDepth 1000000 in
theorem insE_grow {w : World} {B b i n : Nat} {cur : Array Value} {l : List Ent} (hb : w.heap[b]? = some (.cells cur 58 (0, 0))) (hB : B ≤ w.heap.size) (hn : l.length = n) (hcs : cur.size = n * 2) (ht : cur.toList.take (n * 2) = l.flatMap gE) (x : Ent) (hi : i < n) (hlen : n ≤ 90000) {vb vc : Nat} (hv : GRow 58 2 gE w 0 (.slice (some ⟨vb, 0, none⟩) 1 vc) [x]) :
    Calls Try.prog 59 #[.slice (some ⟨b, 0, none⟩) n n, .int .i64 (i : Int), .slice (some ⟨vb, 0, none⟩) 1 vc] w fun e w' => ∃ v', e = .returned v' ∧ GRow 58 2 gE w' B v' (insL i x l) ∧ Fr (fun _ => False) w w' ∧ v'.ownBlock = some w.heap.size := by
  have hg := gE_len
  obtain ⟨i0, hi0, hz0, hz1, hz2⟩ := info_parts Try.infoE
  obtain ⟨C, hC⟩ : ∃ C, C = grownCap w (n + 1) n 58 := ⟨_, rfl⟩
  have hC1 : n + 1 ≤ C := by rw [hC]; exact grownCap_ge _ _ _ _
  have hC2 : C ≤ maxLen := by rw [hC]; exact grownCap_le_maxLen _ _ _ _ (by unfold maxLen; omega)
  have hC2' := hC2
  unfold maxLen at hC2'
  have hvb : vb < w.heap.size := (hv.blk (k := vb) rfl).2
  have hbs : b < w.heap.size := (Array.getElem?_eq_some_iff.1 hb).1
  obtain ⟨nb, hnb⟩ : ∃ nb, nb = w.heap.size := ⟨_, rfl⟩
  have cells : ∀ k, w.cell? ⟨b, k, none⟩ = cur[k]? := fun k => (cell_obj hb).1
  have hcur : cur.toList = l.flatMap gE := by rw [← ht, List.take_of_length_le (by simp [hcs])]
  obtain ⟨X0, hX0⟩ : ∃ X0, X0 = (l.take i).flatMap gE := ⟨_, rfl⟩
  obtain ⟨D, hD⟩ : ∃ D, D = (l.drop i).flatMap gE := ⟨_, rfl⟩
  have hXD : l.flatMap gE = X0 ++ D := by rw [hX0, hD, ← List.flatMap_append, List.take_append_drop]
  have hXl : X0.length = i * 2 := by rw [hX0, flat_len hg, List.length_take, Nat.min_eq_left (by omega)]
  have hDl : D.length = (n - i) * 2 := by rw [hD, flat_len hg, List.length_drop, hn]
  have hDone : ∀ u ∈ D, u.oneCell' = true := by
    intro u hu
    rw [hD] at hu
    obtain ⟨y, _, hy⟩ := List.mem_flatMap.1 hu
    exact gE_one y u hy
  have hold : (Builtin.firstCells i0.size i (.slice (some ⟨b, 0, none⟩) i n)).run Try.prog w.drew = .ok X0.toArray w.drew :=
    run_firstCells_some w.drew i0.size i ⟨b, 0, none⟩ i n X0 (by rw [hz1, hXl]) (fun j u hu => by
      have hj : j < X0.length := (List.getElem?_eq_some_iff.1 hu).1
      rw [Addr.add_lit, Nat.zero_add]
      show w.cell? _ = _
      rw [cells, ← Array.getElem?_toList, hcur, hXD, List.getElem?_append_left hj]
      exact hu)
  obtain ⟨Z1, hZ1⟩ : ∃ Z1, Z1 = Builtin.zeroCells (.agg #[.string ⟨#[]⟩, .int .i64 0] : Value).cells (n + 1 - i) := ⟨_, rfl⟩
  obtain ⟨Z2, hZ2⟩ : ∃ Z2, Z2 = Builtin.zeroCells (.agg #[.string ⟨#[]⟩, .int .i64 0] : Value).cells (C - (n + 1)) := ⟨_, rfl⟩
  have hZ1l : Z1.size = (n + 1 - i) * 2 := by rw [hZ1, zeroCells_len]; rfl
  have hZ2l : Z2.size = (C - (n + 1)) * 2 := by rw [hZ2, zeroCells_len]; rfl
  obtain ⟨W0, hW0⟩ : ∃ W0, W0 = w.drew.alloc (.cells (X0.toArray ++ Z1 ++ Z2) 58) := ⟨_, rfl⟩
  have hrun : ∀ ty, (Builtin.append_ #[45, 3] ty #[.slice (some ⟨b, 0, none⟩) i n, .int .i64 ((n + 1 - i : Nat) : Int)]).run Try.prog w = .ok (.slice (some ⟨nb, 0, none⟩) (n + 1) C) W0 := fun ty => by
    have := run_append_zeros (P := Try.prog) w 45 3 ty 58 i0 _ .i64 .i64 Try.underlying45 Try.underlying3 hi0 hz0 (some ⟨b, 0, none⟩) i n X0 hold (n + 1 - i) (by omega) (by rw [hz1]; decide) (by omega) (by omega) (by rw [hz2]; omega) (by rw [hz2]; exact growslice_fits (by omega) (by omega))
    rw [show i + (n + 1 - i) = n + 1 by omega, ← hC, ← hZ1, ← hZ2, ← hW0, ← hnb] at this
    exact this
  have hW0b : W0.heap[nb]? = some (.cells (X0.toArray ++ Z1 ++ Z2) 58 (0, 0)) := by rw [hW0, hnb]; exact heap_alloc_new w.drew _
  have hW0s : W0.heap.size = w.heap.size + 1 := by rw [hW0]; simp
  have hW0o : ∀ k, k < w.heap.size → W0.heap[k]? = w.heap[k]? := fun k hk => by rw [hW0]; exact heap_alloc_old w.drew _ hk
  have hsz : (Try.prog.info? 58).map (·.size) = some 2 := by rw [hi0]; simp [hz1]
  have c0 : ∀ k, k < C * 2 → (W0.cell? ⟨nb, k, none⟩).isSome = true := fun k hk => by
    rw [(cell_obj hW0b).1, Array.getElem?_eq_getElem (by simp only [Array.size_append, List.size_toArray, hXl, hZ1l, hZ2l]; omega)]; rfl
  have hXc : ∀ j u, (gE x)[j]? = some u → W0.cell? ⟨vb, j, none⟩ = some u := fun j u hu => by
    have hj : j < (gE x).length := (List.getElem?_eq_some_iff.1 hu).1
    rw [hg] at hj
    have : w.cell? ⟨vb, j, none⟩ = some u := by
      rw [hv.own.cellAt j (by omega)]
      simpa using hu
    rw [← this]
    unfold World.cell?
    rw [hW0o vb hvb]
  obtain ⟨W1, hW1⟩ : ∃ W1, W1 = W0.setCells nb (i * 2) (gE x) := ⟨_, rfl⟩
  have hcp1 : ∀ ty, (Builtin.copy_ #[45, 45] ty #[.slice (some ⟨nb, i * 2, none⟩) (n + 1 - i) (C - i), .slice (some ⟨vb, 0, none⟩) 1 vc]).run Try.prog W0 = .ok (goInt ((1 : Nat) : Int)) W1 := fun ty => by
    rw [hW1]
    exact run_copy_k W0 45 45 ty 58 2 nb (i * 2) _ _ ⟨vb, 0, none⟩ _ _ 1 (gE x) Try.underlying45 hsz (by simp only [Nat.min_def]; split <;> omega) (by rw [hg]) (fun j u hj => by rw [Addr.add_lit, Nat.zero_add]; exact hXc j u hj) (fun j hj => c0 _ (by rw [hg] at hj; omega)) (fun j hj => (cell_obj hW0b).2) (gE_one x)
  have hW1b := heap_setCells nb 58 (gE x) (i * 2) W0 _ hW0b
  rw [← hW1] at hW1b
  have hDc : ∀ t u, D[t]? = some u → W1.drew.cell? ⟨b, i * 2 + t, none⟩ = some u := fun t u hu => by
    have ht' : t < D.length := (List.getElem?_eq_some_iff.1 hu).1
    show W1.cell? _ = _
    rw [hW1, World.cell?_setCells_out nb _ _ _ _ (fun q _ => by have : b = nb := q; omega)]
    unfold World.cell?
    rw [hW0o b hbs]
    show w.cell? ⟨b, i * 2 + t, none⟩ = _
    rw [cells, ← Array.getElem?_toList, hcur, hXD, ← hXl, List.getElem?_append_right (by omega), Nat.add_sub_cancel_left]
    exact hu
  obtain ⟨W2, hW2⟩ : ∃ W2, W2 = W1.drew.setCells nb ((i + 1) * 2) D := ⟨_, rfl⟩
  have hcp2 : ∀ ty, (Builtin.copy_ #[45, 45] ty #[.slice (some ⟨nb, (i + 1) * 2, none⟩) (n - i) (C - (i + 1)), .slice (some ⟨b, i * 2, none⟩) (n - i) (n - i)]).run Try.prog W1.drew = .ok (goInt ((n - i : Nat) : Int)) W2 := fun ty => by
    rw [hW2]
    exact run_copy_k W1.drew 45 45 ty 58 2 nb ((i + 1) * 2) _ _ ⟨b, i * 2, none⟩ _ _ (n - i) D Try.underlying45 hsz (by simp only [Nat.min_def]; split <;> omega) hDl (fun j u hj => by rw [Addr.add_lit]; exact hDc j u hj) (fun j hj => by
      show (W1.cell? _).isSome = true
      rw [(cell_obj hW1b).1, Array.getElem?_eq_getElem (by simp only [List.size_toArray, wrL_len, Array.length_toList, Array.size_append, hXl, hZ1l, hZ2l]; omega)]; rfl) (fun j hj => (cell_obj hW1b).2) hDone
  have HF : Hid (GRow 58 2 gE W2 B (.slice (some ⟨nb, 0, none⟩) (n + 1) C) (insL i x l)) := by
    have hl2 : (insL i x l).length = n + 1 := by rw [insL_len, hn]
    suffices hT : (wrL (wrL (X0.toArray ++ Z1 ++ Z2).toList (i * 2) (gE x)).toArray.toList ((i + 1) * 2) D).take ((insL i x l).length * 2) = (insL i x l).flatMap gE by
      have := GRow.written (w := W1.drew) (B := B) (c := C) hg D hW1b (by omega) (by omega) hC2 (by simp only [List.size_toArray, wrL_len, Array.length_toList, Array.size_append, hXl, hZ1l, hZ2l]; omega) hT
      rw [hl2, ← hW2] at this
      exact this
    have e0 : (X0.toArray ++ Z1 ++ Z2).toList = X0 ++ (Z1.toList ++ Z2.toList) := by simp
    have e1 : wrL (X0.toArray ++ Z1 ++ Z2).toList (i * 2) (gE x) = X0 ++ gE x ++ (Z1.toList ++ Z2.toList).drop 2 := by
      rw [e0]
      have := wrL_eq (gE x) X0 (Z1.toList ++ Z2.toList) (by rw [hg, List.length_append, Array.length_toList, hZ1l]; omega)
      rw [hXl, hg] at this
      exact this
    rw [List.toList_toArray, e1]
    have := wrL_eq D (X0 ++ gE x) ((Z1.toList ++ Z2.toList).drop 2) (by simp only [List.length_drop, List.length_append, Array.length_toList, hZ1l, hZ2l, hDl]; omega)
    rw [List.length_append, hXl, hg, ← Nat.succ_mul] at this
    rw [this, hl2, insL, List.flatMap_append, List.flatMap_cons, ← hD, ← hX0, show ∀ P Q S T : List Value, P ++ Q ++ S ++ T = (P ++ (Q ++ S)) ++ T from fun P Q S T => by simp [List.append_assoc]]
    refine List.take_left' ?_
    rw [List.length_append, List.length_append, hXl, hg, hDl]
    omega
  have HR : Hid (Fr (fun _ => False) w W2) := by
    have h0 : Fr (fun _ => False) w W0 := by rw [hW0]; exact (Fr.refl _ _).drew.alloc _
    have h1 : Fr (fun _ => False) w W1 := by rw [hW1]; exact Fr.setCells (b := nb) (Or.inr (by omega)) _ _ h0
    rw [hW2]
    exact Fr.setCells (b := nb) (Or.inr (by omega)) _ _ h1.drew
  have hz2 : ¬ ((i : Int) = (n : Int)) := by omega
  have hw1 : IntKind.i64.wrap ((i : Int) + 1) = (i : Int) + 1 := by rw [IntKind.wrap_i64]; omega
  have hin : i ≤ n := by omega
  have htn : ((i : Int) + 1).toNat = i + 1 := by omega
  have hsub : (n : Int) + 1 - (i : Int) = ((n + 1 - i : Nat) : Int) := by omega
  have hb1 : (0 : Int) ≤ (i : Int) + 1 := by omega
  have hb2 : ¬ (C = i + 1) := by omega
  have hb4 : ¬ (C = i) := by omega
  have hb7 : ¬ (n = i) := by omega
  have hb3 : (i : Int) + 1 ≤ (n : Int) + 1 := by omega
  have hb5 : (i : Int) ≤ (n : Int) + 1 := by omega
  have hb6 : (n : Int) < (n : Int) + 1 := by omega
  have HS : Hid (n + 1 - (i + 1) = n - i) := by show _ = _; omega
  clear hW1 hW1b hb ht hcs hDl hDone hDc hXc hv hsz hD hX0 hXD hcur hW2 hW0 hW0b hW0s hW0o c0 hold hZ1 hZ2 hZ1l hZ2l cells hz0 hi0 hC hXl
  generalize insL i x l = L2 at *
  have HN : Hid (nb = w.heap.size) := hnb
  clear hnb
  go_enter Try.func59, Try.ntmps59
  go_wp2_with (first | (at_builtin; refine Lib.wpList_append_run _ rfl _ _ _ _ rfl _ _ rfl rfl _ _ (hrun _) ?_) | (at_builtin; refine wpList_copy_k _ rfl _ _ 45 45 rfl _ _ rfl rfl (hcp1 _) ?_))
  go_region_law (refine step_copy_k rfl _ _ 45 45 rfl _ _ (by simp [Act.eval, Act.put]) (by simp [Act.eval, Act.put]) (hcp2 _) ?_)
  go_wp2
  go_ret
  exact ⟨_, rfl, HF.out, HR.out, by rw [← HN.out]; rfl⟩

/-- slices.Insert of one. -/
theorem insE_any {w : World} {B : Nat} {v : Value} {l : List Ent} (h : GRow 58 2 gE w B v l) (x : Ent) {i : Nat} (hi : i ≤ l.length) (hlen : l.length ≤ 90000) {vb vc : Nat} (hv : GRow 58 2 gE w 0 (.slice (some ⟨vb, 0, none⟩) 1 vc) [x]) (hvb : v.ownBlock ≠ some vb) (hB : B ≤ w.heap.size) :
    Calls Try.prog 59 #[v, .int .i64 (i : Int), .slice (some ⟨vb, 0, none⟩) 1 vc] w fun e w' => ∃ v', e = .returned v' ∧ GRow 58 2 gE w' B v' (insL i x l) ∧ Fr (fun k => v.ownBlock = some k) w w' ∧ (∀ k, v'.ownBlock = some k → v.ownBlock = some k ∨ w.heap.size ≤ k) := by
  rcases Nat.lt_or_ge i l.length with q | q
  · obtain ⟨b, c, cur, rfl, hb, hBb, hlc, hcm, hcs, ht⟩ := h.obj (h.ne (by omega))
    rcases Nat.lt_or_ge l.length c with r | r
    · refine (insE_shift hb hBb rfl r hcm hcs ht x q hlen hv (fun e => hvb (by rw [e]; rfl))).mono ?_
      rintro e w' ⟨rfl, h1, h2⟩
      exact ⟨_, rfl, h1, h2, fun k hk => Or.inl hk⟩
    · have : c = l.length := by omega
      subst this
      refine (insE_grow hb hB rfl hcs ht x q hlen hv).mono ?_
      rintro e w' ⟨v', rfl, h1, h2, h3⟩
      exact ⟨_, rfl, h1, h2.weak (fun _ _ f => f.elim), fun k hk => Or.inr (by rw [h3] at hk; cases hk; exact Nat.le_refl _)⟩
  · have : i = l.length := by omega
    subst this
    refine (insE_end h x hlen hv hB).mono ?_
    rintro e w' ⟨v', rfl, h1, h2, h3⟩
    exact ⟨_, rfl, by simpa [insL] using h1, h2, h3⟩

set_option maxHeartbeats 4000000 in
set_option maxRecDepth 1000000 in
theorem insK_end {w : World} {B : Nat} {v : Value} {l : List Nat} (h : GRow 65 1 gK w B v l) (x : Nat) (hlen : l.length ≤ 90000) {vb vc : Nat} (hv : GRow 65 1 gK w 0 (.slice (some ⟨vb, 0, none⟩) 1 vc) [x]) (hB : B ≤ w.heap.size) : Calls Try.prog 60 #[v, .int .i64 (l.length : Int), .slice (some ⟨vb, 0, none⟩) 1 vc] w fun e w' => ∃ v', e = .returned v' ∧ GRow 65 1 gK w' B v' (l ++ [x]) ∧ Fr (fun k => v.ownBlock = some k) w w' ∧ (∀ k, v'.ownBlock = some k → v.ownBlock = some k ∨ w.heap.size ≤ k) := by
  have hm : ∀ j u, ([x].flatMap gK)[j]? = some u → w.cell? ((⟨vb, 0, none⟩ : Addr).add j) = some u := fun j u hu => by
    have hj : j < ([x].flatMap gK).length := (List.getElem?_eq_some_iff.1 hu).1
    rw [flat_len gK_len] at hj
    rw [Addr.add_lit, Nat.zero_add, hv.own.cellAt j (by simpa using hj)]
    exact hu
  obtain ⟨v', w', hr, h2, h3, h4⟩ := run_append_row (tS := 66) gK_len gK_one Try.underlying66 Try.infoK rfl (by decide) (by decide) 66 [x] h ⟨vb, 0, none⟩ vc hm (by simp; omega) hB
  obtain ⟨a, c, rfl, hlc, hcm⟩ := h.len
  unfold maxLen at hcm
  have H2 : Hid (GRow 65 1 gK w' B v' (l ++ [x])) := h2
  have H4 : Hid (∀ k, v'.ownBlock = some k → (Value.slice a l.length c).ownBlock = some k ∨ w.heap.size ≤ k) := h4
  clear h2 h4 hm hv h
  generalize l ++ [x] = L2 at *
  generalize l.length = n at *
  cases a with
  | none =>
    go_enter Try.func60, Try.ntmps60
    go_wp2_with (at_builtin; refine Lib.wpList_append_run _ rfl _ _ _ _ rfl _ _ rfl rfl _ _ hr ?_)
    all_goals (go_ret; exact ⟨_, rfl, H2, h3, H4⟩)
  | some a =>
    obtain ⟨ab, ao, asp⟩ := a
    go_enter Try.func60, Try.ntmps60
    go_wp2_with (at_builtin; refine Lib.wpList_append_run _ rfl _ _ _ _ rfl _ _ rfl rfl _ _ hr ?_)
    all_goals (go_ret; exact ⟨_, rfl, H2, h3, H4⟩)

set_option maxHeartbeats 4000000 in
set_option maxRecDepth 1000000 in
theorem insK_shift {w : World} {B b c i n : Nat} {cur : Array Value} {l : List Nat} (hb : w.heap[b]? = some (.cells cur 65 (0, 0))) (hB : B ≤ b) (hn : l.length = n) (hroom : n + 1 ≤ c) (hcm : c ≤ maxLen) (hcs : cur.size = c * 1) (ht : cur.toList.take (n * 1) = l.flatMap gK) (x : Nat) (hi : i < n) (hlen : n ≤ 90000) {vb vc : Nat} (hv : GRow 65 1 gK w 0 (.slice (some ⟨vb, 0, none⟩) 1 vc) [x]) (hvb : vb ≠ b) :
    Calls Try.prog 60 #[.slice (some ⟨b, 0, none⟩) n c, .int .i64 (i : Int), .slice (some ⟨vb, 0, none⟩) 1 vc] w fun e w' => e = .returned (.slice (some ⟨b, 0, none⟩) (n + 1) c) ∧ GRow 65 1 gK w' B (.slice (some ⟨b, 0, none⟩) (n + 1) c) (insL i x l) ∧ Fr (fun k => some b = some k) w w' := by
  have hg := gK_len
  have hcm' := hcm
  unfold maxLen at hcm'
  obtain ⟨vb', vc', vcur, hve, hvo, _, hvc1, hvc2, hvs, hvt⟩ := hv.obj (by simp)
  cases hve
  obtain ⟨R, hR⟩ : ∃ R, cur.toList = l.flatMap gK ++ R := ⟨cur.toList.drop (n * 1), by rw [← ht, List.take_append_drop]⟩
  have hRl : R.length = c * 1 - n * 1 := by
    have := congrArg List.length hR
    rw [List.length_append, flat_len hg] at this
    simp only [Array.length_toList, hcs] at this
    omega
  have cells : ∀ k, w.cell? ⟨b, k, none⟩ = cur[k]? ∧ w.frozen? ⟨b, k, none⟩ = false := fun k => cell_obj hb
  have hsome : ∀ k, k < c * 1 → (w.cell? ⟨b, k, none⟩).isSome = true := fun k hk => by rw [(cells k).1, Array.getElem?_eq_getElem (by omega)]; rfl
  obtain ⟨D, hD⟩ : ∃ D, D = (l.drop i).flatMap gK := ⟨_, rfl⟩
  have hDl : D.length = (n - i) * 1 := by rw [hD, flat_len hg, List.length_drop, hn]
  have hDone : ∀ u ∈ D, u.oneCell' = true := by
    intro u hu
    rw [hD] at hu
    obtain ⟨y, _, hy⟩ := List.mem_flatMap.1 hu
    exact gK_one y u hy
  have hDc : ∀ t u, D[t]? = some u → w.cell? ⟨b, i * 1 + t, none⟩ = some u := fun t u hu => by
    have ht' : t < D.length := (List.getElem?_eq_some_iff.1 hu).1
    rw [(cells _).1, ← Array.getElem?_toList, hR, List.getElem?_append_left (by rw [flat_len hg, hn]; omega), ← List.getElem?_drop, flat_drop hg l i (by omega), ← hD]
    exact hu
  have hXc : ∀ j u, (gK x)[j]? = some u → w.cell? ⟨vb, j, none⟩ = some u := fun j u hu => by
    have hj : j < (gK x).length := (List.getElem?_eq_some_iff.1 hu).1
    rw [hg] at hj
    rw [hv.own.cellAt j (by omega)]
    simpa using hu
  have hsz : (Try.prog.info? 65).map (·.size) = some 1 := by
    obtain ⟨i0, hi0, _, h1, _⟩ := info_parts Try.infoK
    rw [hi0]; simp [h1]
  obtain ⟨W1, hW1⟩ : ∃ W1, W1 = w.drew.setCells b ((i + 1) * 1) D := ⟨_, rfl⟩
  have hcp1 : ∀ ty, (Builtin.copy_ #[66, 66] ty #[.slice (some ⟨b, (i + 1) * 1, none⟩) (n - i) (c - (i + 1)), .slice (some ⟨b, i * 1, none⟩) (n + 1 - i) (c - i)]).run Try.prog w.drew = .ok (goInt ((n - i : Nat) : Int)) W1 := fun ty => by
    rw [hW1]
    exact run_copy_k w.drew 66 66 ty 65 1 b ((i + 1) * 1) _ _ ⟨b, i * 1, none⟩ _ _ (n - i) D Try.underlying66 hsz (by simp only [Nat.min_def]; split <;> omega) hDl (fun j u hj => by rw [Addr.add_lit]; exact hDc j u hj) (fun j hj => hsome _ (by omega)) (fun j hj => (cells _).2) hDone
  have hW1b : W1.heap[b]? = some (.cells (wrL cur.toList ((i + 1) * 1) D).toArray 65 (0, 0)) := by rw [hW1]; exact heap_setCells b _ D _ w.drew cur hb
  have cells1 : ∀ k, W1.cell? ⟨b, k, none⟩ = (wrL cur.toList ((i + 1) * 1) D).toArray[k]? ∧ W1.frozen? ⟨b, k, none⟩ = false := fun k => cell_obj hW1b
  have hsome1 : ∀ k, k < c * 1 → (W1.cell? ⟨b, k, none⟩).isSome = true := fun k hk => by rw [(cells1 k).1, Array.getElem?_eq_getElem (by simp [wrL_len]; omega)]; rfl
  have hXc1 : ∀ j u, (gK x)[j]? = some u → W1.cell? ⟨vb, j, none⟩ = some u := fun j u hu => by
    rw [hW1, World.cell?_setCells_out b _ _ _ _ (fun q _ => absurd q hvb)]
    exact hXc j u hu
  have hcp2 : ∀ ty, (Builtin.copy_ #[66, 66] ty #[.slice (some ⟨b, i * 1, none⟩) (n + 1 - i) (c - i), .slice (some ⟨vb, 0, none⟩) 1 vc]).run Try.prog W1 = .ok (goInt ((1 : Nat) : Int)) (W1.setCells b (i * 1) (gK x)) := fun ty =>
    run_copy_k W1 66 66 ty 65 1 b (i * 1) _ _ ⟨vb, 0, none⟩ _ _ 1 (gK x) Try.underlying66 hsz (by simp only [Nat.min_def]; split <;> omega) (by rw [hg]) (fun j u hj => by rw [Addr.add_lit, Nat.zero_add]; exact hXc1 j u hj) (fun j hj => hsome1 _ (by rw [hg] at hj; omega)) (fun j hj => (cells1 _).2) (gK_one x)
  have hov : ∀ lb cb, (callFunc 67 #[.slice (some ⟨vb, 0, none⟩) 1 vc, .slice (some ⟨b, (i + 1) * 1, none⟩) lb cb]).run Try.prog w = .ok (.value (.bool false)) w := fun lb cb => by
    rw [run_callFunc_extern Try.func67 (by kernel_rfl) (by kernel_rfl) (by kernel_rfl) (e := Extern.SlicesOverlaps.overlaps #[66, 66] #[4]) (by kernel_rfl),
      Lib.run_overlaps_apart w 66 4 65 Try.underlying66 1 (fun w => by kernel_rfl) ⟨vb, 0, none⟩ ⟨b, (i + 1) * 1, none⟩ 1 vc lb cb hvb 65 65 vcur.size cur.size (by simp [World.shape?, hvo]) (by simp [World.shape?, hb]) (by omega) (frozen_of_row w vb 0 _ _ hvo) (frozen_of_row w vb _ _ _ hvo)]
    rfl
  have HF : Hid (GRow 65 1 gK (W1.setCells b (i * 1) (gK x)) B (.slice (some ⟨b, 0, none⟩) (n + 1) c) (insL i x l)) := by
    have hl2 : (insL i x l).length = n + 1 := by rw [insL_len, hn]
    suffices hT : (wrL (wrL cur.toList ((i + 1) * 1) D).toArray.toList (i * 1) (gK x)).take ((insL i x l).length * 1) = (insL i x l).flatMap gK by
      have := GRow.written hg (gK x) hW1b hB (by omega) hcm (by simp [wrL_len, hcs]) hT
      rw [hl2] at this
      exact this
    have eI : l.flatMap gK = (l.take i).flatMap gK ++ D := by rw [hD, ← List.flatMap_append, List.take_append_drop]
    have lI : ((l.take i).flatMap gK).length = i * 1 := by rw [flat_len hg, List.length_take, Nat.min_eq_left (by omega)]
    -- the first copy
    obtain ⟨Y1, Y2, hY, hY1⟩ : ∃ Y1 Y2, D ++ R = Y1 ++ Y2 ∧ Y1.length = 1 := ⟨(D ++ R).take 1, (D ++ R).drop 1, by rw [List.take_append_drop], by rw [List.length_take, List.length_append]; omega⟩
    have hYl : Y1.length + Y2.length = D.length + R.length := by
      have := congrArg List.length hY
      rw [List.length_append, List.length_append] at this
      omega
    have e1 : wrL cur.toList ((i + 1) * 1) D = (l.take i).flatMap gK ++ Y1 ++ D ++ Y2.drop D.length := by
      rw [hR, eI, List.append_assoc, hY, ← List.append_assoc]
      have := wrL_eq D ((l.take i).flatMap gK ++ Y1) Y2 (by omega)
      rw [List.length_append, lI, hY1, ← Nat.succ_mul] at this
      exact this
    rw [List.toList_toArray, e1, List.append_assoc, List.append_assoc]
    have := wrL_eq (gK x) ((l.take i).flatMap gK) (Y1 ++ (D ++ Y2.drop D.length)) (by rw [hg, List.length_append]; omega)
    rw [lI, hg, show 1 = Y1.length from hY1.symm, List.drop_left] at this
    rw [hY1] at this
    rw [this, hl2, insL, List.flatMap_append, List.flatMap_cons, ← hD, show ∀ P Q S T : List Value, P ++ Q ++ (S ++ T) = (P ++ (Q ++ S)) ++ T from fun P Q S T => by simp [List.append_assoc]]
    refine List.take_left' ?_
    rw [List.length_append, List.length_append, lI, hg, hDl]
    omega
  have HR : Hid (Fr (fun k => some b = some k) w (W1.setCells b (i * 1) (gK x))) := by
    refine Fr.setCells (F := fun k => some b = some k) (b := b) (Or.inl rfl) _ _ ?_
    rw [hW1]
    exact Fr.setCells (F := fun k => some b = some k) (b := b) (Or.inl rfl) _ _ (Fr.refl _ _).drew
  have hz2 : ¬ ((i : Int) = (n : Int)) := by omega
  have hw1 : IntKind.i64.wrap ((i : Int) + 1) = (i : Int) + 1 := by rw [IntKind.wrap_i64]; omega
  have hin : i ≤ n := by omega
  have htn : ((i : Int) + 1).toNat = i + 1 := by omega
  have hb2 : ¬ (c = i + 1) := by omega
  have hb1 : (0 : Int) ≤ (i : Int) + 1 := by omega
  have hb4 : ¬ (c = i) := by omega
  have hb3 : (i : Int) + 1 ≤ (n : Int) + 1 := by omega
  have hb5 : (i : Int) ≤ (n : Int) + 1 := by omega
  have hb6 : ¬ ((c : Int) < (n : Int) + 1) := by omega
  clear hW1 hW1b hsome1 cells1 hsome cells hR hRl hb ht hcs hDl hDone hDc hXc hXc1 hv hvo hvs hvt hsz hD
  generalize insL i x l = L2 at *
  simp only [Nat.mul_one] at hcp1 hcp2 hov HF HR
  go_enter Try.func60, Try.ntmps60
  go_wp2_with (simp only [hov])
  go_region_law (refine step_copy_k rfl _ _ 66 66 rfl _ _ (by simp [Act.eval, Act.put]) (by simp [Act.eval, Act.put]) (hcp1 _) ?_)
  go_wp2_with (at_builtin; refine wpList_copy_k _ rfl _ _ 66 66 rfl _ _ rfl rfl (hcp2 _) ?_)
  go_ret
  exact ⟨rfl, HF.out, HR.out⟩

set_option maxHeartbeats 4000000 in
set_option maxRecDepth 1000000 in
theorem insK_grow {w : World} {B b i n : Nat} {cur : Array Value} {l : List Nat} (hb : w.heap[b]? = some (.cells cur 65 (0, 0))) (hB : B ≤ w.heap.size) (hn : l.length = n) (hcs : cur.size = n * 1) (ht : cur.toList.take (n * 1) = l.flatMap gK) (x : Nat) (hi : i < n) (hlen : n ≤ 90000) {vb vc : Nat} (hv : GRow 65 1 gK w 0 (.slice (some ⟨vb, 0, none⟩) 1 vc) [x]) :
    Calls Try.prog 60 #[.slice (some ⟨b, 0, none⟩) n n, .int .i64 (i : Int), .slice (some ⟨vb, 0, none⟩) 1 vc] w fun e w' => ∃ v', e = .returned v' ∧ GRow 65 1 gK w' B v' (insL i x l) ∧ Fr (fun _ => False) w w' ∧ v'.ownBlock = some w.heap.size := by
  have hg := gK_len
  obtain ⟨i0, hi0, hz0, hz1, hz2⟩ := info_parts Try.infoK
  obtain ⟨C, hC⟩ : ∃ C, C = grownCap w (n + 1) n 65 := ⟨_, rfl⟩
  have hC1 : n + 1 ≤ C := by rw [hC]; exact grownCap_ge _ _ _ _
  have hC2 : C ≤ maxLen := by rw [hC]; exact grownCap_le_maxLen _ _ _ _ (by unfold maxLen; omega)
  have hC2' := hC2
  unfold maxLen at hC2'
  have hvb : vb < w.heap.size := (hv.blk (k := vb) rfl).2
  have hbs : b < w.heap.size := (Array.getElem?_eq_some_iff.1 hb).1
  obtain ⟨nb, hnb⟩ : ∃ nb, nb = w.heap.size := ⟨_, rfl⟩
  have cells : ∀ k, w.cell? ⟨b, k, none⟩ = cur[k]? := fun k => (cell_obj hb).1
  have hcur : cur.toList = l.flatMap gK := by rw [← ht, List.take_of_length_le (by simp [hcs])]
  obtain ⟨X0, hX0⟩ : ∃ X0, X0 = (l.take i).flatMap gK := ⟨_, rfl⟩
  obtain ⟨D, hD⟩ : ∃ D, D = (l.drop i).flatMap gK := ⟨_, rfl⟩
  have hXD : l.flatMap gK = X0 ++ D := by rw [hX0, hD, ← List.flatMap_append, List.take_append_drop]
  have hXl : X0.length = i * 1 := by rw [hX0, flat_len hg, List.length_take, Nat.min_eq_left (by omega)]
  have hDl : D.length = (n - i) * 1 := by rw [hD, flat_len hg, List.length_drop, hn]
  have hDone : ∀ u ∈ D, u.oneCell' = true := by
    intro u hu
    rw [hD] at hu
    obtain ⟨y, _, hy⟩ := List.mem_flatMap.1 hu
    exact gK_one y u hy
  have hold : (Builtin.firstCells i0.size i (.slice (some ⟨b, 0, none⟩) i n)).run Try.prog w.drew = .ok X0.toArray w.drew :=
    run_firstCells_some w.drew i0.size i ⟨b, 0, none⟩ i n X0 (by rw [hz1, hXl]) (fun j u hu => by
      have hj : j < X0.length := (List.getElem?_eq_some_iff.1 hu).1
      rw [Addr.add_lit, Nat.zero_add]
      show w.cell? _ = _
      rw [cells, ← Array.getElem?_toList, hcur, hXD, List.getElem?_append_left hj]
      exact hu)
  obtain ⟨Z1, hZ1⟩ : ∃ Z1, Z1 = Builtin.zeroCells (.pointer none : Value).cells (n + 1 - i) := ⟨_, rfl⟩
  obtain ⟨Z2, hZ2⟩ : ∃ Z2, Z2 = Builtin.zeroCells (.pointer none : Value).cells (C - (n + 1)) := ⟨_, rfl⟩
  have hZ1l : Z1.size = (n + 1 - i) * 1 := by rw [hZ1, zeroCells_len]; rfl
  have hZ2l : Z2.size = (C - (n + 1)) * 1 := by rw [hZ2, zeroCells_len]; rfl
  obtain ⟨W0, hW0⟩ : ∃ W0, W0 = w.drew.alloc (.cells (X0.toArray ++ Z1 ++ Z2) 65) := ⟨_, rfl⟩
  have hrun : ∀ ty, (Builtin.append_ #[66, 3] ty #[.slice (some ⟨b, 0, none⟩) i n, .int .i64 ((n + 1 - i : Nat) : Int)]).run Try.prog w = .ok (.slice (some ⟨nb, 0, none⟩) (n + 1) C) W0 := fun ty => by
    have := run_append_zeros (P := Try.prog) w 66 3 ty 65 i0 _ .i64 .i64 Try.underlying66 Try.underlying3 hi0 hz0 (some ⟨b, 0, none⟩) i n X0 hold (n + 1 - i) (by omega) (by rw [hz1]; decide) (by omega) (by omega) (by rw [hz2]; omega) (by rw [hz2]; exact growslice_fits (by omega) (by omega))
    rw [show i + (n + 1 - i) = n + 1 by omega, ← hC, ← hZ1, ← hZ2, ← hW0, ← hnb] at this
    exact this
  have hW0b : W0.heap[nb]? = some (.cells (X0.toArray ++ Z1 ++ Z2) 65 (0, 0)) := by rw [hW0, hnb]; exact heap_alloc_new w.drew _
  have hW0s : W0.heap.size = w.heap.size + 1 := by rw [hW0]; simp
  have hW0o : ∀ k, k < w.heap.size → W0.heap[k]? = w.heap[k]? := fun k hk => by rw [hW0]; exact heap_alloc_old w.drew _ hk
  have hsz : (Try.prog.info? 65).map (·.size) = some 1 := by rw [hi0]; simp [hz1]
  have c0 : ∀ k, k < C * 1 → (W0.cell? ⟨nb, k, none⟩).isSome = true := fun k hk => by
    rw [(cell_obj hW0b).1, Array.getElem?_eq_getElem (by simp only [Array.size_append, List.size_toArray, hXl, hZ1l, hZ2l]; omega)]; rfl
  have hXc : ∀ j u, (gK x)[j]? = some u → W0.cell? ⟨vb, j, none⟩ = some u := fun j u hu => by
    have hj : j < (gK x).length := (List.getElem?_eq_some_iff.1 hu).1
    rw [hg] at hj
    have : w.cell? ⟨vb, j, none⟩ = some u := by
      rw [hv.own.cellAt j (by omega)]
      simpa using hu
    rw [← this]
    unfold World.cell?
    rw [hW0o vb hvb]
  obtain ⟨W1, hW1⟩ : ∃ W1, W1 = W0.setCells nb (i * 1) (gK x) := ⟨_, rfl⟩
  have hcp1 : ∀ ty, (Builtin.copy_ #[66, 66] ty #[.slice (some ⟨nb, i * 1, none⟩) (n + 1 - i) (C - i), .slice (some ⟨vb, 0, none⟩) 1 vc]).run Try.prog W0 = .ok (goInt ((1 : Nat) : Int)) W1 := fun ty => by
    rw [hW1]
    exact run_copy_k W0 66 66 ty 65 1 nb (i * 1) _ _ ⟨vb, 0, none⟩ _ _ 1 (gK x) Try.underlying66 hsz (by simp only [Nat.min_def]; split <;> omega) (by rw [hg]) (fun j u hj => by rw [Addr.add_lit, Nat.zero_add]; exact hXc j u hj) (fun j hj => c0 _ (by rw [hg] at hj; omega)) (fun j hj => (cell_obj hW0b).2) (gK_one x)
  have hW1b := heap_setCells nb 65 (gK x) (i * 1) W0 _ hW0b
  rw [← hW1] at hW1b
  have hDc : ∀ t u, D[t]? = some u → W1.drew.cell? ⟨b, i * 1 + t, none⟩ = some u := fun t u hu => by
    have ht' : t < D.length := (List.getElem?_eq_some_iff.1 hu).1
    show W1.cell? _ = _
    rw [hW1, World.cell?_setCells_out nb _ _ _ _ (fun q _ => by have : b = nb := q; omega)]
    unfold World.cell?
    rw [hW0o b hbs]
    show w.cell? ⟨b, i * 1 + t, none⟩ = _
    rw [cells, ← Array.getElem?_toList, hcur, hXD, ← hXl, List.getElem?_append_right (by omega), Nat.add_sub_cancel_left]
    exact hu
  obtain ⟨W2, hW2⟩ : ∃ W2, W2 = W1.drew.setCells nb ((i + 1) * 1) D := ⟨_, rfl⟩
  have hcp2 : ∀ ty, (Builtin.copy_ #[66, 66] ty #[.slice (some ⟨nb, (i + 1) * 1, none⟩) (n - i) (C - (i + 1)), .slice (some ⟨b, i * 1, none⟩) (n - i) (n - i)]).run Try.prog W1.drew = .ok (goInt ((n - i : Nat) : Int)) W2 := fun ty => by
    rw [hW2]
    exact run_copy_k W1.drew 66 66 ty 65 1 nb ((i + 1) * 1) _ _ ⟨b, i * 1, none⟩ _ _ (n - i) D Try.underlying66 hsz (by simp only [Nat.min_def]; split <;> omega) hDl (fun j u hj => by rw [Addr.add_lit]; exact hDc j u hj) (fun j hj => by
      show (W1.cell? _).isSome = true
      rw [(cell_obj hW1b).1, Array.getElem?_eq_getElem (by simp only [List.size_toArray, wrL_len, Array.length_toList, Array.size_append, hXl, hZ1l, hZ2l]; omega)]; rfl) (fun j hj => (cell_obj hW1b).2) hDone
  have HF : Hid (GRow 65 1 gK W2 B (.slice (some ⟨nb, 0, none⟩) (n + 1) C) (insL i x l)) := by
    have hl2 : (insL i x l).length = n + 1 := by rw [insL_len, hn]
    suffices hT : (wrL (wrL (X0.toArray ++ Z1 ++ Z2).toList (i * 1) (gK x)).toArray.toList ((i + 1) * 1) D).take ((insL i x l).length * 1) = (insL i x l).flatMap gK by
      have := GRow.written (w := W1.drew) (B := B) (c := C) hg D hW1b (by omega) (by omega) hC2 (by simp only [List.size_toArray, wrL_len, Array.length_toList, Array.size_append, hXl, hZ1l, hZ2l]; omega) hT
      rw [hl2, ← hW2] at this
      exact this
    have e0 : (X0.toArray ++ Z1 ++ Z2).toList = X0 ++ (Z1.toList ++ Z2.toList) := by simp
    have e1 : wrL (X0.toArray ++ Z1 ++ Z2).toList (i * 1) (gK x) = X0 ++ gK x ++ (Z1.toList ++ Z2.toList).drop 1 := by
      rw [e0]
      have := wrL_eq (gK x) X0 (Z1.toList ++ Z2.toList) (by rw [hg, List.length_append, Array.length_toList, hZ1l]; omega)
      rw [hXl, hg] at this
      exact this
    rw [List.toList_toArray, e1]
    have := wrL_eq D (X0 ++ gK x) ((Z1.toList ++ Z2.toList).drop 1) (by simp only [List.length_drop, List.length_append, Array.length_toList, hZ1l, hZ2l, hDl]; omega)
    rw [List.length_append, hXl, hg, ← Nat.succ_mul] at this
    rw [this, hl2, insL, List.flatMap_append, List.flatMap_cons, ← hD, ← hX0, show ∀ P Q S T : List Value, P ++ Q ++ S ++ T = (P ++ (Q ++ S)) ++ T from fun P Q S T => by simp [List.append_assoc]]
    refine List.take_left' ?_
    rw [List.length_append, List.length_append, hXl, hg, hDl]
    omega
  have HR : Hid (Fr (fun _ => False) w W2) := by
    have h0 : Fr (fun _ => False) w W0 := by rw [hW0]; exact (Fr.refl _ _).drew.alloc _
    have h1 : Fr (fun _ => False) w W1 := by rw [hW1]; exact Fr.setCells (b := nb) (Or.inr (by omega)) _ _ h0
    rw [hW2]
    exact Fr.setCells (b := nb) (Or.inr (by omega)) _ _ h1.drew
  have hz2 : ¬ ((i : Int) = (n : Int)) := by omega
  have hw1 : IntKind.i64.wrap ((i : Int) + 1) = (i : Int) + 1 := by rw [IntKind.wrap_i64]; omega
  have hin : i ≤ n := by omega
  have htn : ((i : Int) + 1).toNat = i + 1 := by omega
  have hsub : (n : Int) + 1 - (i : Int) = ((n + 1 - i : Nat) : Int) := by omega
  have hb1 : (0 : Int) ≤ (i : Int) + 1 := by omega
  have hb2 : ¬ (C = i + 1) := by omega
  have hb4 : ¬ (C = i) := by omega
  have hb7 : ¬ (n = i) := by omega
  have hb3 : (i : Int) + 1 ≤ (n : Int) + 1 := by omega
  have hb5 : (i : Int) ≤ (n : Int) + 1 := by omega
  have hb6 : (n : Int) < (n : Int) + 1 := by omega
  have HS : Hid (n + 1 - (i + 1) = n - i) := by show _ = _; omega
  clear hW1 hW1b hb ht hcs hDl hDone hDc hXc hv hsz hD hX0 hXD hcur hW2 hW0 hW0b hW0s hW0o c0 hold hZ1 hZ2 hZ1l hZ2l cells hz0 hi0 hC hXl
  generalize insL i x l = L2 at *
  simp only [Nat.mul_one] at hcp1 hcp2
  have HN : Hid (nb = w.heap.size) := hnb
  clear hnb
  go_enter Try.func60, Try.ntmps60
  go_wp2_with (first | (at_builtin; refine Lib.wpList_append_run _ rfl _ _ _ _ rfl _ _ rfl rfl _ _ (hrun _) ?_) | (at_builtin; refine wpList_copy_k _ rfl _ _ 66 66 rfl _ _ rfl rfl (hcp1 _) ?_))
  go_region_law (refine step_copy_k rfl _ _ 66 66 rfl _ _ (by simp [Act.eval, Act.put]) (by simp [Act.eval, Act.put]) (hcp2 _) ?_)
  go_wp2
  go_ret
  exact ⟨_, rfl, HF.out, HR.out, by rw [← HN.out]; rfl⟩

/-- slices.Insert of one. -/
theorem insK_any {w : World} {B : Nat} {v : Value} {l : List Nat} (h : GRow 65 1 gK w B v l) (x : Nat) {i : Nat} (hi : i ≤ l.length) (hlen : l.length ≤ 90000) {vb vc : Nat} (hv : GRow 65 1 gK w 0 (.slice (some ⟨vb, 0, none⟩) 1 vc) [x]) (hvb : v.ownBlock ≠ some vb) (hB : B ≤ w.heap.size) :
    Calls Try.prog 60 #[v, .int .i64 (i : Int), .slice (some ⟨vb, 0, none⟩) 1 vc] w fun e w' => ∃ v', e = .returned v' ∧ GRow 65 1 gK w' B v' (insL i x l) ∧ Fr (fun k => v.ownBlock = some k) w w' ∧ (∀ k, v'.ownBlock = some k → v.ownBlock = some k ∨ w.heap.size ≤ k) := by
  rcases Nat.lt_or_ge i l.length with q | q
  · obtain ⟨b, c, cur, rfl, hb, hBb, hlc, hcm, hcs, ht⟩ := h.obj (h.ne (by omega))
    rcases Nat.lt_or_ge l.length c with r | r
    · refine (insK_shift hb hBb rfl r hcm hcs ht x q hlen hv (fun e => hvb (by rw [e]; rfl))).mono ?_
      rintro e w' ⟨rfl, h1, h2⟩
      exact ⟨_, rfl, h1, h2, fun k hk => Or.inl hk⟩
    · have : c = l.length := by omega
      subst this
      refine (insK_grow hb hB rfl hcs ht x q hlen hv).mono ?_
      rintro e w' ⟨v', rfl, h1, h2, h3⟩
      exact ⟨_, rfl, h1, h2.weak (fun _ _ f => f.elim), fun k hk => Or.inr (by rw [h3] at hk; cases hk; exact Nat.le_refl _)⟩
  · have : i = l.length := by omega
    subst this
    refine (insK_end h x hlen hv hB).mono ?_
    rintro e w' ⟨v', rfl, h1, h2, h3⟩
    exact ⟨_, rfl, by simpa [insL] using h1, h2, h3⟩

end Go.Proofs.Ytkfoddblgdmabaa.tr
