/- Layer 10: slices.Delete at entries and at the addresses of nodes. -/
import Derived.Test.YtkfoddblgdmabaaTrRun
import Derived.Shelf.RegionOpenPlain
import Derived.Deep.RegionLaw
namespace Go.Proofs.Ytkfoddblgdmabaa.tr
open Go.RowKit Go.Lib Go.Shelf

set_option maxHeartbeats 4000000 in
set_option maxRecDepth 1000000 in
theorem delE_any {w : World} {B : Nat} {v : Value} {l : List Ent} (h : GRow 58 2 gE w B v l) (i j : Nat) (hij : i < j) (hj : j ≤ l.length) (hlen : l.length ≤ 100000) : Calls Try.prog 49 #[v, .int .i64 (i : Int), .int .i64 (j : Int)] w fun e w' => ∃ v', e = .returned v' ∧ GRow 58 2 gE w' B v' (l.take i ++ l.drop j) ∧ Fr (fun k => v.ownBlock = some k) w w' ∧ v'.ownBlock = v.ownBlock := by
  obtain ⟨b, c, cur, rfl, hb, hB, hlc, hcm, hcs, ht⟩ := h.obj (h.ne (by omega))
  obtain ⟨i0, hi0, hz0, hz1, hz2⟩ := info_parts Try.infoE
  have hcm' := hcm
  unfold maxLen at hcm'
  have hg := gE_len
  obtain ⟨n, hn⟩ : ∃ n, n = l.length := ⟨_, rfl⟩
  -- the cells
  obtain ⟨R, hR⟩ : ∃ R, cur.toList = l.flatMap gE ++ R := ⟨cur.toList.drop (l.length * 2), by rw [← ht, List.take_append_drop]⟩
  have hRl : R.length = c * 2 - n * 2 := by
    have := congrArg List.length hR
    rw [List.length_append, flat_len hg] at this
    simp only [Array.length_toList, hcs] at this
    omega
  obtain ⟨news, hnews⟩ : ∃ news, news = (l.drop j).flatMap gE := ⟨_, rfl⟩
  have hnl : news.length = (n - j) * 2 := by rw [hnews, flat_len hg, List.length_drop, hn]
  have cells : ∀ k, w.cell? ⟨b, k, none⟩ = cur[k]? ∧ w.frozen? ⟨b, k, none⟩ = false := fun k => cell_obj hb
  have hsome : ∀ k, k < c * 2 → (w.cell? ⟨b, k, none⟩).isSome = true := fun k hk => by rw [(cells k).1, Array.getElem?_eq_getElem (by omega)]; rfl
  have hsrc0 : ∀ t u, news[t]? = some u → w.cell? ⟨b, j * 2 + t, none⟩ = some u := fun t u hu => by
    have ht' : t < news.length := (List.getElem?_eq_some_iff.1 hu).1
    rw [(cells _).1, ← Array.getElem?_toList, hR, List.getElem?_append_left (by rw [flat_len hg, ← hn]; omega), ← List.getElem?_drop, flat_drop hg l j hj, ← hnews]
    exact hu
  obtain ⟨A, hA, hsrc⟩ : ∃ A : Addr, (if c = j then some (⟨b, 0, none⟩ : Addr) else some ⟨b, j * 2, none⟩) = some A ∧ Hid (∀ t u, news[t]? = some u → w.drew.cell? (A.add t) = some u) := by
    by_cases q : c = j
    · refine ⟨⟨b, 0, none⟩, by simp [q], fun t u hu => ?_⟩
      have : t < news.length := (List.getElem?_eq_some_iff.1 hu).1
      omega
    · exact ⟨⟨b, j * 2, none⟩, by simp [q], fun t u hu => by rw [Addr.add_lit]; exact hsrc0 t u hu⟩
  have s1 : Hid (news.length = (n - j) * 2) := hnl
  have s2 : Hid (∀ u ∈ news, u.oneCell' = true) := by
    intro u hu
    rw [hnews] at hu
    obtain ⟨x, _, hx⟩ := List.mem_flatMap.1 hu
    exact gE_one x u hx
  have s3 : Hid (∀ t, t < news.length → (w.drew.cell? ⟨b, 0 + i * 2 + t, none⟩).isSome = true ∧ w.drew.frozen? ⟨b, 0 + i * 2 + t, none⟩ = false) := fun t ht' => ⟨hsome _ (by omega), (cells _).2⟩
  obtain ⟨W1, hW1⟩ : ∃ W1, W1 = w.drew.setCells b (0 + i * 2) news := ⟨_, rfl⟩
  have hW1b : W1.heap[b]? = some (.cells (wrL cur.toList (i * 2) news).toArray 58 (0, 0)) := by rw [hW1, Nat.zero_add]; exact heap_setCells b _ news (i * 2) w.drew cur hb
  have cells1 : ∀ k, W1.cell? ⟨b, k, none⟩ = (wrL cur.toList (i * 2) news).toArray[k]? ∧ W1.frozen? ⟨b, k, none⟩ = false := fun k => cell_obj hW1b
  have hsome1 : ∀ k, k < c * 2 → (W1.cell? ⟨b, k, none⟩).isSome = true := fun k hk => by rw [(cells1 k).1, Array.getElem?_eq_getElem (by simp [wrL_len]; omega)]; rfl
  obtain ⟨zs, hzs⟩ : ∃ zs, zs = (Builtin.zeroCells (.agg #[.string ⟨#[]⟩, .int .i64 0] : Value).cells (j - i)).toList := ⟨_, rfl⟩
  have hzl : zs.length = (j - i) * 2 := by rw [hzs, Array.length_toList, zeroCells_len]; rfl
  have hcl : ∀ ty, (Builtin.clear_ #[45] ty #[.slice (some ⟨b, (i + (n - j)) * 2, none⟩) (n - (i + (n - j))) (c - (i + (n - j)))]).run Try.prog W1 = .ok (.tuple #[]) (W1.setCells b ((i + (n - j)) * 2) zs) := fun ty => by
    have hjn : n - (i + (n - j)) = j - i := by omega
    rw [hjn, hzs]
    exact run_clear_k W1 45 58 ty (.agg #[.string ⟨#[]⟩, .int .i64 0]) Try.underlying45 Try.zeroE (fun v hv => by simp [Value.cells] at hv; first | (rcases hv with rfl | rfl <;> rfl) | (subst hv; rfl)) b ((i + (n - j)) * 2) (j - i) _ (by omega) (fun k hk => hsome1 _ (by simp [Value.cells] at hk; omega)) (fun k _ => (cells1 _).2)
  have HC : Hid (∀ ty, (Builtin.clear_ #[45] ty #[.slice (some ⟨b, (i + (n - j)) * 2, none⟩) (n - (i + (n - j))) (c - (i + (n - j)))]).run Try.prog W1 = .ok (.tuple #[]) (W1.setCells b ((i + (n - j)) * 2) zs)) := hcl
  -- what is behind
  have HF : Hid (GRow 58 2 gE (W1.setCells b ((i + (n - j)) * 2) zs) B (.slice (some ⟨b, 0, none⟩) (i + (n - j)) c) (l.take i ++ l.drop j)) := by
    have hl2 : (l.take i ++ l.drop j).length = i + (n - j) := by simp; omega
    suffices hT : (wrL (wrL cur.toList (i * 2) news).toArray.toList ((i + (n - j)) * 2) zs).take ((l.take i ++ l.drop j).length * 2) = (l.take i ++ l.drop j).flatMap gE by
      have := GRow.written hg zs hW1b hB (by omega) hcm (by simp [wrL_len, hcs]) hT
      rw [hl2] at this
      exact this
    have eI : l.flatMap gE = (l.take i).flatMap gE ++ (l.drop i).flatMap gE := by rw [← List.flatMap_append, List.take_append_drop]
    have lI : ((l.take i).flatMap gE).length = i * 2 := by rw [flat_len hg, List.length_take, Nat.min_eq_left (by omega)]
    have lD : ((l.drop i).flatMap gE).length = (n - i) * 2 := by rw [flat_len hg, List.length_drop, ← hn]
    have e1 : wrL cur.toList (i * 2) news = (l.take i).flatMap gE ++ news ++ (((l.drop i).flatMap gE) ++ R).drop news.length := by
      rw [hR, eI, List.append_assoc]
      have := wrL_eq news ((l.take i).flatMap gE) ((l.drop i).flatMap gE ++ R) (by rw [List.length_append]; omega)
      rw [lI] at this
      exact this
    have lX : ((l.take i).flatMap gE ++ news).length = (i + (n - j)) * 2 := by rw [List.length_append, lI]; omega
    rw [List.toList_toArray, e1]
    have := wrL_eq zs ((l.take i).flatMap gE ++ news) ((((l.drop i).flatMap gE) ++ R).drop news.length) (by rw [List.length_drop, List.length_append, hzl, hnl, hRl]; omega)
    rw [lX] at this
    rw [this, hl2, ← lX, List.append_assoc ((l.take i).flatMap gE ++ news), List.take_left, List.flatMap_append, hnews]
  have HR : Hid (Fr (fun k => (Value.slice (some ⟨b, 0, none⟩) l.length c).ownBlock = some k) w (W1.setCells b ((i + (n - j)) * 2) zs)) := by
    refine Fr.setCells (F := fun k => (Value.slice (some ⟨b, 0, none⟩) l.length c).ownBlock = some k) (b := b) (Or.inl rfl) zs _ ?_
    rw [hW1]
    exact Fr.setCells (F := fun k => (Value.slice (some ⟨b, 0, none⟩) l.length c).ownBlock = some k) (b := b) (Or.inl rfl) news _ (Fr.refl _ _).drew
  have hW : Hid (W1 = w.drew.setCells b (0 + i * 2) news) := hW1
  have hic : i ≤ c := by omega
  have hjc : j ≤ c := by omega
  have hlj : ¬ ((i : Int) = (j : Int)) := by omega
  clear hcl hW1 hW1b hsome1 cells1 hsrc0 hsome cells hR hRl hnl hb ht hcs h hzs hzl hnews
  have hin : i ≤ n := by omega
  have h1 : i + (n - j) ≤ c := by omega
  have h2 : i + (n - j) ≤ n := by omega
  rw [← hn] at HR ⊢
  rw [← hn] at hlen hlc hj
  generalize (l.take i ++ l.drop j) = L2 at HF ⊢
  clear hn
  go_enter Try.func49, Try.ntmps49
  go_wp2_with fail
  go_region_law (refine step_append_room rfl (.tmp 22) (.tmp 25) 45 rfl 58 i0 2 Try.underlying45 hi0 hz1 b 0 i c (by simp [Act.eval, Act.put]) A (n - j) (c - j) news (by simp [Act.eval, Act.put]) s1.out hsrc.out s2.out (by omega) s3.out ?_; rw [← hW.out])
  have hcl2 := HC.out
  go_wp2
  go_ret
  exact ⟨_, rfl, HF.out, HR.out, rfl⟩

set_option maxHeartbeats 4000000 in
set_option maxRecDepth 1000000 in
theorem delK_any {w : World} {B : Nat} {v : Value} {l : List Nat} (h : GRow 65 1 gK w B v l) (i j : Nat) (hij : i < j) (hj : j ≤ l.length) (hlen : l.length ≤ 100000) : Calls Try.prog 62 #[v, .int .i64 (i : Int), .int .i64 (j : Int)] w fun e w' => ∃ v', e = .returned v' ∧ GRow 65 1 gK w' B v' (l.take i ++ l.drop j) ∧ Fr (fun k => v.ownBlock = some k) w w' ∧ v'.ownBlock = v.ownBlock := by
  obtain ⟨b, c, cur, rfl, hb, hB, hlc, hcm, hcs, ht⟩ := h.obj (h.ne (by omega))
  obtain ⟨i0, hi0, hz0, hz1, hz2⟩ := info_parts Try.infoK
  have hcm' := hcm
  unfold maxLen at hcm'
  have hg := gK_len
  obtain ⟨n, hn⟩ : ∃ n, n = l.length := ⟨_, rfl⟩
  -- the cells
  obtain ⟨R, hR⟩ : ∃ R, cur.toList = l.flatMap gK ++ R := ⟨cur.toList.drop (l.length * 1), by rw [← ht, List.take_append_drop]⟩
  have hRl : R.length = c * 1 - n * 1 := by
    have := congrArg List.length hR
    rw [List.length_append, flat_len hg] at this
    simp only [Array.length_toList, hcs] at this
    omega
  obtain ⟨news, hnews⟩ : ∃ news, news = (l.drop j).flatMap gK := ⟨_, rfl⟩
  have hnl : news.length = (n - j) * 1 := by rw [hnews, flat_len hg, List.length_drop, hn]
  have cells : ∀ k, w.cell? ⟨b, k, none⟩ = cur[k]? ∧ w.frozen? ⟨b, k, none⟩ = false := fun k => cell_obj hb
  have hsome : ∀ k, k < c * 1 → (w.cell? ⟨b, k, none⟩).isSome = true := fun k hk => by rw [(cells k).1, Array.getElem?_eq_getElem (by omega)]; rfl
  have hsrc0 : ∀ t u, news[t]? = some u → w.cell? ⟨b, j * 1 + t, none⟩ = some u := fun t u hu => by
    have ht' : t < news.length := (List.getElem?_eq_some_iff.1 hu).1
    rw [(cells _).1, ← Array.getElem?_toList, hR, List.getElem?_append_left (by rw [flat_len hg, ← hn]; omega), ← List.getElem?_drop, flat_drop hg l j hj, ← hnews]
    exact hu
  obtain ⟨A, hA, hsrc⟩ : ∃ A : Addr, (if c = j then some (⟨b, 0, none⟩ : Addr) else some ⟨b, j * 1, none⟩) = some A ∧ Hid (∀ t u, news[t]? = some u → w.drew.cell? (A.add t) = some u) := by
    by_cases q : c = j
    · refine ⟨⟨b, 0, none⟩, by simp [q], fun t u hu => ?_⟩
      have : t < news.length := (List.getElem?_eq_some_iff.1 hu).1
      omega
    · exact ⟨⟨b, j * 1, none⟩, by simp [q], fun t u hu => by rw [Addr.add_lit]; exact hsrc0 t u hu⟩
  have s1 : Hid (news.length = (n - j) * 1) := hnl
  have s2 : Hid (∀ u ∈ news, u.oneCell' = true) := by
    intro u hu
    rw [hnews] at hu
    obtain ⟨x, _, hx⟩ := List.mem_flatMap.1 hu
    exact gK_one x u hx
  have s3 : Hid (∀ t, t < news.length → (w.drew.cell? ⟨b, 0 + i * 1 + t, none⟩).isSome = true ∧ w.drew.frozen? ⟨b, 0 + i * 1 + t, none⟩ = false) := fun t ht' => ⟨hsome _ (by omega), (cells _).2⟩
  obtain ⟨W1, hW1⟩ : ∃ W1, W1 = w.drew.setCells b (0 + i * 1) news := ⟨_, rfl⟩
  have hW1b : W1.heap[b]? = some (.cells (wrL cur.toList (i * 1) news).toArray 65 (0, 0)) := by rw [hW1, Nat.zero_add]; exact heap_setCells b _ news (i * 1) w.drew cur hb
  have cells1 : ∀ k, W1.cell? ⟨b, k, none⟩ = (wrL cur.toList (i * 1) news).toArray[k]? ∧ W1.frozen? ⟨b, k, none⟩ = false := fun k => cell_obj hW1b
  have hsome1 : ∀ k, k < c * 1 → (W1.cell? ⟨b, k, none⟩).isSome = true := fun k hk => by rw [(cells1 k).1, Array.getElem?_eq_getElem (by simp [wrL_len]; omega)]; rfl
  obtain ⟨zs, hzs⟩ : ∃ zs, zs = (Builtin.zeroCells (.pointer none : Value).cells (j - i)).toList := ⟨_, rfl⟩
  have hzl : zs.length = (j - i) * 1 := by rw [hzs, Array.length_toList, zeroCells_len]; rfl
  have hcl : ∀ ty, (Builtin.clear_ #[66] ty #[.slice (some ⟨b, (i + (n - j)) * 1, none⟩) (n - (i + (n - j))) (c - (i + (n - j)))]).run Try.prog W1 = .ok (.tuple #[]) (W1.setCells b ((i + (n - j)) * 1) zs) := fun ty => by
    have hjn : n - (i + (n - j)) = j - i := by omega
    rw [hjn, hzs]
    exact run_clear_k W1 66 65 ty (.pointer none) Try.underlying66 Try.zeroK (fun v hv => by simp [Value.cells] at hv; first | (rcases hv with rfl | rfl <;> rfl) | (subst hv; rfl)) b ((i + (n - j)) * 1) (j - i) _ (by omega) (fun k hk => hsome1 _ (by simp [Value.cells] at hk; omega)) (fun k _ => (cells1 _).2)
  have HC : Hid (∀ ty, (Builtin.clear_ #[66] ty #[.slice (some ⟨b, (i + (n - j)) * 1, none⟩) (n - (i + (n - j))) (c - (i + (n - j)))]).run Try.prog W1 = .ok (.tuple #[]) (W1.setCells b ((i + (n - j)) * 1) zs)) := hcl
  -- what is behind
  have HF : Hid (GRow 65 1 gK (W1.setCells b ((i + (n - j)) * 1) zs) B (.slice (some ⟨b, 0, none⟩) (i + (n - j)) c) (l.take i ++ l.drop j)) := by
    have hl2 : (l.take i ++ l.drop j).length = i + (n - j) := by simp; omega
    suffices hT : (wrL (wrL cur.toList (i * 1) news).toArray.toList ((i + (n - j)) * 1) zs).take ((l.take i ++ l.drop j).length * 1) = (l.take i ++ l.drop j).flatMap gK by
      have := GRow.written hg zs hW1b hB (by omega) hcm (by simp [wrL_len, hcs]) hT
      rw [hl2] at this
      exact this
    have eI : l.flatMap gK = (l.take i).flatMap gK ++ (l.drop i).flatMap gK := by rw [← List.flatMap_append, List.take_append_drop]
    have lI : ((l.take i).flatMap gK).length = i * 1 := by rw [flat_len hg, List.length_take, Nat.min_eq_left (by omega)]
    have lD : ((l.drop i).flatMap gK).length = (n - i) * 1 := by rw [flat_len hg, List.length_drop, ← hn]
    have e1 : wrL cur.toList (i * 1) news = (l.take i).flatMap gK ++ news ++ (((l.drop i).flatMap gK) ++ R).drop news.length := by
      rw [hR, eI, List.append_assoc]
      have := wrL_eq news ((l.take i).flatMap gK) ((l.drop i).flatMap gK ++ R) (by rw [List.length_append]; omega)
      rw [lI] at this
      exact this
    have lX : ((l.take i).flatMap gK ++ news).length = (i + (n - j)) * 1 := by rw [List.length_append, lI]; omega
    rw [List.toList_toArray, e1]
    have := wrL_eq zs ((l.take i).flatMap gK ++ news) ((((l.drop i).flatMap gK) ++ R).drop news.length) (by rw [List.length_drop, List.length_append, hzl, hnl, hRl]; omega)
    rw [lX] at this
    rw [this, hl2, ← lX, List.append_assoc ((l.take i).flatMap gK ++ news), List.take_left, List.flatMap_append, hnews]
  have HR : Hid (Fr (fun k => (Value.slice (some ⟨b, 0, none⟩) l.length c).ownBlock = some k) w (W1.setCells b ((i + (n - j)) * 1) zs)) := by
    refine Fr.setCells (F := fun k => (Value.slice (some ⟨b, 0, none⟩) l.length c).ownBlock = some k) (b := b) (Or.inl rfl) zs _ ?_
    rw [hW1]
    exact Fr.setCells (F := fun k => (Value.slice (some ⟨b, 0, none⟩) l.length c).ownBlock = some k) (b := b) (Or.inl rfl) news _ (Fr.refl _ _).drew
  have hW : Hid (W1 = w.drew.setCells b (0 + i * 1) news) := hW1
  have hic : i ≤ c := by omega
  have hjc : j ≤ c := by omega
  have hlj : ¬ ((i : Int) = (j : Int)) := by omega
  clear hcl hW1 hW1b hsome1 cells1 hsrc0 hsome cells hR hRl hnl hb ht hcs h hzs hzl hnews
  have hin : i ≤ n := by omega
  have h1 : i + (n - j) ≤ c := by omega
  have h2 : i + (n - j) ≤ n := by omega
  rw [← hn] at HR ⊢
  rw [← hn] at hlen hlc hj
  generalize (l.take i ++ l.drop j) = L2 at HF ⊢
  clear hn
  simp only [Nat.mul_one] at hA HC HF HR
  go_enter Try.func62, Try.ntmps62
  go_wp2_with fail
  go_region_law (refine step_append_room rfl (.tmp 22) (.tmp 25) 66 rfl 65 i0 1 Try.underlying66 hi0 hz1 b 0 i c (by simp [Act.eval, Act.put]) A (n - j) (c - j) news (by simp [Act.eval, Act.put]) s1.out hsrc.out s2.out (by omega) s3.out ?_; rw [← hW.out])
  have hcl2 := HC.out
  go_wp2
  go_ret
  exact ⟨_, rfl, HF.out, HR.out, rfl⟩

end Go.Proofs.Ytkfoddblgdmabaa.tr
