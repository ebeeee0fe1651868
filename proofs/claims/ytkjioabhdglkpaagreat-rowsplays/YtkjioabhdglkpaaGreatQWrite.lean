/- write: a dirty frame's page comes to the device. -/
import Derived.Test.YtkjioabhdglkpaaGreatQUse
import Derived.Test.YtkjioabhdglkpaaGreatQTake
namespace Go.Proofs.YtkjioabhdglkpaaGreat
open Go.RowKit

/-- What a write of a frame tells, and what the device and the frame are then. -/
def wrE (D : DS) (f : Fm) : Int := if f.dirty then (if D.left = 0 then 41 else if D.next = 1 then 42 else 0) else 0
def wrD (D : DS) (f : Fm) : DS := if f.dirty then (if D.left = 0 then D else if D.next = 1 then { D with next := 0 } else D.wrote f.pg f.s) else D
def wrF (D : DS) (f : Fm) : Fm := if wrE D f = 0 then { f with dirty := false } else f
def wrN (D : DS) (f : Fm) : Nat := if f.dirty ∧ wrE D f = 0 then 1 else 0

theorem wrD_n (D : DS) (f : Fm) : (wrD D f).n = D.n := by
  unfold wrD
  split
  · split
    · rfl
    · split <;> rfl
  · rfl

theorem wr_inv {bd : Nat} {D : DS} {f : Fm} (hI : Inv bd D) (hpg : f.pg < D.n) (hs : f.s.size = 512) : Inv (bd + 1) (wrD D f) := by
  unfold wrD
  split
  · split
    · exact hI.mono (Nat.le_succ _)
    · split
      · exact hI.broken.mono (Nat.le_succ _)
      · exact hI.wrote _ _ hpg hs
  · exact hI.mono (Nat.le_succ _)

theorem dev_write (bd : Nat) (D : DS) (f : Fm) (hI : Inv bd D) (hb : bd ≤ 10000000) (hpg : f.pg < D.n) (hs : f.s.size = 512) (hd : f.dirty = true) :
    ∀ B w g gs hv, Dev B w g gs hv D → B ≤ w.heap.size → Calls Tryz.prog 74 #[.pointer (some ⟨g, 0, none⟩), .int .i64 (f.pg : Int), .string f.s] w fun e w' => e = .returned (.int .i64 (wrE D f)) ∧ DTo B w g gs hv (wrD D f) w' := by
  obtain ⟨E, D', _, hc, c⟩ := write_blk bd D hI hb f.pg hpg f.s hs
  have : E = wrE D f ∧ D' = wrD D f := by
    unfold wrE wrD
    rw [if_pos hd, if_pos hd]
    rcases hc with ⟨a, rfl, rfl⟩ | ⟨a, b, rfl, rfl⟩ | ⟨a, b, rfl, rfl⟩
    · rw [if_pos a, if_pos a]; exact ⟨rfl, rfl⟩
    · rw [if_neg a, if_neg a, if_pos b, if_pos b]; exact ⟨rfl, rfl⟩
    · rw [if_neg a, if_neg a, if_neg b, if_neg b]; exact ⟨rfl, rfl⟩
  rw [← this.1, ← this.2]
  exact c

section
variable {B : Nat} {w : World} {x : PX}

theorem Pd.setL (h : Pd B w x) {i b : Nat} {f f' : Fm} (hi : x.L[i]? = some (b, f)) (hO : x.O = []) {w' : World} (hs : Fr (fun k => k = b) w w') (hf : w'.heap[b]? = some (fobj f')) : PTo B w x { x with L := x.L.set i (b, f') } w' := by
  have := h.setFr (f := f) (List.mem_append_left _ (List.mem_of_getElem? hi)) hs hf
  rw [up_set b f f' x.L i hi h.ndL, hO] at this
  have e : up b f' ([] : List (Nat × Fm)) = [] := rfl
  rw [e] at this
  rw [show ({ x with L := x.L.set i (b, f') } : PX) = { x with L := x.L.set i (b, f'), O := [] } by rw [← hO]]
  exact this

set_option maxHeartbeats 1600000 in
set_option maxRecDepth 100000 in
theorem write_any (h : Pd B w x) {i b : Nat} {f : Fm} (hi : x.L[i]? = some (b, f)) (hO : x.O = []) (bd : Nat) (hI : Inv bd x.D) (hbd : bd ≤ 10000000) (hpg : f.pg < x.D.n) (hs : f.s.size = 512) (hwr : x.wr ≤ 100000000) (hB : B ≤ w.heap.size) :
    Calls Tryz.prog 47 #[.pointer (some ⟨x.p, 0, none⟩), .pointer (some ⟨b, 0, none⟩)] w fun e w' => e = .returned (.int .i64 (wrE x.D f)) ∧ ∃ dv', PTo B w x { x with dv := dv', D := wrD x.D f, wr := x.wr + wrN x.D f, L := x.L.set i (b, wrF x.D f) } w' := by
  obtain ⟨c0, _, _, _, c4⟩ := h.cell
  obtain ⟨f0, f1, f2, f3⟩ := fobj_cell (h.inL hi).1
  have H : Hid (Pd B w x) := h
  have HI : Hid (x.L[i]? = some (b, f)) := hi
  have HO : Hid (x.O = []) := hO
  by_cases hd : f.dirty = true
  · have cW := dev_write bd x.D f hI hbd hpg hs hd B w.drew x.g x.gs x.dv (h.dev.kept (fun _ _ => rfl)) hB
    have HD : Hid (f.dirty = true) := hd
    rw [hd] at f3
    clear h hi hO hd
    go_enter Tryz.func47, Tryz.ntmps47
    go_wp2_with fail
    refine wp_region_held_drew (S := (fun W => W.cell? ⟨x.p, 0, none⟩ = some (.pointer (some ⟨x.g, 0, none⟩)) ∧ W.cell? ⟨b, 0, none⟩ = some (.int .i64 (f.pg : Int)) ∧ W.cell? ⟨b, 1, none⟩ = some (.string f.s))) (by kernel_rfl) (⟨c0, f0, f1⟩) (fun hHeld => ?_)
    refine takeD 0 11 (v := .pointer (some ⟨x.p, 0, none⟩)) rfl rfl (by kernel_rfl) (by kernel_rfl) (by kernel_rfl) (fun _ _ _ h => h) (Or.inl ⟨by rfl, by (intro w hSw; obtain ⟨s0, s1, s2⟩ := hSw; go_simp)⟩) hHeld ?_
    simp only [List.setIfInBounds_toArray, List.set_cons_zero, List.set_cons_succ]
    refine takeD 1 12 (v := .pointer (some ⟨x.p, 0, none⟩)) rfl rfl (by kernel_rfl) (by kernel_rfl) (by kernel_rfl) (fun _ _ _ h => h) (Or.inl ⟨by rfl, by (intro w hSw; obtain ⟨s0, s1, s2⟩ := hSw; go_simp)⟩) hHeld ?_
    simp only [List.setIfInBounds_toArray, List.set_cons_zero, List.set_cons_succ]
    refine takeD 2 13 (v := .pointer (some ⟨x.p, 0, none⟩)) rfl rfl (by kernel_rfl) (by kernel_rfl) (by kernel_rfl) (fun _ _ _ h => h) (Or.inl ⟨by rfl, by (intro w hSw; obtain ⟨s0, s1, s2⟩ := hSw; go_simp)⟩) hHeld ?_
    simp only [List.setIfInBounds_toArray, List.set_cons_zero, List.set_cons_succ]
    refine takeD 3 14 (v := .pointer (some ⟨x.g, 0, none⟩)) rfl rfl (by kernel_rfl) (by kernel_rfl) (by kernel_rfl) (fun _ _ _ h => h) (Or.inl ⟨by rfl, by (intro w hSw; obtain ⟨s0, s1, s2⟩ := hSw; go_simp)⟩) hHeld ?_
    simp only [List.setIfInBounds_toArray, List.set_cons_zero, List.set_cons_succ]
    refine takeD 4 15 (v := .pointer (some ⟨b, 0, none⟩)) rfl rfl (by kernel_rfl) (by kernel_rfl) (by kernel_rfl) (fun _ _ _ h => h) (Or.inl ⟨by rfl, by (intro w hSw; obtain ⟨s0, s1, s2⟩ := hSw; go_simp)⟩) hHeld ?_
    simp only [List.setIfInBounds_toArray, List.set_cons_zero, List.set_cons_succ]
    refine takeD 5 16 (v := .pointer (some ⟨b, 0, none⟩)) rfl rfl (by kernel_rfl) (by kernel_rfl) (by kernel_rfl) (fun _ _ _ h => h) (Or.inl ⟨by rfl, by (intro w hSw; obtain ⟨s0, s1, s2⟩ := hSw; go_simp)⟩) hHeld ?_
    simp only [List.setIfInBounds_toArray, List.set_cons_zero, List.set_cons_succ]
    refine takeD 6 17 (v := .pointer (some ⟨b, 0, none⟩)) rfl rfl (by kernel_rfl) (by kernel_rfl) (by kernel_rfl) (fun _ _ _ h => h) (Or.inl ⟨by rfl, by (intro w hSw; obtain ⟨s0, s1, s2⟩ := hSw; go_simp)⟩) hHeld ?_
    simp only [List.setIfInBounds_toArray, List.set_cons_zero, List.set_cons_succ]
    refine takeD 7 18 (v := .int .i64 (f.pg : Int)) rfl rfl (by kernel_rfl) (by kernel_rfl) (by kernel_rfl) (fun _ _ _ h => h) (Or.inl ⟨by rfl, by (intro w hSw; obtain ⟨s0, s1, s2⟩ := hSw; go_simp)⟩) hHeld ?_
    simp only [List.setIfInBounds_toArray, List.set_cons_zero, List.set_cons_succ]
    refine takeD 8 19 (v := .pointer (some ⟨b, 0, none⟩)) rfl rfl (by kernel_rfl) (by kernel_rfl) (by kernel_rfl) (fun _ _ _ h => h) (Or.inl ⟨by rfl, by (intro w hSw; obtain ⟨s0, s1, s2⟩ := hSw; go_simp)⟩) hHeld ?_
    simp only [List.setIfInBounds_toArray, List.set_cons_zero, List.set_cons_succ]
    refine takeD 9 20 (v := .pointer (some ⟨b, 0, none⟩)) rfl rfl (by kernel_rfl) (by kernel_rfl) (by kernel_rfl) (fun _ _ _ h => h) (Or.inl ⟨by rfl, by (intro w hSw; obtain ⟨s0, s1, s2⟩ := hSw; go_simp)⟩) hHeld ?_
    simp only [List.setIfInBounds_toArray, List.set_cons_zero, List.set_cons_succ]
    refine takeD 10 21 (v := .pointer (some ⟨b, 1, none⟩)) rfl rfl (by kernel_rfl) (by kernel_rfl) (by kernel_rfl) (fun _ _ _ h => h) (Or.inl ⟨by rfl, by (intro w hSw; obtain ⟨s0, s1, s2⟩ := hSw; go_simp)⟩) hHeld ?_
    simp only [List.setIfInBounds_toArray, List.set_cons_zero, List.set_cons_succ]
    refine takeD 11 22 (v := .string f.s) rfl rfl (by kernel_rfl) (by kernel_rfl) (by kernel_rfl) (fun _ _ _ h => h) (Or.inl ⟨by rfl, by (intro w hSw; obtain ⟨s0, s1, s2⟩ := hSw; go_simp)⟩) hHeld ?_
    simp only [List.setIfInBounds_toArray, List.set_cons_zero, List.set_cons_succ]
    refine wpAnyH_ready (rs := [12]) (by kernel_rfl) (by simp) ?_
    refine AllReadyH.cons rfl (fun K hK => ?_) AllReadyH.nil
    go_simp
    refine cW.mono ?_
    rintro e w1 ⟨rfl, d1⟩
    clear cW
    have h1 := H.out.below (below_drew w)
    obtain ⟨dv1, t1⟩ := h1.devTo d1
    have T1 : Hid (PTo B w.drew x _ w1) := t1
    obtain ⟨c0', _, _, _, c4'⟩ := t1.pd.cell
    obtain ⟨f0', f1', f2', f3'⟩ := fobj_cell (t1.pd.inL HI.out).1
    have z1 := fobj_free (t1.pd.inL HI.out).1 3
    have z2 := t1.pd.free? 4
    simp only at c0' c4' f0' f1' f2' f3' z1 z2
    clear h1 t1
    go_simp
    refine hK.out _ _ ⟨c0', f0', f1'⟩ (fun hHeld => ?_)
    clear hK K
    refine takeD 13 5 (v := .int .i64 (wrE x.D f)) rfl rfl (by kernel_rfl) (by kernel_rfl) (by kernel_rfl) (fun _ _ _ h => h) (Or.inl ⟨by rfl, by (intro w hSw; (try dsimp only at hSw); go_simp)⟩) hHeld ?_
    simp only [List.setIfInBounds_toArray, List.set_cons_zero, List.set_cons_succ]
    refine wpAnyH_done (by kernel_rfl) ?_ _
    by_cases he : wrE x.D f = 0
    · have HE : Hid (wrE x.D f = 0) := he
      have hN : Hid (wrN x.D f = 1 ∧ wrF x.D f = { f with dirty := false }) := ⟨by unfold wrN; rw [if_pos ⟨HD.out, he⟩], by unfold wrF; rw [if_pos he]⟩
      rw [he]
      clear he
      go_wp2_with fail
      go_ret
      have e4 : (((x.wr + 1 : Nat)) : Int) = (x.wr : Int) + 1 := by omega
      rw [← e4]
      have t2 := T1.out.pd.setWr (x.wr + 1)
      have t3 := t2.pd.setL HI.out HO.out (fr_set _ b 3 (.bool false)) (fobj_set3 (t2.pd.inL HI.out).1 false)
      refine ⟨by rw [HE.out]; rfl, dv1, ?_⟩
      rw [hN.out.1, hN.out.2]
      exact (PTo.of_below H.out (below_drew w)).trans (T1.out.trans (t2.trans t3))
    · have he2 : (wrE x.D f == 0) = false := by simpa using he
      have hN : Hid (wrN x.D f = 0 ∧ wrF x.D f = f) := ⟨by unfold wrN; rw [if_neg (fun q => he q.2)], by unfold wrF; rw [if_neg he]⟩
      clear he
      obtain ⟨E, HE⟩ : ∃ E, Hid (wrE x.D f = E) := ⟨_, rfl⟩
      rw [HE.out] at he2 ⊢
      go_wp2_with fail
      go_ret
      refine ⟨by rw [HE.out]; rfl, dv1, ?_⟩
      rw [hN.out.1, hN.out.2, Nat.add_zero, set_self HI.out]
      exact (PTo.of_below H.out (below_drew w)).trans T1.out
  · have hd' : f.dirty = false := by simpa using hd
    have HN : Hid (wrE x.D f = 0 ∧ wrD x.D f = x.D ∧ wrN x.D f = 0 ∧ wrF x.D f = f) := by
      have e : wrE x.D f = 0 := by unfold wrE; rw [if_neg hd]
      refine ⟨e, by unfold wrD; rw [if_neg hd], by unfold wrN; rw [if_neg (fun q => hd q.1)], by unfold wrF; rw [if_pos e, ← hd']⟩
    rw [hd'] at f3
    clear h hi hO hd hd'
    go_enter Tryz.func47, Tryz.ntmps47
    go_wp2_with fail
    go_ret
    obtain ⟨n1, n2, n3, n4⟩ := HN.out
    refine ⟨by rw [n1]; rfl, x.dv, ?_⟩
    rw [n2, n3, n4, Nat.add_zero, set_self HI.out]
    exact PTo.refl H.out
end
end Go.Proofs.YtkjioabhdglkpaaGreat
