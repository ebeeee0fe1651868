/- The document's pool: give. -/
import Derived.Test.YtghocbaafdnddaaGreatRRow
namespace Go.Proofs.YtghocbaafdnddaaGreat
open Go.RowKit

/-- The document's pool in a state. -/
structure Rs (S : St) (y : RX) : Prop where
  n : y.n = S.n
  l : y.l = S.l
  rd : y.rd = S.rd
  wr : y.wr = S.wr
  rel : Rel S.D y.Q

/-- A dirty page is written. -/
theorem rwrite_rel (b : Nat) (D : DS) (Q : RS) (hi : Inv b D) (hr : Rel D Q) (hb : b ≤ 100000) (f : Fm) (hpg : f.pg < D.n) (hs : f.s.size = 512) (hd : f.dirty = true) :
    ∃ Q', Rel (wrD D f) Q' ∧ ∀ B w g h, RDev B w g h Q → B ≤ w.heap.size → Calls Tryz.prog 56 #[.pointer (some ⟨g, 0, none⟩), .int .i64 (f.pg : Int), .string f.s] w fun e w' => e = .returned (.int .i64 (wrE D f)) ∧ RTo B w g h Q' w' := by
  obtain ⟨q1, q2, q3, q4, q5⟩ := hr.bounds hi hb
  have hdn := hr.down
  have hin : f.pg < Q.n := by rw [← hr.n]; exact hpg
  unfold wrD wrE
  rw [if_pos hd, if_pos hd]
  by_cases hl : D.left = 0
  · rw [if_pos hl, if_pos hl]
    rw [show (D.left == 0) = true by simpa using hl] at hdn
    refine ⟨Q, hr, fun B w g h r _ => (rwrite_down r f.pg hin f.s hs hdn.symm).mono ?_⟩
    rintro e w' ⟨rfl, rfl⟩
    exact ⟨rfl, .same r⟩
  · rw [if_neg hl, if_neg hl]
    rw [show (D.left == 0) = false by simpa using hl] at hdn
    by_cases hn : D.next = 1
    · rw [if_pos hn, if_pos hn]
      have hq : Q.refuse = 1 := by rcases hr.ref with ⟨a, l⟩ | ⟨a, l⟩ <;> omega
      refine ⟨_, hr.broken, fun B w g h r _ => (rwrite_broken r f.pg hin f.s hs hdn.symm hq).mono ?_⟩
      rintro e w' ⟨rfl, r', fr⟩
      exact ⟨rfl, .of r' fr⟩
    · rw [if_neg hn, if_neg hn]
      have hq : Q.refuse ≠ 1 := by rcases hr.ref with ⟨a, l⟩ | ⟨a, l⟩ <;> omega
      refine ⟨_, hr.wrote f.pg f.s hl hn, fun B w g h r hB => (rwrite_ok r f.pg hin f.s hs hdn.symm hq hB q1 q2 q3 q4).mono ?_⟩
      rintro e w' ⟨rfl, h', r', fr, gr⟩
      exact ⟨rfl, h', r', fr, gr⟩

section
variable {B bd : Nat} {w : World} {y : RX}

set_option maxHeartbeats 3200000 in
set_option maxRecDepth 100000 in
theorem rgive_any {S : St} (h : Rp B w y) (k : Rs S y) (ho : OkS bd S) (hbd : bd ≤ 90000) (hB : B ≤ w.heap.size) (i : Nat) (f : Fm) (hS : S.l[i]? = some f) :
    Calls Tryz.prog 52 #[.pointer (some ⟨y.q, 0, none⟩), .int .i64 (i : Int)] w fun e w' => e = .returned (.int .i64 (giveS S i f).1) ∧ ∃ y', RpTo B w y y' w' ∧ Rs (giveS S i f).2 y' := by
  obtain ⟨p1, p2, p3⟩ := ho.pg f (List.mem_of_getElem? hS)
  have hi : y.l[i]? = some f := by rw [k.l]; exact hS
  have hl : y.l.length ≤ 64 := by rw [k.l]; have := ho.len; have := ho.n; omega
  obtain ⟨c0, _, c2, _, c4⟩ := h.cell
  obtain ⟨ra, rc, e, hsc, hcm, hBa, haw, hlt, d0, d1, d2, d3, hfz⟩ := h.at hi
  have hlt2 : (i : Int) < (y.l.length : Int) := by omega
  have HL : Hid (y.l.length ≤ 1000) := show y.l.length ≤ 1000 by omega
  rw [e] at c2
  cases hd : f.dirty with
  | false =>
    have HE : Hid (giveS S i f = (0, { S with l := S.l.eraseIdx i })) := by
      have e0 : wrE S.D f = 0 := by unfold wrE; rw [hd]; rfl
      have e1 : wrN S.D f = 0 := by unfold wrN; rw [hd]; rfl
      have e2 : wrD S.D f = S.D := by unfold wrD; rw [hd]; rfl
      show _ = _
      unfold giveS
      rw [if_pos e0, e1, e2, Nat.add_zero]
    have HK : Hid (Rs S y) := k
    rw [hd] at d3
    obtain ⟨ad, hcut⟩ := h.cut (by omega) hi e hsc
    have HR : Hid (Rp B w y) := h
    have HBw : Hid (B ≤ w.heap.size) := hB
    have HLV : Hid (y.lv = .slice (some ⟨ra, 0, none⟩) y.l.length rc) := e
    generalize hm : i + 1 = m at hcut
    generalize hn : y.l.length = n at *
    have C : Hid (Cut w y.q y.l i m n ra rc ad) := hcut
    clear h k ho hB hS hi e hcut hm hd p1 p2 p3 hn hl
    go_enter Tryz.func52, Tryz.ntmps52
    go_wp2_with fail
    have hA := C.out.had
    have hwm := C.out.wm
    have hmn : (m : Int) ≤ (n : Int) := by have := C.out.lt; have := C.out.hm; omega
    have hirc : (i : Int) ≤ (rc : Int) := by have := C.out.lt; have := C.out.hrc; omega
    obtain ⟨N, hN⟩ : ∃ N, w.heap.size = N := ⟨_, rfl⟩
    have HN : Hid (N ≤ w.heap.size) := Nat.le_of_eq hN.symm
    have HNe : Hid (w.heap.size = N) := hN
    clear hN
    refine anyL_begin (S := fun W => Below w.heap.size w W) (n := 19) (by kernel_rfl) (below_drew w) (fun hHeld => ?_)
    refine takeL 0 45 (v := .pointer (some ⟨y.q, 0, none⟩)) rfl rfl (by kernel_rfl) (by kernel_rfl) (by kernel_rfl) (by kernel_rfl) (fun _ _ _ h => h) (Or.inl ⟨by rfl, by (intro W hSw; have s2 := C.out.ce W hSw; go_simp)⟩) hHeld ?_
    (try simp only [List.setIfInBounds_toArray, List.set_cons_zero, List.set_cons_succ])
    refine takeL 2 47 (v := .pointer (some ⟨y.q, 0, none⟩)) rfl rfl (by kernel_rfl) (by kernel_rfl) (by kernel_rfl) (by kernel_rfl) (fun _ _ _ h => h) (Or.inl ⟨by rfl, by (intro W hSw; have s2 := C.out.ce W hSw; go_simp)⟩) hHeld ?_
    (try simp only [List.setIfInBounds_toArray, List.set_cons_zero, List.set_cons_succ])
    refine takeL 3 48 (v := .pointer (some ⟨y.q, 0, none⟩)) rfl rfl (by kernel_rfl) (by kernel_rfl) (by kernel_rfl) (by kernel_rfl) (fun _ _ _ h => h) (Or.inl ⟨by rfl, by (intro W hSw; have s2 := C.out.ce W hSw; go_simp)⟩) hHeld ?_
    (try simp only [List.setIfInBounds_toArray, List.set_cons_zero, List.set_cons_succ])
    refine takeL 4 49 (v := .pointer (some ⟨y.q, 2, none⟩)) rfl rfl (by kernel_rfl) (by kernel_rfl) (by kernel_rfl) (by kernel_rfl) (fun _ _ _ h => h) (Or.inl ⟨by rfl, by (intro W hSw; have s2 := C.out.ce W hSw; go_simp)⟩) hHeld ?_
    (try simp only [List.setIfInBounds_toArray, List.set_cons_zero, List.set_cons_succ])
    refine takeL 5 50 (v := .slice (some ⟨ra, 0, none⟩) n rc) rfl rfl (by kernel_rfl) (by kernel_rfl) (by kernel_rfl) (by kernel_rfl) (fun _ _ _ h => h) (Or.inl ⟨by rfl, by (intro W hSw; have s2 := C.out.ce W hSw; go_simp)⟩) hHeld ?_
    (try simp only [List.setIfInBounds_toArray, List.set_cons_zero, List.set_cons_succ])
    refine takeL 6 51 (v := .int .i64 (i : Int)) rfl rfl (by kernel_rfl) (by kernel_rfl) (by kernel_rfl) (by kernel_rfl) (fun _ _ _ h => h) (Or.inl ⟨by rfl, by (intro W hSw; have s2 := C.out.ce W hSw; go_simp)⟩) hHeld ?_
    (try simp only [List.setIfInBounds_toArray, List.set_cons_zero, List.set_cons_succ])
    refine takeL 7 52 (v := .slice (some ⟨ra, 0, none⟩) i rc) rfl rfl (by kernel_rfl) (by kernel_rfl) (by kernel_rfl) (by kernel_rfl) (fun _ _ _ h => h) (Or.inl ⟨by rfl, by (intro W hSw; have s2 := C.out.ce W hSw; go_simp)⟩) hHeld ?_
    (try simp only [List.setIfInBounds_toArray, List.set_cons_zero, List.set_cons_succ])
    refine takeL 9 54 (v := .pointer (some ⟨y.q, 0, none⟩)) rfl rfl (by kernel_rfl) (by kernel_rfl) (by kernel_rfl) (by kernel_rfl) (fun _ _ _ h => h) (Or.inl ⟨by rfl, by (intro W hSw; have s2 := C.out.ce W hSw; go_simp)⟩) hHeld ?_
    (try simp only [List.setIfInBounds_toArray, List.set_cons_zero, List.set_cons_succ])
    refine takeL 10 55 (v := .pointer (some ⟨y.q, 0, none⟩)) rfl rfl (by kernel_rfl) (by kernel_rfl) (by kernel_rfl) (by kernel_rfl) (fun _ _ _ h => h) (Or.inl ⟨by rfl, by (intro W hSw; have s2 := C.out.ce W hSw; go_simp)⟩) hHeld ?_
    (try simp only [List.setIfInBounds_toArray, List.set_cons_zero, List.set_cons_succ])
    refine takeL 11 56 (v := .pointer (some ⟨y.q, 2, none⟩)) rfl rfl (by kernel_rfl) (by kernel_rfl) (by kernel_rfl) (by kernel_rfl) (fun _ _ _ h => h) (Or.inl ⟨by rfl, by (intro W hSw; have s2 := C.out.ce W hSw; go_simp)⟩) hHeld ?_
    (try simp only [List.setIfInBounds_toArray, List.set_cons_zero, List.set_cons_succ])
    refine takeL 12 57 (v := .slice (some ⟨ra, 0, none⟩) n rc) rfl rfl (by kernel_rfl) (by kernel_rfl) (by kernel_rfl) (by kernel_rfl) (fun _ _ _ h => h) (Or.inl ⟨by rfl, by (intro W hSw; have s2 := C.out.ce W hSw; go_simp)⟩) hHeld ?_
    (try simp only [List.setIfInBounds_toArray, List.set_cons_zero, List.set_cons_succ])
    refine takeL 13 58 (v := .int .i64 (i : Int)) rfl rfl (by kernel_rfl) (by kernel_rfl) (by kernel_rfl) (by kernel_rfl) (fun _ _ _ h => h) (Or.inl ⟨by rfl, by (intro W hSw; have s2 := C.out.ce W hSw; go_simp)⟩) hHeld ?_
    (try simp only [List.setIfInBounds_toArray, List.set_cons_zero, List.set_cons_succ])
    refine takeL 14 59 (v := .int .i64 (m : Int)) rfl rfl (by kernel_rfl) (by kernel_rfl) (by kernel_rfl) (by kernel_rfl) (fun _ _ _ h => h) (Or.inl ⟨by rfl, by (intro W hSw; have s2 := C.out.ce W hSw; go_simp)⟩) hHeld ?_
    (try simp only [List.setIfInBounds_toArray, List.set_cons_zero, List.set_cons_succ])
    refine takeL 15 60 (v := .slice (some ad) (n - m) (rc - m)) rfl rfl (by kernel_rfl) (by kernel_rfl) (by kernel_rfl) (by kernel_rfl) (fun _ _ _ h => h) (Or.inl ⟨by rfl, by (intro W hSw; have s2 := C.out.ce W hSw; go_simp)⟩) hHeld ?_
    (try simp only [List.setIfInBounds_toArray, List.set_cons_zero, List.set_cons_succ])
    refine anyL_one 1 (by kernel_rfl) (upL rfl (fun K hK => ?_))
    go_simp
    have row1 := frow_made w.drew (N := N) (Nat.le_trans HN.out hHeld.size)
    have hb1 := below2 hHeld (below_alloc1 w.drew (.cells #[] 93))
    refine hK.out _ _ (fun _ => hb1) (fun hHeld0 => ?_)
    have hHeld := hHeld0 (by decide)
    clear hHeld0 hK K
    (try simp only [Act.put, List.setIfInBounds_toArray, List.set_cons_zero, List.set_cons_succ])
    refine anyL_one 8 (by kernel_rfl) (upL rfl (fun K hK => ?_))
    refine step_append_fr rfl (.tmp 46) (.tmp 52) rfl N _ _ (y.l.take i) (by first | rfl | simp [Act.eval]) row1 ⟨ra, 0, none⟩ i rc C.out.l1 (by first | rfl | simp [Act.eval]) (C.out.s1 _ hHeld) (by have := C.out.lt; have := HL.out; have := C.out.hn; simp; omega) (Nat.le_trans HN.out hHeld.size) ?_
    intro v2 w2 row2 fr2 new2
    have hb2 := fr2.below hHeld hHeld.size (fun k e => Nat.le_trans (Nat.le_of_eq HNe.out) (row1.blk e).1)
    refine hK.out _ _ (fun _ => hb2) (fun hHeld0 => ?_)
    have hHeld := hHeld0 (by decide)
    clear hHeld0 hK K
    (try simp only [Act.put, List.setIfInBounds_toArray])
    refine anyL_one 16 (by kernel_rfl) (upL rfl (fun K hK => ?_))
    refine step_append_fr rfl (.tmp 53) (.tmp 60) rfl N _ _ (y.l.drop m) (by first | rfl | simp [Act.eval]) row2 ad (n - m) (rc - m) C.out.l2 (by first | rfl | simp [Act.eval]) (C.out.s2 _ hHeld) (by have := HL.out; have := C.out.hn; have := C.out.l1; simp; omega) (Nat.le_trans HN.out hHeld.size) ?_
    intro v3 w3 row3 fr3 new3
    have hb3 := fr3.below hHeld hHeld.size (fun k e => Nat.le_trans (Nat.le_of_eq HNe.out) (row2.blk e).1)
    refine hK.out _ _ (fun _ => hb3) (fun hHeld0 => ?_)
    have hHeld := hHeld0 (by decide)
    clear hHeld0 hK K
    (try simp only [Act.put])
    refine anyL_one 17 (by kernel_rfl) (upL rfl (fun K hK => ?_))
    go_simp
    refine hK.out _ _ (fun _ => hHeld) (fun hHeld0 => ?_)
    have hHeld := hHeld0 (by decide)
    clear hHeld0 hK K
    (try simp only [Act.put, List.setIfInBounds_toArray, List.set_cons_zero, List.set_cons_succ])
    refine anyL_one 18 (by kernel_rfl) (upL rfl (fun K hK => ?_))
    go_simp
    refine hK.out _ _ (fun _ => hHeld) (fun hHeld0 => ?_)
    have hHeld := hHeld0 (by decide)
    clear hHeld0 hK K
    (try simp only [Act.put, List.setIfInBounds_toArray, List.set_cons_zero, List.set_cons_succ])
    obtain ⟨Z, hZ⟩ : ∃ Z, y.l.eraseIdx i = Z := ⟨_, rfl⟩
    have HZ : Hid (y.l.eraseIdx i = Z) := hZ
    have row4 : FRow w3 N v3 Z := by rw [← hZ, ← C.out.l3]; exact row3
    clear hZ row3
    obtain ⟨a3, c3, rfl, _, _⟩ := row4.len
    obtain ⟨cz, fz, tz⟩ := HR.out.laid hHeld row4 (Nat.le_of_eq HNe.out) HBw.out
    rw [HLV.out] at cz
    have TZ : Hid (RpTo B w y _ _) := tz
    clear tz row1 row2 row4
    refine anyL_one 19 (by kernel_rfl) (upL rfl (fun K hK => ?_))
    go_simp
    refine hK.out _ _ (fun q => absurd rfl q) (fun _ => ?_)
    clear hK K
    (try simp only [Act.put, List.setIfInBounds_toArray, List.set_cons_zero, List.set_cons_succ])
    refine anyL_done (by kernel_rfl) ?_ _
    go_wp2_with fail
    go_ret
    refine ⟨by rw [HE.out]; rfl, _, TZ.out, ?_⟩
    rw [HE.out]
    exact ⟨HK.out.n, by show Z = _; rw [← HZ.out, HK.out.l], HK.out.rd, HK.out.wr, HK.out.rel⟩
  | true =>
    obtain ⟨Q', hrel', cW⟩ := rwrite_rel bd S.D y.Q ho.inv k.rel (by omega) f p1 p2 hd
    have cW1 := cW B w.drew y.g y.h (h.dev.kept (fun _ _ => rfl)) hB
    have HRel : Hid (Rel (wrD S.D f) Q') := hrel'
    have HK : Hid (Rs S y) := k
    have HD : Hid (f.dirty = true) := hd
    have H : Hid (Rp B w y) := h
    have HI : Hid (y.l[i]? = some f) := hi
    have HBw0 : Hid (B ≤ w.heap.size) := hB
    rw [hd] at d3
    obtain ⟨E, hE⟩ : ∃ E, wrE S.D f = E := ⟨_, rfl⟩
    rw [hE] at cW1
    have HE : Hid (wrE S.D f = E) := hE
    have HOk : Hid (y.wr ≤ 90000) := show y.wr ≤ 90000 by have := ho.wr; rw [k.wr]; omega
    have HLV : Hid (y.lv = .slice (some ⟨ra, 0, none⟩) y.l.length rc) := e
    clear h k ho hB hS hi hd cW hrel' hE e
    go_enter Tryz.func52, Tryz.ntmps52
    go_wp2_with fail
    refine wp_region_held_drew (S := (fun W => W.cell? ⟨y.q, 0, none⟩ = some (.pointer (some ⟨y.g, 0, none⟩)) ∧ W.cell? ⟨y.q, 2, none⟩ = some (.slice (some ⟨ra, 0, none⟩) y.l.length rc) ∧ W.cell? ⟨ra, i * 4, none⟩ = some (.int .i64 (f.pg : Int)) ∧ W.cell? ⟨ra, i * 4 + 2, none⟩ = some (.string f.s))) (by kernel_rfl) (⟨c0, c2, d0, d2⟩) (fun hHeld => ?_)
    refine takeD 0 14 (v := .pointer (some ⟨y.q, 0, none⟩)) rfl rfl (by kernel_rfl) (by kernel_rfl) (by kernel_rfl) (fun _ _ _ h => h) (Or.inl ⟨by rfl, by (intro w hSw; obtain ⟨s0, s1, s2, s3⟩ := hSw; go_simp)⟩) hHeld ?_
    simp only [List.setIfInBounds_toArray, List.set_cons_zero, List.set_cons_succ]
    refine takeD 1 15 (v := .pointer (some ⟨y.q, 0, none⟩)) rfl rfl (by kernel_rfl) (by kernel_rfl) (by kernel_rfl) (fun _ _ _ h => h) (Or.inl ⟨by rfl, by (intro w hSw; obtain ⟨s0, s1, s2, s3⟩ := hSw; go_simp)⟩) hHeld ?_
    simp only [List.setIfInBounds_toArray, List.set_cons_zero, List.set_cons_succ]
    refine takeD 2 16 (v := .pointer (some ⟨y.q, 0, none⟩)) rfl rfl (by kernel_rfl) (by kernel_rfl) (by kernel_rfl) (fun _ _ _ h => h) (Or.inl ⟨by rfl, by (intro w hSw; obtain ⟨s0, s1, s2, s3⟩ := hSw; go_simp)⟩) hHeld ?_
    simp only [List.setIfInBounds_toArray, List.set_cons_zero, List.set_cons_succ]
    refine takeD 3 17 (v := .pointer (some ⟨y.g, 0, none⟩)) rfl rfl (by kernel_rfl) (by kernel_rfl) (by kernel_rfl) (fun _ _ _ h => h) (Or.inl ⟨by rfl, by (intro w hSw; obtain ⟨s0, s1, s2, s3⟩ := hSw; go_simp)⟩) hHeld ?_
    simp only [List.setIfInBounds_toArray, List.set_cons_zero, List.set_cons_succ]
    refine takeD 4 18 (v := .pointer (some ⟨y.q, 0, none⟩)) rfl rfl (by kernel_rfl) (by kernel_rfl) (by kernel_rfl) (fun _ _ _ h => h) (Or.inl ⟨by rfl, by (intro w hSw; obtain ⟨s0, s1, s2, s3⟩ := hSw; go_simp)⟩) hHeld ?_
    simp only [List.setIfInBounds_toArray, List.set_cons_zero, List.set_cons_succ]
    refine takeD 5 19 (v := .pointer (some ⟨y.q, 0, none⟩)) rfl rfl (by kernel_rfl) (by kernel_rfl) (by kernel_rfl) (fun _ _ _ h => h) (Or.inl ⟨by rfl, by (intro w hSw; obtain ⟨s0, s1, s2, s3⟩ := hSw; go_simp)⟩) hHeld ?_
    simp only [List.setIfInBounds_toArray, List.set_cons_zero, List.set_cons_succ]
    refine takeD 6 20 (v := .pointer (some ⟨y.q, 2, none⟩)) rfl rfl (by kernel_rfl) (by kernel_rfl) (by kernel_rfl) (fun _ _ _ h => h) (Or.inl ⟨by rfl, by (intro w hSw; obtain ⟨s0, s1, s2, s3⟩ := hSw; go_simp)⟩) hHeld ?_
    simp only [List.setIfInBounds_toArray, List.set_cons_zero, List.set_cons_succ]
    refine takeD 7 21 (v := .slice (some ⟨ra, 0, none⟩) y.l.length rc) rfl rfl (by kernel_rfl) (by kernel_rfl) (by kernel_rfl) (fun _ _ _ h => h) (Or.inl ⟨by rfl, by (intro w hSw; obtain ⟨s0, s1, s2, s3⟩ := hSw; go_simp)⟩) hHeld ?_
    simp only [List.setIfInBounds_toArray, List.set_cons_zero, List.set_cons_succ]
    refine takeD 8 22 (v := .int .i64 (i : Int)) rfl rfl (by kernel_rfl) (by kernel_rfl) (by kernel_rfl) (fun _ _ _ h => h) (Or.inl ⟨by rfl, by (intro w hSw; obtain ⟨s0, s1, s2, s3⟩ := hSw; go_simp)⟩) hHeld ?_
    simp only [List.setIfInBounds_toArray, List.set_cons_zero, List.set_cons_succ]
    refine takeD 9 23 (v := .pointer (some ⟨ra, i * 4, none⟩)) rfl rfl (by kernel_rfl) (by kernel_rfl) (by kernel_rfl) (fun _ _ _ h => h) (Or.inl ⟨by rfl, by (intro w hSw; obtain ⟨s0, s1, s2, s3⟩ := hSw; go_simp)⟩) hHeld ?_
    simp only [List.setIfInBounds_toArray, List.set_cons_zero, List.set_cons_succ]
    refine takeD 10 24 (v := .pointer (some ⟨ra, i * 4, none⟩)) rfl rfl (by kernel_rfl) (by kernel_rfl) (by kernel_rfl) (fun _ _ _ h => h) (Or.inl ⟨by rfl, by (intro w hSw; obtain ⟨s0, s1, s2, s3⟩ := hSw; go_simp)⟩) hHeld ?_
    simp only [List.setIfInBounds_toArray, List.set_cons_zero, List.set_cons_succ]
    refine takeD 11 25 (v := .int .i64 (f.pg : Int)) rfl rfl (by kernel_rfl) (by kernel_rfl) (by kernel_rfl) (fun _ _ _ h => h) (Or.inl ⟨by rfl, by (intro w hSw; obtain ⟨s0, s1, s2, s3⟩ := hSw; go_simp)⟩) hHeld ?_
    simp only [List.setIfInBounds_toArray, List.set_cons_zero, List.set_cons_succ]
    refine takeD 12 26 (v := .pointer (some ⟨y.q, 0, none⟩)) rfl rfl (by kernel_rfl) (by kernel_rfl) (by kernel_rfl) (fun _ _ _ h => h) (Or.inl ⟨by rfl, by (intro w hSw; obtain ⟨s0, s1, s2, s3⟩ := hSw; go_simp)⟩) hHeld ?_
    simp only [List.setIfInBounds_toArray, List.set_cons_zero, List.set_cons_succ]
    refine takeD 13 27 (v := .pointer (some ⟨y.q, 0, none⟩)) rfl rfl (by kernel_rfl) (by kernel_rfl) (by kernel_rfl) (fun _ _ _ h => h) (Or.inl ⟨by rfl, by (intro w hSw; obtain ⟨s0, s1, s2, s3⟩ := hSw; go_simp)⟩) hHeld ?_
    simp only [List.setIfInBounds_toArray, List.set_cons_zero, List.set_cons_succ]
    refine takeD 14 28 (v := .pointer (some ⟨y.q, 2, none⟩)) rfl rfl (by kernel_rfl) (by kernel_rfl) (by kernel_rfl) (fun _ _ _ h => h) (Or.inl ⟨by rfl, by (intro w hSw; obtain ⟨s0, s1, s2, s3⟩ := hSw; go_simp)⟩) hHeld ?_
    simp only [List.setIfInBounds_toArray, List.set_cons_zero, List.set_cons_succ]
    refine takeD 15 29 (v := .slice (some ⟨ra, 0, none⟩) y.l.length rc) rfl rfl (by kernel_rfl) (by kernel_rfl) (by kernel_rfl) (fun _ _ _ h => h) (Or.inl ⟨by rfl, by (intro w hSw; obtain ⟨s0, s1, s2, s3⟩ := hSw; go_simp)⟩) hHeld ?_
    simp only [List.setIfInBounds_toArray, List.set_cons_zero, List.set_cons_succ]
    refine takeD 16 30 (v := .int .i64 (i : Int)) rfl rfl (by kernel_rfl) (by kernel_rfl) (by kernel_rfl) (fun _ _ _ h => h) (Or.inl ⟨by rfl, by (intro w hSw; obtain ⟨s0, s1, s2, s3⟩ := hSw; go_simp)⟩) hHeld ?_
    simp only [List.setIfInBounds_toArray, List.set_cons_zero, List.set_cons_succ]
    refine takeD 17 31 (v := .pointer (some ⟨ra, i * 4, none⟩)) rfl rfl (by kernel_rfl) (by kernel_rfl) (by kernel_rfl) (fun _ _ _ h => h) (Or.inl ⟨by rfl, by (intro w hSw; obtain ⟨s0, s1, s2, s3⟩ := hSw; go_simp)⟩) hHeld ?_
    simp only [List.setIfInBounds_toArray, List.set_cons_zero, List.set_cons_succ]
    refine takeD 18 32 (v := .pointer (some ⟨ra, i * 4 + 2, none⟩)) rfl rfl (by kernel_rfl) (by kernel_rfl) (by kernel_rfl) (fun _ _ _ h => h) (Or.inl ⟨by rfl, by (intro w hSw; obtain ⟨s0, s1, s2, s3⟩ := hSw; go_simp)⟩) hHeld ?_
    simp only [List.setIfInBounds_toArray, List.set_cons_zero, List.set_cons_succ]
    refine takeD 19 33 (v := .string f.s) rfl rfl (by kernel_rfl) (by kernel_rfl) (by kernel_rfl) (fun _ _ _ h => h) (Or.inl ⟨by rfl, by (intro w hSw; obtain ⟨s0, s1, s2, s3⟩ := hSw; go_simp)⟩) hHeld ?_
    simp only [List.setIfInBounds_toArray, List.set_cons_zero, List.set_cons_succ]
    refine wpAnyH_ready (rs := [20]) (by kernel_rfl) (by simp) ?_
    refine AllReadyH.cons rfl (fun K hK => ?_) AllReadyH.nil
    go_simp
    refine cW1.mono ?_
    rintro e w1 ⟨rfl, d1'⟩
    clear cW1
    have h1 := H.out.below (below_drew w)
    obtain ⟨h', t1⟩ := h1.devTo d1'
    have T1 : Hid (RpTo B w.drew y { y with h := h', Q := Q' } w1) := t1
    obtain ⟨c0', _, c2', _, c4'⟩ := t1.pd.cell
    simp only at c0' c2' c4'
    rw [HLV.out] at c2'
    obtain ⟨ra', rc', e', _, _, _, _, _, d0', _, d2', _, _⟩ := t1.pd.at (i := i) (f := f) HI.out
    simp only at e'
    rw [HLV.out] at e'
    cases e'
    have z2 := t1.pd.free? 4
    simp only at z2
    clear h1 t1 d1'
    go_simp
    refine hK.out _ _ ⟨c0', c2', d0', d2'⟩ (fun hHeld => ?_)
    clear hK K
    refine takeD 21 5 (v := .int .i64 E) rfl rfl (by kernel_rfl) (by kernel_rfl) (by kernel_rfl) (fun _ _ _ h => h) (Or.inl ⟨by rfl, by (intro w hSw; (try dsimp only at hSw); go_simp)⟩) hHeld ?_
    simp only [List.setIfInBounds_toArray, List.set_cons_zero, List.set_cons_succ]
    refine wpAnyH_done (by kernel_rfl) ?_ _
    clear hHeld
    by_cases he : E = 0
    · subst he
      have HG : Hid (giveS S i f = (0, { S with l := S.l.eraseIdx i, wr := S.wr + 1, D := wrD S.D f })) := by
        have e1 : wrN S.D f = 1 := by unfold wrN; rw [if_pos ⟨HD.out, HE.out⟩]
        show _ = _
        unfold giveS
        rw [if_pos HE.out, e1]
      have hwr : ((y.wr + 1 : Nat) : Int) ≤ 100000 := by have := HOk.out; omega
      have hwr2 : (y.wr : Int) + 1 = ((y.wr + 1 : Nat) : Int) := by omega
      have t2 := T1.out.trans (T1.out.pd.setWr (y.wr + 1))
      have T2 : Hid (RpTo B w.drew y { y with h := h', Q := Q', wr := y.wr + 1 } (w1.setCell ⟨y.q, 4, none⟩ (.int .i64 ((y.wr + 1 : Nat) : Int)))) := t2
      obtain ⟨ad, hcut⟩ := t2.pd.cut (i := i) (f := f) HL.out HI.out HLV.out hsc
      have WR1 : Hid (S.wr + 1 = y.wr + 1) := by show _ = _; rw [HK.out.wr]
      generalize y.wr + 1 = wr1 at hwr hwr2 T2 hcut t2 WR1
      clear t2
      go_wp2_with fail
      generalize hw6 : w1.setCell ⟨y.q, 4, none⟩ (.int .i64 (wr1 : Int)) = w6 at *
      clear hw6
      have HR : Hid (Rp B w6 { y with h := h', Q := Q', wr := wr1 }) := T2.out.pd
      have HBw : Hid (B ≤ w6.heap.size) := Nat.le_trans HBw0.out T2.out.fr.size
      generalize hm : i + 1 = m at hcut
      have HLn : Hid (y.l.length = y.l.length) := rfl
      generalize hn : y.l.length = n at *
      have C : Hid (Cut w6 y.q y.l i m n ra rc ad) := hcut
      clear hcut hm hn
      have hA := C.out.had
      have hwm := C.out.wm
      have hmn : (m : Int) ≤ (n : Int) := by have := C.out.lt; have := C.out.hm; omega
      have hirc : (i : Int) ≤ (rc : Int) := by have := C.out.lt; have := C.out.hrc; omega
      obtain ⟨N, hN⟩ : ∃ N, w6.heap.size = N := ⟨_, rfl⟩
      have HN : Hid (N ≤ w6.heap.size) := Nat.le_of_eq hN.symm
      have HNe : Hid (w6.heap.size = N) := hN
      clear hN
      refine anyL_begin (S := fun W => Below w6.heap.size w6 W) (n := 19) (by kernel_rfl) (below_drew w6) (fun hHeld => ?_)
      refine takeL 0 45 (v := .pointer (some ⟨y.q, 0, none⟩)) rfl rfl (by kernel_rfl) (by kernel_rfl) (by kernel_rfl) (by kernel_rfl) (fun _ _ _ h => h) (Or.inl ⟨by rfl, by (intro W hSw; have s2 := C.out.ce W hSw; go_simp)⟩) hHeld ?_
      (try simp only [List.setIfInBounds_toArray, List.set_cons_zero, List.set_cons_succ])
      refine takeL 2 47 (v := .pointer (some ⟨y.q, 0, none⟩)) rfl rfl (by kernel_rfl) (by kernel_rfl) (by kernel_rfl) (by kernel_rfl) (fun _ _ _ h => h) (Or.inl ⟨by rfl, by (intro W hSw; have s2 := C.out.ce W hSw; go_simp)⟩) hHeld ?_
      (try simp only [List.setIfInBounds_toArray, List.set_cons_zero, List.set_cons_succ])
      refine takeL 3 48 (v := .pointer (some ⟨y.q, 0, none⟩)) rfl rfl (by kernel_rfl) (by kernel_rfl) (by kernel_rfl) (by kernel_rfl) (fun _ _ _ h => h) (Or.inl ⟨by rfl, by (intro W hSw; have s2 := C.out.ce W hSw; go_simp)⟩) hHeld ?_
      (try simp only [List.setIfInBounds_toArray, List.set_cons_zero, List.set_cons_succ])
      refine takeL 4 49 (v := .pointer (some ⟨y.q, 2, none⟩)) rfl rfl (by kernel_rfl) (by kernel_rfl) (by kernel_rfl) (by kernel_rfl) (fun _ _ _ h => h) (Or.inl ⟨by rfl, by (intro W hSw; have s2 := C.out.ce W hSw; go_simp)⟩) hHeld ?_
      (try simp only [List.setIfInBounds_toArray, List.set_cons_zero, List.set_cons_succ])
      refine takeL 5 50 (v := .slice (some ⟨ra, 0, none⟩) n rc) rfl rfl (by kernel_rfl) (by kernel_rfl) (by kernel_rfl) (by kernel_rfl) (fun _ _ _ h => h) (Or.inl ⟨by rfl, by (intro W hSw; have s2 := C.out.ce W hSw; go_simp)⟩) hHeld ?_
      (try simp only [List.setIfInBounds_toArray, List.set_cons_zero, List.set_cons_succ])
      refine takeL 6 51 (v := .int .i64 (i : Int)) rfl rfl (by kernel_rfl) (by kernel_rfl) (by kernel_rfl) (by kernel_rfl) (fun _ _ _ h => h) (Or.inl ⟨by rfl, by (intro W hSw; have s2 := C.out.ce W hSw; go_simp)⟩) hHeld ?_
      (try simp only [List.setIfInBounds_toArray, List.set_cons_zero, List.set_cons_succ])
      refine takeL 7 52 (v := .slice (some ⟨ra, 0, none⟩) i rc) rfl rfl (by kernel_rfl) (by kernel_rfl) (by kernel_rfl) (by kernel_rfl) (fun _ _ _ h => h) (Or.inl ⟨by rfl, by (intro W hSw; have s2 := C.out.ce W hSw; go_simp)⟩) hHeld ?_
      (try simp only [List.setIfInBounds_toArray, List.set_cons_zero, List.set_cons_succ])
      refine takeL 9 54 (v := .pointer (some ⟨y.q, 0, none⟩)) rfl rfl (by kernel_rfl) (by kernel_rfl) (by kernel_rfl) (by kernel_rfl) (fun _ _ _ h => h) (Or.inl ⟨by rfl, by (intro W hSw; have s2 := C.out.ce W hSw; go_simp)⟩) hHeld ?_
      (try simp only [List.setIfInBounds_toArray, List.set_cons_zero, List.set_cons_succ])
      refine takeL 10 55 (v := .pointer (some ⟨y.q, 0, none⟩)) rfl rfl (by kernel_rfl) (by kernel_rfl) (by kernel_rfl) (by kernel_rfl) (fun _ _ _ h => h) (Or.inl ⟨by rfl, by (intro W hSw; have s2 := C.out.ce W hSw; go_simp)⟩) hHeld ?_
      (try simp only [List.setIfInBounds_toArray, List.set_cons_zero, List.set_cons_succ])
      refine takeL 11 56 (v := .pointer (some ⟨y.q, 2, none⟩)) rfl rfl (by kernel_rfl) (by kernel_rfl) (by kernel_rfl) (by kernel_rfl) (fun _ _ _ h => h) (Or.inl ⟨by rfl, by (intro W hSw; have s2 := C.out.ce W hSw; go_simp)⟩) hHeld ?_
      (try simp only [List.setIfInBounds_toArray, List.set_cons_zero, List.set_cons_succ])
      refine takeL 12 57 (v := .slice (some ⟨ra, 0, none⟩) n rc) rfl rfl (by kernel_rfl) (by kernel_rfl) (by kernel_rfl) (by kernel_rfl) (fun _ _ _ h => h) (Or.inl ⟨by rfl, by (intro W hSw; have s2 := C.out.ce W hSw; go_simp)⟩) hHeld ?_
      (try simp only [List.setIfInBounds_toArray, List.set_cons_zero, List.set_cons_succ])
      refine takeL 13 58 (v := .int .i64 (i : Int)) rfl rfl (by kernel_rfl) (by kernel_rfl) (by kernel_rfl) (by kernel_rfl) (fun _ _ _ h => h) (Or.inl ⟨by rfl, by (intro W hSw; have s2 := C.out.ce W hSw; go_simp)⟩) hHeld ?_
      (try simp only [List.setIfInBounds_toArray, List.set_cons_zero, List.set_cons_succ])
      refine takeL 14 59 (v := .int .i64 (m : Int)) rfl rfl (by kernel_rfl) (by kernel_rfl) (by kernel_rfl) (by kernel_rfl) (fun _ _ _ h => h) (Or.inl ⟨by rfl, by (intro W hSw; have s2 := C.out.ce W hSw; go_simp)⟩) hHeld ?_
      (try simp only [List.setIfInBounds_toArray, List.set_cons_zero, List.set_cons_succ])
      refine takeL 15 60 (v := .slice (some ad) (n - m) (rc - m)) rfl rfl (by kernel_rfl) (by kernel_rfl) (by kernel_rfl) (by kernel_rfl) (fun _ _ _ h => h) (Or.inl ⟨by rfl, by (intro W hSw; have s2 := C.out.ce W hSw; go_simp)⟩) hHeld ?_
      (try simp only [List.setIfInBounds_toArray, List.set_cons_zero, List.set_cons_succ])
      refine anyL_one 1 (by kernel_rfl) (upL rfl (fun K hK => ?_))
      go_simp
      have row1 := frow_made w6.drew (N := N) (Nat.le_trans HN.out hHeld.size)
      have hb1 := below2 hHeld (below_alloc1 w6.drew (.cells #[] 93))
      refine hK.out _ _ (fun _ => hb1) (fun hHeld0 => ?_)
      have hHeld := hHeld0 (by decide)
      clear hHeld0 hK K
      (try simp only [Act.put, List.setIfInBounds_toArray, List.set_cons_zero, List.set_cons_succ])
      refine anyL_one 8 (by kernel_rfl) (upL rfl (fun K hK => ?_))
      refine step_append_fr rfl (.tmp 46) (.tmp 52) rfl N _ _ (y.l.take i) (by first | rfl | simp [Act.eval]) row1 ⟨ra, 0, none⟩ i rc C.out.l1 (by first | rfl | simp [Act.eval]) (C.out.s1 _ hHeld) (by have := C.out.lt; have := HL.out; have := C.out.hn; simp; omega) (Nat.le_trans HN.out hHeld.size) ?_
      intro v2 w2 row2 fr2 new2
      have hb2 := fr2.below hHeld hHeld.size (fun k e => Nat.le_trans (Nat.le_of_eq HNe.out) (row1.blk e).1)
      refine hK.out _ _ (fun _ => hb2) (fun hHeld0 => ?_)
      have hHeld := hHeld0 (by decide)
      clear hHeld0 hK K
      (try simp only [Act.put, List.setIfInBounds_toArray])
      refine anyL_one 16 (by kernel_rfl) (upL rfl (fun K hK => ?_))
      refine step_append_fr rfl (.tmp 53) (.tmp 60) rfl N _ _ (y.l.drop m) (by first | rfl | simp [Act.eval]) row2 ad (n - m) (rc - m) C.out.l2 (by first | rfl | simp [Act.eval]) (C.out.s2 _ hHeld) (by have := HL.out; have := C.out.hn; have := C.out.l1; simp; omega) (Nat.le_trans HN.out hHeld.size) ?_
      intro v3 w3 row3 fr3 new3
      have hb3 := fr3.below hHeld hHeld.size (fun k e => Nat.le_trans (Nat.le_of_eq HNe.out) (row2.blk e).1)
      refine hK.out _ _ (fun _ => hb3) (fun hHeld0 => ?_)
      have hHeld := hHeld0 (by decide)
      clear hHeld0 hK K
      (try simp only [Act.put])
      refine anyL_one 17 (by kernel_rfl) (upL rfl (fun K hK => ?_))
      go_simp
      refine hK.out _ _ (fun _ => hHeld) (fun hHeld0 => ?_)
      have hHeld := hHeld0 (by decide)
      clear hHeld0 hK K
      (try simp only [Act.put, List.setIfInBounds_toArray, List.set_cons_zero, List.set_cons_succ])
      refine anyL_one 18 (by kernel_rfl) (upL rfl (fun K hK => ?_))
      go_simp
      refine hK.out _ _ (fun _ => hHeld) (fun hHeld0 => ?_)
      have hHeld := hHeld0 (by decide)
      clear hHeld0 hK K
      (try simp only [Act.put, List.setIfInBounds_toArray, List.set_cons_zero, List.set_cons_succ])
      obtain ⟨Z, hZ⟩ : ∃ Z, y.l.eraseIdx i = Z := ⟨_, rfl⟩
      have HZ : Hid (y.l.eraseIdx i = Z) := hZ
      have row4 : FRow w3 N v3 Z := by rw [← hZ, ← C.out.l3]; exact row3
      clear hZ row3
      obtain ⟨a3, c3, rfl, _, _⟩ := row4.len
      obtain ⟨cz, fz, tz⟩ := HR.out.laid hHeld row4 (Nat.le_of_eq HNe.out) HBw.out
      rw [HLV.out] at cz
      have TZ : Hid (RpTo B w6 _ _ _) := tz
      clear tz row1 row2 row4
      refine anyL_one 19 (by kernel_rfl) (upL rfl (fun K hK => ?_))
      go_simp
      refine hK.out _ _ (fun q => absurd rfl q) (fun _ => ?_)
      clear hK K
      (try simp only [Act.put, List.setIfInBounds_toArray, List.set_cons_zero, List.set_cons_succ])
      refine anyL_done (by kernel_rfl) ?_ _
      go_wp2_with fail
      go_ret
      refine ⟨by rw [HG.out]; rfl, _, (RpTo.of_below H.out (below_drew w)).trans (T2.out.trans TZ.out), ?_⟩
      rw [HG.out]
      exact ⟨HK.out.n, by show Z = _; rw [← HZ.out, HK.out.l], HK.out.rd, WR1.out.symm, HRel.out⟩
    · have hne : (E == 0) = false := by simpa using he
      have HG : Hid (giveS S i f = (E, { S with D := wrD S.D f })) := by
        show _ = _
        unfold giveS
        rw [if_neg (by rw [HE.out]; exact he), HE.out]
      clear he
      go_wp2_with fail
      go_ret
      refine ⟨by rw [HG.out]; rfl, _, (RpTo.of_below H.out (below_drew w)).trans T1.out, ?_⟩
      rw [HG.out]
      exact ⟨HK.out.n, HK.out.l, HK.out.rd, HK.out.wr, HRel.out⟩
end
end Go.Proofs.YtghocbaafdnddaaGreat
