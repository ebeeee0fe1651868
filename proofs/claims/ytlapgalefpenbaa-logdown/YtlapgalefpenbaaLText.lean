/- writeText: the pieces of a text, written one behind the other. -/
import Derived.Test.YtlapgalefpenbaaLWrite
import Derived.Test.YtlapgalefpenbaaLBits
namespace Go.Proofs.Ytlapgalefpenbaa
open Go.RowKit

theorem not_foot {w : World} {g gs : Nat} {hv hv1 : Value} (gr : ∀ k, hv1.ownBlock = some k → hv.ownBlock = some k ∨ w.heap.size ≤ k) {k : Nat} (hk : k < w.heap.size) (hn : ¬ foot g gs hv k) : ¬ foot g gs hv1 k := by
  rintro (r | r | r)
  · exact hn (Or.inl r)
  · exact hn (Or.inr (Or.inl r))
  · rcases gr k r with q | q
    · exact hn (Or.inr (Or.inr q))
    · omega

theorem DTo.after {B : Nat} {w w1 w2 : World} {g gs : Nat} {hv hv1 : Value} {D2 : DS} (f : Fr (foot g gs hv) w w1) (gr : ∀ k, hv1.ownBlock = some k → hv.ownBlock = some k ∨ w.heap.size ≤ k) (z : DTo B w1 g gs hv1 D2 w2) : DTo B w g gs hv D2 w2 := by
  obtain ⟨hv2, d2, f2, gr2⟩ := z
  refine ⟨hv2, d2, f.trans f2 (fun i hi h => ?_), fun k e => ?_⟩
  · rcases h with r | r | r
    · exact Or.inl r
    · exact Or.inr (Or.inl r)
    · rcases gr i r with q | q
      · exact Or.inr (Or.inr q)
      · omega
  · rcases gr2 k e with q | q
    · exact gr k q
    · exact Or.inr (Nat.le_trans f.size q)

theorem drun_next {D D1 : DS} {a r : List DOp} {o : DOp} (h : drun D a = (none, D1)) : drun D (a ++ o :: r) = dthen (dstep D1 o) (drun · r) := by
  rw [drun_append, h]
  rfl

/-- The writes of the first pieces, of one more. -/
theorem tws_split (k : Nat) (ps : List (List UInt8)) (i : Nat) (p : List UInt8) (h : ps[i]? = some p) : tws k ps = tws k (ps.take i) ++ (k + i, psec p) :: tws (k + i + 1) (ps.drop (i + 1)) := by
  induction ps generalizing k i with
  | nil => simp at h
  | cons q r ih =>
    cases i with
    | zero => simp at h; subst h; simp [tws]
    | succ i =>
      simp at h
      simp only [tws, List.take_succ_cons, List.drop_succ_cons, List.cons_append]
      rw [ih (k + 1) i h, show k + 1 + i = k + (i + 1) by omega]
theorem tws_take (k : Nat) (ps : List (List UInt8)) (i : Nat) (p : List UInt8) (h : ps[i]? = some p) : tws k (ps.take (i + 1)) = tws k (ps.take i) ++ [(k + i, psec p)] := by
  have hlt := (List.getElem?_eq_some_iff.1 h).1
  have e : ps.take (i + 1) = ps.take i ++ [p] := by
    rw [List.take_add_one, h]
    rfl
  rw [e, tws_snoc, List.length_take, Nat.min_eq_left (by omega)]

/-- A piece, cut out of a text. -/
theorem piece_cut (t : ByteArray) (i e : Nat) (he : e = min ((i + 1) * 500) t.size) : (t.extract (i * 500) e).data.toList = (t.data.toList.drop (500 * i)).take 500 := by
  have hl : t.data.toList.length = t.size := by simp
  rw [ByteArray.data_extract, Array.toList_extract, List.extract, Nat.mul_comm i 500]
  rcases Nat.le_total ((i + 1) * 500) t.size with h | h
  · rw [he, Nat.min_eq_left h, show (i + 1) * 500 - 500 * i = 500 by omega]
  · rw [he, Nat.min_eq_right h, List.take_of_length_le (by rw [List.length_drop]; omega), List.take_of_length_le (by rw [List.length_drop]; omega)]

set_option maxHeartbeats 8000000 in
set_option maxRecDepth 100000 in
theorem writeText_any {B b : Nat} {w : World} {lb g gs : Nat} {hv : Value} {D : DS} (hc : w.cell? ⟨lb, 0, none⟩ = some (.pointer (some ⟨g, 0, none⟩))) (d : Dev B w g gs hv D) (hi : Inv b D) (hB : B ≤ w.heap.size) (hln : ¬ foot g gs hv lb) (h8 : 8 ≤ D.n) (hn : D.n ≤ 8192)
    (A : Nat) (hA : A = areaN D.n) (area frm : Nat) (ha : area ≤ 1) (t : ByteArray) (hr : frm + secs t ≤ A) (hb : b + secs t ≤ 100000) :
    Calls Try.prog 55 #[.pointer (some ⟨lb, 0, none⟩), .int .i64 (area : Int), .int .i64 (frm : Int), .string t] w fun e w' =>
      e = dexit (drun D ((tws (3 + area * A + frm) (pcs t.data.toList)).map some)).1 ∧ DTo B w g gs hv (drun D ((tws (3 + area * A + frm) (pcs t.data.toList)).map some)).2 w' := by
  have hA4 : 2 * A + 4 ≤ D.n ∧ A ≤ 4096 := by rw [hA]; unfold areaN; omega
  have hts : t.size ≤ 2048000 := by unfold secs at hr; omega
  have haA : area * A ≤ A := by
    have : area * A ≤ 1 * A := Nat.mul_le_mul_right _ ha
    omega
  have hlt : lb < w.heap.size := World.block_lt_of_cell? w _ hc
  obtain ⟨ps, hps⟩ : ∃ ps, ps = pcs t.data.toList := ⟨_, rfl⟩
  obtain ⟨k0, hk0⟩ : ∃ k0, k0 = 3 + area * A + frm := ⟨_, rfl⟩
  obtain ⟨m, hm⟩ : ∃ m, m = secs t := ⟨_, rfl⟩
  have hpl : ps.length = m := by rw [hps, hm]; exact pcs_secs t
  have hm2 : m = t.size / 500 + 1 := hm
  have cS := fun w => sectorsOf_any t (by omega) w
  rw [← hps, ← hk0]
  rw [← hm] at cS hr hb
  have hget : ∀ i, i < m → ps[i]? = some ((t.data.toList.drop (500 * i)).take 500) := by
    intro i hi
    have hl : t.data.toList.length = t.size := by simp
    rw [hps]
    exact pcs_get _ i (by omega)
  have HA : Hid (A = areaN D.n) := hA
  have HK : Hid (k0 = 3 + area * A + frm) := hk0
  have HP : Hid (ps = pcs t.data.toList) := hps
  clear hm hps hk0 hA
  go_enter Try.func55, Try.ntmps55
  go_wp2_with fail
  refine (cS _).mono ?_
  rintro e w0 ⟨rfl, e0⟩
  rw [e0]
  clear e0
  go_wp2_with fail
  go_loopw [12] (fun si wr => ∃ (k : Nat) (hv1 : Value) (D1 : DS), k ≤ m ∧ si = .int .i64 (k : Int) ∧ drun D ((tws k0 (ps.take k)).map some) = (none, D1) ∧ Inv (b + k) D1 ∧ D1.n = D.n ∧ Dev B wr g gs hv1 D1 ∧ Fr (foot g gs hv) w wr ∧ ∀ j, hv1.ownBlock = some j → hv.ownBlock = some j ∨ w.heap.size ≤ j) (fun si _ => m - (intOf si).toNat)
  case atStart => exact ⟨0, hv, D, Nat.zero_le _, rfl, by simp [tws, drun], hi, rfl, d, Fr.refl _ _, fun _ e => Or.inl e⟩
  case round =>
    obtain ⟨k, hv1, D1, hk, rfl, hrun, hi1, hn1, d1, f1, g1⟩ := hrel
    by_cases hkm : k < m
    · have hkm2 : (k : Int) < (m : Int) := by omega
      have hp := hget k hkm
      generalize hpp : (t.data.toList.drop (500 * k)).take 500 = p at hp
      have hp5 : p.length ≤ 500 := by rw [← hpp, List.length_take]; omega
      obtain ⟨E, hE⟩ : ∃ E, E = min ((k + 1) * 500) t.size := ⟨_, rfl⟩
      obtain ⟨X, hX⟩ : ∃ X, X = t.extract (k * 500) E := ⟨_, rfl⟩
      have hXl : X.data.toList = p := by rw [hX, piece_cut t k E hE, hpp]
      have hXs : X.size ≤ 500 := by
        have : X.data.toList.length = X.size := by simp
        rw [hXl] at this
        omega
      have cP := fun w => putText_any X w (by omega)
      rw [hXl, show tx (putT p) = .string (ba (putT p)) from rfl] at cP
      have hys : (ba (putT p)).size ≤ 512 := by rw [ba_size]; have := putT_500 p hp5; omega
      have hyl : psec p = sec (ba (putT p)).data.toList := by simp [psec, ba]
      obtain ⟨j, hj⟩ : ∃ j, j = k0 + k := ⟨_, rfl⟩
      have hj2 : j = 3 + area * A + (frm + k) := by rw [hj, HK.out]; omega
      have hjn : j < D1.n := by omega
      have cSec := fun w d hc => sector_any (B := B) (w := w) (lb := lb) (g := g) (gs := gs) (hv := hv1) (D := D1) hc d (by omega) (by omega) A (by rw [hn1]; exact HA.out) area (frm + k) ha (by omega)
      rw [← hj2] at cSec
      have c1 : wr.cell? ⟨lb, 0, none⟩ = some (.pointer (some ⟨g, 0, none⟩)) := (World.cell?_of_block (a := ⟨lb, 0, none⟩) (f1.block lb hlt hln)).trans hc
      have hln1 := not_foot g1 hlt hln
      have hBr : B ≤ wr.heap.size := Nat.le_trans hB f1.size
      have hltr : lb < wr.heap.size := Nat.lt_of_lt_of_le hlt f1.size
      have dD : Dev B wr.drew g gs hv1 D1 := d1.kept (fun _ _ => rfl)
      have hD := below_drew wr
      have w1 : IntKind.i64.wrap ((frm : Int) + (k : Int)) = ((frm + k : Nat) : Int) := by
        rw [show (frm : Int) + (k : Int) = ((frm + k : Nat) : Int) by omega]
        exact wrap_nat _ (by omega)
      have w2 : IntKind.i64.wrap ((k : Int) * 500) = ((k * 500 : Nat) : Int) := by
        rw [show (k : Int) * 500 = ((k * 500 : Nat) : Int) by omega]
        exact wrap_nat _ (by omega)
      have hmin : min (((k : Int) + 1) * 500) (t.size : Int) = (E : Int) := by rw [hE]; omega
      have hlo : k * 500 ≤ E := by omega
      have hhi : E ≤ t.size := by omega
      have cW := fun w d hc => lwrite_any (B := B) (b := b + k) (w := w) (lb := lb) (g := g) (gs := gs) (hv := hv1) (D := D1) hc d hi1 (by omega)
      have HT : Hid (tws k0 ps = tws k0 (ps.take k) ++ (j, psec p) :: tws (j + 1) (ps.drop (k + 1))) := by rw [hj]; exact tws_split k0 ps k p hp
      have HT1 : Hid (tws k0 (ps.take (k + 1)) = tws k0 (ps.take k) ++ [(j, psec p)]) := by rw [hj]; exact tws_take k0 ps k p hp
      obtain ⟨lo, hlo2⟩ : ∃ lo, lo = k * 500 := ⟨_, rfl⟩
      rw [← hlo2] at w2 hlo hX
      obtain ⟨fk, hfk⟩ : ∃ fk, fk = frm + k := ⟨_, rfl⟩
      rw [← hfk] at w1 cSec
      have HX : Hid (X = t.extract lo E) := hX
      have z1 : (0 : Int) ≤ (lo : Int) := by omega
      have z2 : (lo : Int) ≤ (E : Int) := by omega
      have z3 : (E : Int) ≤ (t.size : Int) := by omega
      clear hX hE hpp hXl hj hj2 hlo2 hfk hget
      go_wp2_with fail
      refine wp_region_held_drew (S := (fun W => W.cell? ⟨lb, 0, none⟩ = some (.pointer (some ⟨g, 0, none⟩)))) (by kernel_rfl) (c1) (fun hHeld => ?_)
      refine takeD 0 21 (v := .pointer (some ⟨lb, 0, none⟩)) rfl rfl (by kernel_rfl) (by kernel_rfl) (by kernel_rfl) (fun _ _ _ h => h) (Or.inl ⟨by rfl, by (intro w hSw; (try dsimp only at hSw); go_simp)⟩) hHeld ?_
      simp only [List.setIfInBounds_toArray, List.set_cons_zero, List.set_cons_succ]
      refine takeD 1 22 (v := .pointer (some ⟨lb, 0, none⟩)) rfl rfl (by kernel_rfl) (by kernel_rfl) (by kernel_rfl) (fun _ _ _ h => h) (Or.inl ⟨by rfl, by (intro w hSw; (try dsimp only at hSw); go_simp)⟩) hHeld ?_
      simp only [List.setIfInBounds_toArray, List.set_cons_zero, List.set_cons_succ]
      refine takeD 2 23 (v := .int .i64 (area : Int)) rfl rfl (by kernel_rfl) (by kernel_rfl) (by kernel_rfl) (fun _ _ _ h => h) (Or.inl ⟨by rfl, by (intro w hSw; (try dsimp only at hSw); go_simp)⟩) hHeld ?_
      simp only [List.setIfInBounds_toArray, List.set_cons_zero, List.set_cons_succ]
      refine takeD 3 24 (v := .int .i64 (frm : Int)) rfl rfl (by kernel_rfl) (by kernel_rfl) (by kernel_rfl) (fun _ _ _ h => h) (Or.inl ⟨by rfl, by (intro w hSw; (try dsimp only at hSw); go_simp)⟩) hHeld ?_
      simp only [List.setIfInBounds_toArray, List.set_cons_zero, List.set_cons_succ]
      refine takeD 4 25 (v := .int .i64 (k : Int)) rfl rfl (by kernel_rfl) (by kernel_rfl) (by kernel_rfl) (fun _ _ _ h => h) (Or.inl ⟨by rfl, by (intro w hSw; (try dsimp only at hSw); go_simp)⟩) hHeld ?_
      simp only [List.setIfInBounds_toArray, List.set_cons_zero, List.set_cons_succ]
      refine takeD 5 26 (v := .int .i64 (fk : Int)) rfl rfl (by kernel_rfl) (by kernel_rfl) (by kernel_rfl) (fun _ _ _ h => h) (Or.inl ⟨by rfl, by (intro w hSw; (try dsimp only at hSw); go_simp)⟩) hHeld ?_
      simp only [List.setIfInBounds_toArray, List.set_cons_zero, List.set_cons_succ]
      refine takeD 7 28 (v := .string t) rfl rfl (by kernel_rfl) (by kernel_rfl) (by kernel_rfl) (fun _ _ _ h => h) (Or.inl ⟨by rfl, by (intro w hSw; (try dsimp only at hSw); go_simp)⟩) hHeld ?_
      simp only [List.setIfInBounds_toArray, List.set_cons_zero, List.set_cons_succ]
      refine takeD 8 29 (v := .int .i64 (k : Int)) rfl rfl (by kernel_rfl) (by kernel_rfl) (by kernel_rfl) (fun _ _ _ h => h) (Or.inl ⟨by rfl, by (intro w hSw; (try dsimp only at hSw); go_simp)⟩) hHeld ?_
      simp only [List.setIfInBounds_toArray, List.set_cons_zero, List.set_cons_succ]
      refine takeD 9 30 (v := .int .i64 (lo : Int)) rfl rfl (by kernel_rfl) (by kernel_rfl) (by kernel_rfl) (fun _ _ _ h => h) (Or.inl ⟨by rfl, by (intro w hSw; (try dsimp only at hSw); go_simp)⟩) hHeld ?_
      simp only [List.setIfInBounds_toArray, List.set_cons_zero, List.set_cons_succ]
      refine takeD 10 31 (v := .int .i64 (E : Int)) rfl rfl (by kernel_rfl) (by kernel_rfl) (by kernel_rfl) (fun _ _ _ h => h) (Or.inl ⟨by rfl, by (intro w hSw; (try dsimp only at hSw); go_simp)⟩) hHeld ?_
      simp only [List.setIfInBounds_toArray, List.set_cons_zero, List.set_cons_succ]
      refine takeD 11 32 (v := .string X) rfl rfl (by kernel_rfl) (by kernel_rfl) (by kernel_rfl) (fun _ _ _ h => h) (Or.inl ⟨by rfl, by (intro w hSw; rw [HX.out]; go_simp)⟩) hHeld ?_
      simp only [List.setIfInBounds_toArray, List.set_cons_zero, List.set_cons_succ]
      refine wpAnyH_ready (rs := [6]) (by kernel_rfl) (by simp) ?_
      refine AllReadyH.cons rfl (fun K hK => ?_) AllReadyH.nil
      go_simp
      refine (cSec _ dD c1).mono ?_
      rintro e wA ⟨rfl, eA⟩
      rw [eA]
      go_simp
      refine hK.out _ _ (c1) (fun hHeld => ?_)
      clear hK K
      refine wpAnyH_ready (rs := [12]) (by kernel_rfl) (by simp) ?_
      refine AllReadyH.cons rfl (fun K hK => ?_) AllReadyH.nil
      go_simp
      refine (cP _).mono ?_
      rintro e wB ⟨rfl, hB1⟩
      have hB2 := below2 hD hB1
      go_simp
      refine hK.out _ _ ((hB2.cell (p := ⟨lb, 0, none⟩) hltr).trans c1) (fun hHeld => ?_)
      clear hK K
      have cWW := cW _ (d1.below hB2) hHeld (Nat.le_trans hBr hB2.size) hln1 j hjn (ba (putT p)) hys (psec p) hyl
      have hst := hi1.st (some (j, psec p)) (fun q hq => by cases hq; exact ⟨hjn, psec_size p hp5⟩)
      cases he : (dstep D1 (some (j, psec p))).1 with
      | some e =>
        have hall : drun D ((tws k0 ps).map some) = dstep D1 (some (j, psec p)) := by rw [HT.out, List.map_append, List.map_cons, drun_next hrun, dthen_no _ he]
        have HF : Hid (Ending.panicked (pan e) = dexit (drun D ((tws k0 ps).map some)).1) := by rw [hall, he]; rfl
        rw [he, show dexit (some e) = .panicked (pan e) from rfl] at cWW
        rw [← hall] at cWW
        clear he hall hst hrun
        refine wpAnyH_ready (rs := [13]) (by kernel_rfl) (by simp) ?_
        refine AllReadyH.cons rfl (fun K hK => ?_) AllReadyH.nil
        go_simp
        refine (cWW).mono ?_
        rintro e wC ⟨rfl, zC⟩
        exact ⟨rfl, HF.out, DTo.after f1 g1 (zC.pre hB2)⟩
      | none =>
        have HF : Hid (drun D ((tws k0 (ps.take (k + 1))).map some) = (none, (dstep D1 (some (j, psec p))).2)) := by
          rw [HT1.out, List.map_append, List.map_cons, List.map_nil, drun_next hrun, dthen_ok _ he]; rfl
        rw [he, show dexit none = .returned (.tuple #[]) from rfl] at cWW
        generalize (dstep D1 (some (j, psec p))).2 = D2 at cWW HF hst
        clear he hrun
        refine wpAnyH_ready (rs := [13]) (by kernel_rfl) (by simp) ?_
        refine AllReadyH.cons rfl (fun K hK => ?_) AllReadyH.nil
        go_simp
        refine (cWW).mono ?_
        rintro e wC ⟨rfl, zC⟩
        go_simp
        refine hK.out _ _ (zC.cell hHeld hln1) (fun hHeld => ?_)
        clear hK K
        refine wpAnyH_done (by kernel_rfl) ?_ _
        obtain ⟨hv2, d2, f2, g2⟩ := DTo.after f1 g1 (zC.pre hB2)
        go_wp2_with fail
        go_roundw
        case rel => exact ⟨k + 1, hv2, D2, by omega, by go_num, HF.out, hst.1, hst.2.trans hn1, d2, f2, g2⟩
        case measure => simp [intOf]; omega
    · obtain rfl : k = m := by omega
      have hall : drun D ((tws k0 ps).map some) = (none, D1) := by rw [← hrun, List.take_of_length_le (by omega)]
      have HF : Hid (drun D ((tws k0 ps).map some) = (none, D1)) := hall
      clear hrun hall
      go_wp2_with fail
      go_end0
      exact ⟨by rw [HF.out]; rfl, by rw [HF.out]; exact ⟨hv1, d1, f1, g1⟩⟩

end Go.Proofs.Ytlapgalefpenbaa
