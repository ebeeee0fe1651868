/- Layer 10: a way that goes on down to the greatest key below a place. -/
import Derived.Test.YtkfoddblgdmabaaTrSpot
namespace Go.Proofs.Ytkfoddblgdmabaa.tr
open Go.RowKit

/-- Where a way has come to, that goes down from a place, and always by the last kid. -/
structure Lw (M : Mp) (f R H : Nat) (up : List (Nat × Nat)) (h b i : Nat) (T : List Ent) (upc : List (Nat × Nat)) (hc bc jc : Nat) : Prop where
  ex : ∃ pre L post Fo F n, Spot M f R H upc hc bc pre L post Fo F ∧ T = pre ++ L ++ post ∧ M bc = some n ∧ jc ≤ n.es.length ∧ (upc ≠ [] → Full M f bc) ∧ (hc ≠ 0 → 1 ≤ n.es.length) ∧
    ((upc = up ∧ hc = h ∧ bc = b ∧ jc = i) ∨ (jc = n.es.length ∧ Full M f bc ∧ ∃ upl, upc = upl ++ (b, i) :: up ∧ ∀ q ∈ upl, ∃ m, M q.1 = some m ∧ q.2 = m.es.length))

section
variable {w : World} {B B2 : Nat} {M : Mp} {f R H : Nat} {up : List (Nat × Nat)} {h b i : Nat} {T : List Ent} {upc : List (Nat × Nat)} {hc bc jc : Nat}
theorem Lw.step (l : Lw M f R H up h b i T upc hc bc jc) (hf3 : 3 ≤ f) (h0 : hc ≠ 0) : ∃ n k hc' nk, M bc = some n ∧ hc = hc' + 1 ∧ n.ks[jc]? = some k ∧ M k = some nk ∧ nk.es.length ≤ T.length ∧ Lw M f R H up h b i T ((bc, jc) :: upc) hc' k nk.es.length := by
  obtain ⟨pre, L, post, Fo, F, n, s, hT, hn, hj, hfu, h1, hd⟩ := l.ex
  obtain ⟨hc', rfl⟩ := Nat.exists_eq_succ_of_ne_zero h0
  obtain ⟨k, A, L', C, FA, F', FC, q1, q2, q3, q4, q5, q6⟩ := s.kid hn (h1 h0) hfu hj
  obtain ⟨nk, hk⟩ := q3.tr.dom
  have hT2 : T = (pre ++ A) ++ L' ++ (C ++ post) := by rw [hT, q2]; simp
  have hl : nk.es.length ≤ T.length := by rw [hT2]; exact q3.len hk
  refine ⟨n, k, hc', nk, hn, rfl, q1, hk, hl, ⟨pre ++ A, L', C ++ post, _, F', nk, q3, hT2, hk, Nat.le_refl _, fun _ => q4, fun _ => ?_, Or.inr ⟨rfl, q4, ?_⟩⟩⟩
  · obtain ⟨n2, g1, g2⟩ := q4
    rw [hk] at g1; cases g1
    omega
  · rcases hd with ⟨e1, e2, e3, e4⟩ | ⟨e1, e2, upl, e3, e4⟩
    · exact ⟨[], by rw [e1, e3, e4]; rfl, by simp⟩
    · refine ⟨(bc, jc) :: upl, by rw [e3]; rfl, fun q hq => ?_⟩
      rcases List.mem_cons.1 hq with rfl | hq
      · exact ⟨n, hn, e1⟩
      · exact e4 q hq
theorem Lw.high (l : Lw M f R H up h b i T upc hc bc jc) : hc + upc.length = H := by
  obtain ⟨pre, L, post, Fo, F, n, s, _⟩ := l.ex
  exact s.up.height
theorem Lw.ends (l : Lw M f R H up h b i T upc hc bc jc) : ∃ n, M bc = some n ∧ (n.ks = [] ↔ hc = 0) := by
  obtain ⟨pre, L, post, Fo, F, n, s, hT, hn, _⟩ := l.ex
  exact ⟨n, hn, s.tr.ks_nil hn⟩
theorem Lw.place (l : Lw M f R H up h b i T upc hc bc jc) (hlen : T.length ≤ 20000) : jc ≤ 20000 := by
  obtain ⟨pre, L, post, Fo, F, n, s, hT, hn, hj, _⟩ := l.ex
  have := s.len hn
  rw [← hT] at this
  omega

set_option maxHeartbeats 3200000 in
set_option maxRecDepth 100000 in
theorem lower_any (m : Mm w B M) (hB2 : B2 ≤ w.heap.size) {v : Value} (hr : RowS w B2 v (up.reverse ++ [(b, i)])) (hv : ∀ k, v.ownBlock = some k → ¬ Ft M k) (hl : Lw M f R H up h b i T up h b i) (hf3 : 3 ≤ f) (hH : H ≤ 20000) (hlen : T.length ≤ 20000) :
    Calls Try.prog 42 #[v] w fun e w' => ∃ v' upc bc jc, e = .returned v' ∧ RowS w' B2 v' (upc.reverse ++ [(bc, jc)]) ∧ Fr (fun k => v.ownBlock = some k) w w' ∧ (∀ k, v'.ownBlock = some k → v.ownBlock = some k ∨ w.heap.size ≤ k) ∧ Lw M f R H up h b i T upc 0 bc jc := by
  have hla := last_any hr (q := (b, i)) (by simp)
  have HM : Hid (Mm w B M) := m
  have HV : Hid (∀ k, v.ownBlock = some k → ¬ Ft M k) := hv
  have HR : Hid (RowS w B2 v (up.reverse ++ [(b, i)])) := hr
  clear m hv hr
  go_enter Try.func42, Try.ntmps42
  go_wp2_with ((try go_at_call 30); refine hla.mono ?_; clear hla; rintro e w1 ⟨rfl, hb1⟩)
  have hrow0 := (HR.out.below' hb1).below' (below_alloc1 w1 (.cells #[.pointer (some ⟨b, 0, none⟩), .int .i64 (i : Int)] 76))
  have hbx := below2 hb1 (below_alloc1 w1 (.cells #[.pointer (some ⟨b, 0, none⟩), .int .i64 (i : Int)] 76))
  have hag := agg_new w1 (.pointer (some ⟨b, 0, none⟩)) (.int .i64 (i : Int))
  go_loopg [0, 3] h (fun kx s0 s3 wr => ∃ (upc : List (Nat × Nat)) (hc bc jc xb : Nat), s3 = .pointer (some ⟨xb, 0, none⟩) ∧ Hid (wr.heap[xb]? = some (.cells #[.pointer (some ⟨bc, 0, none⟩), .int .i64 (jc : Int)] 76 (0, 0))) ∧ w.heap.size ≤ xb ∧ Hid (RowS wr B2 s0 (upc.reverse ++ [(bc, jc)])) ∧ Hid (Fr (fun k => v.ownBlock = some k) w wr) ∧ Hid (∀ k, s0.ownBlock = some k → v.ownBlock = some k ∨ w.heap.size ≤ k) ∧ Hid (∀ k, s0.ownBlock = some k → k ≠ xb) ∧ hc ≤ kx ∧ Hid (Lw M f R H up h b i T upc hc bc jc))
  case atStart => exact ⟨up, h, b, i, w1.heap.size, rfl, hag, hb1.size, hrow0, Fr.of_below hbx, fun k e => Or.inl e, fun k e => by have := (HR.out.blk e).2; have := hb1.size; omega, Nat.le_refl _, hl⟩
  case round =>
    clear hrow0 hbx hag
    obtain ⟨upc, hc, bc, jc, xb, rfl, hxb, hxs, hrow, hfr, hown, hnx, hh, hlw⟩ := hrel
    have MK : Hid (∀ U, Fr (fun k => v.ownBlock = some k) w U → Mm U B M) := fun U fU => HM.out.kept (fun k hk => fU.block k (HM.out.lt hk).2 (fun e => HV.out k e hk))
    obtain ⟨n, hn, hke⟩ := hlw.out.ends
    obtain ⟨x0, _⟩ := cell_obj (j := 0) hxb.out
    obtain ⟨x1, _⟩ := cell_obj (j := 1) hxb.out
    have x0' : wr.cell? ⟨xb, 0, none⟩ = some (.pointer (some ⟨bc, 0, none⟩)) := x0.trans rfl
    have x1' : wr.cell? ⟨xb, 1, none⟩ = some (.int .i64 (jc : Int)) := x1.trans rfl
    clear x0 x1
    by_cases h0 : hc = 0
    · have hen := end_yes (MK.out _ hfr.out) hn (hke.2 h0)
      subst h0
      clear hke
      go_wp2_with ((try go_at_call 39); refine hen.mono ?_; clear hen; rintro e w2 ⟨rfl, h2⟩; rw [h2]; clear h2 w2)
      go_ret
      exact ⟨_, upc, bc, jc, rfl, hrow.out, hfr.out, hown.out, hlw.out⟩
    · have hen := end_no (MK.out _ hfr.out) hn (fun q => h0 (hke.1 q))
      obtain ⟨n', k, hc', nk, hn', hcc, hkk, hnk, hnkl, hlw'⟩ := hlw.out.step hf3 h0
      rw [hn] at hn'; cases hn'
      have mr := MK.out _ hfr.out
      obtain ⟨kb, kc, ek, hkc, hkm, hkb, k0⟩ := mr.kid hn hkk
      have hjl : (jc : Int) < (n.ks.length : Int) := by have := (List.getElem?_eq_some_iff.1 hkk).1; omega
      obtain ⟨_, c1, _, _⟩ := ncell (mr.top bc n hn).1
      rw [ek] at c1
      obtain ⟨ea, ec, ee, _, hem⟩ := (mr.ents k nk hnk).len
      have hJ : Hid (upc.length ≤ 20000) := by have := hlw.out.high; show _ ≤ _; omega
      have HT2 : Hid (∀ U, Fr (fun k => v.ownBlock = some k) w U → U.cell? ⟨k, 0, none⟩ = some (.slice ea nk.es.length ec)) := fun U fU => by
        obtain ⟨q, _⟩ := ncell ((MK.out U fU).top k nk hnk).1
        rw [q, ee]
      have hnkl2 : nk.es.length ≤ 20000 := by omega
      unfold maxLen at hkm
      have hxl : xb < wr.heap.size := (Array.getElem?_eq_some_iff.1 hxb.out).1
      have hoB : Hid (∀ k, u0.ownBlock = some k → k < wr.heap.size) := fun k e => (hrow.out.blk e).2
      clear ek ee
      go_wp2_with ((try go_at_call 39); refine hen.mono ?_; clear hen; rintro e w2 ⟨rfl, h2⟩; rw [h2]; clear h2 w2)
      go_quiet (fail)
      have hbd := below_drewN wr nq
      have hx1 : (wr.drewN nq).heap[xb]? = some (.cells #[.pointer (some ⟨bc, 0, none⟩), .int .i64 (jc : Int)] 76 (0, 0)) := hxb.out
      have row1 := hrow.out.below' hbd
      have fr1 : Fr (fun k => v.ownBlock = some k) w (wr.drewN nq) := hfr.out.trans (Fr.of_below (F := fun k => v.ownBlock = some k) hbd) (fun _ _ e => e)
      have hsz1 : (wr.drewN nq).heap.size = wr.heap.size := rfl
      clear x0' x1' k0 c1 mr hfr hxb hrow
      generalize wr.drewN nq = W1 at *
      obtain ⟨y0, yf0⟩ := cell_obj (j := 0) hx1
      obtain ⟨y1, yf1⟩ := cell_obj (j := 1) hx1
      have y0' : W1.cell? ⟨xb, 0, none⟩ = some (.pointer (some ⟨bc, 0, none⟩)) := y0.trans rfl
      have y1' : W1.cell? ⟨xb, 1, none⟩ = some (.int .i64 (jc : Int)) := y1.trans rfl
      have e0 := HT2.out _ fr1
      have hx2 := spot_set (u := .pointer (some ⟨k, 0, none⟩)) (v := .int .i64 (nk.es.length : Int)) hx1
      have row2 : RowS ((W1.setCell ⟨xb, 0, none⟩ (.pointer (some ⟨k, 0, none⟩))).setCell ⟨xb, 1, none⟩ (.int .i64 (nk.es.length : Int))) B2 u0 (upc.reverse ++ [(bc, jc)]) := row1.kept (fun k e => (set_other (hnx.out k e)).trans (set_other (hnx.out k e)))
      have fr2 : Fr (fun k => v.ownBlock = some k) w ((W1.setCell ⟨xb, 0, none⟩ (.pointer (some ⟨k, 0, none⟩))).setCell ⟨xb, 1, none⟩ (.int .i64 (nk.es.length : Int))) := (fr1.set (p := ⟨xb, 0, none⟩) (Or.inr hxs) _).set (p := ⟨xb, 1, none⟩) (Or.inr hxs) _
      have HX2 : Hid (((W1.setCell ⟨xb, 0, none⟩ (.pointer (some ⟨k, 0, none⟩))).setCell ⟨xb, 1, none⟩ (.int .i64 (nk.es.length : Int))).heap[xb]? = some (.cells #[.pointer (some ⟨k, 0, none⟩), .int .i64 (nk.es.length : Int)] 76 (0, 0))) := hx2
      have HR2 : Hid (RowS ((W1.setCell ⟨xb, 0, none⟩ (.pointer (some ⟨k, 0, none⟩))).setCell ⟨xb, 1, none⟩ (.int .i64 (nk.es.length : Int))) B2 u0 (upc.reverse ++ [(bc, jc)])) := row2
      have HF2 : Hid (Fr (fun k => v.ownBlock = some k) w ((W1.setCell ⟨xb, 0, none⟩ (.pointer (some ⟨k, 0, none⟩))).setCell ⟨xb, 1, none⟩ (.int .i64 (nk.es.length : Int)))) := fr2
      clear row1 row2 fr2 hx2 y0 y1
      have HSZ : Hid (W1.heap.size = wr.heap.size) := hsz1
      clear hsz1
      have HX3 : Hid (∀ U, Fr (fun k => u0.ownBlock = some k) (((W1.setCell ⟨xb, 0, none⟩ (.pointer (some ⟨k, 0, none⟩))).setCell ⟨xb, 1, none⟩ (.int .i64 (nk.es.length : Int))).alloc (.cells #[.pointer (some ⟨k, 0, none⟩), .int .i64 (nk.es.length : Int)] 76)) U → U.heap[xb]? = some (.cells #[.pointer (some ⟨k, 0, none⟩), .int .i64 (nk.es.length : Int)] 76 (0, 0))) := fun U fU => by
        have q1 := (below_alloc1 ((W1.setCell ⟨xb, 0, none⟩ (.pointer (some ⟨k, 0, none⟩))).setCell ⟨xb, 1, none⟩ (.int .i64 (nk.es.length : Int))) (.cells #[.pointer (some ⟨k, 0, none⟩), .int .i64 (nk.es.length : Int)] 76)).block xb (Array.getElem?_eq_some_iff.1 HX2.out).1
        have q2 := fU.block xb (Nat.lt_of_lt_of_le (Array.getElem?_eq_some_iff.1 HX2.out).1 (below_alloc1 ((W1.setCell ⟨xb, 0, none⟩ (.pointer (some ⟨k, 0, none⟩))).setCell ⟨xb, 1, none⟩ (.int .i64 (nk.es.length : Int))) _).size) (fun e => hnx.out xb e rfl)
        exact (q2.trans q1).trans HX2.out
      have hBW : B2 ≤ (((W1.setCell ⟨xb, 0, none⟩ (.pointer (some ⟨k, 0, none⟩))).setCell ⟨xb, 1, none⟩ (.int .i64 (nk.es.length : Int))).alloc (.cells #[.pointer (some ⟨k, 0, none⟩), .int .i64 (nk.es.length : Int)] 76)).heap.size := by
        have := HF2.out.size
        exact Nat.le_trans (Nat.le_trans hB2 this) (below_alloc1 ((W1.setCell ⟨xb, 0, none⟩ (.pointer (some ⟨k, 0, none⟩))).setCell ⟨xb, 1, none⟩ (.int .i64 (nk.es.length : Int))) _).size
      have hone := one_newS ((W1.setCell ⟨xb, 0, none⟩ (.pointer (some ⟨k, 0, none⟩))).setCell ⟨xb, 1, none⟩ (.int .i64 (nk.es.length : Int))) (k, nk.es.length)
      rw [show ((W1.setCell ⟨xb, 0, none⟩ (.pointer (some ⟨k, 0, none⟩))).setCell ⟨xb, 1, none⟩ (.int .i64 (nk.es.length : Int))).heap.size = W1.heap.size by simp] at hone
      have HONE : Hid (RowS (((W1.setCell ⟨xb, 0, none⟩ (.pointer (some ⟨k, 0, none⟩))).setCell ⟨xb, 1, none⟩ (.int .i64 (nk.es.length : Int))).alloc (.cells #[.pointer (some ⟨k, 0, none⟩), .int .i64 (nk.es.length : Int)] 76)) 0 (.slice (some ⟨W1.heap.size, 0, none⟩) 1 1) [(k, nk.es.length)]) := hone
      clear hone
      have hlenup : (upc.reverse ++ [(bc, jc)]).length + [(k, nk.es.length)].length ≤ 100000 := by
        have := hJ.out
        simp
        omega
      go_wp2_with (at_builtin; refine wpList_append_rows gS_len gS_one Try.underlying71 Try.infoS rfl (by decide) (by decide) rfl (.tmp 27) (.tmp 29) rfl rfl (HR2.out.below' (below_alloc1 _ _)) rfl HONE.out hlenup hBW ?_; intro v3 w3 row3 fr3 new3; have hx3 := HX3.out _ fr3; have z0 : w3.cell? ⟨xb, 0, none⟩ = some (.pointer (some ⟨k, 0, none⟩)) := (cell_obj (j := 0) hx3).1.trans rfl; have z1 : w3.cell? ⟨xb, 1, none⟩ = some (.int .i64 (nk.es.length : Int)) := (cell_obj (j := 1) hx3).1.trans rfl)
      have hz : ((W1.setCell ⟨xb, 0, none⟩ (.pointer (some ⟨k, 0, none⟩))).setCell ⟨xb, 1, none⟩ (.int .i64 (nk.es.length : Int))).heap.size ≤ w3.heap.size := Nat.le_trans (below_alloc1 ((W1.setCell ⟨xb, 0, none⟩ (.pointer (some ⟨k, 0, none⟩))).setCell ⟨xb, 1, none⟩ (.int .i64 (nk.es.length : Int))) _).size fr3.size
      have fr3' : Fr (fun k => v.ownBlock = some k) w w3 := (HF2.out.alloc (.cells #[.pointer (some ⟨k, 0, none⟩), .int .i64 (nk.es.length : Int)] 76)).trans fr3 (fun q hq e => (hown.out q e).elim id (fun g => by omega))
      go_roundg hc'
      case measure => omega
      case rel =>
        refine ⟨(bc, jc) :: upc, hc', k, nk.es.length, w3.heap.size, rfl, agg_new w3 _ _, fr3'.size, ?_, fr3'.alloc _, fun q e => ?_, fun q e => ?_, Nat.le_refl _, hlw'⟩
        · have := row3.below' (below_alloc1 w3 (.cells #[.pointer (some ⟨k, 0, none⟩), .int .i64 (nk.es.length : Int)] 76))
          have e : ((bc, jc) :: upc).reverse ++ [(k, nk.es.length)] = upc.reverse ++ [(bc, jc)] ++ [(k, nk.es.length)] := by simp
          show RowS _ _ _ _
          rw [e]
          exact this
        · rcases new3 q e with g | g
          · exact hown.out q g
          · exact Or.inr (Nat.le_trans (Nat.le_trans HF2.out.size (below_alloc1 ((W1.setCell ⟨xb, 0, none⟩ (.pointer (some ⟨k, 0, none⟩))).setCell ⟨xb, 1, none⟩ (.int .i64 (nk.es.length : Int))) _).size) g)
        · have := (row3.blk e).2
          omega
end

end Go.Proofs.Ytkfoddblgdmabaa.tr
