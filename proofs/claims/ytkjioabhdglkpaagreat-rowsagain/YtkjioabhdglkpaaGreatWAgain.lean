/- RowsAgain: a heap that is flushed, a crash of its device, a pool and a heap anew on it; the walk. -/
import Derived.Test.YtkjioabhdglkpaaGreatWAll2
namespace Go.Proofs.YtkjioabhdglkpaaGreat
open Go.RowKit

theorem Hv.held {S : St} {V : Nat → ByteArray} {A : List Nat} {b : Nat} (h : Hv S V A) (ok : OkS b S) (hx : S.D.next ≤ 0) : (flushS S).2.D.held = [] ∧ (flushS S).2.D.left < 0 ∧ (flushS S).2.D.next ≤ 0 := by
  obtain ⟨r1, r2, r3, r4⟩ := Hv.all (dirtyS S) b S h ok hx (fun a ha => pgs_mem (sortI_mem ha))
  have hleft : ¬ (wrAll (dirtyS S) S).2.D.left = 0 := by have := r3.up; omega
  have eD : flD (wrAll (dirtyS S) S).2.D = (wrAll (dirtyS S) S).2.D.flushed := by unfold flD; rw [if_neg hleft]
  unfold flushS
  rw [if_pos r1]
  simp only
  rw [eD]
  have := r3.up
  have := r2.nx hx
  exact ⟨rfl, by show (wrAll (dirtyS S) S).2.D.left - 1 < 0; omega, this⟩

section
variable {W w w' : World} {p g bd : Nat} {S : St} {E : List (Nat × Obj)}
/-- A new pool over the device of another one. -/
theorem Q1.pool (h : Q1 W w p g bd S E) (k : Nat) (h1 : 1 ≤ k) (h2 : k ≤ 64) :
    Calls Tryz.prog 23 #[.pointer (some ⟨g, 0, none⟩), .int .i64 (k : Int)] w fun e w' => ∃ p', e = .returned (.tuple #[.pointer (some ⟨p', 0, none⟩), .int .i64 0]) ∧ Q1 W w' p' g bd ⟨k, [], 0, 0, S.D⟩ E := by
  obtain ⟨x, e1, rfl, rfl, e4, e5, e6⟩ := h.ex
  refine (pnew_ok x.g k h1 h2).mono ?_
  rintro e w' ⟨rfl, hn⟩
  have hpd := hn.pd e4.dev h.bel.size
  refine ⟨_, rfl, ⟨⟨px0 w x.g x.gs x.dv k x.D, rfl, rfl, rfl, hpd, ⟨rfl, rfl, ⟨e5.ok.inv, fun f hf => (by cases hf), by simp [px0, PX.st, frs], ⟨h1, h2⟩, Nat.zero_le _, Nat.zero_le _, Nat.zero_le _⟩⟩, fun y hy => ⟨(hn.bel.block _ (lt_of_some (e6 y hy).1)).trans (e6 y hy).1, fun f => ?_⟩⟩, below2 h.bel hn.bel⟩⟩
  have hlt := lt_of_some (e6 y hy).1
  rcases f with (f | f | f | f | f) | f
  · have f1 : y.1 = w.heap.size + 1 := f
    omega
  · have f1 : y.1 = w.heap.size := f
    omega
  · simp [px0, Value.ownBlock] at f
  · simp [px0] at f
  · have f1 := (blks_mem (k := k) (s := w.heap.size + 2) f).1
    omega
  · exact (e6 y hy).2 (Or.inr f)

/-- All pages are on the device, safe; the blocks of G are others'. -/
structure Fx (W w : World) (p g bd n m : Nat) (H : Hp) (G : Nat → Prop) : Prop where
  ex : ∃ S V E, Q1 W w p g bd S E ∧ (S.D.held = [] ∧ S.D.left < 0 ∧ S.D.next ≤ 0 ∧ S.D.n = n ∧ S.n = m ∧ ∀ j, j < n → S.D.seen j = V j) ∧ Vok n V H ∧ ∀ k, G k → ∃ o, (k, o) ∈ E
  ap : ∀ k, G k → W.heap.size ≤ k
/-- And no frame has anything. -/
structure Nx (W w : World) (p g bd n m : Nat) (H : Hp) (G : Nat → Prop) : Prop where
  ex : ∃ S V E, Q1 W w p g bd S E ∧ (S.l = [] ∧ S.D.left < 0 ∧ S.D.next ≤ 0 ∧ S.D.n = n ∧ S.n = m ∧ ∀ j, j < n → S.D.seen j = V j) ∧ Vok n V H ∧ ∀ k, G k → ∃ o, (k, o) ∈ E
  ap : ∀ k, G k → W.heap.size ≤ k

theorem q1_same {p' bd' : Nat} {S' : St} {E' : List (Nat × Obj)} (t : Q1 W w p g bd S E) (t' : Q1 W w' p' g bd' S' E') {k : Nat} {o : Obj} (hk : (k, o) ∈ E) (hk' : (k, o) ∈ E') : w'.heap[k]? = w.heap[k]? := (t'.at hk').trans (t.at hk).symm

variable {hb n m : Nat} {H : Hp} {G : Nat → Prop}
theorem Dx.flush (d : Dx W w hb p g bd n m H G) (hbd : bd ≤ 6000000) :
    Calls Tryz.prog 21 #[.pointer (some ⟨p, 0, none⟩)] w fun e w' => e = .returned (.int .i64 0) ∧ Fx W w' p g (bd + 66) n m H G ∧ Keep G w w' := by
  obtain ⟨V, E, ⟨S, a, b, rfl, rfl, hy⟩, ok, cov⟩ := d.ex
  refine (a.flush (by omega)).mono ?_
  rintro e w' ⟨rfl, q⟩
  obtain ⟨r1, t, r2, r3⟩ := b.flush a.ok (hy trivial)
  obtain ⟨s1, s2, s3⟩ := b.held a.ok (hy trivial)
  have cov' : ∀ k, G k → ∃ o, (k, o) ∈ (hb, hobj p) :: E := fun k hk => by
    obtain ⟨o, ho⟩ := cov k hk
    exact ⟨o, List.mem_cons_of_mem _ ho⟩
  refine ⟨by rw [r1], ⟨⟨_, V, _, q, ⟨s1, s2, s3, t.dn, t.n, r3⟩, ok, cov'⟩, fun k hk => (d.ap k hk).1⟩, fun k hk => ?_⟩
  obtain ⟨o, ho⟩ := cov' k hk
  exact q1_same a q ho ho
theorem Fx.crash (f : Fx W w p g bd n m H G) (hbd : bd ≤ 8000000) :
    Calls Tryz.prog 22 #[.pointer (some ⟨g, 0, none⟩), .slice none 0 0] w fun e w' => e = .returned (.tuple #[]) ∧ Fx W w' p g bd n m H G ∧ Keep G w w' := by
  obtain ⟨S, V, E, a, ⟨h1, h2, h3, h4, h5, h6⟩, ok, cov⟩ := f.ex
  refine (a.crash hbd).mono ?_
  rintro e w' ⟨rfl, q⟩
  obtain ⟨c1, c2, c3⟩ := crash_none S.D h1
  refine ⟨rfl, ⟨⟨_, V, E, q, ⟨rfl, by show (S.D.crashed []).left < 0; rw [c2]; decide, Int.le_refl _, c3.trans h4, h5, fun j hj => ?_⟩, ok, cov⟩, f.ap⟩, fun k hk => ?_⟩
  · show (S.D.crashed []).seen j = V j
    rw [c1]
    exact h6 j hj
  · obtain ⟨o, ho⟩ := cov k hk
    exact q1_same a q ho ho
theorem Fx.pool (f : Fx W w p g bd n m H G) (k : Nat) (h1 : 1 ≤ k) (h2 : k ≤ 64) :
    Calls Tryz.prog 23 #[.pointer (some ⟨g, 0, none⟩), .int .i64 (k : Int)] w fun e w' => ∃ p', e = .returned (.tuple #[.pointer (some ⟨p', 0, none⟩), .int .i64 0]) ∧ Nx W w' p' g bd n k H G ∧ Keep G w w' := by
  obtain ⟨S, V, E, a, ⟨_, h4, h5, h6, _, h7⟩, ok, cov⟩ := f.ex
  refine (a.pool k h1 h2).mono ?_
  rintro e w' ⟨p', rfl, q⟩
  refine ⟨p', rfl, ⟨⟨_, V, E, q, ⟨rfl, h4, h5, h6, rfl, h7⟩, ok, cov⟩, f.ap⟩, fun j hj => ?_⟩
  obtain ⟨o, ho⟩ := cov j hj
  exact q1_same a q ho ho
theorem Nx.heap (f : Nx W w p g bd n m H G) : Dx W (w.alloc (hobj p)) w.heap.size p g bd n m H G ∧ Keep G w (w.alloc (hobj p)) := by
  obtain ⟨S, V, E, a, ⟨h1, h4, h5, h6, h7, h8⟩, ok, cov⟩ := f.ex
  have q := a.alloc (hobj p)
  have hlt : ∀ k, G k → k < w.heap.size := fun k hk => by
    obtain ⟨o, ho⟩ := cov k hk
    exact lt_of_some (a.at ho)
  refine ⟨⟨⟨V, E, ⟨S, q, ⟨h4, fun f hf => (by rw [h1] at hf; cases hf), fun f hf => (by rw [h1] at hf; cases hf), fun f hf => (by rw [h1] at hf; cases hf), fun j hj _ => h8 j (by rw [← h6]; exact hj), fun j hj => (by cases hj)⟩, h6, h7, fun _ => h5⟩, ok, cov⟩, fun k hk => ⟨f.ap k hk, by have := hlt k hk; omega⟩⟩, fun k hk => (below_alloc1 w _).block k (hlt k hk)⟩
end

section
variable {W w w' : World} {rb hb p g bd n m : Nat} {rs : List Ro} {q : Nat} {v : Value} {E : Nat → Prop}
/-- Rows whose pages are safe, beside the document's. -/
structure Bf (W w : World) (p g bd n m : Nat) (rs : List Ro) (q : Nat) (v : Value) : Prop where
  ex : ∃ H, Fx W w p g bd n m H (fun k => k = q ∨ v.ownBlock = some k) ∧ (ent n H).Perm (owned rs)
  rd : Rd W.heap.size w q v (lR rs)
  ok : (∀ x ∈ rs, Rok x) ∧ Rise rs ∧ pieN rs ≤ 127 * n
structure Bn (W w : World) (p g bd n m : Nat) (rs : List Ro) (q : Nat) (v : Value) : Prop where
  ex : ∃ H, Nx W w p g bd n m H (fun k => k = q ∨ v.ownBlock = some k) ∧ (ent n H).Perm (owned rs)
  rd : Rd W.heap.size w q v (lR rs)
  ok : (∀ x ∈ rs, Rok x) ∧ Rise rs ∧ pieN rs ≤ 127 * n
structure Bh (W w : World) (hb p g bd n m : Nat) (rs : List Ro) (q : Nat) (v : Value) : Prop where
  ex : ∃ H, Dx W w hb p g bd n m H (fun k => k = q ∨ v.ownBlock = some k) ∧ (ent n H).Perm (owned rs)
  rd : Rd W.heap.size w q v (lR rs)
  ok : (∀ x ∈ rs, Rok x) ∧ Rise rs ∧ pieN rs ≤ 127 * n

theorem Bo.flush (h : Bo W w rb hb p g bd n m rs q v E) (hbd : bd ≤ 6000000) :
    Calls Tryz.prog 21 #[.pointer (some ⟨p, 0, none⟩)] w fun e w' => e = .returned (.int .i64 0) ∧ Bf W w' p g (bd + 66) n m rs q v := by
  have hp := h.rz.pie_le
  obtain ⟨mb, wa, wc, vf, H, r, pm⟩ := h.rz.ex
  refine ((r.dx.less (G' := fun k => k = q ∨ v.ownBlock = some k) (fun k hk => Or.inl (Or.inl hk))).flush hbd).mono ?_
  rintro e w' ⟨rfl, f, k⟩
  exact ⟨rfl, ⟨H, f, pm⟩, h.rd.kept k, r.ok, r.rise, hp⟩
theorem Bf.crash (h : Bf W w p g bd n m rs q v) (hbd : bd ≤ 8000000) :
    Calls Tryz.prog 22 #[.pointer (some ⟨g, 0, none⟩), .slice none 0 0] w fun e w' => e = .returned (.tuple #[]) ∧ Bf W w' p g bd n m rs q v := by
  obtain ⟨H, f, pm⟩ := h.ex
  refine (f.crash hbd).mono ?_
  rintro e w' ⟨rfl, f, k⟩
  exact ⟨rfl, ⟨H, f, pm⟩, h.rd.kept k, h.ok⟩
theorem Bf.pool (h : Bf W w p g bd n m rs q v) (k : Nat) (h1 : 1 ≤ k) (h2 : k ≤ 64) :
    Calls Tryz.prog 23 #[.pointer (some ⟨g, 0, none⟩), .int .i64 (k : Int)] w fun e w' => ∃ p', e = .returned (.tuple #[.pointer (some ⟨p', 0, none⟩), .int .i64 0]) ∧ Bn W w' p' g bd n k rs q v := by
  obtain ⟨H, f, pm⟩ := h.ex
  refine (f.pool k h1 h2).mono ?_
  rintro e w' ⟨p', rfl, f, k⟩
  exact ⟨p', rfl, ⟨H, f, pm⟩, h.rd.kept k, h.ok⟩
theorem Bn.heap (h : Bn W w p g bd n m rs q v) : Bh W (w.alloc (hobj p)) w.heap.size p g bd n m rs q v := by
  obtain ⟨H, f, pm⟩ := h.ex
  obtain ⟨d, k⟩ := f.heap
  exact ⟨⟨H, d, pm⟩, h.rd.kept k, h.ok⟩
theorem Bh.rows (h : Bh W w hb p g bd n m rs q v) (hbd : bd + 400 * n + 6 ≤ 5000000) (hm : 1 ≤ m) (hn : n ≤ 500) (hlen : rs.length ≤ 4000) :
    Calls Tryz.prog 18 #[.pointer (some ⟨hb, 0, none⟩)] w fun e w' => ∃ rb, e = .returned (.tuple #[.pointer (some ⟨rb, 0, none⟩), .int .i64 0]) ∧ Bo W w' rb hb p g (bd + 400 * n + 6) n m rs q v (fun _ => False) := by
  obtain ⟨H, d, pm⟩ := h.ex
  have d' := d.less (G' := fun k => (k = q ∨ v.ownBlock = some k) ∨ False) (fun k hk => hk.elim id False.elim)
  refine (new_of (find_any9 d' (by have := h.ok.2.2; omega) hm hn pm h.ok.1 h.ok.2.1 hlen) pm h.ok.1 h.ok.2.1 hlen).mono ?_
  rintro e w' ⟨rb', rfl, a, b⟩
  exact ⟨rb', rfl, (b.mono (by have := h.ok.2.2; omega)).rz, h.rd.kept (fun j hj => b.keep j (Or.inl hj)), fun k hk => hk.elim⟩
/-- A row of ids beside. -/
theorem Bo.row (h : Bo W w rb hb p g bd n m rs q v E) (b : Below w.heap.size w w') {u : Value} {l : List Int} (r : LRow w' w.heap.size u l) : Bo W w' rb hb p g bd n m rs q v (fun k => u.ownBlock = some k) := by
  refine ⟨h.rz.own (F := fun _ => False) (Fr.of_below b) (fun _ z => z.elim) (fun k hk => ?_), h.rd.below b, fun k e => ?_⟩
  · rcases hk with z | z
    · exact ⟨Or.inl (Or.inl z), Nat.lt_of_lt_of_le (h.rz.lt (Or.inl z)) b.size⟩
    · exact ⟨Or.inr (r.blk z).1, (r.blk z).2⟩
  · have h1 := (r.blk e).1
    refine ⟨fun z => ?_, fun z => ?_⟩
    · have := lt_of_some h.rd.top; omega
    · have := (h.rd.row.blk z).2; omega
end
end Go.Proofs.YtkjioabhdglkpaaGreat

namespace Go.Proofs.YtkjioabhdglkpaaGreat
open Go.RowKit Go.ChangeShapes Go.WideShapes Go.ChangeAt

set_option maxHeartbeats 12800000 in
set_option maxRecDepth 100000 in
theorem rowsAgain_on (a0 : Option Addr) (L : List Wp1) (cap : Nat) (W : World) (hL : SlG W a0 3 Wp1.cells L) (hcap : L.length ≤ maxLen) (hok : ∀ s ∈ L, s.ok) :
    Calls Tryz.prog 4 #[.slice a0 L.length cap] W fun e w' => e = .returned (.bool true) ∧ Below W.heap.size W w' := by
  have cM := made_any 200 4 (by decide) (by decide) W
  have HL := (show Hid _ from hL)
  have HK := (show Hid _ from hok)
  clear hok
  go_enter Tryz.func4, Tryz.ntmps4
  go_wp2_with fail
  refine cM.mono ?_
  rintro e w1 ⟨g, p, hb, rfl, t1⟩
  have HT := (show Hid _ from t1)
  have cF := fair9_any a0 L cap w1 (hL.kept t1.bel) hcap
  clear cM t1
  go_wp2_with fail
  refine cF.mono ?_
  rintro e w2 ⟨rfl, hw⟩
  rw [hw]
  clear hw cF hL w2
  cases hfr : fair9 L
  · have cW := wakes9_any w1
    go_wp2_with fail
    refine cW.mono ?_
    rintro e w3 ⟨rfl, b3⟩
    clear cW
    go_wp2_with fail
    go_ret
    exact ⟨rfl, below2 HT.out.bel b3⟩
  have HF := (show Hid _ from fair9_of hfr)
  have d1 : Dx W w1 hb p g 0 200 4 (fun _ => []) (fun _ => False) := ⟨⟨_, [], HT.out, vok_new 200 (by decide) (by decide), fun _ q => q.elim⟩, fun _ q => q.elim⟩
  have cN := new_empty d1 (by omega) (by decide) (by decide)
  clear d1 HT
  have hlen2 : L.length ≤ 60 := HF.out.1
  clear hfr
  go_wp2_with fail
  refine cN.mono ?_
  rintro e w2 ⟨rb, rfl, _, r2⟩
  have HR : Hid (Rz W w2 rb hb p g 606 200 4 [] (fun _ => False)) := by have := r2.rz; rwa [Nat.zero_add] at this
  have HB0 := (show Hid _ from Bo.start HR.out)
  clear cN r2 HR
  go_wp2_with fail
  generalize w2.heap.size = q at *
  generalize w2.alloc (.cells #[.slice none 0 0] 34) = w3 at *
  go_loopw [10] (fun si wr => ∃ (i : Nat) (rs : List Ro) (v : Value), i ≤ L.length ∧ si = .int .i64 (i : Int) ∧ Hid (rs.length ≤ i ∧ Bo W wr rb hb p g (606 + 15000 * i) 200 4 rs q v (fun _ => False))) (fun si _ => L.length - (Go.RowKit.intOf si).toNat)
  case atStart => exact ⟨0, [], _, Nat.zero_le _, rfl, by simp, HB0.out⟩
  case round =>
    clear HB0
    obtain ⟨i, rs, v, hi, rfl, hr⟩ := hrel
    by_cases hlt : i < L.length
    · have hlt2 : (i : Int) < (L.length : Int) := by omega
      have hx : L[i]? = some L[i] := by simp [hlt]
      generalize L[i] = s at hx
      have hok := HK.out s (List.mem_of_getElem? hx)
      have hiB := hok.iB
      rcases HL.out with hL2 | ⟨b, off, rfl, hlb, hcell⟩
      · rw [hL2] at hlt; simp at hlt
      have S0 : Hid (W.cell? ⟨b, off + i * 3, none⟩ = some (.int .i64 s.kind)) := hcell i s hx 0 _ rfl
      have S1 : Hid (W.cell? ⟨b, off + i * 3 + 1, none⟩ = some (.int .i64 s.id)) := hcell i s hx 1 _ rfl
      have S2 : Hid (W.cell? ⟨b, off + i * 3 + 2, none⟩ = some (.string s.text)) := hcell i s hx 2 _ rfl
      have s0 := (hr.out.2.rz.bel.cell (p := ⟨b, _, none⟩) hlb).trans S0.out
      have s1 := (hr.out.2.rz.bel.cell (p := ⟨b, _, none⟩) hlb).trans S1.out
      have s2 := (hr.out.2.rz.bel.cell (p := ⟨b, _, none⟩) hlb).trans S2.out
      clear hcell hx hok S0
      obtain ⟨kk, id, tx⟩ := s
      simp only at s0 s1 s2 S1 S2 hiB
      have HLN : Hid (rs.length ≤ i) := hr.out.1
      have HRI := (show Hid _ from hr.out.2.rz.rise)
      have HAP := (show Hid _ from hr.out.2.ap)
      by_cases k1 : kk = 1
      · subst k1
        have cD := rodel_at hr.out.2.rz (by omega) (by decide) hiB
        clear s2
        go_wp2_with fail
        refine cD.mono ?_
        rintro e w5 ⟨X, rs5, rfl, t5, pr⟩
        have s1' := (t5.rz.bel.cell (p := ⟨b, off + i * 3 + 1, none⟩) hlb).trans S1.out
        have HD5 := (show Hid _ from hr.out.2.mid t5)
        have HT5 := (show Hid _ from t5)
        have HLS : Hid (rs5.length ≤ i + 1) := by have h1 := pr.len; have h2 := HLN.out; show _ ≤ _; omega
        have cR := rddel_at HD5.out t5.rz.bel.size HRI.out (by have := HLN.out; omega) pr
        clear cD t5 pr s0 s1
        go_wp2_with fail
        refine cR.mono ?_
        rintro e w6 ⟨rfl, t6⟩
        obtain ⟨⟨v6, b6⟩, k6⟩ := HT5.out.rz.met HAP.out t6
        have HB9 := (show Hid _ from b6)
        clear cR t6 b6 k6 s1'
        go_wp2_with fail
        go_roundw
        case rel => exact ⟨i + 1, _, _, by omega, by go_num, HLS.out, HB9.out.mono (by omega)⟩
        case measure => simp [Go.RowKit.intOf]; omega
      · have e1 : (kk == 1) = false := by simpa using k1
        have HH := (show Hid _ from hr.out.2)
        have cP := roput_at (i := id) (text := tx) hr.out.2.rz.drew (by omega) (by decide) (by decide) (by have := hr.out.1; omega)
        clear k1 hr
        go_wp2_with fail
        apply wp_endX (R := fun X U => ∃ rs', Rz' W wr.drew U rb hb p g (606 + 15000 * i + 12 * (6 * 200 + 10) + 216) 200 4 rs' (fun k => (k = q ∨ v.ownBlock = some k) ∨ False) ∧ PutR 200 rs id tx X rs')
        case h =>
          go_region_held3 (fun U => U.cell? ⟨b, off + i * 3 + 1, none⟩ = some (.int .i64 id) ∧ U.cell? ⟨b, off + i * 3 + 2, none⟩ = some (.string tx)) (first | exact hB | exact ⟨s1, s2⟩ | go_keep)
            (first
              | (go_at_call 12; refine cP.mono ?_; rintro e w4 ⟨X, rs', rfl, r4, q⟩; have hB := (⟨(r4.rz.bel.cell (p := ⟨b, _, none⟩) hlb).trans S1.out, (r4.rz.bel.cell (p := ⟨b, _, none⟩) hlb).trans S2.out⟩ : _ ∧ _)))
          all_goals exact EndX.mk (X := X) ⟨rs', r4, q⟩
        rintro X w5 ⟨rs5, t5, pr⟩
        have y1 := (t5.rz.bel.cell (p := ⟨b, off + i * 3 + 1, none⟩) hlb).trans S1.out
        have y2 := (t5.rz.bel.cell (p := ⟨b, off + i * 3 + 2, none⟩) hlb).trans S2.out
        have HD5 := (show Hid _ from HH.out.drew.mid t5)
        have HT5 := (show Hid _ from t5)
        have HPR := (show Hid _ from pr)
        have HLS : Hid (rs5.length ≤ i + 1) := by have h1 := pr.len; have h2 := HLN.out; show _ ≤ _; omega
        clear cP t5 pr s0 s1 s2
        by_cases hX : X = 0
        · subst hX
          have cR := rdput_at (HD5.out.below (below_drew w5)) (HT5.out.rz.below (below_drew w5)).bel.size HRI.out (by have := HLN.out; omega) (by decide) HPR.out
          go_wp2_with fail
          apply wp_end (R := fun U => ∃ v', Bo W U rb hb p g (606 + 15000 * i + 14736) 200 4 rs5 q v' (fun _ => False))
          case h =>
            go_region_held3 (fun U => U.cell? ⟨b, off + i * 3 + 1, none⟩ = some (.int .i64 id) ∧ U.cell? ⟨b, off + i * 3 + 2, none⟩ = some (.string tx)) (first | exact hB | exact ⟨y1, y2⟩ | go_keep)
              (first
                | (go_at_call 14; refine cR.mono ?_; rintro e w6 ⟨rfl, t6⟩; have hm := (HT5.out.rz.below (below_drew w5)).met HAP.out t6; have hB := (⟨(hm.1.choose_spec.rz.bel.cell (p := ⟨b, _, none⟩) hlb).trans S1.out, (hm.1.choose_spec.rz.bel.cell (p := ⟨b, _, none⟩) hlb).trans S2.out⟩ : _ ∧ _)))
            all_goals exact EndQ.mk hm.1
          rintro w6 ⟨v6, b6⟩
          have HB9 := (show Hid _ from b6)
          clear cR b6 y1 y2
          go_wp2_with fail
          go_roundw
          case rel => exact ⟨i + 1, _, _, by omega, by go_num, HLS.out, HB9.out.mono (by omega)⟩
          case measure => simp [Go.RowKit.intOf]; omega
        · have hXb : (X == 0) = false := by simpa using hX
          have hrs : rs5 = rs := by
            rcases HPR.out.out with ⟨_, _, h⟩ | ⟨_, _, _, _, h⟩ | ⟨_, _, _, ⟨_, _, h⟩ | ⟨h, _⟩⟩
            · exact h
            · exact h
            · exact h
            · exact absurd h hX
          have HB9 := (show Hid _ from HH.out.drew.step HT5.out (by rw [hrs]))
          clear hX hrs y1 y2
          go_wp2_with fail
          go_roundw
          case rel => exact ⟨i + 1, _, _, by omega, by go_num, HLS.out, HB9.out.mono (by omega)⟩
          case measure => simp [Go.RowKit.intOf]; omega
    · have hge : ¬ ((i : Int) < (L.length : Int)) := by omega
      have HLN : Hid (rs.length ≤ i) := hr.out.1
      have HRK := (show Hid _ from hr.out.2.rz.rok)
      have cFl := hr.out.2.flush (by omega)
      clear hr
      go_wp2_with fail
      refine cFl.mono ?_
      rintro e w5 ⟨rfl, f5⟩
      have cC := f5.crash (by omega)
      clear cFl f5
      go_wp2_with fail
      refine cC.mono ?_
      rintro e w6 ⟨rfl, f6⟩
      have cPo := f6.pool 2 (by decide) (by decide)
      clear cC f6
      go_wp2_with fail
      refine cPo.mono ?_
      rintro e w7 ⟨p2, rfl, f7⟩
      have cHe := new_heap p2 w7
      have f8 := f7.heap
      clear cPo f7
      go_wp2_with fail
      refine cHe.mono ?_
      rintro e w8 ⟨rfl, hw⟩
      rw [hw]
      clear hw cHe
      generalize w7.heap.size = h2 at *
      generalize w7.alloc (hobj p2) = w8 at *
      have cRo := f8.rows (by omega) (by decide) (by decide) (by have := HLN.out; omega)
      clear f8
      go_wp2_with fail
      refine cRo.mono ?_
      rintro e w9 ⟨r2, rfl, b9⟩
      have H9 := (show Hid _ from b9)
      have cI := b9.rz.ids9 (by have := HLN.out; omega)
      obtain ⟨IDS, hIDS⟩ : ∃ IDS, idsR rs = IDS := ⟨_, rfl⟩
      have HIB : Hid (∀ x ∈ IDS, i64B x) := fun x hx => by
        rw [← hIDS] at hx
        obtain ⟨y, hy, e⟩ := ids_mem.1 hx
        have := (HRK.out y hy).id
        exact ⟨by omega, by omega⟩
      have HIL : Hid (IDS.length ≤ 60) := by
        have h1 : IDS.length = rs.length := by rw [← hIDS]; unfold idsR; simp
        have h2 := HLN.out
        show _ ≤ _
        omega
      have HLQ : Hid ((lR rs).length ≤ 5000) := by have := HLN.out; show _ ≤ _; rw [lR_len]; omega
      have HID : Hid ((lR rs).map Prod.fst = IDS) := (lR_fst rs).trans hIDS
      rw [hIDS] at cI
      clear cRo b9 hIDS
      go_wp2_with fail
      refine cI.mono ?_
      rintro e w10 ⟨ia, ic, rfl, row10, b10⟩
      have R10 := (show Hid _ from row10)
      have H10 := (show Hid _ from H9.out.below b10)
      have dI := rdids_any H10.out.rd HLQ.out
      rw [HID.out] at dI
      clear cI row10 b10 H9
      go_wp2_with fail
      refine dI.mono ?_
      rintro e w11 ⟨ja, jc, rfl, row11, b11⟩
      have H11 := (show Hid _ from H10.out.below b11)
      have cL := longs_any (R10.out.below' b11) row11
      clear dI row11 b11 R10 H10
      go_wp2_with fail
      refine cL.mono ?_
      rintro e w12 ⟨rfl, b12⟩
      have H12 := (show Hid _ from H11.out.below b12)
      have dI := rdids_any H12.out.rd HLQ.out
      rw [HID.out] at dI
      clear cL b12 H11
      go_wp2_with fail
      refine dI.mono ?_
      rintro e w13 ⟨ka, kc, rfl, row13, b13⟩
      have R13 := (show Hid _ from row13)
      have H13 := (show Hid _ from H12.out.row b13 row13)
      clear dI row13 b13 H12
      go_wp2_with fail
      go_loopw [18] (fun sk wr => ∃ k : Nat, k ≤ IDS.length ∧ sk = .int .i64 (k : Int) ∧ Hid (LRow wr w12.heap.size (.slice ka IDS.length kc) IDS ∧ Bo W wr r2 h2 p2 g (1000000 + 642 * k) 200 2 rs q v (fun j => (Value.slice ka IDS.length kc).ownBlock = some j))) (fun sk _ => IDS.length - (Go.RowKit.intOf sk).toNat)
      case atStart => exact ⟨0, Nat.zero_le _, rfl, R13.out, H13.out.mono (by omega)⟩
      case round =>
        clear H13 R13
        obtain ⟨k, hk, rfl, hr⟩ := hrel
        have hk60 : k ≤ 60 := by have := HIL.out; omega
        by_cases hlt : k < IDS.length
        · have hlt2 : (k : Int) < (IDS.length : Int) := by omega
          have hx : IDS[k]? = some IDS[k] := by simp [hlt]
          generalize IDS[k] = y at hx
          obtain ⟨b, vc', e, _, _, _, s0⟩ := hr.out.1.cell lgC_len hx
          injection e with e1 e2 e3
          subst e1
          subst e3
          have r0 := s0 0 _ rfl
          rw [Nat.mul_one, Nat.add_zero] at r0
          have hyB := HIB.out y (List.mem_of_getElem? hx)
          have cSame := same9_any hr.out.2 (by have := HIL.out; omega) (by decide) (by decide) (by have := HLQ.out; rw [lR_len] at this; have := HLN.out; omega) hyB
          clear s0 hx
          go_wp2_with fail
          refine cSame.mono ?_
          rintro e w14 ⟨rfl, b14, k14⟩
          have HB := (show Hid _ from And.intro (hr.out.1.kept k14) b14)
          clear cSame b14 k14 hr r0
          go_wp2_with fail
          go_roundw
          case rel => exact ⟨k + 1, by omega, by go_num, HB.out.1, HB.out.2.mono (by omega)⟩
          case measure => simp [Go.RowKit.intOf]; omega
        · have hge : ¬ ((k : Int) < (IDS.length : Int)) := by omega
          have cW := wakes9_any wr
          have HB := (show Hid _ from hr.out.2.rz.bel)
          clear hr
          go_wp2_with fail
          refine cW.mono ?_
          rintro e w3 ⟨rfl, b3⟩
          clear cW
          go_wp2_with fail
          go_ret
          exact ⟨rfl, below2 HB.out b3⟩
set_option maxRecDepth 100000 in
theorem rowsAgain_any {H : Type} {enc : TypeId × Value → H} {base : Nat} {d : DataW H} {ps : List MemPlace} (v : Value) (W : World) (hv : Value.okWide Tryz.prog W .any base 22 v) (h : DataW.Trod enc Tryz.prog W 0 (fun _ => true) true 22 v d ps) :
    Calls Tryz.prog 4 #[v] W fun e w' => e = .returned (.bool true) ∧ Below W.heap.size W w' := by
  obtain ⟨a, L, cap, rfl, hL, h1, h2, h3⟩ := open_steps9 hv h
  exact rowsAgain_on a L cap W hL (Nat.le_trans h1 h2) h3
end Go.Proofs.YtkjioabhdglkpaaGreat
