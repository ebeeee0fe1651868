/- Flush. -/
import Derived.Test.YtkjioabhdglkpaaGreatQSect
namespace Go.Proofs.YtkjioabhdglkpaaGreat
open Go.RowKit

/-- A dirty page is written. -/
def wr1 (S : St) (i : Nat) (f : Fm) : St := { S with l := S.l.set i (wrF S.D f), wr := S.wr + wrN S.D f, D := wrD S.D f }

def wrAll : List Int → St → Int × St
  | [], S => (0, S)
  | a :: r, S =>
    match idx S.l a with
    | none => (0, S)
    | some i => match S.l[i]? with
      | none => (0, S)
      | some f => if wrE S.D f = 0 then wrAll r (wr1 S i f) else (wrE S.D f, wr1 S i f)

def flE (D : DS) : Int := if D.left = 0 then 41 else 0
def flD (D : DS) : DS := if D.left = 0 then D else D.flushed

def flushS (S : St) : Int × St :=
  if (wrAll (dirtyS S) S).1 = 0 then (flE (wrAll (dirtyS S) S).2.D, { (wrAll (dirtyS S) S).2 with D := flD (wrAll (dirtyS S) S).2.D })
  else wrAll (dirtyS S) S

theorem wrF_pg (D : DS) (f : Fm) : (wrF D f).pg = f.pg ∧ (wrF D f).s = f.s ∧ (wrF D f).pins = f.pins := by
  unfold wrF
  split <;> exact ⟨rfl, rfl, rfl⟩

theorem pgs_set {l : List Fm} {i : Nat} {f g : Fm} (hi : l[i]? = some f) (hg : g.pg = f.pg) : (l.set i g).map (·.pg) = l.map (·.pg) := by
  rw [List.map_set]
  refine set_self ?_
  rw [List.getElem?_map, hi, hg]
  rfl

theorem OkS.wr1 {b : Nat} {S : St} (h : OkS b S) {i : Nat} {f : Fm} (hi : S.l[i]? = some f) : OkS (b + 1) (wr1 S i f) := by
  obtain ⟨p1, p2, p3⟩ := h.pg f (List.mem_of_getElem? hi)
  have hI := wr_inv (f := f) h.inv p1 p2
  have hN : wrN S.D f ≤ 1 := by unfold wrN; split <;> omega
  obtain ⟨q1, q2, q3⟩ := wrF_pg S.D f
  refine ⟨hI, fun g hg => ?_, ?_, h.n, ?_, Nat.le_succ_of_le h.rd, ?_⟩
  · show g.pg < (wrD S.D f).n ∧ _
    rw [wrD_n]
    rcases List.mem_or_eq_of_mem_set (show g ∈ S.l.set i (wrF S.D f) from hg) with q | q
    · obtain ⟨r1, r2, r3⟩ := h.pg g q
      exact ⟨r1, r2, by omega⟩
    · rw [q, q1, q2, q3]
      exact ⟨p1, p2, by omega⟩
  · show ((S.l.set i (wrF S.D f)).map (·.pg)).Nodup
    rw [pgs_set hi q1]
    exact h.uniq
  · show (S.l.set i (wrF S.D f)).length ≤ S.n
    rw [List.length_set]
    exact h.len
  · show S.wr + wrN S.D f ≤ b + 1
    have := h.wr
    omega

theorem sortI_mem {l : List Int} {a : Int} (h : a ∈ sortI l) : a ∈ l := (List.mergeSort_perm l _).mem_iff.1 h
theorem sortI_len (l : List Int) : (sortI l).length = l.length := List.length_mergeSort _

theorem pgs_mem {q : Fm → Bool} {l : List Fm} {a : Int} (h : a ∈ pgs q l) : ∃ f ∈ l, (f.pg : Int) = a := by
  unfold pgs at h
  obtain ⟨f, hf, e⟩ := List.mem_map.1 h
  exact ⟨f, (List.mem_filter.1 hf).1, e⟩

theorem idx_of_mem {l m : List Fm} {a : Int} (h : ∃ f ∈ l, (f.pg : Int) = a) (e : m.map (·.pg) = l.map (·.pg)) : ∃ i f, idx m a = some i ∧ m[i]? = some f ∧ (f.pg : Int) = a := by
  cases hx : idx m a with
  | none =>
    obtain ⟨f, hf, e1⟩ := h
    have : f.pg ∈ m.map (·.pg) := by rw [e]; exact List.mem_map.2 ⟨f, hf, rfl⟩
    obtain ⟨g, hg, e2⟩ := List.mem_map.1 this
    obtain ⟨j, hj⟩ := List.getElem?_of_mem hg
    exact absurd (show (g.pg : Int) = a by rw [← e1]; exact congrArg Int.ofNat e2) (idx_none hx j g hj)
  | some i =>
    obtain ⟨f, hf, e1, _⟩ := idx_some hx
    exact ⟨i, f, rfl, hf, e1⟩

section
variable {B bd : Nat} {w : World} {x : PX}

theorem dev_flush (b : Nat) (D : DS) (hI : Inv b D) (hb : b ≤ 10000000) : Inv (b + 1) (flD D) ∧ ∀ B w g gs hv, Dev B w g gs hv D → Calls Tryz.prog 49 #[.pointer (some ⟨g, 0, none⟩)] w fun e w' => e = .returned (.int .i64 (flE D)) ∧ DTo B w g gs hv (flD D) w' := by
  obtain ⟨E, D', i1, hc, c⟩ := flush_one b D hI hb
  have : E = flE D ∧ D' = flD D := by
    unfold flE flD
    rcases hc with ⟨a, rfl, rfl⟩ | ⟨a, rfl, rfl⟩
    · rw [if_pos a, if_pos a]; exact ⟨rfl, rfl⟩
    · rw [if_neg a, if_neg a]; exact ⟨rfl, rfl⟩
  rw [← this.1, ← this.2]
  exact ⟨i1, c⟩

/-- Where a loop of writes stands. -/
structure Fl (B bd : Nat) (w1 : World) (x : PX) (T : List Int) (k : Nat) (wr : World) (y : PX) : Prop where
  step : PTo B w1 x y wr
  good : Good (bd + k) y
  pages : y.st.l.map (·.pg) = x.st.l.map (·.pg)
  rest : wrAll T x.st = wrAll (T.drop k) y.st

set_option maxHeartbeats 3200000 in
set_option maxRecDepth 100000 in
theorem flush_any (h : Pd B w x) (k : Good bd x) (hbd : bd ≤ 8000000) (hB : B ≤ w.heap.size) :
    Calls Tryz.prog 21 #[.pointer (some ⟨x.p, 0, none⟩)] w fun e w' => e = .returned (.int .i64 (flushS x.st).1) ∧ ∃ x', PTo B w x x' w' ∧ x'.st = (flushS x.st).2 ∧ Good (bd + 66) x' := by
  have c := dirty_all h k
  have HP : Hid (Pd B w x) := h
  have HG : Hid (Good bd x) := k
  have hl := k.len
  have hTl : (dirtyS x.st).length ≤ 64 := by
    have h1 : (dirtyS x.st).length = (pgs (fun f => f.dirty) x.st.l).length := sortI_len _
    have h2 := pgs_len (fun f => f.dirty) x.st.l
    have h3 : x.st.l.length = x.L.length := frs_len _
    omega
  have HM : Hid (∀ a ∈ dirtyS x.st, ∃ f ∈ x.st.l, (f.pg : Int) = a) := fun a ha => pgs_mem (sortI_mem ha)
  have HS : Hid (flushS x.st = if (wrAll (dirtyS x.st) x.st).1 = 0 then (flE (wrAll (dirtyS x.st) x.st).2.D, { (wrAll (dirtyS x.st) x.st).2 with D := flD (wrAll (dirtyS x.st) x.st).2.D }) else wrAll (dirtyS x.st) x.st) := rfl
  obtain ⟨RE, HRE⟩ : ∃ RE, Hid (flushS x.st = RE) := ⟨_, rfl⟩
  rw [HRE.out]
  clear h k
  go_enter Tryz.func21, Tryz.ntmps21
  go_wp2_with fail
  refine c.mono ?_
  rintro e w1 ⟨v, rfl, hrow, hb1⟩
  clear c
  generalize hT : dirtyS x.st = T at *
  have HT : Hid (dirtyS x.st = T) := hT
  clear hT
  obtain ⟨va, vc, rfl, hvc, _⟩ := hrow.len
  have HROW : Hid (IRow w1 w.heap.size (.slice va T.length vc) T) := hrow
  have hnf : Hid (∀ k, (Value.slice va T.length vc).ownBlock = some k → ¬ x.ft k) := fun k e f => by
    have h1 := (hrow.blk e).1
    have h2 := HP.out.lt f
    omega
  clear hrow
  go_wp2_with fail
  go_loopw [11] (fun si wr => ∃ (k : Nat) (y : PX), k ≤ T.length ∧ si = .int .i64 (k : Int) ∧ Fl B bd w1 x T k wr y) (fun si _ => T.length - (intOf si).toNat)
  case atStart => exact ⟨0, x, Nat.zero_le _, rfl, ⟨PTo.refl (HP.out.below hb1), HG.out, rfl, rfl⟩⟩
  case round =>
    obtain ⟨k, y, hk, rfl, hfl⟩ := hrel
    have HFL : Hid (Fl B bd w1 x T k wr y) := hfl
    have hp := hfl.step.p
    have HPP : Hid (y.p = x.p) := hp
    by_cases hlt : k < T.length
    · have hlt2 : (k : Int) < (T.length : Int) := by omega
      have hx : T[k]? = some T[k] := by simp [hlt]
      have hmem : T[k] ∈ T := List.getElem_mem hlt
      have hdrop : T.drop k = T[k] :: T.drop (k + 1) := List.drop_eq_getElem_cons hlt
      generalize T[k] = a at hx hmem hdrop
      obtain ⟨b0, c0, e0, _, _, hbl, hcell⟩ := HROW.out.cell hx
      cases e0
      have hcw : wr.cell? ⟨b0, k, none⟩ = some (.int .i64 a) := by
        have : wr.heap[b0]? = w1.heap[b0]? := hfl.step.fr.block b0 hbl (hnf.out b0 rfl)
        rw [← hcell]
        simp only [World.cell?, this]
      obtain ⟨i, f, hi1, hi2, hfa⟩ := idx_of_mem (HM.out a hmem) hfl.pages
      obtain ⟨b, hib⟩ := frs_get hi2
      obtain ⟨f9, hf9, _, hbef⟩ := idx_some hi1
      obtain ⟨p1, p2, p3⟩ := hfl.good.L hib
      have hyl := hfl.good.len
      have cF := find_any hfl.step.pd hfl.good.fv (by omega) a (.pointer (some ⟨b, 0, none⟩)) (show Hid _ from Or.inr ⟨i, b, f, hib, hfa, rfl, fun j b' f' hj hL => hbef j f' hj (frs_of hL)⟩)
      have hwr : y.wr ≤ 100000000 := by have := hfl.good.ok.wr; have e : y.st.wr = y.wr := rfl; omega
      have cW := write_any hfl.step.pd hib hfl.good.O (bd + k) hfl.good.ok.inv (by omega) p1 p2 hwr (Nat.le_trans (Nat.le_trans hB hb1.size) hfl.step.fr.size)
      rw [hp] at cF cW
      have hrest := hfl.rest
      rw [hdrop] at hrest
      have hok := hfl.good.ok.wr1 hi2
      have hpg : (wr1 y.st i f).l.map (·.pg) = x.st.l.map (·.pg) := (pgs_set hi2 (wrF_pg _ _).1).trans hfl.pages
      have es : ∀ dv', PX.st { y with dv := dv', D := wrD y.D f, wr := y.wr + wrN y.D f, L := y.L.set i (b, wrF y.D f) } = wr1 y.st i f := fun dv' => by
        simp only [PX.st, wr1, frs, List.map_set]
      have hgood : ∀ dv', Good (bd + k + 1) { y with dv := dv', D := wrD y.D f, wr := y.wr + wrN y.D f, L := y.L.set i (b, wrF y.D f) } := fun dv' => ⟨hfl.good.fv, hfl.good.O, by rw [es]; exact hok⟩
      have HGD : Hid (∀ dv', Good (bd + k + 1) { y with dv := dv', D := wrD y.D f, wr := y.wr + wrN y.D f, L := y.L.set i (b, wrF y.D f) }) := hgood
      have hP2 : Hid ((wr1 y.st i f).l.map (·.pg) = x.st.l.map (·.pg)) := hpg
      have hES : Hid (∀ dv', PX.st { y with dv := dv', D := wrD y.D f, wr := y.wr + wrN y.D f, L := y.L.set i (b, wrF y.D f) } = wr1 y.st i f) := es
      by_cases he : wrE y.D f = 0
      · have HR : Hid (wrAll T x.st = wrAll (T.drop (k + 1)) (wr1 y.st i f)) := by
          show _ = _
          rw [hrest]
          unfold wrAll
          rw [hi1]
          simp only
          rw [hi2]
          simp only
          rw [if_pos (show wrE y.st.D f = 0 from he)]
          cases T.drop (k + 1) <;> rfl
        rw [he] at cW
        clear hfl hx hmem hdrop hi1 hi2 hfa hib hf9 hbef hrest hok hpg es hgood he hcell
        go_wp2_with fail
        refine cF.mono ?_
        rintro e w2 ⟨rfl, hw2⟩
        subst hw2
        clear cF
        go_wp2_with fail
        refine cW.mono ?_
        rintro e w3 ⟨rfl, dv3, t3⟩
        rw [← HPP.out] at t3
        have T3 : Hid (PTo B _ y _ w3) := t3
        clear t3 cW
        go_wp2_with fail
        go_roundw
        case rel => exact ⟨k + 1, _, by omega, by go_num, ⟨HFL.out.step.trans T3.out, HGD.out dv3, by rw [hES.out]; exact hP2.out, by rw [hES.out]; exact HR.out⟩⟩
        case measure => simp [intOf]; omega
      · have HR : Hid (wrAll T x.st = (wrE y.D f, wr1 y.st i f)) := by
          show _ = _
          rw [hrest]
          unfold wrAll
          rw [hi1]
          simp only
          rw [hi2]
          simp only
          rw [if_neg (show ¬ wrE y.st.D f = 0 from he)]
          rfl
        have HE0 : Hid (wrE y.D f ≠ 0) := he
        have he2 : (wrE y.D f == 0) = false := by simpa using he
        obtain ⟨E, HE⟩ : ∃ E, Hid (wrE y.D f = E) := ⟨_, rfl⟩
        rw [HE.out] at he2 cW
        clear hfl hx hmem hdrop hi1 hi2 hfa hib hf9 hbef hrest hok hpg es hgood he hcell
        go_wp2_with fail
        refine cF.mono ?_
        rintro e w2 ⟨rfl, hw2⟩
        subst hw2
        clear cF
        go_wp2_with fail
        refine cW.mono ?_
        rintro e w3 ⟨rfl, dv3, t3⟩
        rw [← HPP.out] at t3
        have T3 : Hid (PTo B _ y _ w3) := t3
        clear t3 cW
        go_wp2_with fail
        go_ret
        have hRE : RE = (wrE y.D f, wr1 y.st i f) := by
          rw [← HRE.out, HS.out, HR.out, if_neg HE0.out]
        rw [hRE]
        exact ⟨by rw [HE.out]; rfl, _, (PTo.of_below HP.out hb1).trans (HFL.out.step.trans T3.out), hES.out dv3, (HGD.out dv3).mono (by omega)⟩
    · obtain rfl : k = T.length := by omega
      obtain ⟨hI2, cF0⟩ := dev_flush (bd + T.length) y.D hfl.good.ok.inv (by omega)
      have cF := cF0 B wr y.g y.gs y.dv hfl.step.pd.dev
      obtain ⟨d0, _, _, _, _⟩ := hfl.step.pd.cell
      rw [hp] at d0
      have HI2 : Hid (Inv (bd + T.length + 1) (flD y.D)) := hI2
      have HR : Hid (wrAll T x.st = (0, y.st)) := by
        show _ = _
        rw [hfl.rest, List.drop_length]
        rfl
      clear hfl hI2 cF0
      go_wp2_with fail
      refine cF.mono ?_
      rintro e w3 ⟨rfl, d3⟩
      obtain ⟨dv3, t3⟩ := HFL.out.step.pd.devTo d3
      have T3 : Hid (PTo B wr y _ w3) := t3
      clear t3 cF d3
      go_wp2_with fail
      go_ret
      have hRE : RE = (flE y.D, { y.st with D := flD y.D }) := by
        rw [← HRE.out, HS.out, HR.out, if_pos rfl]
        rfl
      rw [hRE]
      refine ⟨rfl, _, (PTo.of_below HP.out hb1).trans (HFL.out.step.trans T3.out), rfl, ⟨HFL.out.good.fv, HFL.out.good.O, ?_⟩⟩
      have o := HFL.out.good.ok
      have hn : (flD y.D).n = y.D.n := by unfold flD; split <;> rfl
      exact ⟨HI2.out.mono (by omega), fun f hf => by
        obtain ⟨r1, r2, r3⟩ := o.pg f hf
        exact ⟨by show f.pg < (flD y.D).n; rw [hn]; exact r1, r2, Nat.le_trans r3 (by omega)⟩, o.uniq, o.n, o.len, Nat.le_trans o.rd (by omega), Nat.le_trans o.wr (by omega)⟩
end
end Go.Proofs.YtkjioabhdglkpaaGreat
