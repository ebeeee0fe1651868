/- The document's pool: Pin at a page that is not held. -/
import Derived.Test.YtghocbaafdnddaaGreatRPin
namespace Go.Proofs.YtghocbaafdnddaaGreat
open Go.RowKit

theorem uAt_head (l : List Fm) : ∀ (k b : Nat) (f : Fm), l[k]? = some f → f.pins = 0 → (∀ (m : Nat) (g : Fm), m < k → l[m]? = some g → g.pins ≠ 0) → ∃ r, uAt l b = (b + k) :: r := by
  induction l with
  | nil => intro k b f h; simp at h
  | cons g l ih =>
    intro k b f h hp hb
    cases k with
    | zero =>
      simp at h
      subst h
      refine ⟨uAt l (b + 1), ?_⟩
      conv => lhs; unfold uAt
      rw [if_pos hp]
      rfl
    | succ k =>
      simp at h
      have hg := hb 0 g (Nat.succ_pos _) (by simp)
      obtain ⟨r, hr⟩ := ih k (b + 1) f h hp (fun m g' hm hg' => hb (m + 1) g' (by omega) (by simpa using hg'))
      refine ⟨r, ?_⟩
      conv => lhs; unfold uAt
      rw [if_neg hg, hr]
      congr 1
      omega
theorem uAt_none (l : List Fm) : ∀ (b : Nat), (∀ (m : Nat) (g : Fm), l[m]? = some g → g.pins ≠ 0) → uAt l b = [] := by
  induction l with
  | nil => intro b _; rfl
  | cons g l ih =>
    intro b hb
    conv => lhs; unfold uAt
    rw [if_neg (hb 0 g (by simp))]
    exact ih (b + 1) (fun m g' h => hb (m + 1) g' (by simpa using h))

theorem takeS_room {S : St} (h : S.l.length ≠ S.n) : takeS S = (0, S) := by unfold takeS; rw [if_neg h]
theorem takeS_pinned {S : St} (h : S.l.length = S.n) (hu : uAt S.l 0 = []) : takeS S = (70, S) := by unfold takeS; rw [if_pos h, hu]
theorem takeS_give {S : St} (h : S.l.length = S.n) {k : Nat} {r : List Nat} {f : Fm} (hu : uAt S.l 0 = k :: r) (hf : S.l[k]? = some f) : takeS S = giveS S k f := by unfold takeS; rw [if_pos h, hu]; simp only; rw [hf]
theorem pinS_not {S : St} {j : Nat} (hj : j < S.D.n) (hx : idx S.l (j : Int) = none) : pinS S (j : Int) = if (takeS S).1 = 0 then readS (takeS S).2 j else ((⟨#[]⟩, (takeS S).1), (takeS S).2) := by
  unfold pinS
  rw [if_pos (by omega), hx]
  rfl

section
variable {B bd : Nat} {w : World} {y : RX}

/-- A page that was read is laid behind the others. -/
theorem rpush_facts {w6 w8 w9 : World} {y6 : RX} {q rd1 j : Nat} {s : ByteArray} {v8 v9 : Value} (h : Rp B w6 y6) (hq : y6.q = q) (hB : B ≤ w6.heap.size)
    (row8 : FRow w8 w6.heap.size v8 y6.l) (fr8 : Fr (fun k => (Value.slice (some ⟨w6.heap.size, 0, none⟩) 0 0).ownBlock = some k) ((w6.setCell ⟨q, 3, none⟩ (.int .i64 (rd1 : Int))).alloc (.cells #[] 93)) w8)
    (row9 : FRow w9 w6.heap.size v9 (y6.l ++ [⟨j, s, 1, false⟩])) (fr9 : Fr (fun k => v8.ownBlock = some k) (w8.alloc (.cells #[.int .i64 (j : Int), .int .i64 1, .string s, .bool false] 93)) w9) :
    ∃ a n1 c, v9 = .slice a n1 c ∧ w9.cell? ⟨q, 2, none⟩ = some y6.lv ∧ w9.frozen? ⟨q, 2, none⟩ = false ∧ Hid (RpTo B w6 y6 { y6 with lv := v9, l := y6.l ++ [⟨j, s, 1, false⟩], rd := rd1 } (w9.setCell ⟨q, 2, none⟩ v9)) := by
  subst hq
  have t := h.setRd rd1
  have hs : (w6.setCell ⟨y6.q, 3, none⟩ (.int .i64 (rd1 : Int))).heap.size = w6.heap.size := by simp
  have b1 : Below w6.heap.size (w6.setCell ⟨y6.q, 3, none⟩ (.int .i64 (rd1 : Int))) ((w6.setCell ⟨y6.q, 3, none⟩ (.int .i64 (rd1 : Int))).alloc (.cells #[] 93)) := (below_alloc1 _ _).mono (Nat.le_of_eq hs.symm)
  have b8 := fr8.below b1 (by simp) (fun k e => by simp [Value.ownBlock] at e; omega)
  have b9 := fr9.below (b8.trans ((below_alloc1 w8 (.cells #[.int .i64 (j : Int), .int .i64 1, .string s, .bool false] 93)).mono (by rw [← hs]; exact b8.size))) (by have := b8.size; rw [hs] at this; simp; omega) (fun k e => (row8.blk e).1)
  obtain ⟨a, c, e, _, _⟩ := row9.len
  obtain ⟨cz, fz, tz⟩ := t.pd.laid (by rw [hs]; exact b9) row9 (Nat.le_of_eq hs) (by rw [hs]; exact hB)
  exact ⟨a, _, c, e, cz, fz, t.trans tz⟩
set_option maxHeartbeats 3200000 in
set_option maxRecDepth 100000 in
theorem rpin_room {S : St} (h : Rp B w y) (k : Rs S y) (ho : OkS bd S) (hbd : bd ≤ 90000) (hB : B ≤ w.heap.size) (j : Nat) (hj : j < S.D.n) (hx : idx S.l (j : Int) = none) (hr : S.l.length ≠ S.n) :
    Calls Tryz.prog 10 #[.pointer (some ⟨y.q, 0, none⟩), .int .i64 (j : Int)] w fun e w' => e = .returned (.tuple #[.string (pinS S (j : Int)).1.1, .int .i64 (pinS S (j : Int)).1.2]) ∧ ∃ y', RpTo B w y y' w' ∧ Rs (pinS S (j : Int)).2 y' := by
  obtain ⟨c0, c1, c2, _, _⟩ := h.cell
  obtain ⟨sa, sc, ev, hsc, _⟩ := h.lvOf
  rw [ev] at c2
  have hl64 : y.l.length ≤ 64 := by rw [k.l]; have := ho.len; have := ho.n; omega
  have hjq : j < y.Q.n := by rw [← k.rel.n]; exact hj
  have cS := rsectors_any h.dev
  have cF := rfind_any h (by omega) (j : Int) (-1) (by show idxI y.l _ = _; unfold idxI; rw [k.l, hx])
  have d1 : decide ((y.Q.n : Int) ≤ (j : Int)) = false := by simp; omega
  have hrd0 : y.rd ≤ 90000 := by have := ho.rd; rw [k.rd]; omega
  have hpn := pinS_not hj hx
  rw [takeS_room hr, if_pos rfl] at hpn
  have dne : ((y.l.length : Int) == (y.n : Int)) = false := by rw [beq_eq_false_iff_ne, k.l, k.n]; omega
  have H : Hid (Rp B w y) := h
  have HS6 : Hid (Rs S y) := k
  have HPS : Hid (pinS S (j : Int) = readS S j) := hpn
  have HB0 : Hid (B ≤ w.heap.size) := hB
  clear h k ho hbd hB hj hx hr ev
  go_enter Tryz.func10, Tryz.ntmps10
  go_wp2_with fail
  refine cS.mono ?_
  rintro e w1 ⟨rfl, e1⟩
  rw [e1]
  clear e1 cS
  go_wp2_with fail
  refine cF.mono ?_
  rintro e w2 ⟨rfl, e2⟩
  rw [e2]
  clear e2 cF
  go_wp2_with fail
  go_quiet (fail)
  have HT : Hid (RpTo B w y y (w.drewN nq)) := RpTo.of_below H.out (belowDrN w nq)
  generalize w.drewN nq = w6 at *
  have HR : Hid (Rp B w6 y) := HT.out.pd
  have HBw : Hid (B ≤ w6.heap.size) := Nat.le_trans HB0.out HT.out.fr.size
  clear c0 c1 c2
  obtain ⟨y6, hy6⟩ : ∃ y6, y6 = y := ⟨_, rfl⟩
  obtain ⟨S6, hS6⟩ : ∃ S6, S6 = S := ⟨_, rfl⟩
  have hq : y6.q = y.q := by rw [hy6]
  have hg : y6.g = y.g := by rw [hy6]
  have hl6 : y6.l.length ≤ 64 := by rw [hy6]; exact hl64
  have hj6 : j < y6.Q.n := by rw [hy6]; exact hjq
  have hrd6 : y6.rd ≤ 90000 := by rw [hy6]; exact hrd0
  have HR : Hid (Rp B w6 y6) := by rw [hy6]; exact HR
  have HS6 : Hid (Rs S6 y6) := by rw [hy6, hS6]; exact HS6
  have HPS : Hid (pinS S (j : Int) = readS S6 j) := by rw [hS6]; exact HPS
  have HT : Hid (RpTo B w y y6 w6) := by rw [hy6]; exact HT
  clear hy6 hS6 hl64 hrd0
  obtain ⟨c0, _, c2, c3, _⟩ := HR.out.cell
  rw [hq] at c2 c3
  rw [hq, hg] at c0
  have hdn := HS6.out.rel.down
  by_cases hL : S6.D.left = 0
  · have hRS : readS S6 j = ((⟨#[]⟩, 41), S6) := by unfold readS; rw [if_pos hL]
    have HPR : Hid (pinS S (j : Int) = ((⟨#[]⟩, 41), S6)) := HPS.out.trans hRS
    rw [show (S6.D.left == 0) = true by simpa using hL] at hdn
    have cR := rread_down HR.out.dev j hj6 hdn.symm
    rw [hg] at cR
    clear hL hRS hdn
    go_wp2_with fail
    refine cR.mono ?_
    rintro e w7 ⟨rfl, e7⟩
    rw [e7]
    clear e7 cR
    go_wp2_with fail
    go_ret2
    refine ⟨by rw [HPR.out]; rfl, _, HT.out, ?_⟩
    rw [HPR.out]
    exact HS6.out
  · obtain ⟨s, hs⟩ : ∃ s, y6.Q.seen j = s := ⟨_, rfl⟩
    have hRS : readS S6 j = ((s, 0), { S6 with rd := S6.rd + 1, l := S6.l ++ [⟨j, s, 1, false⟩] }) := by unfold readS; rw [if_neg hL, HS6.out.rel.seen, hs]
    have HPR : Hid (pinS S (j : Int) = ((s, 0), { S6 with rd := S6.rd + 1, l := S6.l ++ [⟨j, s, 1, false⟩] })) := HPS.out.trans hRS
    rw [show (S6.D.left == 0) = false by simpa using hL] at hdn
    have cR := rread_ok HR.out.dev j hj6 hdn.symm s hs
    rw [hg] at cR
    obtain ⟨rd1, hrd⟩ : ∃ rd1, y6.rd + 1 = rd1 := ⟨_, rfl⟩
    have HRD : Hid (S6.rd + 1 = rd1) := by show _ = _; rw [← hrd, HS6.out.rd]
    have hrd2 : (y6.rd : Int) + 1 = (rd1 : Int) := by omega
    have hrd3 : (rd1 : Int) ≤ 100001 := by omega
    have z3 := HR.out.free? 3
    rw [hq] at z3
    have t7 := HR.out.setRd rd1
    rw [hq] at t7
    have hsz : (w6.setCell ⟨y.q, 3, none⟩ (.int .i64 (rd1 : Int))).heap.size = w6.heap.size := by simp
    have rowE := frow_made (w6.setCell ⟨y.q, 3, none⟩ (.int .i64 (rd1 : Int))) (N := w6.heap.size) (Nat.le_of_eq hsz.symm)
    rw [hsz] at rowE
    have d7 := t7.pd.below (below_alloc1 _ (.cells #[] 93))
    have rowL := d7.frow
    have c27 := d7.cell.2.2.1
    simp only at rowL c27
    (try rw [hq] at c27)
    have hN1 : w6.heap.size ≤ ((w6.setCell ⟨y.q, 3, none⟩ (.int .i64 (rd1 : Int))).alloc (.cells #[] 93)).heap.size := by simp
    clear hL hRS hdn hs hrd t7 d7 hsz
    go_wp2_with fail
    refine cR.mono ?_
    rintro e w7 ⟨rfl, e7⟩
    rw [e7]
    clear e7 cR
    go_wp2_with (first
      | (at_builtin; refine wpList_copy_fr rfl (.tmp 105) (.tmp 109) rfl _ w6.heap.size _ rfl rowE hN1 B _ _ rfl rowL (Nat.le_trans hl6 (by decide)) ?_; intro v8 w8 row8 fr8)
      | (have _ := row8; at_builtin; refine wpList_append_fr _ rfl (.tmp 110) (.tmp 114) rfl w6.heap.size v8 y6.l [⟨j, s, 1, false⟩] rfl (row8.below (below_alloc1 _ (.cells #[.int .i64 (j : Int), .int .i64 1, .string s, .bool false] 93))) ⟨w8.heap.size, 0, none⟩ 1 1 rfl rfl ((HB.of w8 ⟨j, s, 1, false⟩ (.slice none 0 0) (fun k e => by simp [Value.ownBlock] at e)).src) (by omega) (by have := fr8.size; simp at this ⊢; omega) ?_; intro v9 w9 row9 fr9 new9; obtain ⟨a9, n9, c9, rfl, cz, fz, hfin⟩ := rpush_facts HR.out hq HBw.out row8 fr8 row9 fr9))
    go_ret2
    refine ⟨by rw [HPR.out]; rfl, _, HT.out.trans hfin.out, ?_⟩
    rw [HPR.out]
    have r6 := HS6.out
    exact ⟨r6.n, by show y6.l ++ _ = S6.l ++ _; rw [r6.l], HRD.out.symm, r6.wr, r6.rel⟩
set_option maxHeartbeats 3200000 in
set_option maxRecDepth 100000 in
theorem rpin_full {S : St} (h : Rp B w y) (k : Rs S y) (ho : OkS bd S) (hbd : bd ≤ 90000) (hB : B ≤ w.heap.size) (j : Nat) (hj : j < S.D.n) (hx : idx S.l (j : Int) = none) (hr : S.l.length = S.n) :
    Calls Tryz.prog 10 #[.pointer (some ⟨y.q, 0, none⟩), .int .i64 (j : Int)] w fun e w' => e = .returned (.tuple #[.string (pinS S (j : Int)).1.1, .int .i64 (pinS S (j : Int)).1.2]) ∧ ∃ y', RpTo B w y y' w' ∧ Rs (pinS S (j : Int)).2 y' := by
  obtain ⟨c0, c1, c2, _, _⟩ := h.cell
  obtain ⟨sa, sc, ev, hsc, _⟩ := h.lvOf
  rw [ev] at c2
  have hl64 : y.l.length ≤ 64 := by rw [k.l]; have := ho.len; have := ho.n; omega
  have hjq : j < y.Q.n := by rw [← k.rel.n]; exact hj
  have cS := rsectors_any h.dev
  have cF := rfind_any h (by omega) (j : Int) (-1) (by show idxI y.l _ = _; unfold idxI; rw [k.l, hx])
  have d1 : decide ((y.Q.n : Int) ≤ (j : Int)) = false := by simp; omega
  have hrd0 : y.rd ≤ 90000 := by have := ho.rd; rw [k.rd]; omega
  have hpn := pinS_not hj hx
  have dne : ((y.l.length : Int) == (y.n : Int)) = true := by rw [beq_iff_eq, k.l, k.n]; omega
  have H : Hid (Rp B w y) := h
  have HS : Hid (Rs S y) := k
  have HPN : Hid (pinS S (j : Int) = if (takeS S).1 = 0 then readS (takeS S).2 j else ((⟨#[]⟩, (takeS S).1), (takeS S).2)) := hpn
  have HB0 : Hid (B ≤ w.heap.size) := hB
  have HO : Hid (OkS bd S ∧ bd ≤ 90000 ∧ S.l.length = S.n ∧ j < S.D.n) := ⟨ho, hbd, hr, hj⟩
  clear h k ho hbd hB hj hx hr hpn
  go_enter Tryz.func10, Tryz.ntmps10
  go_wp2_with fail
  refine cS.mono ?_
  rintro e w1 ⟨rfl, e1⟩
  rw [e1]
  clear e1 cS
  go_wp2_with fail
  refine cF.mono ?_
  rintro e w2 ⟨rfl, e2⟩
  rw [e2]
  clear e2 cF
  go_wp2_with fail
  go_quiet (fail)
  have HT0 : Hid (RpTo B w y y (w.drewN nq)) := RpTo.of_below H.out (belowDrN w nq)
  clear c0 c1 c2
  generalize w.drewN nq = w5 at *
  have HR0 : Hid (Rp B w5 y) := HT0.out.pd
  obtain ⟨c0, c1, c2, _, _⟩ := HR0.out.cell
  rw [ev] at c2
  go_wp2_with fail
  go_loopw [8] (fun sk wr => ∃ k : Nat, k ≤ y.l.length ∧ sk = .int .i64 (k : Int) ∧ wr = w5 ∧ Hid (∀ (m : Nat) (g : Fm), m < k → y.l[m]? = some g → g.pins ≠ 0)) (fun sk _ => y.l.length - (intOf sk).toNat)
  case atStart => exact ⟨0, Nat.zero_le _, rfl, rfl, show ∀ (m : Nat) (g : Fm), _ from fun _ _ h => absurd h (Nat.not_lt_zero _)⟩
  case round =>
    obtain ⟨k, hk, rfl, rfl, HBf⟩ := hrel
    by_cases hlt : k < y.l.length
    · have hlt2 : (k : Int) < (y.l.length : Int) := by omega
      have hx : y.l[k]? = some y.l[k] := by simp [hlt]
      generalize y.l[k] = f at hx
      have HX : Hid (y.l[k]? = some f) := hx
      obtain ⟨ra, rc, e, _, _, _, _, _, _, k1, _⟩ := HR0.out.at hx
      rw [ev] at e
      cases e
      clear hx
      by_cases hp : f.pins = 0
      · have k1z : wr.cell? ⟨ra, k * 4 + 1, none⟩ = some (.int .i64 0) := by rw [k1, hp]; rfl
        have hne : ((k : Int) == (y.l.length : Int)) = false := by rw [beq_eq_false_iff_ne]; omega
        obtain ⟨r, hu⟩ := uAt_head S.l k 0 f (by rw [← HS.out.l]; exact HX.out) hp (by rw [← HS.out.l]; exact HBf.out)
        rw [Nat.zero_add] at hu
        have htk := takeS_give HO.out.2.2.1 hu (by rw [← HS.out.l]; exact HX.out)
        have hpn := HPN.out
        rw [htk] at hpn
        have cG := rgive_any HR0.out HS.out HO.out.1 HO.out.2.1 (Nat.le_trans HB0.out HT0.out.fr.size) k f (by rw [← HS.out.l]; exact HX.out)
        have hok := HO.out.1.give (i := k) (f := f) (by rw [← HS.out.l]; exact HX.out)
        have hDn := giveS_D S k f
        generalize giveS S k f = G at hpn cG hok hDn
        obtain ⟨E, S6⟩ := G
        simp only at hpn cG hok hDn
        have HOK : Hid (OkS (bd + 1) S6) := hok
        clear k1 hp hu htk hok
        by_cases hE : E = 0
        · subst hE
          rw [if_pos rfl] at hpn
          have HPS : Hid (pinS S (j : Int) = readS S6 j) := hpn
          clear hpn
          go_wp2_with fail
          refine cG.mono ?_
          rintro e w6 ⟨rfl, y6, t6, HS6⟩
          clear cG
          have hq : y6.q = y.q := t6.q
          have hg : y6.g = y.g := t6.g
          have HT : Hid (RpTo B w y y6 w6) := HT0.out.trans t6
          have HR : Hid (Rp B w6 y6) := t6.pd
          have HBw : Hid (B ≤ w6.heap.size) := Nat.le_trans HB0.out HT.out.fr.size
          have hl6 : y6.l.length ≤ 64 := by rw [HS6.l]; have := HOK.out.len; have := HOK.out.n; omega
          have hj6 : j < y6.Q.n := by rw [← HS6.rel.n, hDn]; exact HO.out.2.2.2
          have hrd6 : y6.rd ≤ 90001 := by have := HOK.out.rd; have := HO.out.2.1; rw [HS6.rd]; omega
          have HS6 : Hid (Rs S6 y6) := HS6
          clear t6 hDn hl64 c0 c1 c2
          obtain ⟨c0, _, c2, c3, _⟩ := HR.out.cell
          rw [hq] at c2 c3
          rw [hq, hg] at c0
          have hdn := HS6.out.rel.down
          by_cases hL : S6.D.left = 0
          · have hRS : readS S6 j = ((⟨#[]⟩, 41), S6) := by unfold readS; rw [if_pos hL]
            have HPR : Hid (pinS S (j : Int) = ((⟨#[]⟩, 41), S6)) := HPS.out.trans hRS
            rw [show (S6.D.left == 0) = true by simpa using hL] at hdn
            have cR := rread_down HR.out.dev j hj6 hdn.symm
            rw [hg] at cR
            clear hL hRS hdn
            go_wp2_with fail
            refine cR.mono ?_
            rintro e w7 ⟨rfl, e7⟩
            rw [e7]
            clear e7 cR
            go_wp2_with fail
            go_ret2
            refine ⟨by rw [HPR.out]; rfl, _, HT.out, ?_⟩
            rw [HPR.out]
            exact HS6.out
          · obtain ⟨s, hs⟩ : ∃ s, y6.Q.seen j = s := ⟨_, rfl⟩
            have hRS : readS S6 j = ((s, 0), { S6 with rd := S6.rd + 1, l := S6.l ++ [⟨j, s, 1, false⟩] }) := by unfold readS; rw [if_neg hL, HS6.out.rel.seen, hs]
            have HPR : Hid (pinS S (j : Int) = ((s, 0), { S6 with rd := S6.rd + 1, l := S6.l ++ [⟨j, s, 1, false⟩] })) := HPS.out.trans hRS
            rw [show (S6.D.left == 0) = false by simpa using hL] at hdn
            have cR := rread_ok HR.out.dev j hj6 hdn.symm s hs
            rw [hg] at cR
            obtain ⟨rd1, hrd⟩ : ∃ rd1, y6.rd + 1 = rd1 := ⟨_, rfl⟩
            have HRD : Hid (S6.rd + 1 = rd1) := by show _ = _; rw [← hrd, HS6.out.rd]
            have hrd2 : (y6.rd : Int) + 1 = (rd1 : Int) := by omega
            have hrd3 : (rd1 : Int) ≤ 100001 := by omega
            have z3 := HR.out.free? 3
            rw [hq] at z3
            have t7 := HR.out.setRd rd1
            rw [hq] at t7
            have hsz : (w6.setCell ⟨y.q, 3, none⟩ (.int .i64 (rd1 : Int))).heap.size = w6.heap.size := by simp
            have rowE := frow_made (w6.setCell ⟨y.q, 3, none⟩ (.int .i64 (rd1 : Int))) (N := w6.heap.size) (Nat.le_of_eq hsz.symm)
            rw [hsz] at rowE
            have d7 := t7.pd.below (below_alloc1 _ (.cells #[] 93))
            have rowL := d7.frow
            have c27 := d7.cell.2.2.1
            simp only at rowL c27
            (try rw [hq] at c27)
            have hN1 : w6.heap.size ≤ ((w6.setCell ⟨y.q, 3, none⟩ (.int .i64 (rd1 : Int))).alloc (.cells #[] 93)).heap.size := by simp
            clear hL hRS hdn hs hrd t7 d7 hsz
            go_wp2_with fail
            refine cR.mono ?_
            rintro e w7 ⟨rfl, e7⟩
            rw [e7]
            clear e7 cR
            go_wp2_with (first
              | (at_builtin; refine wpList_copy_fr rfl (.tmp 105) (.tmp 109) rfl _ w6.heap.size _ rfl rowE hN1 B _ _ rfl rowL (Nat.le_trans hl6 (by decide)) ?_; intro v8 w8 row8 fr8)
              | (have _ := row8; at_builtin; refine wpList_append_fr _ rfl (.tmp 110) (.tmp 114) rfl w6.heap.size v8 y6.l [⟨j, s, 1, false⟩] rfl (row8.below (below_alloc1 _ (.cells #[.int .i64 (j : Int), .int .i64 1, .string s, .bool false] 93))) ⟨w8.heap.size, 0, none⟩ 1 1 rfl rfl ((HB.of w8 ⟨j, s, 1, false⟩ (.slice none 0 0) (fun k e => by simp [Value.ownBlock] at e)).src) (by omega) (by have := fr8.size; simp at this ⊢; omega) ?_; intro v9 w9 row9 fr9 new9; obtain ⟨a9, n9, c9, rfl, cz, fz, hfin⟩ := rpush_facts HR.out hq HBw.out row8 fr8 row9 fr9))
            go_ret2
            refine ⟨by rw [HPR.out]; rfl, _, HT.out.trans hfin.out, ?_⟩
            rw [HPR.out]
            have r6 := HS6.out
            exact ⟨r6.n, by show y6.l ++ _ = S6.l ++ _; rw [r6.l], HRD.out.symm, r6.wr, r6.rel⟩
        · have hE2 : (E == 0) = false := by simpa using hE
          rw [if_neg hE] at hpn
          have HPR : Hid (pinS S (j : Int) = ((⟨#[]⟩, E), S6)) := hpn
          clear hpn hE
          go_wp2_with fail
          refine cG.mono ?_
          rintro e w6 ⟨rfl, y6, t6, HS6⟩
          clear cG
          go_wp2_with fail
          go_ret2
          refine ⟨by rw [HPR.out]; rfl, _, HT0.out.trans t6, ?_⟩
          rw [HPR.out]
          exact HS6
      · have hp2 : (0 : Int) < (f.pins : Int) := by omega
        have hp3 : 0 < f.pins := by omega
        have HB2 : Hid (∀ (m : Nat) (g : Fm), m < k + 1 → y.l[m]? = some g → g.pins ≠ 0) := by
          show ∀ (m : Nat) (g : Fm), _
          intro m g hm hg
          by_cases z : m < k
          · exact HBf.out m g z hg
          · obtain rfl : m = k := by omega
            rw [HX.out] at hg
            cases hg
            exact hp
        clear hp
        go_wp2_with fail
        go_roundw
        case rel => exact ⟨k + 1, by omega, by go_num, trivial, HB2⟩
        case measure => simp [intOf]; omega
    · obtain rfl : k = y.l.length := by omega
      have hu := uAt_none S.l 0 (fun m g hg => by
        rw [← HS.out.l] at hg
        exact HBf.out m g (List.getElem?_eq_some_iff.1 hg).1 hg)
      have hpn := HPN.out
      rw [takeS_pinned HO.out.2.2.1 hu, if_neg (show ¬ ((70 : Int), S).1 = 0 from fun q => absurd q (by show ¬ (70 : Int) = 0; decide))] at hpn
      have HPR : Hid (pinS S (j : Int) = ((⟨#[]⟩, 70), S)) := hpn
      clear hpn hu
      go_wp2_with fail
      go_ret2
      refine ⟨by rw [HPR.out]; rfl, _, HT0.out, ?_⟩
      rw [HPR.out]
      exact HS.out
end
end Go.Proofs.YtghocbaafdnddaaGreat
