/- The document's pool: rising (an insertion sort), Held, Dirty, Reads, Writes. -/
import Derived.Test.YtghocbaafdnddaaGreatRFind
namespace Go.Proofs.YtghocbaafdnddaaGreat
open Go.RowKit

/-- Rising up to a place. -/
def RiseTo (l : List Int) (i : Nat) : Prop := ∀ a b, a < b → b < i → b < l.length → l.getD a 0 ≤ l.getD b 0
/-- Rising up to a place, but for what stands at k, which is below all that stand behind it. -/
def RiseBut (l : List Int) (i k : Nat) : Prop := (∀ a b, a < b → b < i → b < l.length → a ≠ k → b ≠ k → l.getD a 0 ≤ l.getD b 0) ∧ ∀ b, k < b → b < i → b < l.length → l.getD k 0 ≤ l.getD b 0

theorem rise_start {l : List Int} {i : Nat} (h : RiseTo l i) : RiseBut l (i + 1) i :=
  ⟨fun a b h1 h2 h3 _ h5 => h a b h1 (by omega) h3, fun b h1 h2 => by omega⟩

theorem rise_end0 {l : List Int} {i : Nat} (h : RiseBut l i 0) : RiseTo l i := by
  intro a b h1 h2 h3
  by_cases h : a = 0
  · subst h; exact ‹RiseBut l i 0›.2 b h1 h2 h3
  · exact ‹RiseBut l i 0›.1 a b h1 h2 h3 h (by omega)

theorem rise_end {l : List Int} {i k : Nat} (hk : 0 < k) (hle : l.getD (k - 1) 0 ≤ l.getD k 0) (h : RiseBut l i k) : RiseTo l i := by
  intro a b h1 h2 h3
  by_cases ha : a = k
  · subst ha; exact h.2 b h1 h2 h3
  · by_cases hb : b = k
    · subst hb
      by_cases e : a = b - 1
      · rw [e]; exact hle
      · exact Int.le_trans (h.1 a (b - 1) (by omega) (by omega) (by omega) ha (by omega)) hle
    · exact h.1 a b h1 h2 h3 ha hb

theorem getD_set (l : List Int) (i j : Nat) (x : Int) (hi : i < l.length) : (l.set i x).getD j 0 = if i = j then x else l.getD j 0 := by
  rw [List.getD_eq_getElem?_getD, List.getElem?_set, List.getD_eq_getElem?_getD]
  by_cases e : i = j
  · subst e; simp [hi]
  · simp [e]

theorem rise_swap {l : List Int} {i k : Nat} {x z : Int} (hk : 0 < k) (hl : k < l.length) (hx : l.getD k 0 = x) (hz : l.getD (k - 1) 0 = z) (hlt : x < z) (h : RiseBut l i k) : RiseBut ((l.set (k - 1) x).set k z) i (k - 1) := by
  have e : ∀ j, ((l.set (k - 1) x).set k z).getD j 0 = if k = j then z else if k - 1 = j then x else l.getD j 0 := by
    intro j
    rw [getD_set _ _ _ _ (by simpa using hl), getD_set _ _ _ _ (by omega)]
  refine ⟨fun a b h1 h2 h3 h4 h5 => ?_, fun b h1 h2 h3 => ?_⟩
  · simp only [List.length_set] at h3
    rw [e, e]
    by_cases ha : k = a
    · rw [if_pos ha, if_neg (by omega), if_neg (by omega), ← hz]
      exact h.1 (k - 1) b (by omega) h2 h3 (by omega) (by omega)
    · rw [if_neg ha, if_neg (by omega)]
      by_cases hb : k = b
      · rw [if_pos hb, ← hz]
        exact h.1 a (k - 1) (by omega) (by omega) (by omega) (by omega) (by omega)
      · rw [if_neg hb, if_neg (by omega)]
        exact h.1 a b h1 h2 h3 (by omega) (by omega)
  · simp only [List.length_set] at h3
    rw [e, e, if_neg (by omega), if_pos rfl]
    by_cases hb : k = b
    · rw [if_pos hb]; omega
    · rw [if_neg hb, if_neg (by omega), ← hx]
      exact h.2 b (by omega) h2 h3

theorem swap_perm {l : List Int} {i j : Nat} {x z : Int} (hi : l[i]? = some z) (hj : l[j]? = some x) : ((l.set i x).set j z).Perm l := by
  obtain ⟨h1, rfl⟩ := List.getElem?_eq_some_iff.1 hi
  obtain ⟨h2, rfl⟩ := List.getElem?_eq_some_iff.1 hj
  exact List.set_set_perm h1 h2

theorem rise_sorted {l l0 : List Int} (h : RiseTo l l.length) (hp : l.Perm l0) : l = sortI l0 := by
  have hs : l.Pairwise (fun x y => decide (x ≤ y) = true) := by
    rw [List.pairwise_iff_getElem]
    intro a b ha hb hab
    have := h a b hab hb hb
    simpa [List.getD_eq_getElem?_getD, ha, hb] using this
  have hs2 : (sortI l0).Pairwise (fun x y => decide (x ≤ y) = true) := List.pairwise_mergeSort (by intro a b c; simp; omega) (by intro a b; simp; omega) l0
  exact List.Perm.eq_of_pairwise (by intro a b _ _; simp; omega) hs hs2 (hp.trans (List.mergeSort_perm l0 _).symm)

theorem IRow.set {w : World} {B b c n : Nat} {L : List Int} (h : IRow w B (.slice (some ⟨b, 0, none⟩) n c) L) (hn : n = L.length) (j : Nat) (x : Int) : IRow (w.setCell ⟨b, j, none⟩ (.int .i64 x)) B (.slice (some ⟨b, 0, none⟩) n c) (L.set j x) := by
  subst hn
  have h1 := (h.own.stored j (.int .i64 x)).1
  refine ⟨?_⟩
  rw [List.length_set, intC, List.map_set]
  exact h1

theorem belowDrN (w : World) (k : Nat) : Below w.heap.size w (w.drewN k) := ⟨rfl, rfl, rfl, Nat.le_refl _, fun _ _ => rfl⟩
theorem getD_some {l : List Int} {j : Nat} {x : Int} (h : l[j]? = some x) : l.getD j 0 = x := by simp [List.getD_eq_getElem?_getD, h]

set_option maxHeartbeats 1600000 in
set_option maxRecDepth 100000 in
theorem rising_any {w : World} {B : Nat} {v : Value} {L0 : List Int} (h : IRow w B v L0) (hl : L0.length ≤ 1000) :
    Calls Tryz.prog 64 #[v] w fun e w' => e = .returned v ∧ IRow w' B v (sortI L0) ∧ Fr (fun k => v.ownBlock = some k) w w' := by
  obtain ⟨a, c, rfl, hc, _⟩ := h.len
  have HR : Hid (IRow w B (.slice a L0.length c) L0) := h
  generalize hn : L0.length = n at *
  have HN : Hid (L0.length = n) := hn
  clear h hn
  go_enter Tryz.func64, Tryz.ntmps64
  go_wp2_with fail
  go_loopw [3] (fun si wr => ∃ (i : Nat) (L : List Int), 1 ≤ i ∧ (i ≤ n ∨ i = 1) ∧ si = .int .i64 (i : Int) ∧ IRow wr B (.slice a n c) L ∧ Hid (L.Perm L0 ∧ RiseTo L i) ∧ Fr (fun k => (Value.slice a n c).ownBlock = some k) w wr) (fun si _ => n - (intOf si).toNat)
  case atStart => exact ⟨1, L0, Nat.le_refl _, Or.inr rfl, rfl, HR.out, ⟨List.Perm.refl _, fun x y h1 h2 _ => by omega⟩, Fr.refl _ _⟩
  case round =>
    obtain ⟨i, L, hi0, hi1, rfl, hrow, HL, hfr⟩ := hrel
    by_cases hlt : i < n
    · have hlt2 : (i : Int) < (n : Int) := by omega
      have HW : Hid (Fr (fun k => (Value.slice a n c).ownBlock = some k) w wr) := hfr
      have hK0 : Hid (L.Perm L0 ∧ RiseBut L (i + 1) i) := ⟨HL.out.1, rise_start HL.out.2⟩
      have R0 : Hid (IRow wr B (.slice a n c) L) := hrow
      clear hfr HL hrow
      go_wp2_with fail
      go_loopw [4] (fun sk wq => ∃ (k : Nat) (M : List Int), k ≤ i ∧ sk = .int .i64 (k : Int) ∧ IRow wq B (.slice a n c) M ∧ Hid (M.Perm L0 ∧ RiseBut M (i + 1) k) ∧ Fr (fun k => (Value.slice a n c).ownBlock = some k) w wq) (fun sk _ => (intOf sk).toNat)
      case atStart => exact ⟨i, L, Nat.le_refl _, rfl, R0.out, hK0, HW.out⟩
      case round =>
        obtain ⟨k, M, hki, rfl, hrow, HM, hfr⟩ := hrel
        have hMl : M.length = n := by rw [HM.out.1.length_eq]; exact HN.out
        by_cases hk0 : k = 0
        · subst hk0
          have HF : Hid (M.Perm L0 ∧ RiseTo M (i + 1)) := ⟨HM.out.1, rise_end0 HM.out.2⟩
          have FD : ∀ q, Fr (fun k => (Value.slice a n c).ownBlock = some k) w (wr.drewN q) := fun q => hfr.trans (Fr.of_below (belowDrN wr q)) (fun _ _ e => e)
          have RD : ∀ q, IRow (wr.drewN q) B (Value.slice a n c) M := fun q => hrow.below' (belowDrN wr q)
          have hd : decide ((0 : Int) < 0) = false := by decide
          clear hMl HM hrow hfr
          go_wp2_with fail
          go_quiet (fail)
          go_wp2_with fail
          go_roundw
          case rel => exact ⟨i + 1, M, by omega, by omega, by go_num, RD _, HF, FD _⟩
          case measure => simp [intOf]; omega
        · obtain ⟨m, hm⟩ : ∃ m, k = m + 1 := ⟨k - 1, by omega⟩
          have hz : M[m]? = some M[m] := by simp [show m < M.length by omega]
          have hx : M[k]? = some M[k] := by simp [show k < M.length by omega]
          generalize M[m] = z at hz
          generalize M[k] = x at hx
          obtain ⟨b, c', e, hc', _, hbl, cz⟩ := hrow.cell hz
          obtain ⟨b2, c2', e2, _, _, _, cx⟩ := hrow.cell hx
          rw [hMl] at e e2
          cases e
          cases e2
          have ek : (k : Int) - 1 = (m : Int) := by omega
          have hkp : (0 : Int) < (k : Int) := by omega
          have hkq : 0 < k := by omega
          have d0 : decide ((0 : Int) < (k : Int)) = true := by simpa using hkq
          have hkn : (k : Int) < (n : Int) := by omega
          have hmn : (m : Int) < (n : Int) := by omega
          have czd : wr.drew.cell? ⟨b, m, none⟩ = some (.int .i64 z) := cz
          have cxd : wr.drew.cell? ⟨b, k, none⟩ = some (.int .i64 x) := cx
          have FD : ∀ q, Fr (fun k => (Value.slice (some ⟨b, 0, none⟩) n c).ownBlock = some k) w (wr.drewN q) := fun q => hfr.trans (Fr.of_below (belowDrN wr q)) (fun _ _ e => e)
          have RD : ∀ q, IRow (wr.drewN q) B (.slice (some ⟨b, 0, none⟩) n c) M := fun q => hrow.below' (belowDrN wr q)
          have hown := hrow.own
          rw [hMl] at hown
          have fm := hown.frozenAt m
          have fk := hown.frozenAt k
          clear hown
          by_cases hxz : x < z
          · have HF : Hid (((M.set m x).set k z).Perm L0 ∧ RiseBut ((M.set m x).set k z) (i + 1) m) := by
              refine ⟨(swap_perm hz hx).trans HM.out.1, ?_⟩
              have := rise_swap (l := M) (i := i + 1) (k := k) (x := x) (z := z) (by omega) (by omega) (getD_some hx) (by rw [show k - 1 = m by omega]; exact getD_some hz) hxz HM.out.2
              rw [show k - 1 = m by omega] at this
              exact this
            have R2 := fun q => ((RD q).set (b := b) (n := n) hMl.symm m x).set (b := b) (n := n) (by simpa using hMl.symm) k z
            have F2 := fun q => ((FD q).set (p := ⟨b, m, none⟩) (Or.inl rfl) (.int .i64 x)).set (p := ⟨b, k, none⟩) (Or.inl rfl) (.int .i64 z)
            clear hMl HM hrow hfr hz hx hm
            go_wp2_with fail
            go_quiet (fail)
            go_wp2_with fail
            go_region
            go_wp2_with fail
            go_roundw
            case rel => exact ⟨m, (M.set m x).set k z, by omega, by go_num, R2 _, HF, F2 _⟩
            case measure => simp [intOf]; omega
          · have HF : Hid (M.Perm L0 ∧ RiseTo M (i + 1)) := ⟨HM.out.1, rise_end (k := k) (by omega) (by rw [show k - 1 = m by omega, getD_some hz, getD_some hx]; omega) HM.out.2⟩
            have hd : decide (x < z) = false := by simpa using hxz
            clear hMl HM hrow hfr hz hx hm hxz
            go_wp2_with fail
            go_quiet (fail)
            go_wp2_with fail
            go_roundw
            case rel => exact ⟨i + 1, M, by omega, by omega, by go_num, RD _, HF, FD _⟩
            case measure => simp [intOf]; omega
    · have HS : Hid (L = sortI L0) := by
        have hLl : L.length = n := by rw [HL.out.1.length_eq]; exact HN.out
        refine rise_sorted (fun x y h1 h2 h3 => HL.out.2 x y h1 (by omega) h3) HL.out.1
      clear HL
      go_wp2_with fail
      go_ret
      exact ⟨rfl, by rw [← HS.out]; exact hrow, hfr⟩

section
variable {B bd : Nat} {w : World} {y : RX}

theorem pgs_step1 (q : Fm → Bool) (l : List Fm) (k : Nat) (f : Fm) (hx : l[k]? = some f) : pgs q (l.take (k + 1)) = pgs q (l.take k) ++ (if q f then [(f.pg : Int)] else []) := by
  have e : l.take (k + 1) = l.take k ++ [f] := by rw [List.take_add_one, hx]; rfl
  rw [e]
  by_cases h : q f = true <;> simp [pgs, h]
theorem pgs_take_len (q : Fm → Bool) (l : List Fm) (k : Nat) : (pgs q (l.take k)).length ≤ l.length := Nat.le_trans (pgs_len _ _) (by rw [List.length_take]; omega)

set_option maxHeartbeats 1600000 in
set_option maxRecDepth 100000 in
theorem rpheld_any (h : Rp B w y) (hl : y.l.length ≤ 1000) :
    Calls Tryz.prog 28 #[.pointer (some ⟨y.q, 0, none⟩)] w fun e w' => ∃ v, e = .returned v ∧ IRow w' w.heap.size v (sortI (pgs (fun _ => true) y.l)) ∧ Below w.heap.size w w' := by
  have H : Hid (Rp B w y) := h
  obtain ⟨sa, sc, ev, _, _⟩ := h.lvOf
  clear h
  go_enter Tryz.func28, Tryz.ntmps28
  go_wp2_with fail
  go_loopw [3, 4] (fun st si wr => ∃ k : Nat, k ≤ y.l.length ∧ si = .int .i64 (k : Int) ∧ IRow wr w.heap.size st (pgs (fun _ => true) (y.l.take k)) ∧ Below w.heap.size w wr) (fun _ si _ => y.l.length - (intOf si).toNat)
  case atStart => exact ⟨0, Nat.zero_le _, rfl, irow_nil _ _, Below.refl _ _⟩
  case round =>
    obtain ⟨k, hk, rfl, hrow, hb⟩ := hrel
    have hw := H.out.below hb
    obtain ⟨_, _, c2, _, _⟩ := hw.cell
    rw [ev] at c2
    by_cases hlt : k < y.l.length
    · have hlt2 : (k : Int) < (y.l.length : Int) := by omega
      have hx : y.l[k]? = some y.l[k] := by simp [hlt]
      generalize y.l[k] = f at hx
      obtain ⟨ra, rc, e, hsc, _, _, _, _, d0, _⟩ := hw.at hx
      rw [ev] at e
      cases e
      have HS : Hid (pgs (fun _ => true) (y.l.take (k + 1)) = pgs (fun _ => true) (y.l.take k) ++ [(f.pg : Int)]) := pgs_step1 (fun _ => true) y.l k f hx
      have hul := pgs_take_len (fun _ => true) y.l k
      have hb2 := below2 hb (below_alloc1 wr (.cells #[.int .i64 (f.pg : Int)] 3))
      have hr2 := hrow.below' (below_alloc1 wr (.cells #[.int .i64 (f.pg : Int)] 3))
      clear hw hx
      generalize hA : pgs (fun _ => true) (y.l.take k) = A at *
      go_wp2_with (at_builtin; refine wpList_append_int _ rfl (.tmp 14) (.tmp 23) rfl w.heap.size _ A [(f.pg : Int)] rfl hr2 ⟨wr.heap.size, 0, none⟩ 1 (by simp; rfl) (one_src _ _ (by simp)) (by simp; omega) hb2.size ?_; intro v' w' hrow' hfr hnew)
      go_roundw
      case rel => exact ⟨k + 1, by omega, by go_num, by rw [HS.out]; exact hrow', hfr.below hb2 hb2.size (fun k e => (hrow.blk e).1)⟩
      case measure => simp [intOf]; omega
    · obtain rfl : k = y.l.length := by omega
      have hul := pgs_take_len (fun _ => true) y.l y.l.length
      rw [List.take_length] at hrow hul
      have cS := rising_any hrow (by omega)
      clear hw
      generalize hA : pgs (fun _ => true) y.l = A at *
      go_wp2_with fail
      refine cS.mono ?_
      rintro e w1 ⟨rfl, r1, fr1⟩
      clear cS
      go_wp2_with fail
      go_ret
      exact ⟨_, rfl, by rw [hA]; exact r1, fr1.below hb hb.size (fun k e => (hrow.blk e).1)⟩

set_option maxHeartbeats 1600000 in
set_option maxRecDepth 100000 in
theorem rpdirty_any (h : Rp B w y) (hl : y.l.length ≤ 1000) :
    Calls Tryz.prog 30 #[.pointer (some ⟨y.q, 0, none⟩)] w fun e w' => ∃ v, e = .returned v ∧ IRow w' w.heap.size v (sortI (pgs (fun f => f.dirty) y.l)) ∧ Below w.heap.size w w' := by
  have H : Hid (Rp B w y) := h
  obtain ⟨sa, sc, ev, _, _⟩ := h.lvOf
  clear h
  go_enter Tryz.func30, Tryz.ntmps30
  go_wp2_with fail
  go_loopw [3, 4] (fun st si wr => ∃ k : Nat, k ≤ y.l.length ∧ si = .int .i64 (k : Int) ∧ IRow wr w.heap.size st (pgs (fun f => f.dirty) (y.l.take k)) ∧ Below w.heap.size w wr) (fun _ si _ => y.l.length - (intOf si).toNat)
  case atStart => exact ⟨0, Nat.zero_le _, rfl, irow_nil _ _, Below.refl _ _⟩
  case round =>
    obtain ⟨k, hk, rfl, hrow, hb⟩ := hrel
    have hw := H.out.below hb
    obtain ⟨_, _, c2, _, _⟩ := hw.cell
    rw [ev] at c2
    by_cases hlt : k < y.l.length
    · have hlt2 : (k : Int) < (y.l.length : Int) := by omega
      have hx : y.l[k]? = some y.l[k] := by simp [hlt]
      generalize y.l[k] = f at hx
      obtain ⟨ra, rc, e, hsc, _, _, _, _, d0, _, _, d3, _⟩ := hw.at hx
      rw [ev] at e
      cases e
      have hst := pgs_step1 (fun f => f.dirty) y.l k f hx
      have hul := pgs_take_len (fun f => f.dirty) y.l k
      cases hd : f.dirty with
      | true =>
        rw [hd] at d3
        have HS : Hid (pgs (fun f => f.dirty) (y.l.take (k + 1)) = pgs (fun f => f.dirty) (y.l.take k) ++ [(f.pg : Int)]) := by show _ = _; rw [hst, if_pos hd]
        have hb2 := below2 hb (below_alloc1 wr (.cells #[.int .i64 (f.pg : Int)] 3))
        have hr2 := hrow.below' (below_alloc1 wr (.cells #[.int .i64 (f.pg : Int)] 3))
        clear hw hx hst hd
        generalize hA : pgs (fun f => f.dirty) (y.l.take k) = A at *
        go_wp2_with (at_builtin; refine wpList_append_int _ rfl (.tmp 22) (.tmp 31) rfl w.heap.size _ A [(f.pg : Int)] rfl hr2 ⟨wr.heap.size, 0, none⟩ 1 (by simp; rfl) (one_src _ _ (by simp)) (by simp; omega) hb2.size ?_; intro v' w' hrow' hfr hnew)
        go_roundw
        case rel => exact ⟨k + 1, by omega, by go_num, by rw [HS.out]; exact hrow', hfr.below hb2 hb2.size (fun k e => (hrow.blk e).1)⟩
        case measure => simp [intOf]; omega
      | false =>
        rw [hd] at d3
        have HS : Hid (pgs (fun f => f.dirty) (y.l.take (k + 1)) = pgs (fun f => f.dirty) (y.l.take k)) := by show _ = _; rw [hst, if_neg (by rw [hd]; decide), List.append_nil]
        clear hw hx hst hd
        generalize hA : pgs (fun f => f.dirty) (y.l.take k) = A at *
        go_wp2_with fail
        go_roundw
        case rel => exact ⟨k + 1, by omega, by go_num, by rw [HS.out]; exact hrow, hb⟩
        case measure => simp [intOf]; omega
    · obtain rfl : k = y.l.length := by omega
      have hul := pgs_take_len (fun f => f.dirty) y.l y.l.length
      rw [List.take_length] at hrow hul
      have cS := rising_any hrow (by omega)
      clear hw
      generalize hA : pgs (fun f => f.dirty) y.l = A at *
      go_wp2_with fail
      refine cS.mono ?_
      rintro e w1 ⟨rfl, r1, fr1⟩
      clear cS
      go_wp2_with fail
      go_ret
      exact ⟨_, rfl, by rw [hA]; exact r1, fr1.below hb hb.size (fun k e => (hrow.blk e).1)⟩

set_option maxRecDepth 100000 in
theorem rpreads_any (h : Rp B w y) : Calls Tryz.prog 32 #[.pointer (some ⟨y.q, 0, none⟩)] w fun e w' => e = .returned (.int .i64 (y.rd : Int)) ∧ w' = w := by
  obtain ⟨_, _, _, c3, _⟩ := h.cell
  clear h
  go_enter Tryz.func32, Tryz.ntmps32
  go_wp2_with fail
  go_ret
  exact ⟨rfl, rfl⟩
set_option maxRecDepth 100000 in
theorem rpwrites_any (h : Rp B w y) : Calls Tryz.prog 34 #[.pointer (some ⟨y.q, 0, none⟩)] w fun e w' => e = .returned (.int .i64 (y.wr : Int)) ∧ w' = w := by
  obtain ⟨_, _, _, _, c4⟩ := h.cell
  clear h
  go_enter Tryz.func34, Tryz.ntmps34
  go_wp2_with fail
  go_ret
  exact ⟨rfl, rfl⟩

end
end Go.Proofs.YtghocbaafdnddaaGreat
