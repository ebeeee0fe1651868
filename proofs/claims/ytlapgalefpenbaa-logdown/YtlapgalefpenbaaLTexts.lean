/- texts: the texts of the state, read piece by piece. -/
import Derived.Test.YtlapgalefpenbaaLFind
import Derived.Lib.AppendStr
import Derived.Laws.BytesArg
namespace Go.Proofs.Ytlapgalefpenbaa
open Go.RowKit

/-- A byte row's text. -/
theorem brow_text {wr : World} {B : Nat} {v : Value} {l : List UInt8} (h : wr.ownsRow B 5 1 v l.length (Lib.strCells (ba l))) : (convert 89 9 v).run Try.prog wr = .ok (.string (ba l)) wr := by
  have h0 := h
  rcases h.2 with ⟨rfl, hn⟩ | ⟨g, cap, cur, rfl, _⟩
  · have : l = [] := List.eq_nil_of_length_eq_zero hn
    subst this
    have e := run_convert_bytes_nil (P := Try.prog) wr 89 5 Try.underlying89 Try.underlying5 0 0 9 Try.underlying9
    rw [e]
    rfl
  · have e := run_convert_bytes_arg (P := Try.prog) wr 89 5 Try.underlying89 Try.underlying5 g 0 l.length cap (l.map fun b => (b.toNat : Int)) (by simp) (fun i hi => by
      rw [Nat.zero_add, h0.cellAt i (by omega)]
      simp [Lib.strCells, ba, hi]) 9 Try.underlying9
    rw [e]
    simp [strOfNums, Function.comp_def, ba]

theorem strCells_add (a b : List UInt8) (s : ByteArray) (hs : s.data.toList = b) : Lib.strCells (ba a) ++ Lib.strCells s = Lib.strCells (ba (a ++ b)) := by
  simp [Lib.strCells, ba, hs]

/-- The text of a piece's sector. -/
theorem getText_psec (p : List UInt8) (hp : p.length ≤ 500) : getTextAt (psec p).data.toList 0 500 = (p, (putT p).length, true) := by
  have hl : (psec p).data.toList = enc p.length ++ (p ++ List.replicate (512 - (putT p).length) 0) := by
    rw [psec, sec_list, putT, List.append_assoc]
  have hg : getAt (psec p).data.toList 0 = (p.length, (enc p.length).length, true) := by
    unfold getAt
    rw [if_pos ⟨by omega, by omega⟩, hl]
    simpa using dec_enc p.length _ (by omega)
  have hlen := putT_500 p hp
  unfold getTextAt
  rw [hg]
  simp only [Int.toNat_zero, Nat.zero_add]
  rw [if_pos ⟨trivial, by omega, by omega, by rw [hl]; simp⟩, hl, List.drop_left, List.take_left]
  simp [putT]

theorem foldl_take (ps : List (List UInt8)) (k : Nat) (p : List UInt8) (h : ps[k]? = some p) (s : List (List UInt8) × List UInt8) : (ps.take (k + 1)).foldl rdf s = rdf ((ps.take k).foldl rdf s) p := by
  rw [List.take_add_one, h, List.foldl_append]
  rfl

set_option maxHeartbeats 3200000 in
set_option maxRecDepth 100000 in
theorem texts_any {B : Nat} {w : World} {lb g gs : Nat} {hv : Value} {D : DS} (d : Dev B w g gs hv D) (h8 : 8 ≤ D.n) (hn : D.n ≤ 8192) (hl : D.left ≠ 0) (A : Nat) (hA : A = areaN D.n) (P : PS) (hP : Holds A D.seen P)
    (c0 : w.cell? ⟨lb, 0, none⟩ = some (.pointer (some ⟨g, 0, none⟩))) (c2 : w.cell? ⟨lb, 2, none⟩ = some (.int .i64 (P.area : Int))) (c3 : w.cell? ⟨lb, 3, none⟩ = some (.int .i64 (P.used : Int))) :
    Calls Try.prog 61 #[.pointer (some ⟨lb, 0, none⟩)] w fun e w' => ∃ v, e = .returned v ∧ w'.ownsRow w.heap.size 9 1 v P.T.length (P.T.map Value.string) ∧ Below w.heap.size w w' := by
  obtain ⟨i0, hi, hz0, hz1, hz2⟩ := info_parts Try.info9
  obtain ⟨j0, hj, hy0, hy1, hy2⟩ := info_parts Try.info5
  have hA4 : 2 * A + 4 ≤ D.n ∧ A ≤ 4096 := by rw [hA]; unfold areaN; omega
  have haA : P.area * A ≤ A := by
    have : P.area * A ≤ 1 * A := Nat.mul_le_mul_right _ hP.area
    omega
  have hroom := hP.room
  have harea := hP.area
  obtain ⟨ps, hps⟩ : ∃ ps, ps = allp P.T := ⟨_, rfl⟩
  have hpl : ps.length = P.used := by rw [hps, allp_secs, hP.used]
  have hp5 : ∀ p ∈ ps, p.length ≤ 500 := by rw [hps]; exact allp_len P.T
  have htx : ∀ i p, ps[i]? = some p → D.seen (3 + P.area * A + i) = psec p := by rw [hps]; exact hP.txt
  have hend : ps.foldl rdf ([], []) = (P.T.map (·.data.toList), []) := by rw [hps, rd_allp]; rfl
  have hTT : (P.T.map (·.data.toList)).map (fun l => Value.string (ba l)) = P.T.map Value.string := by
    rw [List.map_map]
    congr 1
  have hTl : (P.T.map (·.data.toList)).length = P.T.length := by simp
  have hlb := World.block_lt_of_cell? w _ c0
  have HA : Hid (A = areaN D.n) := hA
  obtain ⟨used, hu⟩ : ∃ used, used = P.used := ⟨_, rfl⟩
  obtain ⟨area, ha⟩ : ∃ area, area = P.area := ⟨_, rfl⟩
  rw [← hu] at c3 hpl hroom
  rw [← ha] at c2 htx haA harea
  obtain ⟨TL, hTL⟩ : ∃ TL, TL = P.T.map (·.data.toList) := ⟨_, rfl⟩
  rw [← hTL] at hend hTT hTl
  rw [← hTT, ← hTl]
  have HE : Hid (ps.foldl rdf ([], []) = (TL, [])) := hend
  have HT : Hid (∀ i p, ps[i]? = some p → D.seen (3 + area * A + i) = psec p) := htx
  clear hu ha hps hA hP hend hTT hTl hTL htx
  go_enter Try.func61, Try.ntmps61
  go_wp2_with fail
  go_loopw [3, 4, 14] (fun st sx si wr => ∃ (k Bx : Nat) (vt vx : Value) (T : List (List UInt8)) (c : List UInt8), k ≤ used ∧ si = .int .i64 (k : Int) ∧ vt = st ∧ vx = sx ∧ (ps.take k).foldl rdf ([], []) = (T, c) ∧ T.length ≤ k ∧ c.length ≤ 500 * k ∧
      wr.ownsRow w.heap.size 9 1 vt T.length (T.map fun l => Value.string (ba l)) ∧ (∀ j, vt.ownBlock = some j → j < Bx) ∧ Bx ≤ wr.heap.size ∧ w.heap.size ≤ Bx ∧ wr.ownsRow Bx 5 1 vx c.length (Lib.strCells (ba c)) ∧ Below w.heap.size w wr) (fun _ _ si _ => used - (intOf si).toNat)
  case atStart => exact ⟨0, w.heap.size, _, _, [], [], Nat.zero_le _, rfl, rfl, rfl, rfl, Nat.le_refl _, Nat.le_refl _, World.ownsRow_nil _ _ _ _, (by intro j h; cases h), Nat.le_refl _, Nat.le_refl _, World.ownsRow_nil _ _ _ _, Below.refl _ _⟩
  case round =>
    obtain ⟨k, Bx, vt, vx, T, c, hk, rfl, hst, hsx, hf, hTk, hck, hot, hbt, hbx, hwx, hox, hbel⟩ := hrel
    subst hst hsx
    by_cases hkm : k < used
    · have hkm2 : (k : Int) < (used : Int) := by omega
      have hp : ps[k]? = some ps[k] := by simp [show k < ps.length by omega]
      generalize ps[k] = p at hp
      have hlen := hp5 p (List.mem_of_getElem? hp)
      have hsn := HT.out k p hp
      have hfk := foldl_take ps k p hp ([], [])
      rw [hf] at hfk
      have dr := d.below hbel
      have x0 := (hbel.cell (p := ⟨lb, 0, none⟩) hlb).trans c0
      have x2 := (hbel.cell (p := ⟨lb, 2, none⟩) hlb).trans c2
      have cSec := sector_any x0 dr h8 hn A HA.out area k harea (by omega)
      have cRd := lread_any x0 dr (3 + area * A + k) (by omega) hl (psec p) hsn (psec_size p hlen)
      have cGT := fun w => getText_any (psec p) 0 500 w (by rw [psec_size p hlen]; omega) (by omega)
      rw [getText_psec p hlen] at cGT
      simp only at cGT
      generalize psec p = Z at cRd cGT
      generalize 3 + area * A + k = jj at cSec cRd
      have hpb : (ba p).data.toList = p := by simp [ba]
      have hps2 : (ba p).size = p.length := rfl
      go_wp2_with fail
      refine cSec.mono ?_
      rintro e w1 ⟨rfl, e1⟩
      rw [e1]
      go_wp2_with fail
      refine cRd.mono ?_
      rintro e w2 ⟨rfl, b2⟩
      go_wp2_with fail
      refine (cGT _).mono ?_
      rintro e w3 ⟨rfl, b3⟩
      have b23 := below2 b2 b3
      have hot3 : w3.ownsRow w.heap.size 9 1 vt T.length (T.map fun l => Value.string (ba l)) := owns_kept hot (fun j _ hj => b23.block j hj)
      have hox3 : w3.ownsRow Bx 5 1 vx c.length (Lib.strCells (ba c)) := owns_kept hox (fun j _ hj => b23.block j hj)
      have hbel3 := hbel.trans (b23.mono hbel.size)
      have hstr := strCells_add c p (ba p) hpb
      have hnt : ∀ j, vt.ownBlock = some j → some j ≠ vx.ownBlock := fun j e x => by
        have h1 := hbt j e
        have h2 := (hox3.lt j x.symm).1
        omega
      have hbx3 : Bx ≤ w3.heap.size := Nat.le_trans hbx b23.size
      clear cSec cRd cGT hsn hp
      by_cases h5 : p.length < 500
      · have h52 : (p.length : Int) < 500 := by omega
        rw [rdf, if_pos h5] at hfk
        simp only at hfk
        have HF : Hid ((ps.take (k + 1)).foldl rdf ([], []) = (T ++ [c ++ p], [])) := hfk
        clear hfk hf
        go_wp2_with (first
          | (at_builtin; refine Lib.wpList_append_own_string _ rfl (.tmp 35) (.tmp 36) 89 9 rfl Bx 5 j0 Try.underlying89 Try.underlying9 hj hy0 hy1 hy2 vx c.length (Lib.strCells (ba c)) rfl hox3 (ba p) rfl (by unfold maxLen; omega) (by omega) hbx3 ?_; intro v8 w8 ho8 hg8 hn8; rw [hstr, hps2, ← List.length_append] at ho8; have hot8 : w8.ownsRow w.heap.size 9 1 vt T.length (T.map fun l => Value.string (ba l)) := owns_kept hot3 (fun j e hj => hg8.block j hj (hnt j e)); have hbel8 := hbel3.grown hg8 hbel3.size (fun j hj => Nat.le_trans hwx (hox3.lt j hj).1); have hcv := brow_text ho8; have hot9 := hot8.alloc (.cells #[.string (ba (c ++ p))] 9))
          | (at_builtin; refine wpList_append_own _ rfl (.tmp 41) (.tmp 44) 33 rfl w.heap.size 9 i0 (.string ⟨#[]⟩) 1 16 Try.underlying33 hi hz0 hz1 hz2 rfl (by decide) vt T.length (T.map fun l => Value.string (ba l)) rfl hot9 ⟨w8.heap.size, 0, none⟩ 1 1 [.string (ba (c ++ p))] rfl rfl (by intro t u ht; match t, ht with | 0, ht => simp at ht; subst ht; simp [Addr.add]) (by intro u hu; simp at hu; subst hu; rfl) (by unfold maxLen; omega) (by omega) (by have := hbel8.size; simp; omega) ?_; intro v9 w9 ho9 hg9 hn9))
        go_roundw
        case rel =>
          have hbel9 := (hbel8.alloc hbel8.size (.cells #[.string (ba (c ++ p))] 9)).grown hg9 (by have := hbel8.size; simp; omega) (fun j hj => (hot9.lt j hj).1)
          refine ⟨k + 1, w9.heap.size, v9, _, T ++ [c ++ p], [], by omega, by go_num, rfl, rfl, HF.out, by simp; omega, by simp, ?_, fun j e => (ho9.lt j e).2, Nat.le_refl _, hbel9.size, World.ownsRow_nil _ _ _ _, hbel9⟩
          rw [List.map_append, List.length_append]
          exact ho9
        case measure => simp [intOf]; omega
      · have h52 : ¬ (p.length : Int) < 500 := by omega
        rw [rdf, if_neg h5] at hfk
        simp only at hfk
        have HF : Hid ((ps.take (k + 1)).foldl rdf ([], []) = (T, c ++ p)) := hfk
        clear hfk hf
        go_wp2_with (at_builtin; refine Lib.wpList_append_own_string _ rfl (.tmp 35) (.tmp 36) 89 9 rfl Bx 5 j0 Try.underlying89 Try.underlying9 hj hy0 hy1 hy2 vx c.length (Lib.strCells (ba c)) rfl hox3 (ba p) rfl (by unfold maxLen; omega) (by omega) hbx3 ?_; intro v8 w8 ho8 hg8 hn8; rw [hstr, hps2, ← List.length_append] at ho8; have hot8 : w8.ownsRow w.heap.size 9 1 vt T.length (T.map fun l => Value.string (ba l)) := owns_kept hot3 (fun j e hj => hg8.block j hj (hnt j e)); have hbel8 := hbel3.grown hg8 hbel3.size (fun j hj => Nat.le_trans hwx (hox3.lt j hj).1))
        go_roundw
        case rel => exact ⟨k + 1, Bx, vt, v8, T, c ++ p, by omega, by go_num, rfl, rfl, HF.out, by omega, by rw [List.length_append]; omega, hot8, hbt, Nat.le_trans hbx3 hg8.size, hwx, ho8, hbel8⟩
        case measure => simp [intOf]; omega
    · obtain rfl : k = used := by omega
      rw [List.take_of_length_le (by omega), HE.out] at hf
      injection hf with e1 e2
      subst e1 e2
      have hvx : ∃ a cp, vx = .slice a 0 cp := by
        rcases hox.2 with ⟨e, _⟩ | ⟨b, cp, cur, e, _⟩
        · exact ⟨_, _, e⟩
        · exact ⟨_, _, e⟩
      obtain ⟨a, cp, rfl⟩ := hvx
      go_wp2_with fail
      go_ret
      exact ⟨_, rfl, hot, hbel⟩

end Go.Proofs.Ytlapgalefpenbaa
