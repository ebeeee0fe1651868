/- Layer 10: the first entry of a node that is not below a key. -/
import Derived.Test.YtkfoddblgdmabaaTrRun
import Derived.Lib.Bytealg
import Derived.Laws.Externs
namespace Go.Proofs.Ytkfoddblgdmabaa.tr
open Go.RowKit

theorem compareBytes_bl : ∀ (a b : List UInt8), Lib.compareBytes a b = if Op.bytesLess a b then -1 else if Op.bytesLess b a then 1 else 0
  | [], [] => rfl
  | [], _ :: _ => rfl
  | _ :: _, [] => by simp [Lib.compareBytes, Op.bytesLess]
  | a :: x, b :: y => by
    rw [Lib.compareBytes, compareBytes_bl x y]
    by_cases h : a < b
    · simp [Op.bytesLess, h]
    · by_cases h2 : b < a
      · have : ¬ (a == b) = true := by simp; rintro rfl; exact h h2
        simp [Op.bytesLess, h, h2, this]
      · have e : a = b := UInt8.le_antisymm (by simpa using h2) (by simpa using h)
        subst e
        simp [Op.bytesLess, h]
theorem compareBytes_eq (a b : ByteArray) : Lib.compareBytes a.data.toList b.data.toList = cmpS a b := by
  unfold cmpS ltS
  rw [compareBytes_bl, ByteArray.toList_eq, ByteArray.toList_eq]

theorem cmpstr_any (a b : ByteArray) (w : World) : Calls Try.prog 64 #[.string a, .string b] w fun e w' => e = .returned (.int .i64 (cmpS a b)) ∧ w' = w := by
  have h : ∀ w, (callFunc 69 #[.string a, .string b]).run Try.prog w = .ok (.value (.int .i64 (cmpS a b))) w := fun w => by
    rw [run_callFunc_extern Try.func69 (by kernel_rfl) (by kernel_rfl) (by kernel_rfl) (e := Extern.BytealgCompare.compare) (by kernel_rfl), Lib.run_compareString, compareBytes_eq]
    rfl
  generalize cmpS a b = c at *
  go_enter Try.func64, Try.ntmps64
  go_wp2_with (simp only [h])
  go_ret
  exact ⟨rfl, rfl⟩
theorem compare_any (a b : ByteArray) (w : World) : Calls Try.prog 58 #[.string a, .string b] w fun e w' => e = .returned (.int .i64 (cmpS a b)) ∧ w' = w := by
  have h := cmpstr_any a b w
  generalize cmpS a b = c at *
  go_enter Try.func58, Try.ntmps58
  go_wp2_with (go_at_call 64; refine h.mono ?_; rintro e w' ⟨rfl, rfl⟩)
  go_ret
  exact ⟨rfl, rfl⟩
theorem cmpfn_any (k : ByteArray) (n : Int) (key : ByteArray) (w : World) : Calls Try.prog 57 #[.agg #[.string k, .int .i64 n], .string key] w fun e w' => e = .returned (.int .i64 (cmpS k key)) ∧ Below w.heap.size w w' := by
  have h := compare_any k key (w.alloc (.cells #[.string k, .int .i64 n] 58))
  generalize cmpS k key = c at *
  go_enter Try.func57, Try.ntmps57
  go_wp2_with (go_at_call 58; refine h.mono ?_; rintro e w' ⟨rfl, rfl⟩)
  go_ret
  exact ⟨rfl, below_alloc1 _ _⟩

/-- Of a list that rises: which places are below a key. -/
theorem pos_lt {key : ByteArray} {l : List Ent} (hs : Srt l) {i : Nat} {e : Ent} (h : l[i]? = some e) : (cmpS e.key key < 0 → i < pos key l) ∧ (¬ cmpS e.key key < 0 → pos key l ≤ i) ∧ (i = pos key l → (cmpS e.key key = 0 ↔ e.key = key)) := by
  obtain ⟨A, B, rfl, hl, hA, hB⟩ := pos_cut key l hs
  refine ⟨fun q => ?_, fun q => ?_, fun _ => cmpS_zero _ _⟩
  · rw [cmpS_neg] at q
    rcases Nat.lt_or_ge i A.length with r | r
    · omega
    · rw [List.getElem?_append_right r] at h
      have hm := List.mem_of_getElem? h
      rcases hB with hB | ⟨x, B', rfl, hx, hB⟩
      · rw [ltS_asymm (hB e hm)] at q; cases q
      · rcases List.mem_cons.1 hm with rfl | hm
        · rw [hx, ltS_irrefl] at q; cases q
        · rw [ltS_asymm (hB e hm)] at q; cases q
  · rcases Nat.lt_or_ge i A.length with r | r
    · rw [List.getElem?_append_left r] at h
      exact absurd ((cmpS_neg _ _).2 (hA e (List.mem_of_getElem? h))) q
    · omega
theorem hasL_at {key : ByteArray} {l : List Ent} {e : Ent} (h : l[pos key l]? = some e) : hasL key l = decide (cmpS e.key key = 0) := by
  unfold hasL
  rw [h]
  simp only [cmpS_zero]
theorem hasL_end {key : ByteArray} {l : List Ent} (h : ¬ pos key l < l.length) : hasL key l = false := by
  unfold hasL
  rw [List.getElem?_eq_none (by omega)]

set_option maxHeartbeats 4000000 in
set_option maxRecDepth 1000000 in
theorem search_any {w : World} {B : Nat} {v : Value} {l : List Ent} (h : GRow 58 2 gE w B v l) (hs : Srt l) (hlen : l.length ≤ 100000) (key : ByteArray) : Calls Try.prog 56 #[v, .string key, .func (.func 57) #[] #[]] w fun e w' => e = .returned (.tuple #[.int .i64 (pos key l : Int), .bool (hasL key l)]) ∧ Below w.heap.size w w' := by
  obtain ⟨a, c, rfl, hlc, hcm⟩ := h.len
  have hcm' := hcm
  unfold maxLen at hcm'
  have hple := pos_le key l
  have HL : Hid (∀ i e, l[i]? = some e → ∃ b, a = some ⟨b, 0, none⟩ ∧ b < w.heap.size ∧ w.cell? ⟨b, i * 2, none⟩ = some (.string e.key) ∧ w.cell? ⟨b, i * 2 + 1, none⟩ = some (.int .i64 e.n)) := by
    intro i e hi
    obtain ⟨b, c', e1, _, _, e3, e4⟩ := h.cell gE_len hi
    cases e1
    exact ⟨b, rfl, e3, by simpa using (e4 0 _ rfl).1, (e4 1 _ rfl).1⟩
  have HP : Hid (∀ i e, l[i]? = some e → (cmpS e.key key < 0 → i < pos key l) ∧ (0 ≤ cmpS e.key key → pos key l ≤ i)) := fun i e hi => ⟨(pos_lt hs hi).1, fun q => (pos_lt hs hi).2.1 (by omega)⟩
  obtain ⟨p, hp⟩ : ∃ p, pos key l = p := ⟨_, rfl⟩
  have HH : Hid ((∀ e, l[p]? = some e → hasL key l = decide (cmpS e.key key = 0)) ∧ (¬ p < l.length → hasL key l = false)) := ⟨fun e he => hasL_at (by rw [hp]; exact he), fun q => hasL_end (by rw [hp]; exact q)⟩
  have HG : Hid (∀ i, i < l.length → ∃ e, l[i]? = some e) := fun i hi => ⟨_, List.getElem?_eq_getElem hi⟩
  rw [hp] at hple HP ⊢
  clear hp hs h
  generalize hasL key l = R at *
  obtain ⟨n, hn⟩ : ∃ n, l.length = n := ⟨_, rfl⟩
  rw [hn] at HG hlen hlc hple HH ⊢
  clear hn
  go_enter Try.func56, Try.ntmps56
  go_wp2_with fail
  go_loopw [9, 10] (fun s9 s10 wr => ∃ lo hi : Nat, s9 = .int .i64 (lo : Int) ∧ s10 = .int .i64 (hi : Int) ∧ lo ≤ p ∧ p ≤ hi ∧ hi ≤ n ∧ Below w.heap.size w wr) (fun s9 s10 _ => ((RowKit.intOf s10) - (RowKit.intOf s9)).toNat)
  case atStart => exact ⟨0, n, rfl, rfl, Nat.zero_le _, hple, Nat.le_refl _, Below.refl _ _⟩
  case round =>
    obtain ⟨lo, hi, rfl, rfl, h1, h2, h3, hb⟩ := hrel
    by_cases hlt : lo < hi
    · obtain ⟨m, hm⟩ : ∃ m, (lo + hi) / 2 = m := ⟨_, rfl⟩
      have hm1 : lo ≤ m := by omega
      have hm2 : m < hi := by omega
      obtain ⟨e, he⟩ := HG.out m (by omega)
      obtain ⟨b, rfl, c0, c1, c2⟩ := HL.out m e he
      have q1 := (hb.cell (p := ⟨b, m * 2, none⟩) c0).trans c1
      have q2 := (hb.cell (p := ⟨b, m * 2 + 1, none⟩) c0).trans c2
      have hP := HP.out m e he
      have hmI : ((lo : Int) + (hi : Int)) / 2 = (m : Int) := by omega
      have hmn : m < n := by omega
      have hmn2 : (m : Int) < (n : Int) := by omega
      have hc := fun w => cmpfn_any e.key e.n key w
      clear c1 c2 he
      generalize cmpS e.key key = ck at *
      generalize e.key = ek at *
      generalize e.n = en at *
      by_cases hck : ck < 0
      · have hmp := hP.1 hck
        clear hP hm
        go_wp2_with ((try go_at_call 57); refine (hc _).mono ?_; rintro e w1 ⟨rfl, hb1⟩)
        go_roundw
        case rel => exact ⟨m + 1, hi, by go_num, rfl, by omega, h2, h3, below2 hb hb1⟩
        case measure => simp [RowKit.intOf]; omega
      · have hmp := hP.2 (by omega)
        clear hP hm
        go_wp2_with ((try go_at_call 57); refine (hc _).mono ?_; rintro e w1 ⟨rfl, hb1⟩)
        go_roundw
        case rel => exact ⟨lo, m, rfl, by go_num, h1, by omega, by omega, below2 hb hb1⟩
        case measure => simp [RowKit.intOf]; omega
    · have e1 : lo = p := by omega
      have e2 : hi = p := by omega
      subst e1 e2
      clear hlt h1 h2
      by_cases hpn : hi < n
      · obtain ⟨e, he⟩ := HG.out hi hpn
        obtain ⟨b, rfl, c0, c1, c2⟩ := HL.out hi e he
        have q1 := (hb.cell (p := ⟨b, hi * 2, none⟩) c0).trans c1
        have q2 := (hb.cell (p := ⟨b, hi * 2 + 1, none⟩) c0).trans c2
        have HR : Hid (R = decide (cmpS e.key key = 0)) := HH.out.1 e he
        have hc := fun w => cmpfn_any e.key e.n key w
        clear c1 c2 he
        generalize cmpS e.key key = ck at *
        generalize e.key = ek at *
        generalize e.n = en at *
        go_wp2_with ((try go_at_call 57); refine (hc _).mono ?_; rintro e w1 ⟨rfl, hb1⟩)
        all_goals
          go_ret2
          exact ⟨by rw [HR.out]; rfl, below2 hb hb1⟩
      · have HR : Hid (R = false) := HH.out.2 hpn
        go_wp2
        all_goals
          go_ret2
          exact ⟨by rw [HR.out]; rfl, hb⟩

end Go.Proofs.Ytkfoddblgdmabaa.tr
