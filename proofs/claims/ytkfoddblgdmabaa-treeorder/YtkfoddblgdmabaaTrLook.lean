/- Layer 10, plain mathematics: what a list of entries has behind Put and Delete; the law's keys, one behind the other. -/
import Derived.Test.YtkfoddblgdmabaaTrTPut
namespace Go.Proofs.Ytkfoddblgdmabaa.tr
open Go.RowKit

theorem mem_put {L : List Ent} (hs : Srt L) (key : ByteArray) (z : Int) (e : Ent) : e ∈ putL key z L ↔ e = ⟨key, z⟩ ∨ (e.key ≠ key ∧ e ∈ L) := by
  rcases cut_key key L hs with ⟨A, B, rfl, hA, hB⟩ | ⟨A, x, B, rfl, rfl, hA, hB⟩
  · rw [putL_new hA hB]
    simp only [List.mem_append, List.mem_cons]
    constructor
    · rintro (h | h | h)
      · exact Or.inr ⟨ltS_ne (hA e h), Or.inl h⟩
      · exact Or.inl h
      · exact Or.inr ⟨(ltS_ne (hB e h)).symm, Or.inr h⟩
    · rintro (h | ⟨_, h | h⟩)
      · exact Or.inr (Or.inl h)
      · exact Or.inl h
      · exact Or.inr (Or.inr h)
  · rw [putL_old hA]
    simp only [List.mem_append, List.mem_cons]
    constructor
    · rintro (h | h | h)
      · exact Or.inr ⟨ltS_ne (hA e h), Or.inl h⟩
      · exact Or.inl h
      · exact Or.inr ⟨(ltS_ne (hB e h)).symm, Or.inr (Or.inr h)⟩
    · rintro (h | ⟨h0, h | h | h⟩)
      · exact Or.inr (Or.inl h)
      · exact Or.inl h
      · exact absurd (by rw [h]) h0
      · exact Or.inr (Or.inr h)
theorem mem_del {L : List Ent} (hs : Srt L) (key : ByteArray) (e : Ent) : e ∈ delL key L ↔ e.key ≠ key ∧ e ∈ L := by
  rcases cut_key key L hs with ⟨A, B, rfl, hA, hB⟩ | ⟨A, x, B, rfl, rfl, hA, hB⟩
  · rw [delL_new hA hB]
    simp only [List.mem_append]
    constructor
    · rintro (h | h)
      · exact ⟨ltS_ne (hA e h), Or.inl h⟩
      · exact ⟨(ltS_ne (hB e h)).symm, Or.inr h⟩
    · exact fun h => h.2
  · rw [delL_old hA]
    simp only [List.mem_append, List.mem_cons]
    constructor
    · rintro (h | h)
      · exact ⟨ltS_ne (hA e h), Or.inl h⟩
      · exact ⟨(ltS_ne (hB e h)).symm, Or.inr (Or.inr h)⟩
    · rintro ⟨h0, h | h | h⟩
      · exact Or.inl h
      · exact absurd (by rw [h]) h0
      · exact Or.inr h
theorem srt_ext : ∀ {A B : List Ent}, Srt A → Srt B → (∀ e, e ∈ A ↔ e ∈ B) → A = B
  | [], [], _, _, _ => rfl
  | [], b :: B, _, _, h => absurd ((h b).2 (by simp)) (by simp)
  | a :: A, [], _, _, h => absurd ((h a).1 (by simp)) (by simp)
  | a :: A, b :: B, hA, hB, h => by
    obtain ⟨a1, a2⟩ := Srt.cons.1 hA
    obtain ⟨b1, b2⟩ := Srt.cons.1 hB
    have hab : a = b := by
      rcases List.mem_cons.1 ((h a).1 (by simp)) with e | e
      · exact e
      · rcases List.mem_cons.1 ((h b).2 (by simp)) with g | g
        · exact g.symm
        · have h1 := b1 a e
          rw [ltS_asymm (a1 b g)] at h1
          cases h1
    subst hab
    rw [srt_ext a2 b2 (fun e => ⟨fun q => ?_, fun q => ?_⟩)]
    · rcases List.mem_cons.1 ((h e).1 (List.mem_cons_of_mem _ q)) with g | g
      · have := a1 e q
        rw [g, ltS_irrefl] at this
        cases this
      · exact g
    · rcases List.mem_cons.1 ((h e).2 (List.mem_cons_of_mem _ q)) with g | g
      · have := b1 e q
        rw [g, ltS_irrefl] at this
        cases this
      · exact g
theorem has_mem {L : List Ent} (hs : Srt L) {key : ByteArray} (h : hasL key L = true) : (⟨key, getL key L⟩ : Ent) ∈ L := by
  rcases cut_key key L hs with ⟨A, B, rfl, hA, hB⟩ | ⟨A, x, B, rfl, rfl, hA, hB⟩
  · rw [hasL_new hA hB] at h; cases h
  · rw [getL_old hA]; simp
theorem has_not {L : List Ent} (hs : Srt L) {key : ByteArray} (h : hasL key L = false) (n : Int) : (⟨key, n⟩ : Ent) ∉ L := fun q => by
  have := (getL_mem hs q).2
  simp only at this
  rw [h] at this
  cases this
theorem put_got {L : List Ent} (hs : Srt L) (key : ByteArray) (z : Int) : getL key (putL key z L) = z ∧ hasL key (putL key z L) = true :=
  getL_mem (hs.put key z) ((mem_put hs key z ⟨key, z⟩).2 (Or.inl rfl))

/-- The key with a number; the first keys. -/
def kf (j : Nat) : ByteArray := ⟨#[UInt8.ofNat (j / 64), UInt8.ofNat (j % 64)]⟩
def fl (k : Nat) : List Ent := (List.range k).map (fun j => ⟨kf j, j⟩)
theorem of_lt {a b : Nat} (h : a < b) (hb : b < 256) : UInt8.ofNat a < UInt8.ofNat b := by
  rw [UInt8.lt_iff_toNat_lt, UInt8.toNat_ofNat', UInt8.toNat_ofNat']
  omega
theorem kf_lt {i j : Nat} (h : i < j) (hj : j < 4096) : ltS (kf i) (kf j) = true := by
  unfold ltS kf
  rw [ByteArray.toList_eq, ByteArray.toList_eq]
  simp only [Op.bytesLess, Bool.or_eq_true, decide_eq_true_eq, Bool.and_eq_true, beq_iff_eq, Bool.or_false, Bool.and_false]
  by_cases q : i / 64 < j / 64
  · exact Or.inl (of_lt q (by omega))
  · have e : i / 64 = j / 64 := by omega
    rw [e]
    refine Or.inr ⟨rfl, ?_⟩
    have := of_lt (a := i % 64) (b := j % 64) (by omega) (by omega)
    simpa using this
theorem fl_len (k : Nat) : (fl k).length = k := by simp [fl]
theorem fl_succ (k : Nat) : fl (k + 1) = fl k ++ [⟨kf k, k⟩] := by simp [fl, List.range_succ]
theorem fl_lo {k j : Nat} (h : k ≤ j) (hj : j < 4096) : Lo (fl k) (kf j) := fun e he => by
  unfold fl at he
  obtain ⟨i, hi, rfl⟩ := List.mem_map.1 he
  rw [List.mem_range] at hi
  exact kf_lt (by omega) hj
theorem fl_srt : ∀ {k : Nat}, k ≤ 4096 → Srt (fl k)
  | 0, _ => List.Pairwise.nil
  | k + 1, h => by
    rw [fl_succ]
    exact Srt.mk3 (fl_srt (by omega)) List.Pairwise.nil (fl_lo (Nat.le_refl k) (by omega)) (Hi.nil _)
theorem fl_put {k : Nat} (h : k < 4096) : putT (kf k) k (fl k) = (true, 0, fl (k + 1)) := by
  have h1 : hasL (kf k) (fl k ++ []) = false := hasL_new (fl_lo (Nat.le_refl k) h) (Hi.nil _)
  have h2 := putL_new (n := (k : Int)) (fl_lo (Nat.le_refl k) h) (Hi.nil (kf k))
  rw [List.append_nil] at h1 h2
  unfold putT
  rw [if_neg (by show ¬ 4096 < 2; decide), h1, if_neg (by decide), h2, fl_len, if_neg (by omega), fl_succ]
def kM : ByteArray := ⟨#[109, 111, 114, 101]⟩
theorem kM_lo : Lo (fl 4096) kM := fun e he => by
  unfold fl at he
  obtain ⟨i, hi, rfl⟩ := List.mem_map.1 he
  rw [List.mem_range] at hi
  show ltS (kf i) kM = true
  unfold ltS kf kM
  rw [ByteArray.toList_eq, ByteArray.toList_eq]
  simp only [Op.bytesLess, Bool.or_eq_true, decide_eq_true_eq]
  left
  have := of_lt (a := i / 64) (b := 109) (by omega) (by omega)
  exact this
theorem fl_more (n : Int) : putT kM n (fl 4096) = (false, 3, fl 4096) := by
  have h1 : hasL kM (fl 4096 ++ []) = false := hasL_new kM_lo (Hi.nil _)
  rw [List.append_nil] at h1
  unfold putT
  rw [if_neg (by show ¬ 4096 < 4; decide), h1, fl_len]
  rfl
theorem fl_mem {k : Nat} (h : k < 4096) : (⟨kf k, k⟩ : Ent) ∈ fl 4096 := by
  unfold fl
  exact List.mem_map.2 ⟨k, List.mem_range.2 h, rfl⟩
theorem fl_again (n : Int) : ∃ L, putT (kf 5) n (fl 4096) = (false, 0, L) ∧ Srt L ∧ L.length = 4096 ∧ getL (kf 5) L = n ∧ hasL (kf 5) L = true ∧ hasL (kf 6) L = true := by
  have hs := fl_srt (Nat.le_refl 4096)
  have h5 : hasL (kf 5) (fl 4096) = true := (getL_mem hs (fl_mem (k := 5) (by decide))).2
  have hl := putL_len (kf 5) n (fl 4096) hs
  rw [h5, if_pos rfl, fl_len] at hl
  obtain ⟨g1, g2⟩ := put_got hs (kf 5) n
  refine ⟨putL (kf 5) n (fl 4096), ?_, hs.put _ _, hl, g1, g2, ?_⟩
  · unfold putT
    rw [if_neg (by show ¬ 4096 < 2; decide), h5]
    rfl
  · refine (getL_mem (e := ⟨kf 6, 6⟩) (hs.put _ _) ((mem_put hs _ _ _).2 (Or.inr ⟨?_, fl_mem (k := 6) (by decide)⟩))).2
    exact (ltS_ne (kf_lt (i := 5) (j := 6) (by decide) (by decide))).symm

end Go.Proofs.Ytkfoddblgdmabaa.tr
