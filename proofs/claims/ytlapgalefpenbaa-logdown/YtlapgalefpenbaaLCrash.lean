/- What a crash leaves of a log. -/
import Derived.Test.YtlapgalefpenbaaLMath
namespace Go.Proofs.Ytlapgalefpenbaa
open Go.RowKit

/-- Where a state stands. -/
structure PS where
  slot : Nat
  area : Nat
  used : Nat
  T : List ByteArray

/-- Which slot counts. -/
def mark (f : Nat → ByteArray) : Option UInt8 := (f 0).data.toList.head?

/-- Sectors that have a state. -/
structure Holds (A : Nat) (f : Nat → ByteArray) (P : PS) : Prop where
  slot : P.slot = 1 ∨ P.slot = 2
  area : P.area ≤ 1
  used : P.used = secsL P.T
  room : P.used ≤ A
  ne : P.T ≠ []
  says : f P.slot = sec (enc P.area ++ enc P.used)
  txt : ∀ i p, (allp P.T)[i]? = some p → f (3 + P.area * A + i) = psec p

/-- The sectors of a state, and the mark. -/
def Prot (A : Nat) (P : PS) (j : Nat) : Prop := j = 0 ∨ j = P.slot ∨ (3 + P.area * A ≤ j ∧ j < 3 + P.area * A + P.used)

theorem Holds.same {A : Nat} {f f' : Nat → ByteArray} {P : PS} (h : Holds A f P) (hf : ∀ j, Prot A P j → j ≠ 0 → f' j = f j) : Holds A f' P := by
  obtain ⟨h1, h2, h3, h4, h5, h6, h7⟩ := h
  refine ⟨h1, h2, h3, h4, h5, (hf _ (Or.inr (Or.inl rfl)) (by omega)).trans h6, fun i p hp => ?_⟩
  have hi : i < P.used := by
    have := (List.getElem?_eq_some_iff.1 hp).1
    rw [allp_secs] at this
    omega
  exact (hf _ (Or.inr (Or.inr ⟨by omega, by omega⟩)) (by omega)).trans (h7 i p hp)

structure Wild (A : Nat) (D : DS) (P : PS) : Prop where
  safe : Holds A D.safe P
  mark : mark D.safe = some (UInt8.ofNat P.slot)
  off : ∀ p ∈ D.held, ¬ Prot A P p.1

structure Solid (A : Nat) (D : DS) (P : PS) : Prop where
  held : D.held = []
  safe : Holds A D.safe P
  mark : mark D.safe = some (UInt8.ofNat P.slot)

structure Turn (A : Nat) (D : DS) (P Q : PS) : Prop where
  held : D.held = [(0, sec (enc P.slot))]
  new : Holds A D.safe P
  old : Holds A D.safe Q
  mark : mark D.safe = some (UInt8.ofNat Q.slot)

section
variable {A b : Nat} {D : DS} {P Q : PS}

theorem Solid.wild (h : Solid A D P) : Wild A D P := ⟨h.safe, h.mark, by rw [h.held]; intro p hp; cases hp⟩

theorem off_of {l : List (Nat × ByteArray)} {k j : Nat} (h : ∀ p ∈ l, p.1 ≠ j) : Off l k j := fun _ p _ hp => h p (List.mem_of_getElem? hp)

theorem Wild.offAt (h : Wild A D P) (j : Nat) (hj : Prot A P j) (k : Nat) : Off D.held k j := off_of fun p hp e => h.off p hp (by rw [e]; exact hj)

theorem Wild.crashed (h : Wild A D P) (L : List Int) : Solid A (D.crashed L) P := by
  refine ⟨rfl, h.safe.same fun j hj _ => crN_off _ _ _ _ _ (h.offAt j hj _), ?_⟩
  have : (D.crashed L).safe 0 = D.safe 0 := crN_off _ _ _ _ _ (h.offAt 0 (Or.inl rfl) _)
  unfold Go.Proofs.Ytlapgalefpenbaa.mark
  rw [this]
  exact h.mark

theorem Wild.flushed (h : Wild A D P) : Solid A D.flushed P := by
  refine ⟨rfl, h.safe.same fun j hj _ => flN_off _ _ _ _ (h.offAt j hj _), ?_⟩
  have : D.flushed.safe 0 = D.safe 0 := flN_off _ _ _ _ (h.offAt 0 (Or.inl rfl) _)
  unfold Go.Proofs.Ytlapgalefpenbaa.mark
  rw [this]
  exact h.mark

theorem Wild.wrote (h : Wild A D P) (i : Nat) (s : ByteArray) (hi : ¬ Prot A P i) : Wild A (D.wrote i s) P := by
  refine ⟨h.safe, h.mark, fun p hp => ?_⟩
  rcases List.mem_append.1 (show p ∈ D.held ++ [(i, s)] from hp) with q | q
  · exact h.off p q
  · simp at q
    subst q
    exact hi

theorem Wild.broken (h : Wild A D P) : Wild A { D with next := 0 } P := ⟨h.safe, h.mark, h.off⟩

/-- Operations beside a state leave it. -/
theorem Wild.run (h : Wild A D P) (l : List DOp) (hl : ∀ p : Nat × ByteArray, some p ∈ l → ¬ Prot A P p.1) : Wild A (drun D l).2 P := by
  induction l generalizing D with
  | nil => exact h
  | cons o l ih =>
    have hs : Wild A (dstep D o).2 P := by
      cases o with
      | none =>
        rw [dstep_none]
        split
        · exact h
        · exact h.flushed.wild
      | some p =>
        rw [dstep_some]
        split
        · exact h
        · split
          · exact h.broken
          · exact h.wrote _ _ (hl p (List.mem_cons_self ..))
    show Wild A (dthen (dstep D o) (drun · l)).2 P
    cases he : (dstep D o).1 with
    | none => rw [dthen_ok _ he]; exact ih hs (fun p hp => hl p (List.mem_cons_of_mem _ hp))
    | some e => rw [dthen_no _ he]; exact hs

theorem enc_small (n : Nat) (h : n < 128) : enc n = [UInt8.ofNat n] := encF_small 9 n h

theorem head_sec (n : Nat) (h : n < 128) : (sec (enc n)).data.toList.head? = some (UInt8.ofNat n) := by
  rw [sec_list, enc_small n h]
  rfl

theorem head_tear (n : Nat) (s old : ByteArray) (h1 : s.size = 512) : (tear n s old).data.toList.head? = s.data.toList.head? ∨ (tear n s old).data.toList.head? = old.data.toList.head? := by
  cases n with
  | zero =>
    right
    unfold tear
    rw [ByteArray.data_append, Array.toList_append, ByteArray.data_extract, ByteArray.data_extract]
    have hl : old.data.toList.length = old.size := by simp
    simp only [Array.extract_zero, Array.toList_extract, List.extract, List.drop_zero, Nat.sub_zero, ← hl, List.take_length, List.nil_append]
  | succ n =>
    left
    have hl : s.data.toList.length = 512 := by simpa using h1
    unfold tear
    rw [ByteArray.data_append, Array.toList_append, ByteArray.data_extract, Array.toList_extract]
    cases hs : s.data.toList with
    | nil => rw [hs] at hl; simp at hl
    | cons x l => simp [List.extract]

theorem slot_lt (h : Holds A D.safe P) : P.slot < 128 := by rcases h.slot with e | e <;> omega

theorem Turn.crashed (h : Turn A D P Q) (L : List Int) : Solid A (D.crashed L) P ∨ Solid A (D.crashed L) Q := by
  have hp := slot_lt h.new
  have hoff : ∀ j, j ≠ 0 → (D.crashed L).safe j = D.safe j := fun j hj => crN_off _ _ _ _ _ (off_of (by
    rw [h.held]
    intro p hp e
    simp at hp
    subst hp
    exact hj e.symm))
  have hN : Holds A (D.crashed L).safe P := h.new.same fun j _ h0 => hoff j h0
  have hO : Holds A (D.crashed L).safe Q := h.old.same fun j _ h0 => hoff j h0
  have h0 : (D.crashed L).safe = crN D.safe [(0, sec (enc P.slot))] L 1 := by
    show crN D.safe D.held L D.held.length = _
    rw [h.held]
    rfl
  cases hx : L[0]? with
  | none =>
    right
    refine ⟨rfl, hO, ?_⟩
    rw [h0, crN_none _ _ _ _ hx]
    exact h.mark
  | some x =>
    have h1 : (D.crashed L).safe 0 = tear (kept x) (sec (enc P.slot)) (D.safe 0) := by
      rw [h0, crN_some _ _ _ _ _ _ rfl hx]
      unfold upd
      rw [if_pos rfl]
      rfl
    rcases head_tear (kept x) (sec (enc P.slot)) (D.safe 0) (sec_size _ (by have := (enc_len P.slot).2; omega)) with e | e
    · left
      refine ⟨rfl, hN, ?_⟩
      unfold Go.Proofs.Ytlapgalefpenbaa.mark
      rw [h1, e, head_sec _ hp]
    · right
      refine ⟨rfl, hO, ?_⟩
      unfold Go.Proofs.Ytlapgalefpenbaa.mark
      rw [h1, e]
      exact h.mark

theorem Turn.flushed (h : Turn A D P Q) : Solid A D.flushed P := by
  have h0 : D.flushed.safe = upd D.safe 0 (sec (enc P.slot)) := by
    show flN D.safe D.held D.held.length = _
    rw [h.held]
    rfl
  refine ⟨rfl, h.new.same fun j _ hj => ?_, ?_⟩
  · rw [h0]; unfold upd; rw [if_neg hj]
  · unfold Go.Proofs.Ytlapgalefpenbaa.mark
    rw [h0]
    unfold upd
    rw [if_pos rfl]
    exact head_sec _ (slot_lt h.new)

theorem Solid.turn (h : Solid A D P) {P' : PS} (hn : Holds A D.safe P') : Turn A (D.wrote 0 (sec (enc P'.slot))) P' P :=
  ⟨by show D.held ++ [(0, _)] = _; rw [h.held]; rfl, hn, h.safe, h.mark⟩

/-- A log that is fit: its state is safe, or hangs on the turn of the mark. -/
def Fit (A : Nat) (D : DS) (P : PS) (S : List ByteArray → Prop) : Prop := Solid A D P ∨ ∃ Q, S Q.T ∧ Turn A D P Q

theorem Fit.crashed {S : List ByteArray → Prop} (h : Fit A D P S) (L : List Int) : ∃ R, Solid A (D.crashed L) R ∧ (R.T = P.T ∨ S R.T) := by
  rcases h with h | ⟨Q, hS, h⟩
  · exact ⟨P, h.wild.crashed L, Or.inl rfl⟩
  · rcases h.crashed L with r | r
    · exact ⟨P, r, Or.inl rfl⟩
    · exact ⟨Q, r, Or.inr hS⟩
theorem Fit.flushed {S : List ByteArray → Prop} (h : Fit A D P S) : Solid A D.flushed P := by
  rcases h with h | ⟨Q, _, h⟩
  · exact h.wild.flushed
  · exact h.flushed
theorem Fit.mono {S S' : List ByteArray → Prop} (h : Fit A D P S) (hs : ∀ T, S T → S' T) : Fit A D P S' := h.imp id fun ⟨Q, a, b⟩ => ⟨Q, hs _ a, b⟩

/-- What is read of a log that is fit. -/
theorem Fit.seen {S : List ByteArray → Prop} (h : Fit A D P S) (hi : Inv b D) : Holds A D.seen P ∧ Go.Proofs.Ytlapgalefpenbaa.mark D.seen = some (UInt8.ofNat P.slot) := by
  have h1 := h.flushed
  have h2 : D.flushed.safe = D.seen := hi.seen
  rw [← h2]
  exact ⟨h1.safe, h1.mark⟩
end

/-- Writes, one behind the other. -/
def putAll (f : Nat → ByteArray) (ws : List (Nat × ByteArray)) : Nat → ByteArray := ws.foldl (fun f p => upd f p.1 p.2) f

theorem run_writes (D : DS) (ws : List (Nat × ByteArray)) (h : (drun D (ws.map some)).1 = none) : (drun D (ws.map some)).2.safe = D.safe ∧ (drun D (ws.map some)).2.seen = putAll D.seen ws ∧ (drun D (ws.map some)).2.held = D.held ++ ws := by
  induction ws generalizing D with
  | nil => exact ⟨rfl, rfl, by simp [drun]⟩
  | cons p ws ih =>
    have hr : drun D ((p :: ws).map some) = dthen (dstep D (some p)) (drun · (ws.map some)) := rfl
    rw [hr] at h ⊢
    cases he : (dstep D (some p)).1 with
    | some e => rw [dthen_no _ he, he] at h; cases h
    | none =>
      rw [dthen_ok _ he] at h ⊢
      have hw : (dstep D (some p)).2 = D.wrote p.1 p.2 := by
        rw [dstep_some] at he ⊢
        split at he
        · cases he
        · split at he
          · cases he
          · rename_i a b
            rw [if_neg a, if_neg b]
      obtain ⟨a, b, c⟩ := ih _ h
      rw [hw] at a b c ⊢
      refine ⟨a, b, c.trans ?_⟩
      show (D.held ++ [(p.1, p.2)]) ++ ws = D.held ++ p :: ws
      simp

/-- The writes of a text's pieces. -/
def tws (k : Nat) : List (List UInt8) → List (Nat × ByteArray)
  | [] => []
  | p :: r => (k, psec p) :: tws (k + 1) r

theorem tws_mem (k : Nat) (ps : List (List UInt8)) (q : Nat × ByteArray) (h : q ∈ tws k ps) : k ≤ q.1 ∧ q.1 < k + ps.length ∧ ∃ p ∈ ps, q.2 = psec p := by
  induction ps generalizing k with
  | nil => cases h
  | cons p r ih =>
    rcases List.mem_cons.1 h with rfl | h
    · exact ⟨Nat.le_refl _, by simp, p, List.mem_cons_self .., rfl⟩
    · obtain ⟨a, b, p', c, d⟩ := ih _ h
      exact ⟨by omega, by simp; omega, p', List.mem_cons_of_mem _ c, d⟩
theorem tws_length (k : Nat) (ps : List (List UInt8)) : (tws k ps).length = ps.length := by
  induction ps generalizing k with
  | nil => rfl
  | cons p r ih => simp [tws, ih]
theorem tws_snoc (k : Nat) (ps : List (List UInt8)) (p : List UInt8) : tws k (ps ++ [p]) = tws k ps ++ [(k + ps.length, psec p)] := by
  induction ps generalizing k with
  | nil => simp [tws]
  | cons q r ih => simp [tws, ih]; omega
theorem putAll_out (f : Nat → ByteArray) (k : Nat) (ps : List (List UInt8)) (j : Nat) (h : j < k ∨ k + ps.length ≤ j) : putAll f (tws k ps) j = f j := by
  induction ps generalizing k f with
  | nil => rfl
  | cons p r ih =>
    have := ih (upd f k (psec p)) (k + 1) (by simp at h; omega)
    show putAll (upd f k (psec p)) (tws (k + 1) r) j = f j
    rw [this]
    unfold upd
    rw [if_neg (by simp at h; omega)]
theorem putAll_in (f : Nat → ByteArray) (k : Nat) (ps : List (List UInt8)) (i : Nat) (p : List UInt8) (h : ps[i]? = some p) : putAll f (tws k ps) (k + i) = psec p := by
  induction ps generalizing k f i with
  | nil => simp at h
  | cons q r ih =>
    show putAll (upd f k (psec q)) (tws (k + 1) r) (k + i) = psec p
    cases i with
    | zero =>
      simp at h
      subst h
      rw [putAll_out _ _ _ _ (by omega)]
      unfold upd
      rw [if_pos (by omega)]
    | succ i =>
      simp at h
      rw [show k + (i + 1) = k + 1 + i by omega]
      exact ih _ _ _ h

/-- What is done to store a text: ahead of the turn of the mark, and all. -/
def mid (A slot area frm : Nat) (t : ByteArray) : List DOp := (tws (3 + area * A + frm) (pcs t.data.toList) ++ [(slot, sec (enc area ++ enc (frm + secs t)))]).map some ++ [none]
def script (A slot area frm : Nat) (t : ByteArray) : List DOp := none :: (mid A slot area frm t ++ [some (0, sec (enc slot))])

theorem mid_ok (A slot area frm : Nat) (t : ByteArray) (D : DS) (b : Nat) (hi : Inv b D) (hok : okOps D.n (mid A slot area frm t)) (hh : D.held = []) (h : (drun D (mid A slot area frm t)).1 = none) :
    (drun D (mid A slot area frm t)).2.held = [] ∧ (drun D (mid A slot area frm t)).2.safe = upd (putAll D.safe (tws (3 + area * A + frm) (pcs t.data.toList))) slot (sec (enc area ++ enc (frm + secs t))) := by
  have hs0 : D.seen = D.safe := by have := hi.seen; rw [hh] at this; exact this.symm
  have hok1 : okOps D.n ((tws (3 + area * A + frm) (pcs t.data.toList) ++ [(slot, sec (enc area ++ enc (frm + secs t)))]).map some) := fun o ho => hok o (List.mem_append_left _ ho)
  unfold mid at *
  rw [drun_append] at h ⊢
  generalize hws : tws (3 + area * A + frm) (pcs t.data.toList) ++ [(slot, sec (enc area ++ enc (frm + secs t)))] = ws at *
  cases he : (drun D (ws.map some)).1 with
  | some e => rw [dthen_no _ he, he] at h; cases h
  | none =>
    rw [dthen_ok _ he] at h ⊢
    obtain ⟨a, b', c⟩ := run_writes D ws he
    have hi2 := (hi.run _ hok1).1
    have hr : drun (drun D (ws.map some)).2 [none] = dthen (dstep (drun D (ws.map some)).2 none) (drun · []) := rfl
    rw [hr] at h ⊢
    cases hf : (dstep (drun D (ws.map some)).2 none).1 with
    | some e => rw [dthen_no _ hf, hf] at h; cases h
    | none =>
      rw [dthen_ok _ hf]
      rw [dstep_none] at hf ⊢
      split at hf
      · cases hf
      · rename_i hl
        rw [if_neg hl]
        refine ⟨rfl, ?_⟩
        show flN (drun D (ws.map some)).2.safe (drun D (ws.map some)).2.held (drun D (ws.map some)).2.held.length = _
        rw [hi2.seen, b', ← hws, putAll, List.foldl_append, hs0]
        rfl

/-- The new state is there, once all is written. -/
theorem holds_new (A slot area frm : Nat) (t : ByteArray) (f : Nat → ByteArray) (kp : List ByteArray) (hs : slot = 1 ∨ slot = 2) (ha : area ≤ 1) (hf : frm = secsL kp) (hr : frm + secs t ≤ A) (hk : ∀ i p, (allp kp)[i]? = some p → f (3 + area * A + i) = psec p) :
    Holds A (upd (putAll f (tws (3 + area * A + frm) (pcs t.data.toList))) slot (sec (enc area ++ enc (frm + secs t)))) ⟨slot, area, frm + secs t, kp ++ [t]⟩ := by
  refine ⟨hs, ha, ?_, hr, by simp, ?_, fun i p hp => ?_⟩
  · show frm + secs t = secsL (kp ++ [t])
    rw [secsL_append, hf]
    rfl
  · show upd _ slot _ slot = _
    unfold upd
    rw [if_pos rfl]
  · show upd _ slot _ (3 + area * A + i) = _
    unfold upd
    rw [if_neg (by omega)]
    replace hp : (allp (kp ++ [t]))[i]? = some p := hp
    rw [allp_append] at hp
    have hl : (allp kp).length = frm := by rw [allp_secs, hf]
    by_cases hlt : i < frm
    · rw [List.getElem?_append_left (by omega)] at hp
      rw [putAll_out _ _ _ _ (Or.inl (by omega))]
      exact hk i p hp
    · rw [List.getElem?_append_right (by omega), hl] at hp
      have e : allp [t] = pcs t.data.toList := by simp [allp]
      rw [e] at hp
      have := putAll_in f (3 + area * A + frm) _ _ _ hp
      rw [show 3 + area * A + frm + (i - frm) = 3 + area * A + i by omega] at this
      exact this

theorem mid_okOps (A slot area frm : Nat) (t : ByteArray) (n : Nat) (hs : slot = 1 ∨ slot = 2) (ha : area ≤ 1) (hr : frm + secs t ≤ A) (hn : 2 * A + 4 ≤ n) : okOps n (mid A slot area frm t) := by
  intro o ho p hp
  subst hp
  unfold mid at ho
  have hA : area * A ≤ A := by
    calc area * A ≤ 1 * A := Nat.mul_le_mul_right _ ha
      _ = A := Nat.one_mul _
  simp only [List.map_append, List.mem_append, List.mem_map, List.map_cons, List.map_nil, List.mem_singleton] at ho
  rcases ho with (⟨q, hq, e⟩ | e) | e
  · cases e
    obtain ⟨h1, h2, x, hx, h3⟩ := tws_mem _ _ _ hq
    rw [pcs_secs] at h2
    exact ⟨by omega, by rw [h3]; exact psec_size x (pcs_len _ x hx)⟩
  · cases e
    refine ⟨by show slot < n; omega, sec_size _ ?_⟩
    rw [List.length_append]
    have := (enc_len area).2
    have := (enc_len (frm + secs t)).2
    omega
  · cases e

theorem mid_off (A slot area frm : Nat) (t : ByteArray) (P : PS) (hs : slot = 1 ∨ slot = 2) (hne : slot ≠ P.slot) (hP : P.slot = 1 ∨ P.slot = 2) (hap : P.area ≤ 1) (hap2 : P.used ≤ A) (ha : area ≤ 1) (hr : frm + secs t ≤ A) (hd : (area = P.area ∧ frm = P.used) ∨ (area = 1 - P.area)) :
    ∀ p : Nat × ByteArray, some p ∈ mid A slot area frm t → ¬ Prot A P p.1 := by
  intro p hp
  unfold mid at hp
  simp only [List.map_append, List.mem_append, List.mem_map, List.map_cons, List.map_nil, List.mem_singleton] at hp
  rcases hp with (⟨q, hq, e⟩ | e) | e
  · cases e
    obtain ⟨h1, h2, _⟩ := tws_mem _ _ _ hq
    rw [pcs_secs] at h2
    rintro (r | r | ⟨r1, r2⟩)
    · omega
    · omega
    · rcases hd with ⟨d1, d2⟩ | d1
      · subst d1; omega
      · have : P.area = 0 ∨ P.area = 1 := by omega
        rcases this with z | z
        · rw [z] at d1 r1 r2; simp at d1; subst d1; omega
        · rw [z] at d1 r1 r2; simp at d1; subst d1; omega
  · cases e
    rintro (r | r | ⟨r1, _⟩)
    · replace r : slot = 0 := r; omega
    · exact hne r
    · replace r1 : 3 + P.area * A ≤ slot := r1; omega
  · cases e

/-- Storing a text: done, or cut off. -/
theorem store_math {A b : Nat} {D : DS} {P : PS} {S : List ByteArray → Prop} (hi : Inv b D) (hfit : Fit A D P S) (hn : 2 * A + 4 ≤ D.n) (area frm : Nat) (t : ByteArray) (kp : List ByteArray) (hr : frm + secs t ≤ A)
    (hd : (area = P.area ∧ frm = P.used ∧ kp = P.T) ∨ (area = 1 - P.area ∧ frm = 0 ∧ kp = [])) :
    ((drun D (script A (P.slot % 2 + 1) area frm t)).1 = none → Turn A (drun D (script A (P.slot % 2 + 1) area frm t)).2 ⟨P.slot % 2 + 1, area, frm + secs t, kp ++ [t]⟩ P) ∧
    (∀ e, (drun D (script A (P.slot % 2 + 1) area frm t)).1 = some e → ∀ L, ∃ R, Solid A ((drun D (script A (P.slot % 2 + 1) area frm t)).2.crashed L) R ∧ (R.T = P.T ∨ S R.T)) := by
  have hP : Holds A D.seen P := (hfit.seen hi).1
  have hps := hP.slot
  have hs : P.slot % 2 + 1 = 1 ∨ P.slot % 2 + 1 = 2 := by omega
  have hne : P.slot % 2 + 1 ≠ P.slot := by omega
  have hpa := hP.area
  have ha : area ≤ 1 := by rcases hd with ⟨h, _⟩ | ⟨h, _⟩ <;> omega
  have hd2 : (area = P.area ∧ frm = P.used) ∨ (area = 1 - P.area) := by
    rcases hd with ⟨h, h', _⟩ | ⟨h, _⟩
    · exact Or.inl ⟨h, h'⟩
    · exact Or.inr h
  generalize hsl : P.slot % 2 + 1 = slot at *
  have hr1 : drun D (script A slot area frm t) = dthen (dstep D none) (drun · (mid A slot area frm t ++ [some (0, sec (enc slot))])) := rfl
  rw [hr1]
  cases he : (dstep D none).1 with
  | some e =>
    rw [dthen_no _ he]
    refine ⟨fun h => (by rw [he] at h; cases h), fun e' _ L => ?_⟩
    have : (dstep D none).2 = D := by
      rw [dstep_none] at he ⊢
      split at he
      · rename_i h; rw [if_pos h]
      · cases he
    rw [this]
    exact hfit.crashed L
  | none =>
    rw [dthen_ok _ he]
    have hD1 : (dstep D none).2 = D.flushed := by
      rw [dstep_none] at he ⊢
      split at he
      · cases he
      · rename_i h; rw [if_neg h]
    rw [hD1]
    have sol := hfit.flushed
    have hi1 := hi.flushed
    have hok := mid_okOps A slot area frm t D.n hs ha hr hn
    have hw := sol.wild.run _ (mid_off A slot area frm t P hs hne hps hpa hP.room ha hr hd2)
    rw [drun_append]
    cases hm : (drun D.flushed (mid A slot area frm t)).1 with
    | some e =>
      rw [dthen_no _ hm]
      exact ⟨fun h => (by rw [hm] at h; cases h), fun e' _ L => ⟨P, hw.crashed L, Or.inl rfl⟩⟩
    | none =>
      rw [dthen_ok _ hm]
      obtain ⟨m1, m2⟩ := mid_ok A slot area frm t D.flushed (b + 1) hi1 hok rfl hm
      generalize (drun D.flushed (mid A slot area frm t)).2 = D4 at *
      have hr2 : drun D4 [some (0, sec (enc slot))] = dthen (dstep D4 (some (0, sec (enc slot)))) (drun · []) := rfl
      rw [hr2]
      have hnew : Holds A D4.safe ⟨slot, area, frm + secs t, kp ++ [t]⟩ := by
        rw [m2]
        refine holds_new A slot area frm t _ kp hs ha ?_ hr ?_
        · rcases hd with ⟨_, h, h'⟩ | ⟨_, h, h'⟩
          · rw [h, h', hP.used]
          · rw [h, h']; rfl
        · rcases hd with ⟨h1, _, h'⟩ | ⟨_, _, h'⟩
          · rw [h', h1]; exact sol.safe.txt
          · rw [h']; intro i p hp; simp [allp] at hp
      have sol4 : Solid A D4 P := ⟨m1, hw.safe, hw.mark⟩
      cases hk : (dstep D4 (some (0, sec (enc slot)))).1 with
      | some e =>
        rw [dthen_no _ hk]
        refine ⟨fun h => (by rw [hk] at h; cases h), fun e' _ L => ⟨P, ?_, Or.inl rfl⟩⟩
        rw [dstep_some] at hk ⊢
        split at hk
        · rename_i h; rw [if_pos h]; exact hw.crashed L
        · rename_i h
          rw [if_neg h]
          split at hk
          · rename_i h'; rw [if_pos h']; exact hw.broken.crashed L
          · cases hk
      | none =>
        rw [dthen_ok _ hk]
        refine ⟨fun _ => ?_, fun e' h => (by cases h)⟩
        have : (dstep D4 (some (0, sec (enc slot)))).2 = D4.wrote 0 (sec (enc slot)) := by
          rw [dstep_some] at hk ⊢
          split at hk
          · cases hk
          · rename_i h
            rw [if_neg h]
            split at hk
            · cases hk
            · rename_i h'; rw [if_neg h']
        show Turn A (dstep D4 (some (0, sec (enc slot)))).2 _ P
        rw [this]
        exact sol4.turn hnew

end Go.Proofs.Ytlapgalefpenbaa
