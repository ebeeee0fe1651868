/- A log on a device whose power lasts: its calls, one behind the other. -/
import Derived.Test.YtlapgalefpenbaaLFormat
namespace Go.Proofs.Ytlapgalefpenbaa
open Go.RowKit

/-- Blocks that stand beside. -/
def Aside2 (w : World) (F X : Nat → Prop) : Prop := ∀ k, X k → k < w.heap.size ∧ ¬ F k

/-- A log, its state told, beside all that was there. -/
def Lw (W w : World) (lb g gs n b : Nat) (base : ByteArray) (recs : List ByteArray) (Q : List ByteArray → Prop) (X : Nat → Prop) : Prop :=
  ∃ hv rv D S, Lg W.heap.size w lb g gs hv rv D S ∧ Below W.heap.size W w ∧ S.base = base ∧ S.recs = recs ∧ S.unfit = false ∧ Inv b D ∧ Calm D ∧ D.n = n ∧ 8 ≤ n ∧ Fit (areaN n) D ⟨S.slot, S.area, S.used, base :: recs⟩ Q ∧ Aside2 w (footL lb g gs hv rv) X

/-- A device that has a log. -/
def Dw (W w : World) (g gs n b : Nat) (Ts : List ByteArray → Prop) (X : Nat → Prop) : Prop :=
  ∃ hv D P, Dev W.heap.size w g gs hv D ∧ Below W.heap.size W w ∧ Inv b D ∧ Calm D ∧ D.n = n ∧ 8 ≤ n ∧ Holds (areaN n) D.seen P ∧ mark D.seen = some (UInt8.ofNat P.slot) ∧ Ts P.T ∧ Aside2 w (foot g gs hv) X

/-- What stands beside is as it was. -/
def Kept (X : Nat → Prop) (w w' : World) : Prop := w.heap.size ≤ w'.heap.size ∧ ∀ k, X k → w'.heap[k]? = w.heap[k]?

section
variable {W w w' : World} {lb g gs n b : Nat} {base : ByteArray} {recs : List ByteArray} {Q : List ByteArray → Prop} {X : Nat → Prop}

theorem Lw.bel (h : Lw W w lb g gs n b base recs Q X) : Below W.heap.size W w := by
  obtain ⟨hv, rv, D, S, _, h, _⟩ := h
  exact h

theorem Aside2.below {F : Nat → Prop} (h : Aside2 w F X) (hF : ∀ k, F k → k < w.heap.size) (hb : Below w.heap.size w w') : Aside2 w' F (fun k => X k ∨ (w.heap.size ≤ k ∧ k < w'.heap.size)) := by
  rintro k (x | ⟨x, y⟩)
  · exact ⟨Nat.lt_of_lt_of_le (h k x).1 hb.size, (h k x).2⟩
  · exact ⟨y, fun f => by have := hF k f; omega⟩

/-- What comes new stands beside, too. -/
theorem Lw.below (h : Lw W w lb g gs n b base recs Q X) (hb : Below w.heap.size w w') : Lw W w' lb g gs n b base recs Q (fun k => X k ∨ (w.heap.size ≤ k ∧ k < w'.heap.size)) := by
  obtain ⟨hv, rv, D, S, l, h1, h2, h3, h4, h5, h6, h7, h8, h9, h10⟩ := h
  exact ⟨hv, rv, D, S, l.below hb, below2 h1 hb, h2, h3, h4, h5, h6, h7, h8, h9, h10.below l.lt hb⟩
theorem Lw.less {Y : Nat → Prop} (h : Lw W w lb g gs n b base recs Q X) (hY : ∀ k, Y k → X k) : Lw W w lb g gs n b base recs Q Y := by
  obtain ⟨hv, rv, D, S, l, h1, h2, h3, h4, h5, h6, h7, h8, h9, h10⟩ := h
  exact ⟨hv, rv, D, S, l, h1, h2, h3, h4, h5, h6, h7, h8, h9, fun k y => h10 k (hY k y)⟩
theorem Lw.of {hv rv : Value} {D : DS} {S : LS} (l : Lg W.heap.size w lb g gs hv rv D S) (ha : Aside2 w (footL lb g gs hv rv) X) (hW : Below W.heap.size W w) {D' : DS} {S' : LS} (z : LTo W.heap.size w lb g gs hv rv D' S' w') (h2 : S'.base = base) (h3 : S'.recs = recs) (h4 : S'.unfit = false) (h5 : Inv b D') (h6 : Calm D') (h7 : D'.n = n) (h8 : 8 ≤ n) (h9 : Fit (areaN n) D' ⟨S'.slot, S'.area, S'.used, base :: recs⟩ Q) :
    Lw W w' lb g gs n b base recs Q X ∧ Kept X w w' := by
  obtain ⟨hv', rv', l', f, gr⟩ := z
  refine ⟨⟨hv', rv', D', S', l', ?_, h2, h3, h4, h5, h6, h7, h8, h9, fun k x => ⟨Nat.lt_of_lt_of_le (ha k x).1 f.size, not_footL gr (ha k x).1 (ha k x).2⟩⟩, f.size, fun k x => f.block k (ha k x).1 (ha k x).2⟩
  exact f.below hW hW.size (fun k hk => l.from k hk)

theorem Kept.of_below (h : Below w.heap.size w w') (hX : ∀ k, X k → k < w.heap.size) : Kept X w w' := ⟨h.size, fun k x => h.block k (hX k x)⟩

theorem Fit.facts {A : Nat} {D : DS} {P : PS} (h : Fit A D P Q) (hi : Inv b D) : Holds A D.seen P := (h.seen hi).1

theorem areaN_le {n : Nat} (h8 : 8 ≤ n) : 2 * areaN n + 4 ≤ n := by unfold areaN; omega

theorem script_len (A slot area frm : Nat) (t : ByteArray) : (script A slot area frm t).length = secs t + 4 := by
  unfold script mid
  simp [tws_length, pcs_secs]
theorem script_ok (A slot area frm : Nat) (t : ByteArray) (n : Nat) (hs : slot = 1 ∨ slot = 2) (ha : area ≤ 1) (hr : frm + secs t ≤ A) (hn : 2 * A + 4 ≤ n) : okOps n (script A slot area frm t) := by
  intro o ho p hp
  subst hp
  unfold script at ho
  rcases List.mem_cons.1 ho with e | e
  · cases e
  · rcases List.mem_append.1 e with e | e
    · exact mid_okOps A slot area frm t n hs ha hr hn _ e p rfl
    · simp at e
      subst e
      exact ⟨by show 0 < n; omega, sec_size _ (by have := (enc_len slot).2; omega)⟩

theorem recs_le (base : ByteArray) (recs : List ByteArray) : recs.length + 1 ≤ secsL (base :: recs) := by
  induction recs generalizing base with
  | nil => simp [secsL, secs]
  | cons t r ih =>
    have := ih t
    have h1 : 1 ≤ secs base := by unfold secs; omega
    simp only [secsL, List.length_cons] at *
    omega

/-- Append where there is room. -/
theorem play_append (h : Lw W w lb g gs n b base recs Q X) (t : ByteArray) (hr : secsL (base :: recs) + secs t ≤ areaN n) (hb : b + secs t + 4 ≤ 100000) :
    Calls Try.prog 15 #[.pointer (some ⟨lb, 0, none⟩), .string t] w fun e w' => e = .returned (.int .i64 0) ∧ Lw W w' lb g gs n (b + (secs t + 4)) base (recs ++ [t]) (fun T => T = base :: recs) X ∧ Kept X w w' := by
  obtain ⟨hv, rv, D, S, l, h1, rfl, rfl, h4, h5, h6, rfl, h8, h9, h10⟩ := h
  have hP := h9.facts h5
  have hn := h5.n.2
  have hu : S.used = secsL (S.base :: S.recs) := hP.used
  have hA4 := areaN_le h8
  have hrl := recs_le S.base S.recs
  have hps := hP.slot
  simp only at hps
  have ha : S.area ≤ 1 := hP.area
  have hs2 : S.slot % 2 + 1 = 1 ∨ S.slot % 2 + 1 = 2 := by omega
  have m := store_math h5 h9 hA4 S.area S.used t (S.base :: S.recs) (by omega) (Or.inl ⟨rfl, rfl, rfl⟩)
  have hc := h6.run (script (areaN D.n) (S.slot % 2 + 1) S.area S.used t)
  have hiv := h5.run _ (script_ok (areaN D.n) (S.slot % 2 + 1) S.area S.used t D.n hs2 ha (by omega) hA4)
  rw [script_len] at hiv
  have c := append_any l h5 h1.size h4 h8 hn (areaN D.n) rfl t (by omega) (by omega) (by omega) (S.slot % 2 + 1) (S.used + secs t) rfl ha rfl _ rfl
  rw [hc.1] at c
  refine c.mono ?_
  rintro e w' ⟨rfl, z⟩
  have r := Lw.of (Q := fun T => T = S.base :: S.recs) l h10 h1 z rfl rfl h4 hiv.1 hc.2 hiv.2 h8 (Or.inr ⟨_, rfl, m.1 hc.1⟩)
  exact ⟨rfl, r.1, r.2⟩

/-- Append without room. -/
theorem play_append_full (h : Lw W w lb g gs n b base recs Q X) (t : ByteArray) (ht : t.size ≤ 1000000000) (hr : areaN n < secsL (base :: recs) + secs t) :
    Calls Try.prog 15 #[.pointer (some ⟨lb, 0, none⟩), .string t] w fun e w' => e = .returned (.int .i64 50) ∧ Below w.heap.size w w' := by
  obtain ⟨hv, rv, D, S, l, h1, rfl, rfl, h4, h5, h6, rfl, h8, h9, h10⟩ := h
  have hP := h9.facts h5
  have hu : S.used = secsL (S.base :: S.recs) := hP.used
  exact append_full l h4 h8 h5.n.2 (areaN D.n) rfl hP.room t ht (by omega)

/-- Replace where there is room. -/
theorem play_replace (h : Lw W w lb g gs n b base recs Q X) (t : ByteArray) (hr : secs t ≤ areaN n) (hb : b + secs t + 4 ≤ 100000) :
    Calls Try.prog 18 #[.pointer (some ⟨lb, 0, none⟩), .string t] w fun e w' => e = .returned (.int .i64 0) ∧ Lw W w' lb g gs n (b + (secs t + 4)) t [] (fun T => T = base :: recs) X ∧ Kept X w w' := by
  obtain ⟨hv, rv, D, S, l, h1, rfl, rfl, h4, h5, h6, rfl, h8, h9, h10⟩ := h
  have hP := h9.facts h5
  have hn := h5.n.2
  have hA4 := areaN_le h8
  have hps := hP.slot
  simp only at hps
  have ha : S.area ≤ 1 := hP.area
  have hs2 : S.slot % 2 + 1 = 1 ∨ S.slot % 2 + 1 = 2 := by omega
  have m := store_math h5 h9 hA4 (1 - S.area) 0 t [] (by omega) (Or.inr ⟨rfl, rfl, rfl⟩)
  have hc := h6.run (script (areaN D.n) (S.slot % 2 + 1) (1 - S.area) 0 t)
  have hiv := h5.run _ (script_ok (areaN D.n) (S.slot % 2 + 1) (1 - S.area) 0 t D.n hs2 (by omega) (by omega) hA4)
  rw [script_len] at hiv
  have c := replace_any l h5 h1.size h4 h8 hn (areaN D.n) rfl t hr (by omega) (S.slot % 2 + 1) (1 - S.area) (0 + secs t) rfl ha rfl (by omega) _ rfl
  rw [hc.1] at c
  refine c.mono ?_
  rintro e w' ⟨rfl, z⟩
  have r := Lw.of (Q := fun T => T = S.base :: S.recs) l h10 h1 z rfl rfl h4 hiv.1 hc.2 hiv.2 h8 (Or.inr ⟨_, rfl, m.1 hc.1⟩)
  exact ⟨rfl, r.1, r.2⟩

theorem play_replace_full (h : Lw W w lb g gs n b base recs Q X) (t : ByteArray) (ht : t.size ≤ 1000000000) (hr : areaN n < secs t) :
    Calls Try.prog 18 #[.pointer (some ⟨lb, 0, none⟩), .string t] w fun e w' => e = .returned (.int .i64 50) ∧ Below w.heap.size w w' := by
  obtain ⟨hv, rv, D, S, l, h1, rfl, rfl, h4, h5, h6, rfl, h8, h9, h10⟩ := h
  exact replace_full l h4 h8 h5.n.2 (areaN D.n) rfl t ht hr

theorem play_flush (h : Lw W w lb g gs n b base recs Q X) (hb : b ≤ 100000) :
    Calls Try.prog 17 #[.pointer (some ⟨lb, 0, none⟩)] w fun e w' => e = .returned (.int .i64 0) ∧ Lw W w' lb g gs n (b + 1) base recs (fun _ => False) X ∧ Kept X w w' := by
  obtain ⟨hv, rv, D, S, l, h1, rfl, rfl, h4, h5, h6, rfl, h8, h9, h10⟩ := h
  have hds : dstep D none = (none, D.flushed) := by rw [dstep_none, if_neg (by have := h6.1; omega)]
  have hc := (h6.st none).2
  have c := lflush_call l h5 hb h4 _ rfl
  rw [hds] at c hc
  refine c.mono ?_
  rintro e w' ⟨rfl, z⟩
  have r := Lw.of (Q := fun _ => False) l h10 h1 z rfl rfl h4 h5.flushed hc rfl h8 (Or.inl h9.flushed)
  exact ⟨rfl, r.1, r.2⟩

theorem play_room (h : Lw W w lb g gs n b base recs Q X) :
    Calls Try.prog 23 #[.pointer (some ⟨lb, 0, none⟩)] w fun e w' => e = .returned (.int .i64 ((areaN n - secsL (base :: recs) : Nat) : Int)) ∧ Below w.heap.size w w' := by
  obtain ⟨hv, rv, D, S, l, h1, rfl, rfl, h4, h5, h6, rfl, h8, h9, h10⟩ := h
  have hP := h9.facts h5
  have hu : S.used = secsL (S.base :: S.recs) := hP.used
  rw [← hu]
  exact room_any l.dev h8 h5.n.2 (areaN D.n) S.used rfl hP.room (lcell l.log).1 (lcell l.log).2.2.2.1

theorem size_of_secs {t : ByteArray} {A : Nat} (h : secs t ≤ A) (hA : A ≤ 4096) : t.size ≤ 1000000000 := by unfold secs at h; omega
theorem secs_mem {t : ByteArray} {T : List ByteArray} (h : t ∈ T) : secs t ≤ secsL T := by
  induction T with
  | nil => cases h
  | cons x T ih =>
    rcases List.mem_cons.1 h with rfl | h
    · simp [secsL]
    · have := ih h; simp [secsL]; omega

/-- How many sectors a log's texts take. -/
theorem Lw.room (h : Lw W w lb g gs n b base recs Q X) : secsL (base :: recs) ≤ areaN n ∧ 8 ≤ n ∧ n ≤ 8192 := by
  obtain ⟨hv, rv, D, S, l, h1, rfl, rfl, h4, h5, h6, rfl, h8, h9, h10⟩ := h
  have hP := h9.facts h5
  exact ⟨by rw [← hP.used]; exact hP.room, h8, h5.n.2⟩

theorem play_base (h : Lw W w lb g gs n b base recs Q X) :
    Calls Try.prog 28 #[.pointer (some ⟨lb, 0, none⟩)] w fun e w' => e = .returned (.string base) ∧ Below w.heap.size w w' := by
  have hr := h.room
  obtain ⟨hv, rv, D, S, l, h1, rfl, rfl, _⟩ := h
  exact base_any (lcell l.log).2.2.2.2.1 (size_of_secs (A := areaN n) (Nat.le_trans (secs_mem (List.mem_cons_self ..)) hr.1) (by unfold areaN; omega))

theorem play_records (h : Lw W w lb g gs n b base recs Q X) :
    Calls Try.prog 27 #[.pointer (some ⟨lb, 0, none⟩)] w fun e w' => ∃ v, e = .returned v ∧ Row w' w.heap.size v recs ∧ Below w.heap.size w w' := by
  have hr := h.room
  obtain ⟨hv, rv, D, S, l, h1, rfl, rfl, _⟩ := h
  have hA : areaN n ≤ 4096 := by unfold areaN; omega
  refine records_any (lcell l.log).2.2.2.2.2.1 l.row ?_ (fun t ht => size_of_secs (A := areaN n) (Nat.le_trans (secs_mem (List.mem_cons_of_mem _ ht)) hr.1) hA)
  have := recs_le S.base S.recs
  omega

/-- A crash of the device: what is opened has the log's state, or one of Q. -/
theorem play_crash (h : Lw W w lb g gs n b base recs Q X) (hb : b ≤ 100000) (L : List Int) (ka : Option Addr) (kc : Nat) (hL : SlI w ka L) (hka : ∀ bl off, ka = some ⟨bl, off, none⟩ → L ≠ [] → bl < W.heap.size ∨ X bl) :
    Calls Try.prog 19 #[.pointer (some ⟨g, 0, none⟩), .slice ka L.length kc] w fun e w' => e = .returned (.tuple #[]) ∧ Dw W w' g gs n b (fun T => T = base :: recs ∨ Q T) X ∧ Kept X w w' := by
  obtain ⟨hv, rv, D, S, l, h1, rfl, rfl, h4, h5, h6, rfl, h8, h9, h10⟩ := h
  have hlen := h5.len
  obtain ⟨R, sol, hR⟩ := h9.crashed L
  have hi := h5.crashed L
  refine (crash_any l.dev L ka kc hL (fun bl off e ne r => ?_) h5.held h5.safe (by omega)).mono ?_
  · rcases hka bl off e ne with q | q
    · have := l.dev.from bl r; omega
    · exact (h10 bl q).2 (Or.inr (Or.inl r))
  · rintro e w' ⟨rfl, d', f⟩
    have hs : (D.crashed L).safe = (D.crashed L).seen := by
      have := hi.seen
      rw [sol.held] at this
      exact this
    refine ⟨rfl, ⟨_, _, R, d', ?_, hi, calm_crashed D L, rfl, h8, ?_, ?_, hR, fun k x => ⟨Nat.lt_of_lt_of_le (h10 k x).1 f.size, ?_⟩⟩, f.size, fun k x => f.block k (h10 k x).1 (fun r => (h10 k x).2 (Or.inr (Or.inl r)))⟩
    · exact f.below h1 h1.size (fun k hk => l.dev.from k hk)
    · rw [← hs]; exact sol.safe
    · rw [← hs]; exact sol.mark
    · rintro (r | r | r)
      · exact (h10 k x).2 (Or.inr (Or.inl (Or.inl r)))
      · exact (h10 k x).2 (Or.inr (Or.inl (Or.inr (Or.inl r))))
      · cases r

/-- The device of a log. -/
theorem Lw.dev (h : Lw W w lb g gs n b base recs Q X) : Dw W w g gs n b (fun T => T = base :: recs) X := by
  obtain ⟨hv, rv, D, S, l, h1, rfl, rfl, h4, h5, h6, rfl, h8, h9, h10⟩ := h
  obtain ⟨a, c⟩ := h9.seen h5
  exact ⟨hv, D, _, l.dev, h1, h5, h6, rfl, h8, a, c, rfl, fun k x => ⟨(h10 k x).1, fun r => (h10 k x).2 (Or.inr (Or.inl r))⟩⟩

/-- Open of a device that has a log. -/
theorem play_open {Ts : List ByteArray → Prop} (h : Dw W w g gs n b Ts X) (hb : b ≤ 100000) :
    Calls Try.prog 20 #[.pointer (some ⟨g, 0, none⟩)] w fun e w' => ∃ lb base recs, e = .returned (.tuple #[.pointer (some ⟨lb, 0, none⟩), .int .i64 0]) ∧ Ts (base :: recs) ∧ Lw W w' lb g gs n (b + 1) base recs (fun _ => False) X ∧ Kept X w w' := by
  obtain ⟨hv, D, P, d, h1, h5, h6, rfl, h8, hP, hm, hT, h10⟩ := h
  have hds : dstep D none = (none, D.flushed) := by rw [dstep_none, if_neg (by have := h6.1; omega)]
  have hc := (h6.st none).2
  rw [hds] at hc
  cases hPT : P.T with
  | nil => exact absurd hPT hP.ne
  | cons t r =>
    rw [hPT] at hT
    refine (open_good d h5 hb h1.size h8 (by have := h6.1; omega) (areaN D.n) rfl P hP hm t r hPT).mono ?_
    rintro e w' ⟨lb, rfl, hlb, hv', rv', l', f, gr⟩
    refine ⟨lb, t, r, rfl, hT, ⟨hv', rv', D.flushed, _, l', ?_, rfl, rfl, rfl, h5.flushed, hc, rfl, h8, Or.inl ⟨rfl, ?_, ?_⟩, fun k x => ⟨Nat.lt_of_lt_of_le (h10 k x).1 f.size, fun r => ?_⟩⟩, f.size, fun k x => f.block k (h10 k x).1 (h10 k x).2⟩
    · exact f.below h1 h1.size (fun k hk => d.from k hk)
    · have : D.flushed.safe = D.seen := h5.seen
      rw [this, ← hPT]
      exact hP
    · have : D.flushed.safe = D.seen := h5.seen
      rw [this]
      exact hm
    · rcases gr k r with q | q
      · exact (h10 k x).2 q
      · have := (h10 k x).1; omega

/-- Format of a new device. -/
theorem play_format (d : Dev W.heap.size w g gs (.slice none 0 0) (D0 n)) (h1 : Below W.heap.size W w) (h8 : 8 ≤ n) (hn : n ≤ 8192) (t : ByteArray) (hr : secs t ≤ areaN n) :
    Calls Try.prog 12 #[.pointer (some ⟨g, 0, none⟩), .string t] w fun e w' => ∃ lb, e = .returned (.tuple #[.pointer (some ⟨lb, 0, none⟩), .int .i64 0]) ∧ Lw W w' lb g gs n (secs t + 5) t [] (fun _ => False) (fun _ => False) := by
  have hi := inv_new n (by omega) hn
  have hc := calm_new n
  have hA4 := areaN_le h8
  have hsol := fresh_math hi hc (A := areaN n) hA4 t hr
  have hcr := hc.run (script (areaN n) 1 1 0 t)
  have hiv := hi.run _ (script_ok (areaN n) 1 1 0 t n (Or.inl rfl) (Nat.le_refl _) (by omega) hA4)
  rw [script_len] at hiv
  have hA : areaN n ≤ 4096 := by unfold areaN; omega
  refine (format_good d hi hc h1.size h8 rfl (areaN n) rfl t hr (by omega)).mono ?_
  rintro e w' ⟨lb, rfl, hlb, hv', rv', l', f, gr⟩
  have hds : dstep (drun (D0 n) (script (areaN n) 1 1 0 t)).2 none = (none, (drun (D0 n) (script (areaN n) 1 1 0 t)).2.flushed) := by rw [dstep_none, if_neg (by have := hcr.2.1; omega)]
  have hc2 := (hcr.2.st none).2
  rw [hds] at hc2
  refine ⟨lb, rfl, hv', rv', _, _, l', f.below h1 h1.size (fun k hk => d.from k hk), rfl, rfl, rfl, hiv.1.flushed.mono (by omega), hc2, hiv.2, h8, Or.inl hsol, fun k x => x.elim⟩
end

end Go.Proofs.Ytlapgalefpenbaa
