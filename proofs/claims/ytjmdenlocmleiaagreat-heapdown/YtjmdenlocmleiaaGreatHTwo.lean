/- A heap and two of the document's; a device that is to refuse a write; what steps make of rows. -/
import Derived.Test.YtjmdenlocmleiaaGreatDAll
namespace Go.Proofs.YtjmdenlocmleiaaGreat
open Go.RowKit

section
variable {W w w' : World} {hb p g bd n m : Nat} {V : Nat → ByteArray} {H Hr : Hp} {A : List Nat} {z : Prop} {E E' : List (Nat × Obj)} {r : RH} {G : Nat → Prop}

theorem Q1.refuse {S : St} (h : Q1 W w p g bd S E) (x : Int) (hx : x ≤ 9223372036854775807) : Calls Tryz.prog 24 #[.pointer (some ⟨g, 0, none⟩), .int .i64 x] w fun e w' => e = .returned (.tuple #[]) ∧ Q1 W w' p g bd { S with D := { S.D with next := max x 0 } } E := by
  obtain ⟨y, e1, rfl, rfl, e4, e5, e6⟩ := h.ex
  refine (refuse_any e4.dev x _ rfl).mono ?_
  rintro e w' ⟨rfl, d', f⟩
  obtain ⟨dv', t⟩ := e4.devTo (.of d' f)
  have o := e5.ok
  exact ⟨rfl, Q1.step e1 rfl e4 e6 h.bel t rfl ⟨e5.fv, e5.O, ⟨o.inv.refused x hx, o.pg, o.uniq, o.n, o.len, o.rd, o.wr⟩⟩⟩
theorem Hs.refuse (h : Hs W w hb p g bd n m V A z E) (x : Int) (hx : x ≤ 9223372036854775807) (z' : Prop) (hz : z' → x ≤ 0) : Calls Tryz.prog 24 #[.pointer (some ⟨g, 0, none⟩), .int .i64 x] w fun e w' => e = .returned (.tuple #[]) ∧ Hs W w' hb p g bd n m V A z' E := by
  obtain ⟨S, a, b, c, d, _⟩ := h.ex
  refine (a.refuse x hx).mono ?_
  rintro e w' ⟨rfl, q⟩
  exact ⟨rfl, ⟨_, q, b.next _, c, d, fun y => by have := hz y; show max x 0 ≤ 0; omega⟩⟩
theorem Hs.held (h : Hs W w hb p g bd n m V A z E) : Calls Tryz.prog 25 #[.pointer (some ⟨p, 0, none⟩)] w fun e w' => ∃ v L, e = .returned v ∧ IRow w' w.heap.size v L ∧ L.length ≤ m ∧ Below w.heap.size w w' := by
  obtain ⟨S, a, b, c, rfl, _⟩ := h.ex
  refine a.held.mono ?_
  rintro e w' ⟨v, rfl, r1, b1⟩
  exact ⟨v, _, rfl, r1, by rw [held_len]; exact a.ok.len, b1⟩

/-- A heap and two of the document's. -/
structure D2 (W w : World) (hb p g bd n m : Nat) (V : Nat → ByteArray) (H : Hp) (z : Prop) (r1 : RH) (H1 : Hp) (r2 : RH) (H2 : Hp) : Prop where
  a : Du W w hb p g bd n m V H z r1 H1 r2.ft
  b : Rh W.heap.size w r2 n H2
  fine : ∀ i, Fine (H2 i)

variable {r1 r2 : RH} {H1 H2 : Hp}
theorem D2.step {bd' : Nat} {V' : Nat → ByteArray} {H' H1' : Hp} {z' : Prop} {r1' : RH} {hb' : Nat} (d : D2 W w hb p g bd n m V H z r1 H1 r2 H2) (a' : Du W w' hb' p g bd' n m V' H' z' r1' H1' r2.ft) (s : Same r2.ft w w') : D2 W w' hb' p g bd' n m V' H' z' r1' H1' r2 H2 :=
  ⟨a', d.b.kept s, d.fine⟩
theorem D2.swap (d : D2 W w hb p g bd n m V H z r1 H1 r2 H2) : D2 W w hb p g bd n m V H z r2 H2 r1 H1 := by
  obtain ⟨E, t, cov⟩ := d.a.ex
  exact ⟨⟨⟨E, t, fun k hk => cov k hk.symm⟩, d.a.ok, d.b, d.fine, fun k h1 h2 => d.a.ap k h2 h1⟩, d.a.rh, d.a.fine⟩
theorem D2.mono {c : Nat} (d : D2 W w hb p g bd n m V H z r1 H1 r2 H2) (hc : bd ≤ c) : D2 W w hb p g c n m V H z r1 H1 r2 H2 := ⟨d.a.mono hc, d.b, d.fine⟩
theorem D2.below (d : D2 W w hb p g bd n m V H z r1 H1 r2 H2) (b : Below w.heap.size w w') : D2 W w' hb p g bd n m V H z r1 H1 r2 H2 := d.step (d.a.below b) (Same.below d.a b)

/-- Another one of the document's, made beside. -/
theorem Du.two {w' : World} (d : Du W w hb p g bd n m V H z r Hr G) {c : RH} (rh : Rh w.heap.size w' c n (fun _ => [])) (b : Below w.heap.size w w') : D2 W w' hb p g bd n m V H z c (fun _ => []) r Hr := by
  obtain ⟨E, t, cov⟩ := d.ex
  have hB := t.bel.size
  obtain ⟨C, h1, h2⟩ := cover w' (fun k => c.ft k) w'.heap.size (Nat.le_refl _)
  have t' : Hs W w' hb p g bd n m V [] z (C ++ E) := t.swap (F := fun _ => False) (Fr.of_below b) (fun k hk => hk.elim) (fun y hy => by
    rcases List.mem_append.1 hy with q | q
    · exact ⟨(h1 y q).1, Or.inl (rh.from (h1 y q).2).1⟩
    · exact ⟨(b.block _ (lt_of_some (t.at q))).trans (t.at q), Or.inr ⟨y.2, q⟩⟩)
  refine ⟨⟨⟨_, t', fun k hk => ?_⟩, d.ok, ⟨rh.top, Nat.le_trans hB rh.qB, owns_base rh.row hB, fun i x hx => (rh.pgs i x hx).mono hB, rh.len, rh.ap⟩, fun _ => fine_nil, fun k h3 h4 => ?_⟩, d.rh.below b, d.fine⟩
  · rcases hk with q | q
    · obtain ⟨o, ho⟩ := h2 k (rh.from q).2 q
      exact ⟨o, List.mem_append_left _ ho⟩
    · obtain ⟨o, ho⟩ := cov k (Or.inl q)
      exact ⟨o, List.mem_append_right _ ho⟩
  · have := (rh.from h3).1
    have := (d.rh.from h4).2
    omega

theorem Du.refuse (d : Du W w hb p g bd n m V H z r Hr G) (x : Int) (hx : x ≤ 9223372036854775807) (z' : Prop) (hz : z' → x ≤ 0) : Calls Tryz.prog 24 #[.pointer (some ⟨g, 0, none⟩), .int .i64 x] w fun e w' => e = .returned (.tuple #[]) ∧ Du W w' hb p g bd n m V H z' r Hr G ∧ Same G w w' := by
  obtain ⟨E, t, cov⟩ := d.ex
  refine (t.refuse x hx z' hz).mono ?_
  rintro e w' ⟨rfl, t'⟩
  exact ⟨rfl, d.prog t cov t' d.ok⟩
theorem Du.held (d : Du W w hb p g bd n m V H z r Hr G) : Calls Tryz.prog 25 #[.pointer (some ⟨p, 0, none⟩)] w fun e w' => ∃ v L, e = .returned v ∧ IRow w' w.heap.size v L ∧ L.length ≤ m ∧ Below w.heap.size w w' := by
  obtain ⟨E, t, cov⟩ := d.ex
  exact t.held
end

/-- What a step makes of rows. -/
def stepH (n : Nat) (H : Hp) (s : Hp1) : Hp := if s.kind = 0 then insHH n H s.row else if s.kind = 1 then putHH n H s.place s.row else if s.kind = 2 then delHH n H s.place else H
def runH (n : Nat) (L : List Hp1) : Hp := L.foldl (stepH n) (fun _ => [])
theorem runH_succ (n : Nat) (L : List Hp1) (i : Nat) (s : Hp1) (h : L[i]? = some s) : runH n (L.take (i + 1)) = stepH n (runH n (L.take i)) s := by
  unfold runH
  rw [List.take_add_one, h, List.foldl_append]
  rfl
theorem stepH0 (n : Nat) (H : Hp) (k : Int) (row : ByteArray) : stepH n H ⟨0, k, row⟩ = insHH n H row := rfl
theorem stepH1 (n : Nat) (H : Hp) (k : Int) (row : ByteArray) : stepH n H ⟨1, k, row⟩ = putHH n H k row := rfl
theorem stepH2 (n : Nat) (H : Hp) (k : Int) (row : ByteArray) : stepH n H ⟨2, k, row⟩ = delHH n H k := rfl
theorem stepHn (n : Nat) (H : Hp) (s : Hp1) (h0 : s.kind ≠ 0) (h1 : s.kind ≠ 1) (h2 : s.kind ≠ 2) : stepH n H s = H := by
  unfold stepH
  rw [if_neg h0, if_neg h1, if_neg h2]

theorem insHX_ne (n : Nat) (H : Hp) (row : ByteArray) : insHX n H row ≠ 42 := by
  unfold insHX
  split
  · decide
  · split <;> decide
theorem delHX_ne (n : Nat) (H : Hp) (k : Int) : delHX n H k ≠ 42 := by
  unfold delHX delE
  split <;> decide
theorem putHX_ne (n : Nat) (H : Hp) (k : Int) (row : ByteArray) : putHX n H k row ≠ 42 := by
  unfold putHX putE
  split
  · decide
  · split
    · decide
    · split <;> decide
end Go.Proofs.YtjmdenlocmleiaaGreat
