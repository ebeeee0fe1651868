/- Flush. -/
import Derived.Test.YtjmdenlocmleiaaQSect
namespace Go.Proofs.Ytjmdenlocmleiaa
open Go.RowKit

/-- A dirty page is written. -/
def wr1 (S : St) (i : Nat) (f : Fm) : St := { S with l := S.l.set i (wrF S.D f), wr := S.wr + wrN S.D f, D := wrD S.D f }

def wrAll : List Int → St → Int × St
  | [], S => (0, S)
  | a :: r, S =>
    match idx S.l a with
    | none => (0, S)
    | some i => match S.l[i]? with
      | none => (0, S)
      | some f => if wrE S.D f = 0 then wrAll r (wr1 S i f) else (wrE S.D f, wr1 S i f)

def flE (D : DS) : Int := if D.left = 0 then 41 else 0
def flD (D : DS) : DS := if D.left = 0 then D else D.flushed

def flushS (S : St) : Int × St :=
  if (wrAll (dirtyS S) S).1 = 0 then (flE (wrAll (dirtyS S) S).2.D, { (wrAll (dirtyS S) S).2 with D := flD (wrAll (dirtyS S) S).2.D })
  else wrAll (dirtyS S) S

theorem wrF_pg (D : DS) (f : Fm) : (wrF D f).pg = f.pg ∧ (wrF D f).s = f.s ∧ (wrF D f).pins = f.pins := by
  unfold wrF
  split <;> exact ⟨rfl, rfl, rfl⟩

theorem pgs_set {l : List Fm} {i : Nat} {f g : Fm} (hi : l[i]? = some f) (hg : g.pg = f.pg) : (l.set i g).map (·.pg) = l.map (·.pg) := by
  rw [List.map_set]
  refine set_self ?_
  rw [List.getElem?_map, hi, hg]
  rfl

theorem OkS.wr1 {b : Nat} {S : St} (h : OkS b S) {i : Nat} {f : Fm} (hi : S.l[i]? = some f) : OkS (b + 1) (wr1 S i f) := by
  obtain ⟨p1, p2, p3⟩ := h.pg f (List.mem_of_getElem? hi)
  have hI := wr_inv (f := f) h.inv p1 p2
  have hN : wrN S.D f ≤ 1 := by unfold wrN; split <;> omega
  obtain ⟨q1, q2, q3⟩ := wrF_pg S.D f
  refine ⟨hI, fun g hg => ?_, ?_, h.n, ?_, Nat.le_succ_of_le h.rd, ?_⟩
  · show g.pg < (wrD S.D f).n ∧ _
    rw [wrD_n]
    rcases List.mem_or_eq_of_mem_set (show g ∈ S.l.set i (wrF S.D f) from hg) with q | q
    · obtain ⟨r1, r2, r3⟩ := h.pg g q
      exact ⟨r1, r2, by omega⟩
    · rw [q, q1, q2, q3]
      exact ⟨p1, p2, by omega⟩
  · show ((S.l.set i (wrF S.D f)).map (·.pg)).Nodup
    rw [pgs_set hi q1]
    exact h.uniq
  · show (S.l.set i (wrF S.D f)).length ≤ S.n
    rw [List.length_set]
    exact h.len
  · show S.wr + wrN S.D f ≤ b + 1
    have := h.wr
    omega

theorem sortI_mem {l : List Int} {a : Int} (h : a ∈ sortI l) : a ∈ l := (List.mergeSort_perm l _).mem_iff.1 h
theorem sortI_len (l : List Int) : (sortI l).length = l.length := List.length_mergeSort _

theorem pgs_mem {q : Fm → Bool} {l : List Fm} {a : Int} (h : a ∈ pgs q l) : ∃ f ∈ l, (f.pg : Int) = a := by
  unfold pgs at h
  obtain ⟨f, hf, e⟩ := List.mem_map.1 h
  exact ⟨f, (List.mem_filter.1 hf).1, e⟩

theorem idx_of_mem {l m : List Fm} {a : Int} (h : ∃ f ∈ l, (f.pg : Int) = a) (e : m.map (·.pg) = l.map (·.pg)) : ∃ i f, idx m a = some i ∧ m[i]? = some f ∧ (f.pg : Int) = a := by
  cases hx : idx m a with
  | none =>
    obtain ⟨f, hf, e1⟩ := h
    have : f.pg ∈ m.map (·.pg) := by rw [e]; exact List.mem_map.2 ⟨f, hf, rfl⟩
    obtain ⟨g, hg, e2⟩ := List.mem_map.1 this
    obtain ⟨j, hj⟩ := List.getElem?_of_mem hg
    exact absurd (show (g.pg : Int) = a by rw [← e1]; exact congrArg Int.ofNat e2) (idx_none hx j g hj)
  | some i =>
    obtain ⟨f, hf, e1, _⟩ := idx_some hx
    exact ⟨i, f, rfl, hf, e1⟩

section
variable {B bd : Nat} {w : World} {x : PX}

/-- Where a loop of writes stands. -/
structure Fl (B bd : Nat) (w1 : World) (x : PX) (T : List Int) (k : Nat) (wr : World) (y : PX) : Prop where
  step : PTo B w1 x y wr
  good : Good (bd + k) y
  pages : y.st.l.map (·.pg) = x.st.l.map (·.pg)
  rest : wrAll T x.st = wrAll (T.drop k) y.st

end
end Go.Proofs.Ytjmdenlocmleiaa
