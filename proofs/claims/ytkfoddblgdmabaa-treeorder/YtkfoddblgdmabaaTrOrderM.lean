/- TreeOrder: what comes and goes, as mathematics; a row whose entries change places; its arguments. -/
import Derived.Test.YtkfoddblgdmabaaTrSteps
import Derived.Test.YtkfoddblgdmabaaTrThree
import Derived.Test.YtkfoddblgdmabaaTrLook
namespace Go.Proofs.Ytkfoddblgdmabaa.tr
open Go.RowKit Go.ChangeShapes Go.WideShapes Go.ChangeAt Go.Deep

section
variable {H : Type} {enc : TypeId × Value → H} {W : World} {base : Nat}
set_option maxRecDepth 100000 in
theorem open_ints {v : Value} {d : DataW H} {ps : List MemPlace} (hv : Value.okWide Try.prog W .any base 51 v) (h : DataW.Trod enc Try.prog W 0 (fun _ => true) true 51 v d ps) :
    ∃ (a : Option Addr) (L : List Int) (cap : Nat), v = .slice a L.length cap ∧ SlG W a 1 (fun x => [.int .i64 x]) L ∧ L.length ≤ cap ∧ cap ≤ maxLen ∧ ∀ x ∈ L, i64B x := by
  obtain ⟨a0, len, cap, rfl⟩ := okWide_slice Try.underlying51 hv
  obtain ⟨fuel, hf⟩ := h
  obtain ⟨a, L, c, hcs, r1, _, r3, r4, r5⟩ := trod_list (α := Int) 0 51 3 1 Try.underlying51 cellsInt (by decide) (fun x => [.int .i64 x]) i64B (fun _ => rfl) (fun fuel cs x h => by
    obtain ⟨k, e0, _, w0⟩ := DataW.trod_int (t := 3) Try.underlying3 h
    exact ⟨k, e0, bounds_i64 w0⟩) hf
  simp [Value.cells] at hcs
  obtain ⟨rfl, rfl, rfl⟩ := hcs
  exact ⟨_, _, _, rfl, r1, r3, r4, r5⟩
set_option maxRecDepth 100000 in
theorem open_texts {v : Value} {d : DataW H} {ps : List MemPlace} (hv : Value.okWide Try.prog W .any base 52 v) (h : DataW.Trod enc Try.prog W 0 (fun _ => true) true 52 v d ps) :
    ∃ (a : Option Addr) (L : List ByteArray) (cap : Nat), v = .slice a L.length cap ∧ SlG W a 1 (fun s => [.string s]) L ∧ L.length ≤ cap ∧ cap ≤ maxLen := by
  obtain ⟨a0, len, cap, rfl⟩ := okWide_slice Try.underlying52 hv
  obtain ⟨fuel, hf⟩ := h
  obtain ⟨a, L, c, hcs, r1, _, r3, r4, _⟩ := trod_list (α := ByteArray) ⟨#[]⟩ 52 9 1 Try.underlying52 cellsStr (by decide) (fun s => [.string s]) (fun _ => True) (fun _ => rfl) (fun fuel cs x h => by
    obtain ⟨s, e, _⟩ := trod_str h
    exact ⟨s, e, trivial⟩) hf
  simp [Value.cells] at hcs
  obtain ⟨rfl, rfl, rfl⟩ := hcs
  exact ⟨_, _, _, rfl, r1, r3, r4⟩
end
/-- A cell of a list of one cell an element, in each world behind. -/
theorem SlG.one {α : Type} {W : World} {a : Option Addr} {g : α → Value} {L : List α} (h : SlG W a 1 (fun s => [g s]) L) {i : Nat} {s : α} (hi : L[i]? = some s) : ∃ b off, a = some ⟨b, off, none⟩ ∧ ∀ V, Below W.heap.size W V → V.cell? ⟨b, off + i, none⟩ = some (g s) := by
  rcases h with h | ⟨b, off, e, hlt, hr⟩
  · rw [h] at hi; simp at hi
  · have h0 := hr i s hi 0 _ rfl
    rw [Nat.mul_one, Nat.add_zero] at h0
    exact ⟨b, off, e, fun V hV => (hV.cell (p := ⟨b, _, none⟩) hlt).trans h0⟩

theorem putT_room {L : List Ent} {key : ByteArray} (z : Int) (hk : key.size ≤ 4096) (hl : L.length < 4096) : (putT key z L).2.2 = putL key z L := by
  unfold putT
  rw [if_neg (by omega)]
  split
  · rfl
  · rw [if_neg (by omega)]
theorem putT_succ (key : ByteArray) (z : Int) {L : List Ent} (hs : Srt L) : (putT key z L).2.2.length ≤ L.length + 1 := by
  have h := putL_len key z L hs
  have h2 : (putL key z L).length ≤ L.length + 1 := by split at h <;> omega
  unfold putT
  split
  · exact Nat.le_succ _
  split
  · exact h2
  split
  · exact Nat.le_succ _
  · exact h2
theorem putL_succ (key : ByteArray) (z : Int) {L : List Ent} (hs : Srt L) : (putL key z L).length ≤ L.length + 1 := by
  have h := putL_len key z L hs
  split at h <;> omega

/-- What the second tree has, on the way: the first i in their order; what m other keys did is left open. -/
def Iv (O : List Ent) (Ot : List ByteArray) (i m : Nat) (Lb : List Ent) : Prop := ∀ e : Ent, (∀ j o, j < m → Ot[j]? = some o → o.size < 1000 → e.key ≠ o) → (e ∈ Lb ↔ e ∈ O.take i)
theorem Iv.start (O : List Ent) (Ot : List ByteArray) : Iv O Ot 0 0 [] := fun e _ => by simp
theorem Iv.skip {O : List Ent} {Ot : List ByteArray} {i m : Nat} {Lb : List Ent} (h : Iv O Ot i m Lb) : Iv O Ot i (m + 1) Lb := fun e he => h e (fun j o h1 h2 h3 => he j o (by omega) h2 h3)
theorem Iv.other {O : List Ent} {Ot : List ByteArray} {i m : Nat} {Lb : List Ent} {o : ByteArray} (h : Iv O Ot i m Lb) (hs : Srt Lb) (ho : Ot[m]? = some o) (hk : o.size < 1000) (z : Int) : Iv O Ot i (m + 1) (putL o z Lb) := fun e he => by
  have h1 := he m o (Nat.lt_succ_self m) ho hk
  rw [mem_put hs, ← h e (fun j o h1 h2 h3 => he j o (by omega) h2 h3)]
  constructor
  · rintro (q | ⟨_, q⟩)
    · exact absurd (by rw [q]) h1
    · exact q
  · exact fun q => Or.inr ⟨h1, q⟩
theorem Iv.mine {O : List Ent} {Ot : List ByteArray} {i m : Nat} {Lb : List Ent} {x : Ent} (h : Iv O Ot i m Lb) (hs : Srt Lb) (hn : (O.map Ent.key).Nodup) (hx : O[i]? = some x) : Iv O Ot (i + 1) m (putL x.key x.n Lb) := fun e he => by
  rw [mem_put hs, h e he, List.take_add_one, hx]
  simp only [List.mem_append, Option.toList_some, List.mem_singleton]
  constructor
  · rintro (q | ⟨_, q⟩)
    · exact Or.inr q
    · exact Or.inl q
  · rintro (q | q)
    · refine Or.inr ⟨fun e1 => ?_, q⟩
      obtain ⟨j, hj⟩ := List.getElem?_of_mem q
      have hji : j < i := by
        have := (List.getElem?_eq_some_iff.1 hj).1
        rw [List.length_take] at this
        omega
      rw [List.getElem?_take, if_pos hji] at hj
      have k1 : (O.map Ent.key)[j]? = some x.key := by rw [List.getElem?_map, hj, ← e1]; rfl
      have k2 : (O.map Ent.key)[i]? = some x.key := by rw [List.getElem?_map, hx]; rfl
      obtain ⟨l1, e1⟩ := List.getElem?_eq_some_iff.1 k1
      obtain ⟨l2, e2⟩ := List.getElem?_eq_some_iff.1 k2
      have := (List.getElem_inj hn).1 (e1.trans e2.symm)
      omega
    · exact Or.inl q
theorem srt_nodup {L : List Ent} (hs : Srt L) : (L.map Ent.key).Nodup := by
  unfold List.Nodup
  rw [List.pairwise_map]
  exact List.Pairwise.imp (fun h => ltS_ne h) hs
/-- .. and behind: what n of the other keys from i on did is left open. -/
def Jv (Lx : List Ent) (Ot : List ByteArray) (n i : Nat) (Lb : List Ent) : Prop := ∀ e : Ent, (∀ j o, i ≤ j → j < n → Ot[j]? = some o → o.size < 1000 → e.key ≠ o) → (e ∈ Lb ↔ e ∈ Lx)
theorem Iv.end {O : List Ent} {Ot : List ByteArray} {n : Nat} {Lb Lx : List Ent} (h : Iv O Ot n n Lb) (hn : O.length = n) (hp : O.Perm Lx) : Jv Lx Ot n 0 Lb := fun e he => by
  rw [h e (fun j o h1 h2 h3 => he j o (Nat.zero_le _) h1 h2 h3), List.take_of_length_le (by omega)]
  exact hp.mem_iff
theorem Jv.skip {Lx : List Ent} {Ot : List ByteArray} {n i : Nat} {Lb : List Ent} {o : ByteArray} (h : Jv Lx Ot n i Lb) (ho : Ot[i]? = some o) (hk : ¬ o.size < 1000) : Jv Lx Ot n (i + 1) Lb := fun e he => h e (fun j o2 h1 h2 h3 h4 => by
  by_cases q : j = i
  · subst q
    rw [ho] at h3; cases h3
    exact absurd h4 hk
  · exact he j o2 (by omega) h2 h3 h4)
theorem Jv.set {Lx : List Ent} {Ot : List ByteArray} {n i : Nat} {Lb : List Ent} {o : ByteArray} (h : Jv Lx Ot n i Lb) (hs : Srt Lb) (hx : Srt Lx) (ho : Ot[i]? = some o) (hh : hasL o Lx = true) : Jv Lx Ot n (i + 1) (putL o (getL o Lx) Lb) := fun e he => by
  rw [mem_put hs]
  by_cases q : e.key = o
  · constructor
    · rintro (g | ⟨g, _⟩)
      · rw [g]; exact has_mem hx hh
      · exact absurd q g
    · intro g
      have := (getL_mem hx g).1
      rw [q] at this
      left
      obtain ⟨k, z⟩ := e
      simp only at this q
      rw [this, q]
  · rw [← h e (fun j o2 h1 h2 h3 h4 => by
      by_cases g : j = i
      · subst g
        rw [ho] at h3; cases h3
        exact q
      · exact he j o2 (by omega) h2 h3 h4)]
    constructor
    · rintro (g | ⟨_, g⟩)
      · exact absurd (by rw [g]) q
      · exact g
    · exact fun g => Or.inr ⟨q, g⟩
theorem Jv.del {Lx : List Ent} {Ot : List ByteArray} {n i : Nat} {Lb : List Ent} {o : ByteArray} (h : Jv Lx Ot n i Lb) (hs : Srt Lb) (hx : Srt Lx) (ho : Ot[i]? = some o) (hh : hasL o Lx = false) : Jv Lx Ot n (i + 1) (delL o Lb) := fun e he => by
  rw [mem_del hs]
  by_cases q : e.key = o
  · constructor
    · exact fun g => absurd q g.1
    · intro g
      obtain ⟨k, z⟩ := e
      simp only at q
      subst q
      exact absurd g (has_not hx hh z)
  · rw [← h e (fun j o2 h1 h2 h3 h4 => by
      by_cases g : j = i
      · subst g
        rw [ho] at h3; cases h3
        exact q
      · exact he j o2 (by omega) h2 h3 h4)]
    exact ⟨fun g => g.2, fun g => ⟨q, g⟩⟩
theorem Jv.end {Lx : List Ent} {Ot : List ByteArray} {n i : Nat} {Lb : List Ent} (h : Jv Lx Ot n i Lb) (hs : Srt Lb) (hx : Srt Lx) (hi : ¬ (i < Ot.length ∧ i < n)) : Lb = Lx :=
  srt_ext hs hx (fun e => h e (fun j o h1 h2 h3 _ => by
    have := (List.getElem?_eq_some_iff.1 h3).1
    exact absurd ⟨by omega, by omega⟩ hi))

/-- Two entries change places. -/
def swapL (O : List Ent) (x y : Nat) (ex ey : Ent) : List Ent := (O.set x ey).set y ex
theorem swap_perm {O : List Ent} {x y : Nat} {ex ey : Ent} (hx : O[x]? = some ex) (hy : O[y]? = some ey) : (swapL O x y ex ey).Perm O := by
  unfold swapL
  obtain ⟨lx, e1⟩ := List.getElem?_eq_some_iff.1 hx
  obtain ⟨ly, e2⟩ := List.getElem?_eq_some_iff.1 hy
  by_cases q : x = y
  · subst q
    rw [hx] at hy; cases hy
    rw [List.set_set, ← e1, List.set_getElem_self]
  · rw [← e1, ← e2]
    exact List.set_set_perm lx ly

section
variable {w w' : World} {B b c : Nat} {l : List Ent}
theorem flat_set (l : List Ent) (i : Nat) (y : Ent) : ((l.flatMap gE).set (i * 2) (.string y.key)).set (i * 2 + 1) (.int .i64 y.n) = (l.set i y).flatMap gE := by
  induction l generalizing i with
  | nil => simp
  | cons x l ih =>
    have e1 : (x :: l).flatMap gE = .string x.key :: .int .i64 x.n :: l.flatMap gE := rfl
    cases i with
    | zero =>
      rw [e1]
      rfl
    | succ i =>
      have e2 : ((x :: l).set (i + 1) y).flatMap gE = .string x.key :: .int .i64 x.n :: (l.set i y).flatMap gE := rfl
      rw [e1, e2, ← ih, show (i + 1) * 2 = i * 2 + 1 + 1 by omega]
      simp only [List.set_cons_succ]
theorem RowR.set (h : RowR w B (.slice (some ⟨b, 0, none⟩) l.length c) l) (i : Nat) (y : Ent) : RowR ((w.setCell ⟨b, i * 2, none⟩ (.string y.key)).setCell ⟨b, i * 2 + 1, none⟩ (.int .i64 y.n)) B (.slice (some ⟨b, 0, none⟩) (l.set i y).length c) (l.set i y) := by
  have h1 := own_set (own_set h.own (i * 2) (.string y.key)) (i * 2 + 1) (.int .i64 y.n)
  rw [flat_set] at h1
  refine ⟨?_⟩
  rw [List.length_set]
  exact h1
end

end Go.Proofs.Ytkfoddblgdmabaa.tr
