/- The bytes of properties: plain mathematics. -/
import Derived.Test.YtndbhalkhejgjaaVPropsMath
import Derived.Test.YtndbhalkhejgjaaVEncode
namespace Go.Proofs.Ytndbhalkhejgjaa
open Go.RowKit

/-- The bytes of a property, and of a list of them. -/
def encP (p : Pr) : List UInt8 := putT p.name.data.toList ++ encV p.v
def encL (L : List Pr) : List UInt8 := enc L.length ++ L.flatMap encP

theorem encV_le (v : V) : (encV v).length ≤ 20 + v.s.size := by
  unfold encV
  split
  · have h1 := (enc_len (zig v.n)).2
    have h2 := putT_le v.s
    simp only [List.length_cons]
    split
    · simp; omega
    · split
      · omega
      · split
        · omega
        · simp; omega
  · simp

theorem encP_le (p : Pr) : (encP p).length ≤ 30 + p.name.size + p.v.s.size := by
  have h1 := putT_le p.name
  have h2 := encV_le p.v
  rw [encP, List.length_append]
  omega

theorem good_size {v : V} (h : goodB v = true) : v.s.size ≤ 1024 := by
  simp only [goodB, Bool.or_eq_true, Bool.and_eq_true, decide_eq_true_eq] at h
  omega

theorem from_mem {prev : Option ByteArray} {L : List Pr} (h : propsFrom prev L = true) : ∀ p ∈ L, nameB p.name = true ∧ goodB p.v = true := by
  induction L generalizing prev with
  | nil => intro p hp; cases hp
  | cons q l ih =>
    intro p hp
    simp only [propsFrom, Bool.and_eq_true] at h
    rcases List.mem_cons.1 hp with rfl | hp
    · exact ⟨h.1, h.2.1⟩
    · exact ih h.2.2.2 p hp

theorem props_parts {L : List Pr} (h : propsB L = true) : L.length ≤ 8 ∧ ∀ p ∈ L, nameB p.name = true ∧ goodB p.v = true := by
  by_cases h8 : L.length ≤ 8
  · rw [propsB_few h8] at h
    exact ⟨h8, from_mem h⟩
  · rw [propsB_many h8] at h
    cases h

theorem flat_le (L : List Pr) (h : ∀ p ∈ L, nameB p.name = true ∧ goodB p.v = true) : (L.flatMap encP).length ≤ 2000 * L.length := by
  induction L with
  | nil => simp
  | cons p l ih =>
    have h1 := ih (fun q hq => h q (List.mem_cons_of_mem _ hq))
    obtain ⟨h2, h3⟩ := h p (List.mem_cons_self ..)
    have h4 := (nameB_le _ h2).2
    have h5 := good_size h3
    have h6 := encP_le p
    rw [List.flatMap_cons, List.length_append, List.length_cons]
    omega

theorem encL_le {L : List Pr} (h : propsB L = true) : (encL L).length ≤ 20000 := by
  obtain ⟨h8, hm⟩ := props_parts h
  have h1 := flat_le L hm
  have h2 := (enc_len L.length).2
  rw [encL, List.length_append]
  omega

end Go.Proofs.Ytndbhalkhejgjaa
