/- Steps among a law's arguments. -/
import Derived.Test.YtlapgalefpenbaaLSeen
namespace Go.Proofs.Ytlapgalefpenbaa
open Go.RowKit Go.ChangeShapes Go.WideShapes Go.ChangeAt Go.Deep

theorem Try.cellsStep : Try.prog.cellsOf 40 = 3 := by kernel_rfl

/-- A step. -/
structure St where
  kind : Int
  text : ByteArray
  keep : KI
structure St.ok (W : World) (s : St) : Prop where
  k : i64B s.kind
  t : s.text.size ≤ maxLen
  keep : s.keep.ok W
def St.cells (s : St) : List Value := [.int .i64 s.kind, .string s.text, .slice s.keep.a s.keep.L.length s.keep.c]

section
variable {H : Type} {enc : TypeId × Value → H} {W : World} {base : Nat}

set_option maxRecDepth 100000 in
theorem trod_step {fuel : Nat} {cs : List Value} {x : DataW H × List MemPlace} (h : DataW.trod enc Try.prog W 0 (fun _ => true) true fuel 40 cs = some x) : ∃ s : St, cs = s.cells ∧ s.ok W := by
  obtain ⟨y0, y1, y2, n, _, hl, h0, h1, h2⟩ := trod_struct3 Try.underlying40 h
  rw [Try.cellsStep] at hl
  match cs, hl with
  | [a, b, c], _ =>
    obtain ⟨k, e0, _, w0⟩ := DataW.trod_int (t := 3) Try.underlying3 h0
    obtain ⟨s, e1, hs⟩ := trod_str h1
    obtain ⟨q, e2, hq⟩ := trod_ki h2
    simp [KI.cells, Try.cellsInt, Try.cellsStr, Try.cellsInts] at e0 e1 e2
    subst e0 e1 e2
    exact ⟨⟨k, s, q⟩, rfl, bounds_i64 w0, hs, hq⟩

set_option maxRecDepth 100000 in
theorem trod_steps {fuel : Nat} {cs : List Value} {x : DataW H × List MemPlace} (h : DataW.trod enc Try.prog W 0 (fun _ => true) true fuel 22 cs = some x) :
    ∃ (a : Option Addr) (L : List St) (cap : Nat), cs = [.slice a L.length cap] ∧ SlG W a 3 St.cells L ∧ L.length ≤ cap ∧ cap ≤ maxLen ∧ ∀ s ∈ L, s.ok W := by
  obtain ⟨a, L, c, hcs, r1, _, r3, r4, r5⟩ := trod_list (α := St) ⟨0, ⟨#[]⟩, ⟨none, [], 0⟩⟩ 22 40 3 Try.underlying22 Try.cellsStep (by decide) St.cells (St.ok W) (fun _ => rfl) (fun fuel cs x h => trod_step h) h
  exact ⟨a, L, c, hcs, r1, r3, r4, r5⟩

set_option maxRecDepth 100000 in
theorem open_steps {v : Value} {d : DataW H} {ps : List MemPlace} (hv : Value.okWide Try.prog W .any base 22 v) (h : DataW.Trod enc Try.prog W 0 (fun _ => true) true 22 v d ps) :
    ∃ (a : Option Addr) (L : List St) (cap : Nat), v = .slice a L.length cap ∧ SlG W a 3 St.cells L ∧ L.length ≤ cap ∧ cap ≤ maxLen ∧ ∀ s ∈ L, s.ok W := by
  obtain ⟨a0, len, cap, rfl⟩ := okWide_slice Try.underlying22 hv
  obtain ⟨fuel, hf⟩ := h
  obtain ⟨a, L, c, hcs, r⟩ := trod_steps hf
  simp [Value.cells] at hcs
  obtain ⟨rfl, rfl, rfl⟩ := hcs
  exact ⟨_, _, _, rfl, r⟩
end

end Go.Proofs.Ytlapgalefpenbaa
