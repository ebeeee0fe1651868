/- Layer 10: Depth. -/
import Derived.Test.YtkfoddblgdmabaaTrTree
namespace Go.Proofs.Ytkfoddblgdmabaa.tr
open Go.RowKit

section
variable {w : World} {B tb f : Nat} {M : Mp} {L : List Ent}

/-- How deep a tree is: by how many keys it has, no deeper than it may be. -/
structure Dp (f n : Nat) (d : Nat) : Prop where
  zero : n = 0 → d = 0
  pos : n ≠ 0 → ∃ H, d = H + 1 ∧ (H ≠ 0 → 2 * ((f + 1) / 2) ^ H ≤ n + 1) ∧ H ≤ 4096

set_option maxHeartbeats 1600000 in
set_option maxRecDepth 100000 in
theorem depth_gd {R H : Nat} {F : List Nat} (h1 : w.heap[tb]? = some (tobj f R L.length)) (m : Mm w B M) (g : Gd M f R H L F) (hlen : L.length ≤ 4096) (hf3 : 3 ≤ f) : Calls Try.prog 18 #[.pointer (some ⟨tb, 0, none⟩)] w fun e w' => e = .returned (.int .i64 ((if L.length = 0 then 0 else H + 1 : Nat) : Int)) ∧ w' = w := by
  have hhi := g.high hf3
  have c1 := (cell_obj (j := 1) h1).1
  have c2 := (cell_obj (j := 2) h1).1
  have HM : Hid (Mm w B M) := m
  by_cases h0 : L.length = 0
  · rw [h0] at c2 ⊢
    clear h1 m
    go_enter Try.func18, Try.ntmps18
    go_wp2_with fail
    go_ret
    exact ⟨rfl, rfl⟩
  · have hl0 : ((L.length : Nat) : Int) ≠ 0 := by omega
    rw [if_neg h0]
    obtain ⟨d, hd⟩ : ∃ d, H + 1 = d := ⟨_, rfl⟩
    have HD : Hid (H + 1 = d) := hd
    rw [hd]
    clear hd
    have HS : Hid (Spot M f R H [] H R [] L [] [] F ∧ (H ≠ 0 → ∃ n, M R = some n ∧ 1 ≤ n.es.length)) := ⟨g.spot, g.one⟩
    have HH : Hid (H ≤ 4096) := hide (by omega)
    have HF3 : Hid (3 ≤ f) := hf3
    have hbq : ((L.length : Int) == 0) = false := by simpa using hl0
    clear h1 m g hlen hhi h0 hf3
    go_enter Try.func18, Try.ntmps18
    go_wp2_with fail
    go_loopg [3, 4] H (fun kx s3 s4 wr => ∃ (k h b : Nat) (up : List (Nat × Nat)) (pre L' post : List Ent) (Fo F' : List Nat), s3 = .int .i64 (k : Int) ∧ s4 = .pointer (some ⟨b, 0, none⟩) ∧ wr = w ∧ h ≤ kx ∧ Hid (k + h = H + 1 ∧ Spot M f R H up h b pre L' post Fo F' ∧ (up ≠ [] → Full M f b) ∧ (h ≠ 0 → ∃ n, M b = some n ∧ 1 ≤ n.es.length)))
    case atStart => exact ⟨1, H, R, [], [], L, [], [], F, rfl, rfl, rfl, Nat.le_refl _, ⟨by omega, HS.out.1, fun q => absurd rfl q, HS.out.2⟩⟩
    case round =>
      obtain ⟨k, h, b, up, pre, L', post, Fo, F', rfl, rfl, rfl, hh, hsp⟩ := hrel
      obtain ⟨n, hn⟩ := hsp.out.2.1.tr.dom
      have hkb : (k : Int) ≤ 4097 := by have := hsp.out.1; have := HH.out; omega
      have hk0 : (0 : Int) ≤ (k : Int) := by omega
      by_cases h0 : h = 0
      · have hend := end_yes HM.out hn ((hsp.out.2.1.tr.ks_nil hn).2 h0)
        have hkH : Hid (k = d) := hide (by have := hsp.out.1; have := HD.out; omega)
        go_wp2_with ((try go_at_call 39); refine hend.mono ?_; rintro e w3 ⟨rfl, h3⟩; rw [h3]; clear h3 w3)
        go_ret
        exact ⟨congrArg (fun x : Nat => Ending.returned (.int .i64 (x : Int))) hkH.out, rfl⟩
      · have hend := end_no HM.out hn (fun q => h0 ((hsp.out.2.1.tr.ks_nil hn).1 q))
        obtain ⟨h', rfl⟩ := Nat.exists_eq_succ_of_ne_zero h0
        obtain ⟨nx, g1, g2⟩ := hsp.out.2.2.2 h0
        rw [hn] at g1; cases g1
        obtain ⟨kb, A, L2, C, FA, F2, FC, q1, q2, q3, q4, _, _⟩ := hsp.out.2.1.kid hn g2 hsp.out.2.2.1 (Nat.zero_le _)
        obtain ⟨rb, rc, ek, hkc, hkm, hkb2, k0⟩ := HM.out.kid hn q1
        obtain ⟨_, cn1, _, _⟩ := ncell (HM.out.top b n hn).1
        rw [ek] at cn1
        have hkl : (0 : Int) < (n.ks.length : Int) := by have := (List.getElem?_eq_some_iff.1 q1).1; omega
        have hkl2 : 0 < n.ks.length := (List.getElem?_eq_some_iff.1 q1).1
        clear q1 g2 ek h0
        go_wp2_with ((try go_at_call 39); refine hend.mono ?_; rintro e w3 ⟨rfl, h3⟩; rw [h3]; clear h3 w3)
        go_roundg h'
        case rel =>
          obtain ⟨nk, z1, z2⟩ := q4
          exact ⟨k + 1, h', kb, _, _, _, _, _, _, rfl, rfl, rfl, Nat.le_refl _, ⟨by have := hsp.out.1; omega, q3, fun _ => ⟨nk, z1, z2⟩, fun _ => ⟨nk, z1, by have := HF3.out; omega⟩⟩⟩
        case measure => omega
theorem Dp.of {R H : Nat} {F : List Nat} (g : Gd M f R H L F) (hlen : L.length ≤ 4096) (hf3 : 3 ≤ f) : Dp f L.length (if L.length = 0 then 0 else H + 1) :=
  ⟨fun q => if_pos q, fun q => ⟨H, if_neg q, fun z => g.size z, by have := g.high hf3; omega⟩⟩
theorem depth_any (t : Te w B tb f M L) : Calls Try.prog 18 #[.pointer (some ⟨tb, 0, none⟩)] w fun e w' => (∃ d : Nat, e = .returned (.int .i64 (d : Int)) ∧ Dp f L.length d) ∧ w' = w := by
  obtain ⟨R, H, F, h1, m, g⟩ := t.ex
  refine (depth_gd h1 m g t.len t.fan.1).mono ?_
  rintro e w' ⟨he, hw⟩
  exact ⟨⟨_, he, .of g t.len t.fan.1⟩, hw⟩
/-- .. the same in each world behind. -/
theorem depth_at (t : Te w B tb f M L) : ∃ d, Dp f L.length d ∧ d ≤ 5000 ∧ ∀ V, Below w.heap.size w V → Calls Try.prog 18 #[.pointer (some ⟨tb, 0, none⟩)] V fun e w' => e = .returned (.int .i64 (d : Int)) ∧ w' = V := by
  obtain ⟨R, H, F, h1, m, g⟩ := t.ex
  refine ⟨_, .of g t.len t.fan.1, ?_, fun V hV => depth_gd ((hV.block tb (t.lt (Or.inr rfl)).2).trans h1) (m.below hV) g t.len t.fan.1⟩
  have := g.high t.fan.1
  have := t.len
  split <;> omega
end

end Go.Proofs.Ytkfoddblgdmabaa.tr
