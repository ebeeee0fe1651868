/- Layer 10: the law's near, Same; the document's Depth. -/
import Derived.Test.YtkfoddblgdmabaaTrBoth
import Derived.BigQuiet
namespace Go.Proofs.Ytkfoddblgdmabaa.tr
open Go.RowKit

/-- The end of a region: what its frame is, what is known of the world. -/
def EndQ (A : Act) (R : World → Prop) : Exit → Act → World → Prop
  | .normal, a, V => a = A ∧ R V
  | _, _, _ => False
theorem wp_end {P : Program} {c : Code} {Q : Exit → Act → World → Prop} {act : Act} {w : World} (A : Act) (R : World → Prop) (h : c.wp P (EndQ A R) act w) (hk : ∀ V, R V → Q .normal A V) : c.wp P Q act w := by
  refine Code.wp_mono (fun e a V h => ?_) h
  cases e with
  | normal => obtain ⟨rfl, r⟩ := h; exact hk V r
  | _ => exact (h : False).elim
theorem EndQ.mk {A : Act} {R : World → Prop} {V : World} (h : R V) : EndQ A R .normal A V := ⟨rfl, h⟩

def oK : Option Ent → ByteArray
  | some e => e.key
  | none => ⟨#[]⟩
def oN : Option Ent → Int
  | some e => e.n
  | none => 0
theorem optE_eq (o : Option Ent) : optE o = .agg #[.string (oK o), .int .i64 (oN o)] := by cases o <;> rfl
theorem nearV_eq (o : Option Ent) : (nearV o).toArray = #[.string (oK o), .int .i64 (oN o), .bool o.isSome] := by cases o <;> rfl



section
variable {W w w' : World} {B tb f q : Nat} {L : List Ent}
set_option maxHeartbeats 6400000 in
set_option maxRecDepth 100000 in
theorem near_any (b : Bt W w tb f q L L) (key : ByteArray) : Calls Try.prog 17 #[.pointer (some ⟨tb, 0, none⟩), .pointer (some ⟨q, 0, none⟩), .string key] w fun e w' => e = .returned (.bool true) ∧ Bt W w' tb f q L L ∧ Below w.heap.size w w' := by
  obtain ⟨gn, hgn⟩ : ∃ x, getL key L = x := ⟨_, rfl⟩
  obtain ⟨gh, hgh⟩ : ∃ x, hasL key L = x := ⟨_, rfl⟩
  obtain ⟨ak, hak⟩ : ∃ x, oK (atL key L) = x := ⟨_, rfl⟩
  obtain ⟨an, han⟩ : ∃ x, oN (atL key L) = x := ⟨_, rfl⟩
  obtain ⟨ah, hah⟩ : ∃ x, (atL key L).isSome = x := ⟨_, rfl⟩
  obtain ⟨bk, hbk⟩ : ∃ x, oK (beL key L) = x := ⟨_, rfl⟩
  obtain ⟨bn, hbn⟩ : ∃ x, oN (beL key L) = x := ⟨_, rfl⟩
  obtain ⟨bh, hbh⟩ : ∃ x, (beL key L).isSome = x := ⟨_, rfl⟩
  have HG := (show Hid _ from And.intro hgn hgh)
  have HA := (show Hid _ from And.intro hak (And.intro han hah))
  have HB := (show Hid _ from And.intro hbk (And.intro hbn hbh))
  clear hgn hgh hak han hah hbk hbn hbh
  have cG := b.get key
  rw [HG.out.1, HG.out.2] at cG
  clear b
  go_enter Try.func17, Try.ntmps17
  go_wp2_with fail
  refine cG.mono ?_
  rintro e w1 ⟨rfl, b1, h1⟩
  clear cG
  have cR := b1.rget key
  rw [HG.out.1, HG.out.2] at cR
  have cA := b1.at key
  rw [nearV_eq, HA.out.1, HA.out.2.1, HA.out.2.2] at cA
  clear b1
  go_wp2_with fail
  refine cR.mono ?_
  rintro e w2 ⟨rfl, hw⟩
  rw [hw]
  clear hw cR w2
  go_wp2_with fail
  refine cA.mono ?_
  rintro e w2 ⟨rfl, b2, h2⟩
  clear cA
  have hb2 := below2 h1 h2
  have cA := b2.rat key
  rw [optE_eq, HA.out.1, HA.out.2.1, HA.out.2.2] at cA
  clear h1 h2 b2
  go_wp2_with fail
  refine cA.mono ?_
  rintro e w3 ⟨rfl, b3, h3⟩
  clear cA
  have hb3 := below2 hb2 h3
  have b4 := b3.below (below_alloc1 w3 (.cells #[.string ak, .int .i64 an] 54))
  have hb4 := below2 hb3 (below_alloc1 w3 (.cells #[.string ak, .int .i64 an] 54))
  have cB := b4.before key
  rw [nearV_eq, HB.out.1, HB.out.2.1, HB.out.2.2] at cB
  have n4 : (w3.alloc (.cells #[.string ak, .int .i64 an] 54)).heap[w3.heap.size]? = some (.cells #[.string ak, .int .i64 an] 54 (0, 0)) := heap_alloc_new _ _
  clear hb2 h3 b3 hb3 b4
  go_wp2_with fail
  generalize w3.alloc (.cells #[.string ak, .int .i64 an] 54) = w4 at *
  generalize w3.heap.size = X at *
  refine cB.mono ?_
  rintro e w5 ⟨rfl, b5, h5⟩
  clear cB
  have hb5 := below2 hb4 h5
  have n5 := (h5.block X (Array.getElem?_eq_some_iff.1 n4).1).trans n4
  have cB := b5.rbefore key
  rw [optE_eq, HB.out.1, HB.out.2.1, HB.out.2.2] at cB
  clear hb4 h5 n4 b5
  go_wp2_with fail
  refine cB.mono ?_
  rintro e w6 ⟨rfl, b6, h6⟩
  clear cB
  have hb6 := below2 hb5 h6
  have n6 := (h6.block X (Array.getElem?_eq_some_iff.1 n5).1).trans n5
  have h7 := below_alloc1 w6 (.cells #[.string bk, .int .i64 bn] 54)
  have b7 := b6.below h7
  have hb7 := below2 hb6 h7
  have n7 := (h7.block X (Array.getElem?_eq_some_iff.1 n6).1).trans n6
  have m7 : (w6.alloc (.cells #[.string bk, .int .i64 bn] 54)).heap[w6.heap.size]? = some (.cells #[.string bk, .int .i64 bn] 54 (0, 0)) := heap_alloc_new _ _
  clear hb5 n5 b6 h6 hb6 n6 h7
  go_wp2_with fail
  generalize w6.alloc (.cells #[.string bk, .int .i64 bn] 54) = w7 at *
  generalize w6.heap.size = Y at *
  have x0 := (cell_obj (j := 0) n7).1
  have x1 := (cell_obj (j := 1) n7).1
  have y0 := (cell_obj (j := 0) m7).1
  have y1 := (cell_obj (j := 1) m7).1
  have cL : ∀ k, Calls Try.prog 25 #[.pointer (some ⟨tb, 0, none⟩)] (w7.drewN k) fun e w' => e = .returned (.int .i64 (L.length : Int)) ∧ w' = w7.drewN k := fun k => (b7.below (below_drewN w7 k)).tlen
  obtain ⟨M, v, t, r⟩ := b7.ex
  obtain ⟨va, vc, ev, _, _⟩ := r.row.len
  have z0 := (cell_obj (j := 0) r.top).1
  rw [ev] at z0
  have FIN : Hid (∀ k, Bt W (w7.drewN k) tb f q L L ∧ Below w.heap.size w (w7.drewN k)) := fun k => ⟨b7.below (below_drewN w7 k), below2 hb7 (below_drewN w7 k)⟩
  clear b7 hb7 n7 m7 t r ev HG HA HB
  go_quiet (first | (go_at_call 25; exact Calls.quiet_of_same (cL _)))
  go_wp2_with fail
  go_ret
  exact ⟨rfl, FIN.out _⟩
end

end Go.Proofs.Ytkfoddblgdmabaa.tr
