/- Layer 10: two trees, and the document's tree beside. -/
import Derived.Test.YtkfoddblgdmabaaTrLaw
namespace Go.Proofs.Ytkfoddblgdmabaa.tr
open Go.RowKit

/-- Blocks that are no tree's stay. -/
def OthT (w w' : World) : Prop := ∀ (k : Nat) (cur : Array Value) (T : TypeId), w.heap[k]? = some (Obj.cells cur T (0, 0)) → ¬ tT T → w'.heap[k]? = w.heap[k]?
theorem OthT.of_below {w w' : World} (h : Below w.heap.size w w') : OthT w w' := fun k _ _ h1 _ => h.block k (Array.getElem?_eq_some_iff.1 h1).1

section
variable {W w w' : World} {ta fa tb fb q : Nat} {La Lb Lr : List Ent}
/-- Both trees and the document's, in blocks behind those of a world. -/
structure Tb (W w : World) (ta fa : Nat) (La : List Ent) (tb fb : Nat) (Lb : List Ent) (q : Nat) (Lr : List Ent) : Prop where
  ex : ∃ Ma Mb v, Te w W.heap.size ta fa Ma La ∧ Te w W.heap.size tb fb Mb Lb ∧ (∀ k, Tf ta Ma k → ¬ Tf tb Mb k) ∧ Rf W.heap.size w q v Lr
  bel : Below W.heap.size W w
  ka : Ks La
  kb : Ks Lb
  rlen : Lr.length ≤ 4096
theorem Tb.swap (x : Tb W w ta fa La tb fb Lb q Lr) : Tb W w tb fb Lb ta fa La q Lr := by
  obtain ⟨⟨Ma, Mb, v, h1, h2, h3, h4⟩, hb, ka, kb, hl⟩ := x
  exact ⟨⟨Mb, Ma, v, h2, h1, fun k e g => h3 k g e, h4⟩, hb, kb, ka, hl⟩
theorem Tb.below (x : Tb W w ta fa La tb fb Lb q Lr) (h : Below w.heap.size w w') : Tb W w' ta fa La tb fb Lb q Lr := by
  obtain ⟨⟨Ma, Mb, v, h1, h2, h3, h4⟩, hb, ka, kb, hl⟩ := x
  exact ⟨⟨Ma, Mb, v, h1.below h, h2.below h, h3, h4.below h⟩, hb.trans (h.mono hb.size), ka, kb, hl⟩
/-- The one of them. -/
theorem Tb.one (x : Tb W w ta fa La tb fb Lb q Lr) : Bt W w ta fa q La Lr := by
  obtain ⟨⟨Ma, Mb, v, h1, h2, h3, h4⟩, hb, ka, kb, hl⟩ := x
  exact ⟨⟨Ma, v, h1, h4⟩, hb, ka, hl⟩
theorem Tb.step {Ma Mb Ma' : Mp} {v : Value} {La' : List Ent} (h1 : Te w W.heap.size ta fa Ma La) (h2 : Te w W.heap.size tb fb Mb Lb) (h3 : ∀ k, Tf ta Ma k → ¬ Tf tb Mb k) (h4 : Rf W.heap.size w q v Lr) (hb : Below W.heap.size W w) (ka : Ks La') (kb : Ks Lb) (hl : Lr.length ≤ 4096)
    (h5 : Te w' W.heap.size ta fa Ma' La') (to : TeTo w ta Ma w' Ma') : Tb W w' ta fa La' tb fb Lb q Lr ∧ OthT w w' := by
  refine ⟨⟨⟨Ma', Mb, v, h5, h2.kept (fun k e => to.fr.block k (h2.lt e).2 (fun g => h3 k g e)), fun k e g => ?_, h4.kept (fun j e => ?_)⟩, hb.trans (to.below h1), ka, kb, hl⟩, fun k cur T e g => to.fr.block k (Array.getElem?_eq_some_iff.1 e).1 (h1.away e g)⟩
  · rcases e with e | rfl
    · rcases to.ft k e with e | e
      · exact h3 k (Or.inl e) g
      · have := (h2.lt g).2
        omega
    · exact h3 k (Or.inr rfl) g
  · obtain ⟨cur, T, z1, z2⟩ := h4.tag e
    exact to.fr.block j (h4.lt e).2 (h1.away z1 (fun z => tags_ne z z2))
theorem Tb.put (x : Tb W w ta fa La tb fb Lb q Lr) (key : ByteArray) (z : Int) (hk : key.size ≤ 281474976710656) : Calls Try.prog 12 #[.pointer (some ⟨ta, 0, none⟩), .string key, .int .i64 z] w fun e w' => e = .returned (.tuple #[.bool (putT key z La).1, .int .i64 (putT key z La).2.1]) ∧ Tb W w' ta fa (putT key z La).2.2 tb fb Lb q Lr ∧ OthT w w' := by
  obtain ⟨⟨Ma, Mb, v, h1, h2, h3, h4⟩, hb, ka, kb, hl⟩ := x
  refine (put_any h1 key z hk).mono ?_
  rintro e w' ⟨he, M', t', to⟩
  exact ⟨he, Tb.step h1 h2 h3 h4 hb ka.put kb hl t' to⟩
theorem Tb.del (x : Tb W w ta fa La tb fb Lb q Lr) (key : ByteArray) : Calls Try.prog 14 #[.pointer (some ⟨ta, 0, none⟩), .string key] w fun e w' => e = .returned (.bool (hasL key La)) ∧ Tb W w' ta fa (delL key La) tb fb Lb q Lr ∧ OthT w w' := by
  obtain ⟨⟨Ma, Mb, v, h1, h2, h3, h4⟩, hb, ka, kb, hl⟩ := x
  refine (delete_any h1 key).mono ?_
  rintro e w' ⟨he, M', t', to⟩
  exact ⟨he, Tb.step h1 h2 h3 h4 hb ka.del kb hl t' to⟩
theorem Tb.rput (x : Tb W w ta fa La tb fb Lb q Lr) (key : ByteArray) (z : Int) (hs : Srt Lr) : Calls Try.prog 13 #[.pointer (some ⟨q, 0, none⟩), .string key, .int .i64 z] w fun e w' => e = .returned (.tuple #[.bool (putT key z Lr).1, .int .i64 (putT key z Lr).2.1]) ∧ Tb W w' ta fa La tb fb Lb q (putT key z Lr).2.2 := by
  obtain ⟨⟨Ma, Mb, v, h1, h2, h3, h4⟩, hb, ka, kb, hl⟩ := x
  refine (rput_any h4 hb.size hl key z).mono ?_
  rintro e w' ⟨he, to⟩
  obtain ⟨v', r', fr, new⟩ := to.ex
  have hk : ∀ {t f : Nat} {M : Mp} {L : List Ent}, Te w W.heap.size t f M L → Te w' W.heap.size t f M L := fun t => t.kept (fun k e => by
    obtain ⟨cur, T, z1, z2⟩ := t.tag e
    exact fr.block k (t.lt e).2 (h4.away z1 (fun z => tags_ne z2 z)))
  exact ⟨he, ⟨Ma, Mb, v', hk h1, hk h2, h3, r'⟩, hb.trans (fr.below (Below.refl _ _) hb.size (fun k e => (h4.lt e).1)), ka, kb, putT_len key z hs hl⟩
theorem Tb.copy {L : List Ent} (x : Bt W w ta fa q L Lr) : Calls Try.prog 16 #[.pointer (some ⟨ta, 0, none⟩)] w fun e w' => ∃ tc, e = .returned (.pointer (some ⟨tc, 0, none⟩)) ∧ Tb W w' ta fa L tc fa L q Lr := by
  obtain ⟨⟨M, v, t, r⟩, hb, hk, hl⟩ := x
  refine (tcopy_any t).mono ?_
  rintro e w' ⟨tc, M2, he, t2, h⟩
  refine ⟨tc, he, ⟨⟨M, M2, v, t.below h, t2.mono hb.size, fun k e g => ?_, r.below h⟩, hb.trans (h.mono hb.size), hk, hk, hl⟩⟩
  have := (t.lt e).2
  have := (t2.lt g).1
  omega
/-- Two trees, made one behind the other, and the document's. -/
theorem Tb.start {w1 : World} {Ma Mb : Mp} (t1 : Te w1 W.heap.size ta fa Ma []) (h1 : Below W.heap.size W w1) (t2 : Te w w1.heap.size tb fb Mb []) (h2 : Below w1.heap.size w1 w) : Tb W (w.alloc (.cells #[.slice none 0 0] 32)) ta fa [] tb fb [] w.heap.size [] := by
  have h := below_alloc1 w (.cells #[.slice none 0 0] 32)
  have h12 := h1.trans (h2.mono h1.size)
  refine ⟨⟨Ma, Mb, _, (t1.below h2).below h, (t2.mono h1.size).below h, fun k e g => ?_, heap_alloc_new _ _, grow_nil _ _ _ _ _, h12.size⟩, h12.trans (h.mono h12.size), (fun e he => by cases he), (fun e he => by cases he), Nat.zero_le _⟩
  have := (t1.lt e).2
  have := (t2.lt g).1
  omega
end

end Go.Proofs.Ytkfoddblgdmabaa.tr
