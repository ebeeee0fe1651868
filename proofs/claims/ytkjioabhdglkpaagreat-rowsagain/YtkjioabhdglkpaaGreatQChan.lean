/- A region in which a send, a receive or a select of one receive stands, in one goroutine, where nothing waits: as a move of the plain walk. -/
import Derived.Test.YtkjioabhdglkpaaGreatRows
import Derived.Conc.LoneSelect
import Derived.RowKit
namespace Go.Proofs.YtkjioabhdglkpaaGreat
open Go.RowKit

/-- From here on in a region: it ends so that Q holds. -/
def OpsTo (P : Program) (ops : Array Oper) (Q : Exit → Act → World → Prop) (l : List Nat) (a : Act) (w : World) : Prop :=
  ∀ (b : Frame) (k : List Item) (cs : List Frame), ∃ e a' w', Q e a' w' ∧ Arrives P (lone (b.at a (.inRegion ops l :: k)) cs w) b k cs e a' w'

/-- An operation that yields a value. -/
def ValTo (P : Program) (o : Oper) (a : Act) (w : World) (next : Act → World → Prop) : Prop :=
  ∃ v w', (execOp a.eval o).run P w = .ok (.value v) w' ∧ next (a.put o.dst v) w'

section
variable {P : Program} {ops : Array Oper} {Q : Exit → Act → World → Prop} {l rest : List Nat} {a : Act} {w w₁ : World} {i : Nat} {o : Oper}

theorem OpsTo.plain (h : wpOps P ops Q l a w) : OpsTo P ops Q l a w := fun b k cs => wp_ops l a w h b k cs

theorem OpsTo.region {id : Nat} (h : OpsTo P ops Q (List.range ops.size) a w) : (Code.region id ops false).wp P Q a w :=
  fun b k cs => let ⟨e, a', w', q, r⟩ := h b k cs; ⟨e, a', w', q, .of_steps (.one step_region) r⟩

theorem OpsTo.value (ho : ops[i]? = some o) (hw : Region.wanted o (yielded ops a.tmps) = true) (h : ValTo P o a w (OpsTo P ops Q rest)) : OpsTo P ops Q (i :: rest) a w := by
  intro b k cs
  obtain ⟨v, w', hr, hn⟩ := h
  obtain ⟨e, a', w'', q, r⟩ := hn b k cs
  refine ⟨e, a', w'', q, .of_steps (.one (step_lone_go ?_)) r⟩
  have hfin : (b.at a (.inRegion ops (i :: rest) :: k)).finish v = b.at (a.put o.dst v) (.inRegion ops rest :: k) := by rw [Frame.finish_at, ho]; rfl
  rw [stepG_op ho hw, ← hfin]
  simp [stepG.apply, hr]

theorem OpsTo.val (v : Value) (w' : World) (ho : ops[i]? = some o) (hw : Region.wanted o (yielded ops a.tmps) = true) (hr : (execOp a.eval o).run P w = .ok (.value v) w') (h : OpsTo P ops Q rest (a.put o.dst v) w') : OpsTo P ops Q (i :: rest) a w := .value ho hw ⟨v, w', hr, h⟩

theorem commG (ho : ops[i]? = some o) (hw : Region.wanted o (yielded ops a.tmps) = true) {cases : Array CommCase} {blocking : Bool} {shape : CommShape} (hr : (execOp a.eval o).run P w = .ok (.comm cases blocking shape) w₁) (b : Frame) (k : List Item) (cs : List Frame) :
    ∃ es, stepG P true (Conc.G (b.at a (.inRegion ops (i :: rest) :: k)) cs) w = .comm (Conc.G (b.at a (.inRegion ops (i :: rest) :: k)) cs) cases blocking shape w₁ es := by
  rw [Conc.stepG_oper ho hw]
  simp [stepG.apply, hr, Conc.G, Frame.at, GStep.after]

theorem OpsTo.move {v : Value} {w' : World} (ho : ops[i]? = some o) (hs : ∀ (b : Frame) (k : List Item) (cs : List Frame), step P (lone (b.at a (.inRegion ops (i :: rest) :: k)) cs w) = .next (lone ((b.at a (.inRegion ops (i :: rest) :: k)).finish v) cs w'))
    (h : OpsTo P ops Q rest (a.put o.dst v) w') : OpsTo P ops Q (i :: rest) a w := by
  intro b k cs
  obtain ⟨e, a', w'', q, r⟩ := h b k cs
  refine ⟨e, a', w'', q, .of_steps (.one ?_) r⟩
  rw [hs b k cs, Frame.finish_at, ho]
  rfl

variable {c cap s r : Nat} {buf : Array Value} {z v : Value} {tm : Bool}

theorem OpsTo.send (ho : ops[i]? = some o) (hw : Region.wanted o (yielded ops a.tmps) = true) (hr : (execOp a.eval o).run P w = .ok (.comm #[Conc.scase c v z] true .send) w₁)
    (hc : w₁.heap[c]? = some (.chan cap buf false s r tm)) (hroom : buf.size < cap) (h : OpsTo P ops Q rest (a.put o.dst undef) (w₁.setChan c cap (buf.push v) false (s + 1) r tm)) : OpsTo P ops Q (i :: rest) a w :=
  .move ho (fun b k cs => let ⟨_, hg⟩ := commG ho hw hr b k cs; Conc.step_lone_send_room hg hc hroom) h

theorem OpsTo.recv (ho : ops[i]? = some o) (hw : Region.wanted o (yielded ops a.tmps) = true) (hr : (execOp a.eval o).run P w = .ok (.comm #[Conc.rcase c z] true (.recv false)) w₁)
    (hc : w₁.heap[c]? = some (.chan cap buf false s r tm)) (hsome : 0 < buf.size) (h : OpsTo P ops Q rest (a.put o.dst (buf.getD 0 undef)) (w₁.setChan c cap (buf.extract 1 buf.size) false s (r + 1) tm)) : OpsTo P ops Q (i :: rest) a w :=
  .move ho (fun b k cs => let ⟨_, hg⟩ := commG ho hw hr b k cs; Conc.step_lone_recv_buf false hg hc hsome) h

theorem OpsTo.pick (ho : ops[i]? = some o) (hw : Region.wanted o (yielded ops a.tmps) = true) (hr : (execOp a.eval o).run P w = .ok (.comm #[Conc.rcase c z] false .select) w₁)
    (hc : w₁.heap[c]? = some (.chan cap buf false s r tm)) (hsome : 0 < buf.size) (h : OpsTo P ops Q rest (a.put o.dst (.tuple #[goInt 0, .bool true, buf.getD 0 undef])) (w₁.setChan c cap (buf.extract 1 buf.size) false s (r + 1) tm)) : OpsTo P ops Q (i :: rest) a w :=
  .move ho (fun b k cs => let ⟨_, hg⟩ := commG ho hw hr b k cs; Conc.step_lone_select_recv_buf hg hc hsome) h

theorem OpsTo.dflt (ho : ops[i]? = some o) (hw : Region.wanted o (yielded ops a.tmps) = true) (hr : (execOp a.eval o).run P w = .ok (.comm #[Conc.rcase c z] false .select) w₁)
    (hc : w₁.heap[c]? = some (.chan cap #[] false s r tm)) (h : OpsTo P ops Q rest (a.put o.dst (.tuple #[goInt (-1), .bool false, z])) w₁) : OpsTo P ops Q (i :: rest) a w :=
  .move ho (fun b k cs => let ⟨_, hg⟩ := commG ho hw hr b k cs; Conc.step_lone_select_default hg hc) h

/-! The same with the slot written out. -/
variable {ts : Array Value} {df : List Deferred} {d : Nat}
theorem OpsTo.valD (d : Nat) (v : Value) (w' : World) (ho : ops[i]? = some o) (hd : o.dst = some d) (hw : Region.wanted o (yielded ops ts) = true) (hr : (execOp (Act.eval ⟨ts, df⟩) o).run P w = .ok (.value v) w') (h : OpsTo P ops Q rest ⟨ts.setIfInBounds d v, df⟩ w') : OpsTo P ops Q (i :: rest) ⟨ts, df⟩ w :=
  .val v w' ho hw hr (by rw [hd]; exact h)
theorem OpsTo.sendD (c : Nat) (v : Value) (ho : ops[i]? = some o) (hd : o.dst = none) (hw : Region.wanted o (yielded ops ts) = true) (hr : (execOp (Act.eval ⟨ts, df⟩) o).run P w = .ok (.comm #[Conc.scase c v (.tuple #[])] true .send) w)
    (hc : w.heap[c]? = some (.chan cap buf false s r tm)) (hroom : buf.size < cap) (h : OpsTo P ops Q rest ⟨ts, df⟩ (w.setChan c cap (buf.push v) false (s + 1) r tm)) : OpsTo P ops Q (i :: rest) ⟨ts, df⟩ w :=
  .send ho hw hr hc hroom (by rw [hd]; exact h)
theorem OpsTo.recvD (d c : Nat) (ho : ops[i]? = some o) (hd : o.dst = some d) (hw : Region.wanted o (yielded ops ts) = true) (hr : (execOp (Act.eval ⟨ts, df⟩) o).run P w = .ok (.comm #[Conc.rcase c z] true (.recv false)) w)
    (hc : w.heap[c]? = some (.chan cap buf false s r tm)) (hsome : 0 < buf.size) (h : OpsTo P ops Q rest ⟨ts.setIfInBounds d (buf.getD 0 undef), df⟩ (w.setChan c cap (buf.extract 1 buf.size) false s (r + 1) tm)) : OpsTo P ops Q (i :: rest) ⟨ts, df⟩ w :=
  .recv ho hw hr hc hsome (by rw [hd]; exact h)
theorem OpsTo.pickD (d c : Nat) (ho : ops[i]? = some o) (hd : o.dst = some d) (hw : Region.wanted o (yielded ops ts) = true) (hr : (execOp (Act.eval ⟨ts, df⟩) o).run P w = .ok (.comm #[Conc.rcase c z] false .select) w)
    (hc : w.heap[c]? = some (.chan cap buf false s r tm)) (hsome : 0 < buf.size) (h : OpsTo P ops Q rest ⟨ts.setIfInBounds d (.tuple #[goInt 0, .bool true, buf.getD 0 undef]), df⟩ (w.setChan c cap (buf.extract 1 buf.size) false s (r + 1) tm)) : OpsTo P ops Q (i :: rest) ⟨ts, df⟩ w :=
  .pick ho hw hr hc hsome (by rw [hd]; exact h)
theorem OpsTo.noneD (d c : Nat) (ho : ops[i]? = some o) (hd : o.dst = some d) (hw : Region.wanted o (yielded ops ts) = true) (hr : (execOp (Act.eval ⟨ts, df⟩) o).run P w = .ok (.comm #[Conc.rcase c z] false .select) w)
    (hc : w.heap[c]? = some (.chan cap #[] false s r tm)) (h : OpsTo P ops Q rest ⟨ts.setIfInBounds d (.tuple #[goInt (-1), .bool false, z]), df⟩ w) : OpsTo P ops Q (i :: rest) ⟨ts, df⟩ w :=
  .dflt ho hw hr hc (by rw [hd]; exact h)
theorem OpsTo.done (h : Q .normal a w) : OpsTo P ops Q [] a w := .plain h
end

end Go.Proofs.YtkjioabhdglkpaaGreat
