/-
  A new row put behind the rows that the call makes; a number behind a new row.
-/
import Derived.Test.YtcoiodfggaanbaaGridOwn
import Derived.Test.YtcoiodfggaanbaaCountSpec
import Derived.Deep.AppendLies
namespace Go.Proofs.Ytcoiodfggaanbaa
open Go Go.RowKit

theorem infoSlP : (Try.prog.info? 68).map (fun i => (i.zero, i.size, i.bytes)) = some (some (.slice none 0 0), 1, 24) := by kernel_rfl
/-- A row that is new has been put behind the others. -/
theorem own_append {w0 w w3 : World} {B gg cap : Nat} {v r : Value} {vs : List Value} {m : List (List Int)} {xs : List Int} (hO : w0.ownsRow B 68 1 v m.length vs) (hR : RowsOwn w0 B v.ownBlock vs m) (hb : Below w0.heap.size w0 w)
    (hr : w.ownsRow B 3 1 r xs.length (xs.map (Value.int .i64))) (hf : ∀ g, r.ownBlock = some g → w0.heap.size ≤ g)
    (ho3 : w3.ownsRow B 68 1 (.slice (some ⟨gg, 0, none⟩) (m.length + 1) cap) (m.length + 1) (vs ++ [r])) (hg3 : w.grownBy w3 v.ownBlock) (hat : v.ownBlock = some gg ∨ gg = w.heap.size) :
    RowsOwn w3 B (some gg) (vs ++ [r]) (m ++ [xs]) := by
  have hv := hO.lt
  have hrl := hr.lt
  have hbs := hb.size
  have hR1 := hR.below hb
  have hgg : ∀ g, r.ownBlock = some g → g ≠ gg := by
    intro g hg e
    rcases hat with h | h
    · have := (hv gg h).2
      have := hf g hg
      omega
    · have := (hrl g hg).2
      omega
  have hne : r.ownBlock = none ∨ r.ownBlock ≠ v.ownBlock := by
    cases e : r.ownBlock with
    | none => exact Or.inl rfl
    | some g =>
      refine Or.inr fun h => ?_
      have := (hv g h.symm).2
      have := hf g e
      omega
  have hR2 : RowsOwn w3 B (some gg) vs m := by
    have h1 : RowsOwn w B (some gg) vs m := by
      refine ⟨hR1.len, fun k s hk => ⟨(hR1.row k s hk).1, ?_⟩, hR1.two⟩
      cases e : s.ownBlock with
      | none => exact Or.inl rfl
      | some g =>
        refine Or.inr fun h => ?_
        obtain rfl := Option.some.inj h
        rcases hat with h2 | h2
        · rcases (hR.row k s hk).2 with h3 | h3
          · rw [e] at h3; cases h3
          · exact h3 (e.trans h2.symm)
        · have := (hR1.lt hk _ e).2
          omega
    exact h1.kept hg3 fun k s hk => (hR1.row k s hk).2
  refine hR2.push (hr.kept hg3 hne) ?_ fun k s hk => ?_
  · cases e : r.ownBlock with
    | none => exact Or.inl rfl
    | some g => exact Or.inr fun h => hgg g e (Option.some.inj h)
  · cases e : s.ownBlock with
    | none => exact Or.inl rfl
    | some g =>
      refine Or.inr fun h => ?_
      have := (hR.lt hk g e).2
      have := hf g h.symm
      omega
theorem kept_below {w w1 : World} {B n e : Nat} {v : Value} {vs : List Value} (h : w.ownsRow B e 1 v n vs) (hb : Below w.heap.size w w1) : w1.ownsRow B e 1 v n vs := by
  refine h.kept (row := none) ⟨hb.os, hb.tape, hb.output, hb.size, fun j hj _ => hb.block j hj⟩ ?_
  cases e : v.ownBlock with
  | none => exact Or.inl rfl
  | some g => exact Or.inr (by intro h; cases h)
theorem grown_trans {w w1 w2 : World} {r r1 : Option Nat} (h : w.grownBy w1 r) (k : w1.grownBy w2 r1) (hr : r1 = r ∨ ∃ g, r1 = some g ∧ w.heap.size ≤ g) : w.grownBy w2 r := by
  refine ⟨k.os.trans h.os, k.tape.trans h.tape, k.output.trans h.output, Nat.le_trans h.size k.size, fun j hj hne => ?_⟩
  refine (k.block j (Nat.lt_of_lt_of_le hj h.size) ?_).trans (h.block j hj hne)
  rcases hr with rfl | ⟨g, rfl, hg⟩
  · exact hne
  · intro e
    have := Option.some.inj e
    omega
theorem below_grown {w w' : World} (h : Below w.heap.size w w') (r : Option Nat) : w.grownBy w' r := ⟨h.os, h.tape, h.output, h.size, fun k hk _ => h.block k hk⟩
theorem fill_next {B : Nat} {w0 w w3 : World} {gg cap : Nat} {v u : Value} {vs : List Value} {out : List (List Int)} {head : List Int} (hO : w0.ownsRow B 68 1 v out.length vs) (hR : RowsOwn w0 B v.ownBlock vs out) (h0 : Below w0.heap.size w0 w) (hB : B ≤ w0.heap.size)
    (hu : w.ownsRow w0.heap.size 3 1 u head.length (head.map (Value.int .i64))) (o : Obj)
    (ho3 : w3.ownsRow B 68 1 (.slice (some ⟨gg, 0, none⟩) (out.length + 1) cap) (out.length + 1) (vs ++ [u])) (hg3 : (w.alloc o).grownBy w3 v.ownBlock) (hat : v.ownBlock = some gg ∨ gg = w.heap.size + 1) :
    w3.ownsRow B 68 1 (.slice (some ⟨gg, 0, none⟩) (out.length + 1) cap) (out ++ [head]).length (vs ++ [u]) ∧ RowsOwn w3 B (Value.slice (some ⟨gg, 0, none⟩) (out.length + 1) cap).ownBlock (vs ++ [u]) (out ++ [head]) ∧ w.grownBy w3 v.ownBlock ∧
      ((Value.slice (some ⟨gg, 0, none⟩) (out.length + 1) cap).ownBlock = v.ownBlock ∨ ∃ g, (Value.slice (some ⟨gg, 0, none⟩) (out.length + 1) cap).ownBlock = some g ∧ w.heap.size ≤ g) := by
  have hb1 : Below w0.heap.size w0 (w.alloc o) := h0.alloc h0.size o
  refine ⟨by rw [List.length_append]; exact ho3, own_append (w := w.alloc o) (cap := cap) hO hR hb1 (World.ownsRow.alloc (World.ownsRow.mono hu hB) o) (fun g hg => (hu.lt g hg).1) ho3 hg3 (by rw [World.size_alloc]; exact hat), grown_trans (World.grownBy_alloc w o none |> fun h => ⟨h.os, h.tape, h.output, h.size, fun k hk _ => h.block k hk (by intro e; cases e)⟩) hg3 (Or.inl rfl), ?_⟩
  rcases hat with h | h
  · exact Or.inl h.symm
  · exact Or.inr ⟨gg, rfl, by omega⟩
theorem head_next {W1 w1 w3 : World} {gg cap n : Nat} {u : Value} {head : List Int} {x : Int} (hb : Below W1.heap.size W1 w1) (hU : w1.ownsRow W1.heap.size 3 1 u head.length (head.map (Value.int .i64))) (o : Obj) (hn : n = head.length + 1)
    (ho3 : w3.ownsRow W1.heap.size 3 1 (.slice (some ⟨gg, 0, none⟩) n cap) n (head.map (Value.int .i64) ++ [.int .i64 x])) (hg3 : (w1.alloc o).grownBy w3 u.ownBlock) :
    w3.ownsRow W1.heap.size 3 1 (.slice (some ⟨gg, 0, none⟩) (head ++ [x]).length cap) (head ++ [x]).length ((head ++ [x]).map (Value.int .i64)) ∧ Below W1.heap.size W1 w3 := by
  subst hn
  refine ⟨?_, (hb.alloc hb.size o).grown hg3 (by have := hb.size; simp; omega) fun q hq => (hU.lt q hq).1⟩
  rw [List.length_append, List.map_append]; exact ho3
/-- A new table. -/
def NewGS (m : List (List Int)) (w : World) (e : Ending) (w' : World) : Prop := ∃ v, e = .returned v ∧ OwnG w' w.heap.size v m ∧ Below w.heap.size w w'
end Go.Proofs.Ytcoiodfggaanbaa
