/-
  A LOOP OVER AN ITERATOR THAT CALLS OTHER ITERATORS, by the blocks that the loop's body may turn (no program's function in this text): the body owns some blocks; the iterator keeps them and all that was there ahead of it; the body keeps all others.
-/
import Derived.Test.YthljogoggiejmaaGridOps
import Derived.RangeFuncBound
import Derived.RangeFuncLeaves
import Derived.RangeFuncCalls
namespace Go.Proofs.Ythljogoggiejmaa
open Go Go.RowKit

/-- Of what was there only blocks of O have turned. -/
structure Turn (O : Nat → Prop) (w w' : World) : Prop where
  os : w'.os = w.os
  tape : w'.tape = w.tape
  output : w'.output = w.output
  size : w.heap.size ≤ w'.heap.size
  block : ∀ k, k < w.heap.size → ¬ O k → w'.heap[k]? = w.heap[k]?
namespace Turn
variable {O O' : Nat → Prop} {w w' w'' : World}
theorem refl (O : Nat → Prop) (w : World) : Turn O w w := ⟨rfl, rfl, rfl, Nat.le_refl _, fun _ _ _ => rfl⟩
theorem trans (h : Turn O w w') (k : Turn O' w' w'') (ho : ∀ j, j < w.heap.size → O' j → O j) : Turn O w w'' :=
  ⟨k.os.trans h.os, k.tape.trans h.tape, k.output.trans h.output, Nat.le_trans h.size k.size, fun j hj hn => (k.block j (Nat.lt_of_lt_of_le hj h.size) fun e => hn (ho j hj e)).trans (h.block j hj hn)⟩
theorem mono (h : Turn O w w') (ho : ∀ j, j < w.heap.size → O j → O' j) : Turn O' w w' :=
  ⟨h.os, h.tape, h.output, h.size, fun j hj hn => h.block j hj fun e => hn (ho j hj e)⟩
theorem of_below (O : Nat → Prop) (h : Below w.heap.size w w') : Turn O w w' := ⟨h.os, h.tape, h.output, h.size, fun j hj _ => h.block j hj⟩
theorem below (h : Turn O w w') {B : Nat} (hB : B ≤ w.heap.size) (ho : ∀ j, O j → B ≤ j) : Below B w w' :=
  ⟨h.os, h.tape, h.output, h.size, fun j hj => h.block j (by omega) fun e => by have := ho j e; omega⟩
theorem cell (h : Turn O w w') {p : Addr} (hp : ¬ O p.block) (hl : p.block < w.heap.size) : w'.cell? p = w.cell? p := by
  have hb := h.block p.block hl hp
  unfold World.cell?
  rw [hb]
theorem frozen (h : Turn O w w') {p : Addr} (hp : ¬ O p.block) (hl : p.block < w.heap.size) : w'.frozen? p = w.frozen? p := by
  have hb := h.block p.block hl hp
  unfold World.frozen?
  rw [hb]
theorem put (w : World) {l : Nat} (o : Obj) (h : O l) : Turn O w (w.putObj l o) :=
  ⟨rfl, rfl, rfl, by simp, fun _ _ hn => World.putObj_heap_other fun e => hn (e ▸ h)⟩
theorem grown {g : Nat} (h : w.grownBy w' (some g)) (ho : O g) : Turn O w w' :=
  ⟨h.os, h.tape, h.output, h.size, fun k hk hn => h.block k hk (by intro e; exact hn (by cases e; exact ho))⟩
/-- An owned row that lies in no block of O. -/
theorem row (h : Turn O w w') {B e s n : Nat} {v : Value} {xs : List Value} (hr : w.ownsRow B e s v n xs) (hv : ∀ k, v.ownBlock = some k → ¬ O k) : w'.ownsRow B e s v n xs := by
  obtain ⟨h1, h2⟩ := hr
  refine ⟨h1, ?_⟩
  rcases h2 with h2 | ⟨g, cap, cur, rfl, hB, hg, hrest⟩
  · exact Or.inl h2
  · exact Or.inr ⟨g, cap, cur, rfl, hB, (h.block g (Array.getElem?_eq_some_iff.1 hg).1 (hv g rfl)).trans hg, hrest⟩
end Turn
/-- What J says holds on where only blocks turn that J does not own and that were not there ahead of B. -/
def Steady {β : Type} (B : Nat) (J : (Nat → Prop) → β → World → Prop) : Prop := ∀ O s W W', J O s W → Turn (fun k => ¬ O k ∧ B ≤ k) W W' → J O s W'
/-- O' is O with new blocks and maybe the block of v. -/
def Grow (O : Nat → Prop) (s : Nat) (v : Value) (O' : Nat → Prop) : Prop := ∀ k, O' k → O k ∨ s ≤ k ∨ v.ownBlock = some k
/-- What is handed to a round: it lies in no block of O. -/
structure RowLike {α : Type} (Row : (Nat → Prop) → World → Value → α → Prop) : Prop where
  kept : ∀ {O O' : Nat → Prop} {W W' : World} {v : Value} {x : α}, Row O W v x → (∀ k, O' k → O k) → Turn O W W' → Row O' W' v x
  apart : ∀ {O : Nat → Prop} {W : World} {v : Value} {x : α}, Row O W v x → ∀ k, v.ownBlock = some k → ¬ O k

/-- The function value gf with the captured places lb hands each of xs to a round, one after the other, till a round says that this is enough. -/
def RunsF {α : Type} (P : Program) (gf : Nat) (lb : Array Value) (Row : (Nat → Prop) → World → Value → α → Prop) (xs : List α) (O0 : Nat → Prop) (w : World) : Prop :=
  ∀ (l : Nat) (O : Nat → Prop) (J Jx : (Nat → Prop) → List α → World → Prop) (W : World),
    Below w.heap.size w W → (∀ k, O k → O0 k ∨ w.heap.size ≤ k) → (∀ O s W, J O s W → ∀ k, O k → k < W.heap.size) → Steady W.heap.size J → Steady W.heap.size Jx →
    (∀ O1 pre x v W1, J O1 pre W1 → Row O1 W1 v x → pre ++ [x] <+: xs → YieldAt Fence.wide 0 P l #[v] W1 fun e W' =>
      ∃ O', Grow O1 W1.heap.size v O' ∧ Turn O1 W1 W' ∧ ((e = .returned (.bool true) ∧ J O' (pre ++ [x]) W') ∨ (e = .returned (.bool false) ∧ Jx O' (pre ++ [x]) W'))) →
    J O [] W →
    CallsIn Fence.wide 0 P gf (#[.func (.yield l) #[] #[]] ++ lb) W fun e W' => (∃ v, e = .returned v) ∧ ∃ O', (∀ k, O' k → O k ∨ W.heap.size ≤ k) ∧ Turn O W W' ∧ (J O' xs W' ∨ ∃ pre, pre <+: xs ∧ Jx O' pre W')

/-- How the body of a round may be left. -/
def footPost {α : Type} (O : Nat → Prop) (I : (Nat → Prop) → List α → World → Prop) (Ix : Code → (Nat → Prop) → List α → World → Prop) (s : List α) (v : Value) (W : World) : Exit → Act → World → Prop
  | .normal, _, W' => ∃ O', Grow O W.heap.size v O' ∧ Turn O W W' ∧ I O' s W'
  | .ret, _, W' => ∃ O', Grow O W.heap.size v O' ∧ Turn O W W' ∧ Ix .ret O' s W'
  | .exit id, _, W' => ∃ O', Grow O W.heap.size v O' ∧ Turn O W W' ∧ Ix (.exit id) O' s W'
  | .goto t, _, W' => ∃ O', Grow O W.heap.size v O' ∧ Turn O W W' ∧ Ix (.goto t) O' s W'
  | .panic _, _, _ => False
  | .outgrown, _, _ => False

theorem room_wide' (k : Nat) : Fence.wide.room k := fun d h => by cases h
theorem callsIn_wide_any {n m : Nat} {P : Program} {f : FuncId} {args : Array Value} {w : World} {R : Ending → World → Prop} (h : CallsIn Fence.wide n P f args w R) : CallsIn Fence.wide m P f args w R := callsIn_wide.2 (callsIn_wide.1 h)
theorem roundIn_wide_any {n m : Nat} {P : Program} {l : Nat} {f : FuncId} {tmps : Array Value} {assign body : Code} {w : World} {R : Ending → World → Prop} (h : RoundIn Fence.wide n P l f tmps assign body w R) : RoundIn Fence.wide m P l f tmps assign body w R :=
  ⟨h.1, fun c cs _ => h.2 c cs (room_wide' _)⟩

theorem wpIn_rangeFunc_foot {α : Type} {P : Program} {n : Nat} {g : Operand} {ps : Array Tmp} {assign body : Code} {Q : Exit → Act → World → Prop} {a : Act} {w : World} {gf : Nat} {lb : Array Value}
    (hps : ps.size = 1) (hg : a.eval g = .func (.func gf) #[] lb) (eg : ∀ args w, (callFunc gf args).run P w = .ok (.enter gf args) w)
    {Row : (Nat → Prop) → World → Value → α → Prop} (hRow : RowLike Row) {xs : List α} {O0 : Nat → Prop} (hseq : RunsF P gf lb Row xs O0 w)
    (I : (Nat → Prop) → List α → World → Prop) (Ix : Code → (Nat → Prop) → List α → World → Prop) (hI : Steady w.heap.size I) (hIx : ∀ c, Steady w.heap.size (Ix c))
    (hIb : ∀ O s W, I O s W → ∀ k, O k → k < W.heap.size) (h0 : I O0 [] w) (a₁ : Value → Act)
    (hassign : ∀ (l : Nat) (v : Value) (W : World) (K : Act → World → Prop), K (a₁ v) W →
      assign.wpIn (Fence.wide.inRound l) (n - 1 - 1) P (Exit.then K (fun _ _ _ => False)) { tmps := (ps.zip #[v]).foldl (fun t (p, v) => t.setIfInBounds p v) a.tmps, defers := [] } W)
    (hbody : ∀ (l : Nat) (O : Nat → Prop) (pre : List α) (x : α) (v : Value) (W : World), I O pre W → Row O W v x → pre ++ [x] <+: xs → body.wpIn (Fence.wide.inRound l) (n - 1 - 1) P (footPost O I Ix (pre ++ [x]) v W) (a₁ v) W)
    (hdone : ∀ (D : Nat) (O : Nat → Prop) (W : World), w.heap.size ≤ D → ¬ O D → (∀ k, O k → O0 k ∨ w.heap.size ≤ k) → Turn O0 w W → I O xs W → W.heap[D]? = some (.deferred (some [])) → Q .normal { a with defers := { target := .collected D, args := #[] } :: a.defers } W)
    (hstop : ∀ (D : Nat) (c : Code) (O : Nat → Prop) (pre : List α) (W : World), w.heap.size ≤ D → ¬ O D → (∀ k, O k → O0 k ∨ w.heap.size ≤ k) → Turn O0 w W → pre <+: xs → Ix c O pre W → W.heap[D]? = some (.deferred (some [])) →
      c.wpIn Fence.wide n P Q { a with defers := { target := .collected D, args := #[] } :: a.defers } W) :
    (Code.rangeFunc g ps assign body).wpIn Fence.wide n P Q a w := by
  refine wpIn_rangeFunc ?_
  intro fn hfn
  obtain ⟨rec, hrec⟩ : ∃ rec : LoopState → Option Code → Loop, rec = fun st pe => { state := st, pending := pe, fn, tmps := a.tmps, params := ps, assign, body, defers := w.heap.size } := ⟨_, rfl⟩
  obtain ⟨D, hD⟩ : ∃ D, D = w.heap.size := ⟨_, rfl⟩
  obtain ⟨l, hl⟩ : ∃ l, l = w.heap.size + 1 := ⟨_, rfl⟩
  obtain ⟨W1, hW1⟩ : ∃ W1, (w.alloc (.deferred (some []))).alloc (.loop (rec .ready none)) = W1 := ⟨_, rfl⟩
  have hL1 : W1.heap[l]? = some (.loop (rec .ready none)) := by
    rw [← hW1, hl]
    have h := World.alloc_heap_new (w.alloc (.deferred (some []))) (.loop (rec .ready none))
    rwa [World.size_alloc] at h
  have hK1 : W1.heap[D]? = some (.deferred (some [])) := by
    rw [← hW1, hD]
    exact (Below.heap_alloc _ _ _ (by simp)).trans (World.alloc_heap_new w _)
  have hb1 : Below w.heap.size w W1 := by
    rw [← hW1]
    exact ((Below.refl _ w).alloc (Nat.le_refl _) _).alloc (by simp) _
  have hs1 : W1.heap.size = w.heap.size + 2 := by rw [← hW1]; simp
  have hI1 : I O0 [] W1 := hI _ _ _ _ h0 (Turn.of_below _ hb1)
  have hlO : ∀ O s W, I O s W → ¬ O l → ¬ O D → Turn (fun k => ¬ O k ∧ w.heap.size ≤ k) W W := fun _ _ _ _ _ _ => Turn.refl _ _
  have h0w : ∀ k, O0 k → k < w.heap.size := hIb _ _ _ h0
  clear hlO
  refine ⟨l, [{ target := .collected D, args := #[] }], W1, { target := .fn (.func gf) lb, args := #[.func (.yield l) #[] #[]] }, W1, gf, #[.func (.yield l) #[] #[]] ++ lb, W1, ?_, ?_, ?_, ?_, (fun h => by cases h), ?_⟩
  · rw [← hW1, hrec, hl, hD]
    exact run_enterLoop_outer _ _ _ _ _
  · simp only [resolve, hg]
    simp [go_sem]
  · intro f' _
    trivial
  · simp [invoke, go_sem, eg]
  · -- THE ITERATOR, AT WHAT THE BODY OWNS AND THE TWO BLOCKS OF BOOK-KEEPING
    have hq := hseq l (fun k => O0 k ∨ k = l ∨ k = D)
      (fun O s W => ∃ OI : Nat → Prop, O = (fun k => OI k ∨ k = l ∨ k = D) ∧ ¬ OI l ∧ ¬ OI D ∧ I OI s W ∧ W.heap[l]? = some (.loop (rec .ready none)) ∧ W.heap[D]? = some (.deferred (some [])))
      (fun O s W => ∃ c, ∃ OI : Nat → Prop, O = (fun k => OI k ∨ k = l ∨ k = D) ∧ ¬ OI l ∧ ¬ OI D ∧ Ix c OI s W ∧ W.heap[l]? = some (.loop (rec .done (some c))) ∧ W.heap[D]? = some (.deferred (some [])))
      W1 hb1 (fun k hk => by rcases hk with h | h | h <;> first | exact Or.inl h | (right; omega))
      (fun O s W h k hk => by
        obtain ⟨OI, rfl, _, _, h1, h2, h3⟩ := h
        rcases hk with hk | rfl | rfl
        · exact hIb _ _ _ h1 k hk
        · exact (Array.getElem?_eq_some_iff.1 h2).1
        · exact (Array.getElem?_eq_some_iff.1 h3).1)
      (fun O s W W' h ht => by
        obtain ⟨OI, rfl, n1, n2, h1, h2, h3⟩ := h
        refine ⟨OI, rfl, n1, n2, hI _ _ _ _ h1 (ht.mono fun j _ hj => ⟨fun e => hj.1 (Or.inl e), by have := hj.2; omega⟩), ?_, ?_⟩
        · exact (ht.block l (Array.getElem?_eq_some_iff.1 h2).1 fun e => e.1 (Or.inr (Or.inl rfl))).trans h2
        · exact (ht.block D (Array.getElem?_eq_some_iff.1 h3).1 fun e => e.1 (Or.inr (Or.inr rfl))).trans h3)
      (fun O s W W' h ht => by
        obtain ⟨c, OI, rfl, n1, n2, h1, h2, h3⟩ := h
        refine ⟨c, OI, rfl, n1, n2, hIx c _ _ _ _ h1 (ht.mono fun j _ hj => ⟨fun e => hj.1 (Or.inl e), by have := hj.2; omega⟩), ?_, ?_⟩
        · exact (ht.block l (Array.getElem?_eq_some_iff.1 h2).1 fun e => e.1 (Or.inr (Or.inl rfl))).trans h2
        · exact (ht.block D (Array.getElem?_eq_some_iff.1 h3).1 fun e => e.1 (Or.inr (Or.inr rfl))).trans h3)
      ?_ ⟨O0, rfl, fun e => by have := h0w _ e; omega, fun e => by have := h0w _ e; omega, hI1, hL1, hK1⟩
    · -- BEHIND THE ITERATOR
      refine callsIn_wide_any (CallsIn.mono hq ?_)
      have endO : ∀ (O' OI : Nat → Prop) (W2 : World), (∀ k, O' k → (O0 k ∨ k = l ∨ k = D) ∨ W1.heap.size ≤ k) → O' = (fun k => OI k ∨ k = l ∨ k = D) → ∀ k, OI k → O0 k ∨ w.heap.size ≤ k := by
        intro O' OI W2 hg he k hk
        rcases hg k (by rw [he]; exact Or.inl hk) with (h | h | h) | h
        · exact Or.inl h
        · right; omega
        · right; omega
        · right; omega
      have endT : ∀ (W2 : World) (o : Obj), Turn (fun k => O0 k ∨ k = l ∨ k = D) W1 W2 → Turn O0 w (W2.putObj l o) := by
        intro W2 o ht
        refine ((Turn.of_below O0 hb1).trans ht fun j hj h => ?_).trans (Turn.put (O := fun k => k = l) W2 o rfl) fun j hj h => ?_
        · rcases h with h | h | h
          · exact h
          · omega
          · omega
        · omega
      rintro e W2 ⟨⟨v, rfl⟩, O', hgr, htu, (⟨OI, he, n1, n2, h1, h2, h3⟩ | ⟨pre, hpre, c, OI, he, n1, n2, h1, h2, h3⟩)⟩
      · refine ⟨none, W2.putObj l (.loop { rec .ready none with state := .exhausted }), ?_, ?_⟩
        · have h := run_endLoop (P := P) h2 (by rw [hrec]; simp)
          rw [hrec] at h ⊢
          exact h
        · exact hdone D OI _ (by omega) n2 (endO _ _ W2 hgr he) (endT _ _ htu) (hI _ _ _ _ h1 (Turn.put _ _ ⟨n1, by omega⟩)) ((World.putObj_heap_other (by omega)).trans h3)
      · refine ⟨some c, W2.putObj l (.loop { rec .done (some c) with state := .exhausted }), ?_, ?_⟩
        · have h := run_endLoop (P := P) h2 (by rw [hrec]; simp)
          rw [hrec] at h ⊢
          exact h
        · exact hstop D c OI pre _ (by omega) n2 (endO _ _ W2 hgr he) (endT _ _ htu) hpre (hIx c _ _ _ _ h1 (Turn.put _ _ ⟨n1, by omega⟩)) ((World.putObj_heap_other (by omega)).trans h3)
    · -- ONE ROUND
      rintro O1 pre x v W ⟨OI, rfl, n1, n2, hi, hlp, hdf⟩ hrow hpre
      have hlt : l < W.heap.size := (Array.getElem?_eq_some_iff.1 hlp).1
      have hlt2 : D < W.heap.size := (Array.getElem?_eq_some_iff.1 hdf).1
      have hy := run_yield (P := P) (args := #[v]) hlp (by rw [hrec]; simp [hps])
      rw [hrec] at hy
      refine ⟨fn, _, assign, body, hy, roundIn_wide_any (n := n - 1 - 1) (roundIn_of_wpIn trivial (hassign l v W _ ⟨_, run_beginRound hlp (by rw [hrec]), ?_⟩))⟩
      have hl2 : (W.putObj l (.loop { rec .ready none with state := .busy })).heap[l]? = some (.loop { rec .ready none with state := .busy }) := World.putObj_heap_same hlt
      have hd2 : (W.putObj l (.loop { rec .ready none with state := .busy })).heap[D]? = some (.deferred (some [])) := (World.putObj_heap_other (by omega)).trans hdf
      have ht2 : Turn (fun k => OI k ∨ k = l ∨ k = D) W (W.putObj l (.loop { rec .ready none with state := .busy })) := Turn.put _ _ (Or.inr (Or.inl rfl))
      have hap := hRow.apart hrow
      refine wpIn_mono (hbody l OI pre x v _ (hI _ _ _ _ hi (Turn.put _ _ ⟨n1, by omega⟩)) (hRow.kept hrow (fun k hk => Or.inl hk) ht2) hpre) ?_
      have fin : ∀ (jump : Option Code) (O' : Nat → Prop) (W3 : World), Grow OI (W.putObj l (.loop { rec .ready none with state := .busy })).heap.size v O' → Turn OI (W.putObj l (.loop { rec .ready none with state := .busy })) W3 →
          (Instr.endRound l jump).run P W3 = .ok (.bool jump.isNone) (W3.putObj l (.loop (rec (if jump.isNone then .ready else .done) jump))) ∧
          Grow (fun k => OI k ∨ k = l ∨ k = D) W.heap.size v (fun k => O' k ∨ k = l ∨ k = D) ∧
          Turn (fun k => OI k ∨ k = l ∨ k = D) W (W3.putObj l (.loop (rec (if jump.isNone then .ready else .done) jump))) ∧ ¬ O' l ∧ ¬ O' D ∧
          (W3.putObj l (.loop (rec (if jump.isNone then .ready else .done) jump))).heap[l]? = some (.loop (rec (if jump.isNone then .ready else .done) jump)) ∧
          (W3.putObj l (.loop (rec (if jump.isNone then .ready else .done) jump))).heap[D]? = some (.deferred (some [])) ∧
          Turn (fun k => ¬ O' k ∧ w.heap.size ≤ k) W3 (W3.putObj l (.loop (rec (if jump.isNone then .ready else .done) jump))) := by
        intro jump O' W3 hgr htu
        have hl3 := (htu.block l (by rw [World.putObj_size]; exact hlt) n1).trans hl2
        have hd3 := (htu.block D (by rw [World.putObj_size]; exact hlt2) n2).trans hd2
        have m1 : ¬ O' l := fun h => by
          rcases hgr l h with h | h | h
          · exact n1 h
          · rw [World.putObj_size] at h; omega
          · exact hap l h (Or.inr (Or.inl rfl))
        have m2 : ¬ O' D := fun h => by
          rcases hgr D h with h | h | h
          · exact n2 h
          · rw [World.putObj_size] at h; omega
          · exact hap D h (Or.inr (Or.inr rfl))
        have hrun := run_endRound (P := P) jump hl3
        rw [hrec] at hrun
        refine ⟨by rw [hrec]; exact hrun, ?_, ?_, m1, m2, World.putObj_heap_same (Array.getElem?_eq_some_iff.1 hl3).1, (World.putObj_heap_other (by omega)).trans hd3, Turn.put _ _ ⟨m1, by omega⟩⟩
        · intro k hk
          rcases hk with hk | hk
          · rcases hgr k hk with h | h | h
            · exact Or.inl (Or.inl h)
            · rw [World.putObj_size] at h; exact Or.inr (Or.inl h)
            · exact Or.inr (Or.inr h)
          · exact Or.inl (Or.inr hk)
        · exact (ht2.trans htu fun j _ h => Or.inl h).trans (Turn.put (O := fun k => k = l) W3 _ rfl) fun j _ h => Or.inr (Or.inl h)
      rintro e a3 W3 hp
      cases e with
      | normal =>
        obtain ⟨O', hgr, htu, hi3⟩ := hp
        obtain ⟨f1, f2, f3, f4, f5, f6, f7, f8⟩ := fin none O' W3 hgr htu
        exact ⟨_, _, f1, _, f2, f3, Or.inl ⟨rfl, O', rfl, f4, f5, hI _ _ _ _ hi3 f8, f6, f7⟩⟩
      | ret =>
        obtain ⟨O', hgr, htu, hi3⟩ := hp
        obtain ⟨f1, f2, f3, f4, f5, f6, f7, f8⟩ := fin (some .ret) O' W3 hgr htu
        exact ⟨_, _, f1, _, f2, f3, Or.inr ⟨rfl, .ret, O', rfl, f4, f5, hIx _ _ _ _ _ hi3 f8, f6, f7⟩⟩
      | exit id =>
        obtain ⟨O', hgr, htu, hi3⟩ := hp
        obtain ⟨f1, f2, f3, f4, f5, f6, f7, f8⟩ := fin (some (.exit id)) O' W3 hgr htu
        exact ⟨_, _, f1, _, f2, f3, Or.inr ⟨rfl, .exit id, O', rfl, f4, f5, hIx _ _ _ _ _ hi3 f8, f6, f7⟩⟩
      | goto t =>
        obtain ⟨O', hgr, htu, hi3⟩ := hp
        obtain ⟨f1, f2, f3, f4, f5, f6, f7, f8⟩ := fin (some (.goto t)) O' W3 hgr htu
        exact ⟨_, _, f1, _, f2, f3, Or.inr ⟨rfl, .goto t, O', rfl, f4, f5, hIx _ _ _ _ _ hi3 f8, f6, f7⟩⟩
      | panic ch => exact hp.elim
      | outgrown => exact hp.elim
end Go.Proofs.Ythljogoggiejmaa
