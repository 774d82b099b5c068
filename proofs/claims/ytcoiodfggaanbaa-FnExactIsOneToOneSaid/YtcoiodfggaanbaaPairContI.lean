/-
  The program's pairs that go on at both sides: as the plain list says, in new memory; nothing that was there before is changed.
-/
import Derived.Test.YtcoiodfggaanbaaPairEqI
namespace Go.Proofs.Ytcoiodfggaanbaa
open Go Go.RowKit

theorem impl_beginP (p : PW) (hx : 1 ≤ p.1.size ∧ p.1.size ≤ 1000) (hy : 1 ≤ p.2.size ∧ p.2.size ≤ 1000) (w : World) :
    Calls Try.prog 123 #[.agg #[.string p.1, .string p.2]] w (Says (.agg #[.string (begP p).1, .string (begP p).2]) w) := impl_begin p.1 p.2 hx hy w
theorem impl_endP (p : PW) (hx : 1 ≤ p.1.size ∧ p.1.size ≤ 1000) (hy : 1 ≤ p.2.size ∧ p.2.size ≤ 1000) (w : World) :
    Calls Try.prog 124 #[.agg #[.string p.1, .string p.2]] w (Says (.agg #[.string (endP p).1, .string (endP p).2]) w) := impl_end p.1 p.2 hx hy w
theorem cut_le {x : ByteArray} {i j : Nat} (h : x.size ≤ 1000) : (x.extract i j).size ≤ 1000 := by rw [ByteArray.size_extract]; omega
theorem beg_le {p : PW} (hx : p.1.size ≤ 1000) (hy : p.2.size ≤ 1000) : (begP p).1.size ≤ 1000 ∧ (begP p).2.size ≤ 1000 := ⟨cut_le hx, cut_le hy⟩
theorem end_le {p : PW} (hx : p.1.size ≤ 1000) (hy : p.2.size ≤ 1000) : (endP p).1.size ≤ 1000 ∧ (endP p).2.size ≤ 1000 := ⟨cut_le hx, cut_le hy⟩

theorem MapP.grown {w w' : World} {bm n b' : Nat} {S : ByteArray → ByteArray → Bool} (h : MapP w bm n S) (hg : w.grownBy w' (some b')) (hne : bm ≠ b') : MapP w' bm n S := h.block (hg.block _ h.lt (fun e => hne (Option.some.inj e)))
theorem PairIn.grown {w w' : World} {g b' : Nat} {x y : ByteArray} (h : PairIn w g x y) (hg : w.grownBy w' (some b')) (hne : g ≠ b') : PairIn w' g x y := (hg.block _ h.lt (fun e => hne (Option.some.inj e))).trans h

set_option maxRecDepth 100000 in
set_option maxHeartbeats 1600000 in
theorem impl_cont (A : Option Addr) (c : Nat) (ps : List PW) (hl : ps.length ≤ 800) (hz : ∀ p ∈ ps, (1 ≤ p.1.size ∧ p.1.size ≤ 1000) ∧ 1 ≤ p.2.size ∧ p.2.size ≤ 1000) (w : World) (hp : PairsAt w A ps) :
    Calls Try.prog 107 #[.slice A ps.length c] w (PairPost (contP ps) w) := by
  obtain ⟨j0, hj0, hy0, hy1, hy2⟩ := info_parts infoPairW
  have HZ := Lib.hid hz
  have HP := Lib.hid hp
  have hmk : ∀ w, (Instr.makeMap 139 none).run Try.prog w = .ok (.map (some w.heap.size)) (w.alloc (.map #[] 0)) := fun w => rfl
  have HM1 : Hid (MapP ((w.alloc (.map #[] 0)).alloc (.map #[] 0)) w.heap.size 0 (hasP begP ps 0)) := Lib.hid ((mapP_start w).later ((Below.refl _ _).alloc (Nat.le_refl _) _))
  have HM2 : Hid (MapP ((w.alloc (.map #[] 0)).alloc (.map #[] 0)) (w.heap.size + 1) 0 (hasP endP ps 0)) := Lib.hid (by
    have h := mapP_start (w.alloc (.map #[] 0))
    rw [World.size_alloc] at h
    exact h)
  have HB0 : Hid (Below w.heap.size w ((w.alloc (.map #[] 0)).alloc (.map #[] 0))) := Lib.hid (((Below.refl _ _).alloc (Nat.le_refl _) _).alloc (by rw [World.size_alloc]; omega) _)
  have HS0 : Hid (w.heap.size + 1 < ((w.alloc (.map #[] 0)).alloc (.map #[] 0)).heap.size) := Lib.hid (by rw [World.size_alloc, World.size_alloc]; omega)
  clear hz hp
  go_enter Try.func107, Try.ntmps107
  go_wp2
  go_loopw [14] (fun iv wr => ∃ i : Nat, i ≤ ps.length ∧ iv = .int .i64 (i : Int) ∧ Hid (MapP wr w.heap.size i (hasP begP ps i)) ∧ Hid (MapP wr (w.heap.size + 1) i (hasP endP ps i)) ∧ Hid (Below w.heap.size w wr) ∧ Hid (w.heap.size + 1 < wr.heap.size)) (fun iv _ => ps.length - (intOf iv).toNat)
  case atStart => exact ⟨0, Nat.zero_le _, rfl, HM1, HM2, HB0, HS0⟩
  case round =>
    clear HM1 HM2 HB0 HS0
    obtain ⟨i, hi, rfl, HM1, HM2, HB, HS⟩ := hrel
    by_cases hlt : i < ps.length
    · obtain ⟨b, hA, hbl, kx, ky⟩ := (HP.out.below HB.out) i hlt
      subst hA
      obtain ⟨hx, hy⟩ := HZ.out _ (getP_mem hlt)
      have HPB := Lib.hid (hasP_put (f := begP) hlt)
      have HEB := Lib.hid (fun a b => hasP_else (f := begP) hlt (a := a) (b := b))
      have HPE := Lib.hid (hasP_put (f := endP) hlt)
      have HEE := Lib.hid (fun a b => hasP_else (f := endP) hlt (a := a) (b := b))
      have p0 : (0 : Int) ≤ (i : Int) := Int.natCast_nonneg i
      have p1 : (i : Int) < (ps.length : Int) := Int.ofNat_lt.2 hlt
      have HCB := Lib.hid (impl_beginP (ps.getD i pw0) hx hy)
      have HCE := Lib.hid (impl_endP (ps.getD i pw0) hx hy)
      obtain ⟨b1, b2⟩ := beg_le hx.2 hy.2
      obtain ⟨d1, d2⟩ := end_le hx.2 hy.2
      generalize begP (ps.getD i pw0) = pb at *
      generalize endP (ps.getD i pw0) = pe at *
      generalize ps.getD i pw0 = p at *
      obtain ⟨x, y⟩ := p
      simp only at kx ky hx hy HCB HCE
      have hpi := pairIn_new wr ⟨#[]⟩ ⟨#[]⟩
      have f0 := hpi.f 0
      have f1 := hpi.f 1
      have g0 := hpi.c0
      have g1 := hpi.c1
      have hb4 := (Below.refl wr.heap.size wr).alloc (Nat.le_refl _) (.cells #[.string x, .string y] 83)
      have hpi4 := pairIn_new wr x y
      have HB4 := Lib.hid hb4
      have HPI4 := Lib.hid hpi4
      have HM14 := Lib.hid (HM1.out.later hb4)
      have HM24 := Lib.hid (HM2.out.later hb4)
      clear hpi hb4 hpi4 hx hy
      go_wp2_with fail
      refine (HCB.out _).mono ?_
      rintro e w5 ⟨rfl, hb5⟩
      have hpi5 := HPI4.out.below hb5
      have hm15 := HM14.out.later hb5
      have hm25 := HM24.out.later hb5
      have hb05 := (HB.out.trans (HB4.out.mono HB.out.size)).trans (hb5.mono (by have := HB.out.size; rw [World.size_alloc]; omega))
      have hs5 : wr.heap.size < w5.heap.size := by have := hb5.size; rw [World.size_alloc] at this; omega
      obtain ⟨w6, hrun6, hm16, hg6⟩ := hm15.put (by omega) b1 b2 HPB.out HEB.out
      have HM16 := Lib.hid hm16
      have HM26 := Lib.hid (hm25.grown hg6 (by omega))
      have hpi6 := hpi5.grown hg6 (by have := HS.out; omega)
      have HB6 := Lib.hid (hb05.grown hg6 hb05.size fun q hq => by have := Option.some.inj hq; omega)
      have hs6 : wr.heap.size < w6.heap.size := Nat.lt_of_lt_of_le hs5 hg6.size
      have HPI6 := Lib.hid hpi6
      have k0 := hpi6.c0
      have k1 := hpi6.c1
      clear hb5 hpi5 hm15 hm25 hb05 hm16 hg6 hpi6 f0 f1 g0 g1 kx ky HM1 HM2 HB HB4 HPI4 HM14 HM24
      go_wp2_with fail
      refine (HCE.out _).mono ?_
      rintro e w7 ⟨rfl, hb7⟩
      have hm17 := HM16.out.later hb7
      have hm27 := HM26.out.later hb7
      have hb07 := HB6.out.trans (hb7.mono HB6.out.size)
      have hs7 : wr.heap.size < w7.heap.size := Nat.lt_of_lt_of_le hs6 hb7.size
      obtain ⟨w8, hrun8, hm28, hg8⟩ := hm27.put (by omega) d1 d2 HPE.out HEE.out
      have HM28 := Lib.hid hm28
      have HM18 := Lib.hid (hm17.grown hg8 (by omega))
      have HB8 := Lib.hid (hb07.grown hg8 hb07.size fun q hq => by have := Option.some.inj hq; omega)
      have HS8 : Hid (w.heap.size + 1 < w8.heap.size) := Lib.hid (by have := HS.out; have := hg8.size; omega)
      clear hb7 hm17 hm27 hb07 hm28 hg8 k0 k1 HM16 HM26 HB6 HPI6 hrun6
      go_wp2
      go_roundw
      case rel => exact ⟨i + 1, hlt, by go_num, HM18, HM28, HB8, HS8⟩
      case measure => simp [intOf]; exact Nat.sub_lt_sub_left hlt (Nat.lt_succ_self i)
    · obtain rfl : i = ps.length := Nat.le_antisymm hi (Nat.le_of_not_lt hlt)
      obtain ⟨w2, rfl⟩ : ∃ w2 : World, w2 = wr := ⟨_, rfl⟩
      have hs2 := HB.out.size
      go_wp2
      go_loopw [7, 27] (fun kv iv wr => ∃ i : Nat, i ≤ ps.length ∧ iv = .int .i64 (i : Int) ∧ Hid (wr.ownsRow w2.heap.size 83 2 kv (contTo ps i).length (cellsPW (contTo ps i))) ∧ Hid (Below w2.heap.size w2 wr)) (fun _ iv _ => ps.length - (intOf iv).toNat)
      case atStart => exact ⟨0, Nat.zero_le _, rfl, Lib.hid (World.ownsRow_nil _ _ _ _), Lib.hid (Below.refl _ _)⟩
      case round =>
        obtain ⟨i, hi, rfl, HO, HB2⟩ := hrel
        by_cases hlt : i < ps.length
        · obtain ⟨b, hA, hbl, kx, ky⟩ := (HP.out.below (HB.out.trans (HB2.out.mono hs2))) i hlt
          subst hA
          obtain ⟨hx, hy⟩ := HZ.out _ (getP_mem hlt)
          have p0 : (0 : Int) ≤ (i : Int) := Int.natCast_nonneg i
          have p1 : (i : Int) < (ps.length : Int) := Int.ofNat_lt.2 hlt
          have HCB := Lib.hid (impl_beginP (ps.getD i pw0) hx hy)
          have HCE := Lib.hid (impl_endP (ps.getD i pw0) hx hy)
          obtain ⟨b1, b2⟩ := beg_le hx.2 hy.2
          obtain ⟨d1, d2⟩ := end_le hx.2 hy.2
          have HKD : Hid (keepP ps (ps.getD i pw0) = (hasP endP ps ps.length (begP (ps.getD i pw0)).1 (begP (ps.getD i pw0)).2 && hasP begP ps ps.length (endP (ps.getD i pw0)).1 (endP (ps.getD i pw0)).2)) := Lib.hid rfl
          have HPUT := Lib.hid (fun h => contTo_put hlt h)
          have HSKIP := Lib.hid (fun h => contTo_skip hlt h)
          have hcl := contTo_len (ps := ps) i
          generalize begP (ps.getD i pw0) = pb at *
          generalize endP (ps.getD i pw0) = pe at *
          generalize keepP ps (ps.getD i pw0) = kb at *
          generalize ps.getD i pw0 = p at *
          generalize contTo ps i = ks at *
          obtain ⟨x, y⟩ := p
          simp only at kx ky hx hy HCB HCE
          have hpi := pairIn_new wr ⟨#[]⟩ ⟨#[]⟩
          have f0 := hpi.f 0
          have f1 := hpi.f 1
          have g0 := hpi.c0
          have g1 := hpi.c1
          have hb4 := (Below.refl wr.heap.size wr).alloc (Nat.le_refl _) (.cells #[.string x, .string y] 83)
          have HB4 := Lib.hid hb4
          have HPI4 := Lib.hid (pairIn_new wr x y)
          clear hpi hb4 hx hy
          have hs3 := HB2.out.size
          go_wp2_with fail
          refine (HCB.out _).mono ?_
          rintro e w5 ⟨rfl, hb5⟩
          have hpi5 := HPI4.out.below hb5
          have hb45 := HB4.out.trans (hb5.mono (by rw [World.size_alloc]; omega))
          have hb25 := HB2.out.trans (hb45.mono hs3)
          have hlk := (HM2.out.later hb25).look b1 b2
          have HO5 := Lib.hid (own_later HO.out hb45)
          have HB5 := Lib.hid hb25
          have HPI5 := Lib.hid hpi5
          have k0 := hpi5.c0
          have k1 := hpi5.c1
          clear hb5 hpi5 hb45 hb25 f0 f1 g0 g1 kx ky HO HB2 HB4 HPI4
          cases he1 : hasP endP ps ps.length pb.1 pb.2 with
          | false =>
            rw [he1] at hlk
            have HSK := Lib.hid (HSKIP.out (by rw [HKD.out, he1, Bool.false_and]))
            clear HPUT HSKIP HKD he1
            go_wp2
            go_roundw
            case rel => exact ⟨i + 1, hlt, by go_num, Lib.hid (by rw [HSK.out]; exact HO5.out), HB5⟩
            case measure => simp [intOf]; exact Nat.sub_lt_sub_left hlt (Nat.lt_succ_self i)
          | true =>
            rw [he1] at hlk
            go_wp2_with fail
            refine (HCE.out _).mono ?_
            rintro e w7 ⟨rfl, hb7⟩
            have hpi7 := HPI5.out.below hb7
            have hb27 := HB5.out.trans (hb7.mono HB5.out.size)
            have hlk2 := (HM1.out.later hb27).look d1 d2
            have HO7 := Lib.hid (own_later HO5.out hb7)
            have HB7 := Lib.hid hb27
            have m0 := hpi7.c0
            have m1 := hpi7.c1
            have hs7 := hb27.size
            clear hb7 hpi7 hb27 k0 k1 HO5 HB5 HPI5 hlk
            cases he2 : hasP begP ps ps.length pe.1 pe.2 with
            | false =>
              rw [he2] at hlk2
              have HSK := Lib.hid (HSKIP.out (by rw [HKD.out, he1, he2]; rfl))
              clear HPUT HSKIP HKD he1 he2
              go_wp2
              go_roundw
              case rel => exact ⟨i + 1, hlt, by go_num, Lib.hid (by rw [HSK.out]; exact HO7.out), HB7⟩
              case measure => simp [intOf]; exact Nat.sub_lt_sub_left hlt (Nat.lt_succ_self i)
            | true =>
              rw [he2] at hlk2
              have HPT := Lib.hid (HPUT.out (by rw [HKD.out, he1, he2]; rfl))
              clear HPUT HSKIP HKD he1 he2
              go_wp2_with (at_builtin; refine wpList_append_lies _ rfl (.tmp 41) (.tmp 43) 81 rfl w2.heap.size 83 j0 (.agg #[.string ByteArray.empty, .string ByteArray.empty]) 2 32 Try.underlying81 hj0 hy0 hy1 hy2 rfl (by decide) _ _ _ rfl (HO7.out.alloc _) ⟨w7.heap.size, 0, none⟩ 1 1 [.string x, .string y] rfl rfl (World.news_of_block (cs := #[.string x, .string y]) (t := 83) (fr := (0, 0)) (heap_alloc_new w7 _)) (by simp [Value.oneCell']) (by decide) (by unfold maxLen; omega) (by omega) (by simp; omega) (w7.heap.size + 1) (by simp) ?_; intro gg cap w9 ho9 hg9 hat9 hlt9; have HBN := Lib.hid ((HB7.out.alloc hs7 _).grown hg9 (by simp; omega) (fun q hq => (HO7.out.lt q hq).1)); have HO9 := Lib.hid ho9; clear ho9 hg9 hat9)
              have HOT : Hid (w9.ownsRow w2.heap.size 83 2 (.slice (some ⟨gg, 0, none⟩) (ks.length + 1) cap) (contTo ps (i + 1)).length (cellsPW (contTo ps (i + 1)))) := Lib.hid (by rw [HPT.out, List.length_append, cellsPW_next]; exact HO9.out)
              go_wp2
              go_roundw
              case rel => exact ⟨i + 1, hlt, by go_num, HOT, HBN⟩
              case measure => simp [intOf]; exact Nat.sub_lt_sub_left hlt (Nat.lt_succ_self i)
        · obtain rfl : i = ps.length := Nat.le_antisymm hi (Nat.le_of_not_lt hlt)
          rw [contTo_all] at HO
          go_wp2
          go_ret
          exact ⟨_, rfl, World.ownsRow.mono HO.out hs2, HB.out.trans (HB2.out.mono hs2)⟩
end Go.Proofs.Ytcoiodfggaanbaa
