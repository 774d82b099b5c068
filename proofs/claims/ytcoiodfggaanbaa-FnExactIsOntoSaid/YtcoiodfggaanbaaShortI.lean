/-
  The program's search for an orphan, over a linked list of sets that wait and a map of the sets met: the shortest and least word without a source, if there is one; nothing that was there before is changed.
-/
import Derived.Test.YtcoiodfggaanbaaWaitNum
import Derived.Test.YtcoiodfggaanbaaOrphanI
import Derived.Test.YtcoiodfggaanbaaEndI
import Derived.Test.YtcoiodfggaanbaaVertI
import Derived.Test.YtcoiodfggaanbaaLongerB
import Derived.Test.YtcoiodfggaanbaaWordsOf
import Derived.Deep.LoopGhost
namespace Go.Proofs.Ytcoiodfggaanbaa
open Go Go.RowKit Go.Maps Go.Shelf

theorem longer_one (s : ByteArray) (k : Nat) : longer [s] k = (List.range k).map fun x => s ++ letterB x := by unfold longer; simp
theorem longer_len (s : ByteArray) (k : Nat) : (longer [s] k).length = k := by rw [longer_one]; simp
theorem longer_at (s : ByteArray) {k x : Nat} (h : x < k) : (longer [s] k).getD x ByteArray.empty = s ++ letterB x := by
  rw [longer_one, List.getD_eq_getElem?_getD, List.getElem?_map, List.getElem?_range h]; rfl

theorem strs_grownW {w w' : World} {g b : Nat} {xs : List ByteArray} (h : StrsAt w b 0 xs) (hg : w.grownBy w' (some g)) (hb : b < w.heap.size) (hne : b ≠ g) : StrsAt w' b 0 xs := fun k hk =>
  (World.cell?_of_block (hg.block b hb (fun e => hne (Option.some.inj e)))).trans (h k hk)
theorem row_of {bu : ByteArray} {k : Nat} {w w' : World} {e : Ending} (hk : 0 < k) (h : ListPost (longer [bu] k) w e w') :
    ∃ g cap, e = .returned (.slice (some ⟨g, 0, none⟩) k cap) ∧ (StrsAt w' g 0 (longer [bu] k) ∧ g < w'.heap.size ∧ w.heap.size ≤ g) ∧ Below w.heap.size w w' := by
  obtain ⟨g, cap, rfl, ho, hb⟩ := h.some (by rw [longer_len]; exact hk)
  have h1 := ho.lt g rfl
  refine ⟨g, cap, by rw [longer_len], ⟨StrsAt.of_owns ho rfl, h1.2, h1.1⟩, hb⟩
theorem impl_longerW (g' k : Nat) (bu : ByteArray) (hk : k ≤ 3) (hm : bu.size ≤ 1000) (W' : World) (h1 : StrsAt W' g' 0 [bu]) (h2 : g' < W'.heap.size) :
    Calls Try.prog 92 #[.slice (some ⟨g', 0, none⟩) 1 1, .int .i64 (k : Int)] W' (ListPost (longer [bu] k) W') :=
  impl_longerB g' 1 bu.size k [bu] hk (by omega) (by simp) (fun x hx => by rw [List.mem_singleton] at hx; rw [hx]) W' h1 h2

set_option maxRecDepth 100000 in
set_option maxHeartbeats 6400000 in
theorem short_i : ShortI := by
  intro k n o ok r hr w
  have n1 := ok.n1
  have n4 := ok.n4
  have k2 := ok.k2
  have k3 := ok.k3
  have hq1 : 0 < k ^ (n - 1) := Nat.pow_pos (by omega)
  have hq9 : k ^ (n - 1) ≤ 9 := states_le ok.toFormOk
  have hos : o.size = k ^ (n - 1) * k := by rw [← pow_split n1]; exact ok.len
  have HP : Hid (∀ w', Calls Try.prog 88 #[.int .i64 (k : Int), .int .i64 ((n - 1 : Nat) : Int)] w' fun e w'' => e = .returned (.int .i64 ((k ^ (n - 1) : Nat) : Int)) ∧ w'' = w') := Lib.hid fun w' => by
    have h := power_code (k : Int) (n - 1) (by omega) (fun j hj => by
      have h1 : k ^ j ≤ 3 ^ j := Nat.pow_le_pow_left k3 j
      have h2 : 3 ^ j ≤ 3 ^ 4 := Nat.pow_le_pow_right (by decide) (by omega)
      have h3 : (3 : Nat) ^ 4 = 81 := by decide
      rw [← Int.natCast_pow, Int.natAbs_natCast]; omega) w'
    rwa [← Int.natCast_pow] at h
  have HES := Lib.hid (fun w' => impl_endSteps k n o ok w')
  have HR := Lib.hid hr
  clear hr
  obtain ⟨q, hq⟩ : ∃ q, k ^ (n - 1) = q := ⟨_, rfl⟩
  rw [hq] at HP HES hq1 hq9 HR hos
  clear hq
  have HAV := Lib.hid (fun w' => impl_allVertices q (by omega) w')
  have HLT : Hid (∀ u, setW k q (outC o) u < 512) := Lib.hid fun u => Nat.lt_of_lt_of_le (setW_lt u) (pow9 hq9)
  have HQ0 : Hid (Queue k q (outC o) [[]] 0 0) := Lib.hid (Queue.start hq1)
  have HQL : Hid (∀ ws i x, Queue k q (outC o) ws i x → ws.length ≤ 512) := Lib.hid fun ws i x h => Nat.le_trans h.le (pow9 hq9)
  have HTL : Hid (∀ s c, ostep k q (outC o) s c < 512) := Lib.hid fun s c => Nat.lt_of_lt_of_le (ost_lt _ _ _ _ _) (pow9 hq9)
  have HARC : Hid (∀ l s, stepS (arcM k q (outC o) o.size l) s = ostep k q (outC o) s l) := Lib.hid fun l s => arcM_step (outC o) l s (by omega) hos
  have hk := codeIn_new w (k : Int) (n : Int) o
  have HK := Lib.hid hk
  have c0 := hk.c0
  have c1 := hk.c1
  have c2 := hk.c2
  have HB0 := Lib.hid ((Below.refl w.heap.size w).alloc (Nat.le_refl _) (.cells #[.int .i64 (k : Int), .int .i64 (n : Int), .string o] 25))
  have e1 : wrap64 ((n : Int) - 1) = ((n - 1 : Nat) : Int) := by unfold wrap64; omega
  have e2 : IntKind.i64.wrap ((n : Int) - 1) = ((n - 1 : Nat) : Int) := by rw [IntKind.wrap_i64]; omega
  obtain ⟨m, hm⟩ : ∃ m, n - 1 = m := ⟨_, rfl⟩
  rw [hm] at HP e1 e2
  obtain ⟨S0, hS0⟩ : ∃ S, 2 ^ q - 1 = S := ⟨_, rfl⟩
  have HS0 : Hid (setW k q (outC o) [] = S0) := Lib.hid hS0
  rw [hS0] at HAV
  have hS512 : S0 < 512 := by have := HLT.out []; rw [HS0.out] at this; exact this
  clear hk ok hm hos
  go_enter Try.func47, Try.ntmps47
  go_wp2_with fail
  refine (HES.out _).mono ?_
  rintro e w1 ⟨g, cap, vs, rfl, hvs, hov, hsv, hb1⟩
  have HSV := Lib.hid hsv
  have hgl := (hov.lt g rfl).2
  have HVC : Hid (∀ l, l < k → w1.cell? ⟨g, l, none⟩ = some (vs.getD l undef)) := Lib.hid fun l hl => by
    rw [hov.cellAt l (by omega), List.getD_eq_getElem?_getD, List.getElem?_eq_getElem (by omega)]; rfl
  have HB1 := Lib.hid (HB0.out.trans (hb1.mono HB0.out.size))
  have HK1 := Lib.hid (HK.out.below hb1)
  clear c0 c1 c2 hsv hov hb1
  have c0 := HK1.out.c0
  have c1 := HK1.out.c1
  have c2 := HK1.out.c2
  go_wp2_with fail
  refine (HP.out _).mono ?_
  rintro e w2 ⟨rfl, rfl⟩
  go_wp2_with fail
  refine (HAV.out _).mono ?_
  rintro e w3 ⟨rfl, rfl⟩
  obtain ⟨W1, rfl⟩ : ∃ W1 : World, W1 = w3 := ⟨_, rfl⟩
  have HW1 : Hid (WaitIn (W1.alloc (waitC ⟨#[]⟩ S0 none)) W1.heap.size k q (outC o) [[]] (fun _ => W1.heap.size) (W1.heap.size + 1)) := Lib.hid (by rw [← hS0]; exact wait_start W1 _ (by omega))
  have HM1 : Hid (MapIn ((W1.alloc (waitC ⟨#[]⟩ S0 none)).alloc (.map #[] 0)) k q (outC o) [] (W1.heap.size + 1)) := Lib.hid (by
    have h := map_start (W1.alloc (waitC ⟨#[]⟩ S0 none)) (k := k) (q := q) (out := outC o)
    rwa [World.size_alloc] at h)
  obtain ⟨W5, hrun5, hm5, hg5⟩ := HM1.out.put [] HS0.out hS512 (by simp)
  have HM5 := Lib.hid hm5
  have HW5 := Lib.hid ((HW1.out.later ((Below.refl _ _).alloc (Nat.le_refl _) (.map #[] 0))).grown hg5)
  have HB5 : Hid (Below W1.heap.size W1 W5) := Lib.hid ((((Below.refl W1.heap.size W1).alloc (Nat.le_refl _) _).alloc (by simp) _).grown hg5 (by simp; omega) fun b hb => by have := Option.some.inj hb; omega)
  clear hm5 hg5 hS0
  have hrun5' : (Instr.mapUpdate 105 (.map (some (W1.heap.size + 1))) (.int .u16 (S0 : Int)) (.bool true)).run Try.prog ((W1.alloc (.cells #[.string ⟨#[]⟩, .int .u16 (S0 : Int), .pointer none] 104 (0, 0))).alloc (.map #[] 0)) = .ok () W5 := hrun5
  clear hrun5
  have hmk : ∀ w, (Instr.makeMap 105 none).run Try.prog w = .ok (.map (some w.heap.size)) (w.alloc (.map #[] 0)) := fun w => rfl
  go_wp2
  clear hrun5'
  obtain ⟨bm, hbm⟩ : ∃ bm, W1.heap.size + 1 = bm := ⟨_, rfl⟩
  rw [hbm] at HW5 HM5 ⊢
  have hBbm : W1.heap.size ≤ bm := by omega
  clear hbm HW1 HM1 c0 c1 c2
  go_loopg [6, 8] 513 (fun gn lv av wr => ∃ (ws : List (List Nat)) (G : Nat → Nat) (i : Nat), i ≤ ws.length ∧ 0 < ws.length ∧ gn = 513 - i ∧ lv = .pointer (some ⟨G (ws.length - 1), 0, none⟩) ∧ av = .pointer (if i < ws.length then some ⟨G i, 0, none⟩ else none) ∧ Hid (WaitIn wr W1.heap.size k q (outC o) ws G bm) ∧ Hid (MapIn wr k q (outC o) ws bm) ∧ Hid (Queue k q (outC o) ws i 0) ∧ Hid (Below W1.heap.size W1 wr))
  case atStart => exact ⟨[[]], _, 0, Nat.zero_le _, by decide, rfl, rfl, rfl, HW5, HM5, HQ0, HB5⟩
  case round =>
    clear HW5 HM5 HB5
    obtain ⟨ws, G, i, hi, h0, hgn, rfl, rfl, HW, HM, HQ, HB⟩ := hrel
    by_cases hlt : i < ws.length
    · rw [if_pos hlt]
      have kS := HW.out.c0 hlt
      have HC := Lib.hid (HK1.out.below HB.out)
      have c0 := HC.out.c0
      have c1 := HC.out.c1
      have c2 := HC.out.c2
      have hgi := HW.out.lt hlt
      have hbs := bytesW_size (ws.getD i [])
      have hshort := HQ.out.short i hlt
      have hl512 := HQL.out _ _ _ HQ.out
      obtain ⟨u, hu⟩ : ∃ u, ws.getD i [] = u := ⟨_, rfl⟩
      rw [hu] at kS hbs hshort
      obtain ⟨bu, hbu⟩ : ∃ bu, bytesW u = bu := ⟨_, rfl⟩
      rw [hbu] at kS hbs
      have HBU := Lib.hid hbu
      have HU := Lib.hid hu
      obtain ⟨W3, rfl⟩ : ∃ W3 : World, W3 = wr := ⟨_, rfl⟩
      have HLW : Hid (∀ w' : World, w'.heap = (W3.alloc (.cells #[.string bu] 9)).heap → Calls Try.prog 92 #[.slice (some ⟨W3.heap.size, 0, none⟩) 1 1, .int .i64 (k : Int)] w' (ListPost (longer [bu] k) w')) := Lib.hid fun w' hw' => by
        refine impl_longerW _ k bu k3 (by rw [hbs]; omega) w' (fun j hj => ?_) (by rw [hw']; simp)
        obtain rfl : j = 0 := by simpa using hj
        unfold World.cell?
        rw [hw', heap_alloc_new W3 _]; rfl
      clear hu hbu hbs hshort
      have hk0 : 0 < k := by omega
      have HGN : Hid (513 - (i + 1) < gk) := Lib.hid (by rw [hgn]; omega)
      clear hgn
      go_wp2
      go_region_held3 (fun w' => w'.cell? ⟨w.heap.size, 0, none⟩ = some (.int .i64 (k : Int)) ∧ w'.cell? ⟨G i, 0, none⟩ = some (.string bu)) (first | exact ⟨c0, kS⟩ | exact ⟨d0, dS⟩ | go_keep) ((go_at_call 92; refine (HLW.out _ (by rfl)).mono ?_; rintro e w9 hp9; have hq9 := row_of hk0 hp9; obtain ⟨g9, cap9, rfl, ⟨hq9a, hg9, hq9b⟩, hb9⟩ := hq9; have HB9 : Hid (Below W3.heap.size W3 w9) := Lib.hid ((((Below.refl W3.heap.size W3).alloc (Nat.le_refl _) _).drew).trans (hb9.mono (by simp))); have d0 := (HC.out.below HB9.out).c0; have dS := (HB9.out.cell (p := ⟨G i, 0, none⟩) hgi).trans kS; clear hb9))
      have HSP := Lib.hid hq9a
      have HB2 := Lib.hid (HB.out.trans (HB9.out.mono HB.out.size))
      have hlo : W3.heap.size + 1 ≤ g9 := by simpa using hq9b
      have HW9 := Lib.hid (HW.out.later HB9.out)
      have HM9 := Lib.hid (HM.out.later HB9.out)
      have HX : Hid (ws.getD i [] = u ∧ (∀ j, j < ws.length → G j ≠ g9) ∧ g9 ≠ bm) := Lib.hid ⟨HU.out, fun j hj => by have := HW.out.lt hj; omega, by have := HM.out.lt; omega⟩
      obtain ⟨gi, hgie⟩ : ∃ gi, G i = gi := ⟨_, rfl⟩
      have HGI := Lib.hid hgie
      rw [hgie]
      have HL0 := Lib.hid h0
      clear hgie hgi hlo d0 dS c0 c1 c2 kS hl512 HW HM HB HB9 hq9a hq9b
      go_wp2
      go_loopw [6, 46] (fun lv xv wr => ∃ (ws' : List (List Nat)) (G' : Nat → Nat) (x : Nat), x ≤ k ∧ xv = .int .i64 (x : Int) ∧ i < ws'.length ∧ lv = .pointer (some ⟨G' (ws'.length - 1), 0, none⟩) ∧ Hid (WaitIn wr W1.heap.size k q (outC o) ws' G' bm) ∧ Hid (MapIn wr k q (outC o) ws' bm) ∧ Hid (Queue k q (outC o) ws' i x) ∧ Hid (Below W1.heap.size W1 wr) ∧ Hid (StrsAt wr g9 0 (longer [bu] k)) ∧ g9 < wr.heap.size ∧ Hid (ws'.getD i [] = u ∧ (∀ j, j < ws'.length → G' j ≠ g9) ∧ g9 ≠ bm) ∧ Hid (G' i = gi)) (fun _ xv _ => k - (intOf xv).toNat)
      case atStart => exact ⟨ws, G, 0, Nat.zero_le _, rfl, hlt, rfl, HW9, HM9, HQ, HB2, HSP, hg9, HX, HGI⟩
      case round =>
        clear HW9 HM9 HQ HB2 HSP hg9 HX HGI hlt hi h0 HU HL0 HC
        obtain ⟨ws', G', x, hx, rfl, hlt, rfl, HW, HM, HQ, HB, HSP, hg9, HX, HGI⟩ := hrel
        by_cases hxk : x < k
        · have hl512 := HQL.out _ _ _ HQ.out
          obtain ⟨lb, hvx, hst⟩ := (HSV.out x hxk).below HB.out
          have kF := (HB.out.cell (p := ⟨g, x, none⟩) hgl).trans (HVC.out x hxk)
          rw [hvx] at kF
          have kE := HW.out.c1 hlt
          have kW := HSP.out x (by rw [longer_len]; exact hxk)
          rw [Nat.zero_add, longer_at bu hxk] at kW
          rw [HGI.out, HX.out.1] at kE
          have hgi := HW.out.lt hlt
          rw [HGI.out] at hgi
          have HFOUND := Lib.hid (fun h0 => HQ.out.found hlt hxk h0)
          have HOLD := Lib.hid (fun mm hm he => HQ.out.old (m := mm) hlt hm he)
          have HNEWQ := Lib.hid (fun h0 hn => HQ.out.new hlt hxk h0 hn)
          have HSN := Lib.hid (setW_snoc (k := k) (q := q) (out := outC o) u x)
          have HV : Hid (bytesW (u ++ [x]) = bu ++ letterB x) := Lib.hid (by rw [bytesW_snoc, HBU.out])
          have hS9 := HLT.out u
          rw [HX.out.1] at HFOUND HOLD HNEWQ
          obtain ⟨S, hS⟩ : ∃ S, setW k q (outC o) u = S := ⟨_, rfl⟩
          rw [hS] at kE HFOUND HOLD HNEWQ HSN hS9
          have HSTP : Hid (∀ W', Below wr.heap.size wr W' → Calls Try.prog 134 (#[.int .u16 (S : Int)] ++ lb) W' (Scalar (.int .u16 ((ostep k q (outC o) S x : Nat) : Int)) W')) := Lib.hid fun W' hb => by
            have h := hst S W' hS9 hb
            rwa [HARC.out x S] at h
          have HT512 : Hid (ostep k q (outC o) S x < 512) := Lib.hid (HTL.out S x)
          obtain ⟨T, hT⟩ : ∃ T, ostep k q (outC o) S x = T := ⟨_, rfl⟩
          rw [hT] at HFOUND HNEWQ HSTP HSN HT512 HOLD
          obtain ⟨v, hv⟩ : ∃ v, bu ++ letterB x = v := ⟨_, rfl⟩
          rw [hv] at kW HV
          have hT9 := HT512.out
          have hl0 : 0 < ws'.length := by omega
          have HLAST := Lib.hid (HW.out.c2 (j := ws'.length - 1) (by omega))
          have hx0 : (0 : Int) ≤ (x : Int) := by omega
          have hx1 : (x : Int) < (k : Int) := by omega
          have hmx : k - (x + 1) < k - x := by omega
          obtain ⟨x3, x3b⟩ := one_wrapsO (show x ≤ 1000 by omega)
          have eg := entersStep
          have HLX := Lib.hid hlt
          clear hS hT hv hvx hst hlt
          obtain ⟨W3, rfl⟩ : ∃ W3 : World, W3 = wr := ⟨_, rfl⟩
          go_wp2
          go_region_held3 (fun w' => w'.cell? ⟨g, x, none⟩ = some (.func (.func 134) #[] lb) ∧ w'.cell? ⟨gi, 1, none⟩ = some (.int .u16 (S : Int))) (first | exact ⟨kF, kE⟩ | exact ⟨dF, dE⟩ | go_keep) ((go_at_call 134; refine (HSTP.out _ (by first | exact Below.refl _ _ | exact (Below.refl _ _).drew)).mono ?_; rintro e w9 ⟨rfl, hb9⟩; have HB9 : Hid (Below W3.heap.size W3 w9) := Lib.hid ((Below.refl W3.heap.size W3).drew.trans hb9); have dF := (HB9.out.cell (p := ⟨g, x, none⟩) (Nat.lt_of_lt_of_le hgl HB.out.size)).trans kF; have dE := (HB9.out.cell (p := ⟨gi, 1, none⟩) hgi).trans kE; clear hb9))
          have HWq := Lib.hid (HW.out.later HB9.out)
          have HMq := Lib.hid (HM.out.later HB9.out)
          have HBq := Lib.hid (HB.out.trans (HB9.out.mono HB.out.size))
          have HSq := Lib.hid (HSP.out.below HB9.out hg9)
          have hg9' : g9 < w9.heap.size := Nat.lt_of_lt_of_le hg9 HB9.out.size
          clear dF dE kF kE kW HB9 HW HM HB HSP hg9 hgi
          by_cases hT0 : T = 0
          · subst hT0
            have hrs : r = some (u ++ [x]) := orph_same HR.out (HFOUND.out rfl)
            subst hrs
            go_wp2
            go_ret2
            exact ⟨by show _ = Ending.returned (.tuple #[.string (bytesW (u ++ [x])), .bool true]); rw [HV.out]; rfl, HB1.out.trans (HBq.out.mono HB1.out.size)⟩
          · have g0 : ((T : Int) == 0) = false := by rw [beq_eq_false_iff_ne]; omega
            have hlk := HMq.out.look hT9
            cases hb : metTo k q (outC o) ws' T ws'.length with
            | true =>
              rw [hb] at hlk
              obtain ⟨mm, hm1, hm2⟩ := metTo_yes hb
              have HN := Lib.hid (HOLD.out mm hm1 hm2)
              clear hb hm1 hm2
              go_wp2
              go_roundw
              case rel => exact ⟨ws', G', x + 1, hxk, by go_num, HLX.out, rfl, HWq, HMq, HN, HBq, HSq, hg9', HX, HGI⟩
              case measure => simp [intOf]; omega
            | false =>
              rw [hb] at hlk
              have HN := Lib.hid (HNEWQ.out hT0 (metTo_no hb))
              clear hb
              obtain ⟨w6, hrun6, hm6, hg6⟩ := HMq.out.put (u ++ [x]) HSN.out hT9 hl512
              have HM6 := Lib.hid hm6
              have HW6 := Lib.hid (HWq.out.grown hg6)
              have HB6 := Lib.hid (HBq.out.grown hg6 HBq.out.size fun b hb => by have := Option.some.inj hb; omega)
              have HS6 := Lib.hid (strs_grownW HSq.out hg6 hg9' HX.out.2.2)
              have hg69 : g9 < w6.heap.size := Nat.lt_of_lt_of_le hg9' hg6.size
              have kL := HW6.out.c2 (j := ws'.length - 1) (by omega)
              rw [show nextA G' ws'.length (ws'.length - 1) = none by unfold nextA; rw [if_neg (by omega)]] at kL
              have fL := HW6.out.f (j := ws'.length - 1) (by omega) 2
              have lL := HW6.out.lt (j := ws'.length - 1) (by omega)
              clear hm6 hg6 HMq HWq HBq HSq hg9'
              obtain ⟨gl, hgl2⟩ : ∃ gl, G' (ws'.length - 1) = gl := ⟨_, rfl⟩
              rw [hgl2] at kL fL lL ⊢
              have hge : W1.heap.size ≤ gl := by rw [← hgl2]; exact HW6.out.ge _ (by omega)
              have hneb : bm ≠ gl := by rw [← hgl2]; exact fun e => HW6.out.ne _ (by omega) e.symm
              have hne9 : g9 ≠ gl := by rw [← hgl2]; exact fun e => HX.out.2.1 _ (by omega) e.symm
              have hsn := HW6.out.snoc hl0 (u ++ [x]) HM6.out.lt HB6.out.size
              rw [HV.out, HSN.out, hgl2] at hsn
              have HWn := Lib.hid hsn
              have hsz6 : ∀ v0 : Value, (w6.setCell ⟨gl, 2, none⟩ v0).heap.size = w6.heap.size := fun v0 => by simp
              have HMn : Hid (MapIn ((w6.setCell ⟨gl, 2, none⟩ (.pointer (some ⟨w6.heap.size, 0, none⟩))).alloc (waitC v T none)) k q (outC o) (ws' ++ [u ++ [x]]) bm) := Lib.hid (HM6.out.block (by
                rw [heap_alloc_old _ _ (by rw [hsz6]; exact HM6.out.lt)]
                exact heap_setCell_other w6 ⟨gl, 2, none⟩ bm _ hneb))
              have HBn : Hid (Below W1.heap.size W1 ((w6.setCell ⟨gl, 2, none⟩ (.pointer (some ⟨w6.heap.size, 0, none⟩))).alloc (waitC v T none))) := Lib.hid ((HB6.out.setCell (p := ⟨gl, 2, none⟩) hge _).alloc (by rw [hsz6]; exact HB6.out.size) _)
              have HSn : Hid (StrsAt ((w6.setCell ⟨gl, 2, none⟩ (.pointer (some ⟨w6.heap.size, 0, none⟩))).alloc (waitC v T none)) g9 0 (longer [bu] k)) := Lib.hid fun j hj => (World.cell?_of_block (by
                rw [heap_alloc_old _ _ (by rw [hsz6]; exact hg69)]
                exact heap_setCell_other w6 ⟨gl, 2, none⟩ g9 _ hne9)).trans (HS6.out j hj)
              have hg9n : g9 < ((w6.setCell ⟨gl, 2, none⟩ (.pointer (some ⟨w6.heap.size, 0, none⟩))).alloc (waitC v T none)).heap.size := by rw [World.size_alloc, hsz6]; omega
              have hlen : (ws' ++ [u ++ [x]]).length = ws'.length + 1 := by simp
              have hlx := HLX.out
              have HXn : Hid ((ws' ++ [u ++ [x]]).getD i [] = u ∧ (∀ j, j < (ws' ++ [u ++ [x]]).length → (fun j => if j = ws'.length then w6.heap.size else G' j) j ≠ g9) ∧ g9 ≠ bm) := Lib.hid ⟨by rw [getD_old hlx]; exact HX.out.1, fun j hj => by
                rw [hlen] at hj
                by_cases e : j = ws'.length
                · simp only [e, if_true]; omega
                · simp only [e, if_false]; exact HX.out.2.1 j (by omega), HX.out.2.2⟩
              have HGn : Hid ((fun j => if j = ws'.length then w6.heap.size else G' j) i = gi) := Lib.hid (by
                show (if i = ws'.length then _ else _) = _
                rw [if_neg (by omega)]; exact HGI.out)
              have HLn : Hid ((fun j => if j = ws'.length then w6.heap.size else G' j) ((ws' ++ [u ++ [x]]).length - 1) = w6.heap.size) := Lib.hid (by
                show (if _ = ws'.length then _ else _) = _
                rw [if_pos (by rw [hlen]; omega)])
              have HL2 : Hid (i < (ws' ++ [u ++ [x]]).length) := Lib.hid (by rw [hlen]; omega)
              clear hgl2 hge hneb hne9 hsn hsz6 hlen hlx HW6 HM6 HB6 HS6
              have HG9 := Lib.hid hg9n
              clear hg9n hg69
              go_wp2
              go_roundw
              case rel => exact ⟨ws' ++ [u ++ [x]], fun j => if j = ws'.length then w6.heap.size else G' j, x + 1, hxk, by go_num, HL2.out, by rw [HLn.out], HWn, HMn, HN, HBn, HSn, HG9.out, HXn, HGn⟩
              case measure => simp [intOf]; omega
        · obtain rfl : x = k := by omega
          have HN := Lib.hid HQ.out.row
          have kN := HW.out.c2 hlt
          rw [HGI.out] at kN
          obtain ⟨P, hP⟩ : ∃ P, nextA G' ws'.length i = P := ⟨_, rfl⟩
          rw [hP] at kN
          have HPP : Hid ((if i + 1 < ws'.length then some ⟨G' (i + 1), 0, none⟩ else none) = P) := Lib.hid hP
          have HLT2 := Lib.hid hlt
          have HL0 : Hid (0 < ws'.length) := Lib.hid (by omega)
          clear hP hlt
          go_wp2
          go_roundg (513 - (i + 1))
          case measure => exact HGN.out
          case rel => exact ⟨ws', G', i + 1, HLT2.out, HL0.out, rfl, rfl, by rw [HPP.out], HW, HM, HN, HB⟩
    · obtain rfl : i = ws.length := by omega
      rw [if_neg (Nat.lt_irrefl _)]
      have hrn : r = none := orph_same HR.out HQ.out.none
      subst hrn
      go_wp2
      go_ret2
      exact ⟨rfl, HB1.out.trans (HB.out.mono HB1.out.size)⟩
end Go.Proofs.Ytcoiodfggaanbaa
