/- The walks of scans, good and its closure, sort.Search. The walks of goesOn, ahead, and words where there is a fault. The reference's parser in memory; the walks of bad, sign and eat. The walks of the reference's EqLiteral, EqRule and EqRules, at two values that read the same. -/
import Derived.Test.YtcfhpodpkficaaaGreatDoorPart12
import Derived.Test.YtcfhpodpkficaaaGreatDoorPart09
import Derived.BigQuiet
import Derived.Lib.QuietBelow
namespace Go.Proofs.YtcfhpodpkficaaaGreatDoor.Sy
open Go.RowKit
open Lx (Wd tx bs Sg scanL scanAt frontL Rw cellsW)
open Vl (Tm Fr)

theorem cell_below' {w w' : World} {p : Addr} {x : Value} (h : w.cell? p = some x) (hb : Below w.heap.size w w') : w'.cell? p = some x :=
  (World.cell?_of_block (hb.block p.block (World.block_lt_of_cell? w p h))).trans h

theorem scans_any (s : ByteArray) (w : World) (h : Sg w) (hs : s.size ≤ 4000) :
    Calls Tryz.prog 98 #[.string s] w fun e w' => e = .returned (.bool (scanL (bs s) 0).isSome) ∧ Below w.heap.size w w' := by
  have HS := hide (Lx.scan_any s w h hs)
  go_enter Tryz.func98, Tryz.ntmps98
  go_wp2_with fail
  refine Calls.mono HS.out ?_
  rintro e w1 (⟨v, L', h1, rfl, hr⟩ | ⟨h1, rfl, hb⟩)
  · have h2 : scanL (bs s) 0 = some L' := h1
    have HB := hide hr.below
    obtain ⟨ao, cap, rfl, _⟩ := hr.slice
    clear hr h1 HS
    go_wp2_with fail
    go_ret
    rw [h2]
    exact ⟨rfl, HB.out⟩
  · have h2 : scanL (bs s) 0 = none := h1
    clear h1 HS
    go_wp2_with fail
    go_ret
    rw [h2]
    exact ⟨rfl, hb⟩

/-- Has the beginning of so many bytes a fault, and the next longer one too? -/
def fP (S : List UInt8) (n : Nat) : Bool := !(scanL (S.take n) 0).isSome && !(scanL (S.take (n + 1)) 0).isSome

theorem ext_take (s : ByteArray) (n : Nat) : bs (s.extract 0 n) = (bs s).take n := by rw [Lx.bs_extract]; simp

set_option maxRecDepth 10000 in
theorem clos_any (s : ByteArray) (b n : Nat) (w : World) (h : Sg w) (hs : s.size ≤ 4000) (hn : n < s.size) (hb : w.cell? ⟨b, 0, none⟩ = some (.string s)) :
    Calls Tryz.prog 97 #[.int .i64 (n : Int), .pointer (some ⟨b, 0, none⟩)] w fun e w' => e = .returned (.bool (fP (bs s) n)) ∧ Below w.heap.size w w' := by
  have HS1 := hide (scans_any (s.extract 0 n) w h (by simp; omega))
  rw [ext_take] at HS1
  have HS2 : Hid (∀ W, Below w.heap.size w W → Calls Tryz.prog 98 #[.string (s.extract 0 (n + 1))] W fun e w' => e = .returned (.bool (scanL ((bs s).take (n + 1)) 0).isSome) ∧ Below W.heap.size W w') := fun W hW => by
    have := scans_any (s.extract 0 (n + 1)) W (h.below hW) (by simp; omega)
    rw [ext_take] at this
    exact this
  clear h
  unfold fP
  generalize (scanL ((bs s).take n) 0).isSome = b1 at *
  generalize (scanL ((bs s).take (n + 1)) 0).isSome = b2 at *
  go_enter Tryz.func97, Tryz.ntmps97
  go_wp2_with fail
  refine Calls.mono HS1.out ?_
  rintro e w1 ⟨rfl, hb1⟩
  have HB1 := hide hb1
  have k0 := (World.cell?_of_block (hb1.block b (World.block_lt_of_cell? w _ hb))).trans hb
  have HS3 := hide (HS2.out w1 hb1)
  clear HS1 HS2 hb hb1
  cases b1
  · go_wp2_with fail
    refine Calls.mono HS3.out ?_
    rintro e w2 ⟨rfl, hb2⟩
    have HB2 := hide (HB1.out.trans (hb2.mono HB1.out.size))
    clear HS3 hb2
    go_wp2_with fail
    go_ret
    exact ⟨rfl, HB2.out⟩
  · go_wp2_with fail
    go_ret
    exact ⟨rfl, HB1.out⟩

set_option maxRecDepth 10000 in
set_option maxHeartbeats 2000000 in
theorem search_any (N q : Nat) (p : Nat → Bool) (b : Nat) (w : World) (hN : N ≤ 4000) (hq : q ≤ N) (hlo : ∀ i, i < q → p i = false) (hhi : ∀ i, q ≤ i → i < N → p i = true)
    (HC : ∀ W (n : Nat), Below w.heap.size w W → n < N → Calls Tryz.prog 97 #[.int .i64 (n : Int), .pointer (some ⟨b, 0, none⟩)] W fun e w' => e = .returned (.bool (p n)) ∧ Below W.heap.size W w') :
    Calls Tryz.prog 96 #[.int .i64 (N : Int), .func (.func 97) #[] #[.pointer (some ⟨b, 0, none⟩)]] w fun e w' => e = .returned (.int .i64 (q : Int)) ∧ Below w.heap.size w w' := by
  have HC' := hide HC
  have HL := hide hlo
  have HH := hide hhi
  clear HC hlo hhi
  go_enter Tryz.func96, Tryz.ntmps96
  go_wp2_with fail
  go_loopw [5, 6] (fun x y wr => ∃ i j : Nat, x = .int .i64 i ∧ y = .int .i64 j ∧ i ≤ q ∧ q ≤ j ∧ j ≤ N ∧ Hid (Below w.heap.size w wr)) (fun x y _ => (intOf y).toNat - (intOf x).toNat)
  case atStart => exact ⟨0, N, rfl, rfl, Nat.zero_le _, hq, Nat.le_refl _, Below.refl _ _⟩
  case round =>
    obtain ⟨i, j, rfl, rfl, hi, hj, hjN, HB⟩ := hrel
    by_cases hlt : i < j
    · have hltI : (i : Int) < (j : Int) := by omega
      obtain ⟨m, hm⟩ : ∃ m : Nat, m = (i + j) / 2 := ⟨_, rfl⟩
      have hm1 : i ≤ m := by omega
      have hm2 : m < j := by omega
      have HCm := hide (HC'.out wr m HB.out (by omega))
      go_wp2_with fail
      rw [show ((i : Int) + (j : Int)) / 2 = (m : Int) by omega]
      refine Calls.mono HCm.out ?_
      rintro e w2 ⟨rfl, hb2⟩
      have HB2 := hide (HB.out.trans (hb2.mono HB.out.size))
      clear HCm hb2 HB
      cases hp : p m
      · have hmq : m < q := by
          by_cases h : m < q
          · exact h
          · have := HH.out m (by omega) (by omega)
            rw [hp] at this
            cases this
        go_wp2_with fail
        go_roundw
        case rel => exact ⟨m + 1, j, by go_num, rfl, by omega, hj, hjN, HB2⟩
        case measure => simp [intOf]; omega
      · have hmq : q ≤ m := by
          by_cases h : q ≤ m
          · exact h
          · have := HL.out m (by omega)
            rw [hp] at this
            cases this
        go_wp2_with fail
        go_roundw
        case rel => exact ⟨i, m, rfl, congrArg (Value.int .i64) (by omega), hi, hmq, by omega, HB2⟩
        case measure => simp [intOf]; omega
    · have hiq : i = q := by omega
      have hltI : ¬ (i : Int) < (j : Int) := by omega
      go_wp2_with fail
      go_ret
      first
        | exact ⟨rfl, HB.out⟩
        | (rw [hiq]; exact ⟨rfl, HB.out⟩)

set_option maxRecDepth 10000 in
theorem good_any (s : ByteArray) (w : World) (h : Sg w) (hs : s.size ≤ 4000) (hn : scanL (bs s) 0 = none) :
    Calls Tryz.prog 75 #[.string s] w fun e w' => e = .returned (.int .i64 ((Ft.gl (bs s) : Nat) : Int)) ∧ Below w.heap.size w w' := by
  obtain ⟨g1, g2, g3, g4⟩ := Ft.cut_all _ (bs s) (Nat.le_refl _) ⟨0, hn⟩
  rw [Lx.bs_length] at g1
  have hlo : ∀ i, i < Ft.gl (bs s) + 1 → fP (bs s) i = false := fun i hi => by
    unfold fP
    by_cases hlt : i < Ft.gl (bs s)
    · rcases g2 i 0 hlt with h | h <;> rw [h] <;> simp
    · have : i = Ft.gl (bs s) := by omega
      rw [this, g4]
      rfl
  have hhi : ∀ i, Ft.gl (bs s) + 1 ≤ i → i < s.size → fP (bs s) i = true := fun i h1 h2 => by
    unfold fP
    rw [g3 i 0 (by omega), g3 (i + 1) 0 (by omega)]
    rfl
  have HSr := hide (search_any s.size (Ft.gl (bs s) + 1) (fP (bs s)) w.heap.size (w.alloc (.cells #[.string s] 9)) hs (by omega) hlo hhi (fun W n hW hn => clos_any s w.heap.size n W ((h.below (Lx.below_box w _)).below hW) hs hn (cell_below' (by
    rw [cell_of_row _ _ 0 _ _ _ (heap_alloc_new _ _)]
    rfl) hW)))
  have hmf := mk_func
  clear h hn g2 g3 g4 hlo hhi
  generalize Ft.gl (bs s) = q at *
  go_enter Tryz.func75, Tryz.ntmps75
  go_wp2_with fail
  refine Calls.mono HSr.out ?_
  rintro e w1 ⟨rfl, hb⟩
  have HB := hide ((Lx.below_box w _).trans (hb.mono (by simp)))
  clear HSr hb
  go_wp2_with fail
  go_ret
  refine ⟨?_, HB.out⟩
  congr 2
end Go.Proofs.YtcfhpodpkficaaaGreatDoor.Sy
namespace Go.Proofs.YtcfhpodpkficaaaGreatDoor.Sy
open Go.RowKit
open Lx (Wd tx bs Sg scanL scanAt frontL frontAt Rw cellsW wpList_append_run)
open Vl (Tm Fr)

/-- Is it one word? -/
def oneW : Option (List Wd) → Bool
  | some L => decide (L.length = 1)
  | none => false

set_option maxRecDepth 10000 in
theorem goes_no (x : Wd) (s : ByteArray) (e : Nat) (w : World) (h : x.2.1.length < 16 ∨ x.2.2 + x.2.1.length < e) (hl : x.2.1.length ≤ 16) (he : e ≤ 4000) (hx : x.2.2 ≤ 4000) :
    Calls Tryz.prog 76 #[wv x, .string s, .int .i64 (e : Int)] w fun r w' => r = .returned (.bool false) ∧ Below w.heap.size w w' := by
  have hsz : (tx x.2.1).size = x.2.1.length := rfl
  simp only [wv]
  by_cases h1 : x.2.1.length < 16
  · have g1 : ((tx x.2.1).size : Int) < 16 := by omega
    clear h
    go_enter Tryz.func76, Tryz.ntmps76
    go_wp2_with fail
    go_ret
    exact ⟨rfl, Lx.below_box _ _⟩
  · have g1 : ¬ ((tx x.2.1).size : Int) < 16 := by omega
    have g2 : (x.2.2 : Int) + ((tx x.2.1).size : Int) < (e : Int) := by omega
    clear h
    go_enter Tryz.func76, Tryz.ntmps76
    go_wp2_with fail
    go_ret
    exact ⟨rfl, Lx.below_box _ _⟩

set_option maxRecDepth 10000 in
set_option maxHeartbeats 2000000 in
theorem goes_ask (x : Wd) (s : ByteArray) (e : Nat) (w : World) (h : Sg w) (hl : x.2.1.length = 16) (hx : x.2.2 + 16 = e) (he : e < s.size) (hs : s.size ≤ 4000) :
    Calls Tryz.prog 76 #[wv x, .string s, .int .i64 (e : Int)] w fun r w' => r = .returned (.bool (oneW (scanL ((((bs s).drop x.2.2).take 15) ++ ((bs s).drop e).take 1) 0))) ∧ Below w.heap.size w w' := by
  have hsz : (tx x.2.1).size = 16 := hl
  obtain ⟨u, hu⟩ : ∃ u, Hid (s.extract x.2.2 (e - 1) ++ s.extract e (e + 1) = u) := ⟨_, rfl⟩
  have hub : bs u = (((bs s).drop x.2.2).take 15) ++ ((bs s).drop e).take 1 := by
    rw [← hu.out]
    show (s.extract x.2.2 (e - 1) ++ s.extract e (e + 1)).data.toList = _
    rw [Vl.bytes_app]
    show bs (s.extract x.2.2 (e - 1)) ++ bs (s.extract e (e + 1)) = _
    rw [Lx.bs_extract, Lx.bs_extract, show e - 1 - x.2.2 = 15 by omega, show e + 1 - e = 1 by omega]
  have hus : u.size ≤ 4000 := by
    have : u.size = (bs u).length := rfl
    rw [this, hub]
    simp only [List.length_append, List.length_take]
    omega
  have HS : Hid (∀ W, Below w.heap.size w W → Calls Tryz.prog 62 #[.string u] W fun r w' => Lx.Sc 101 u W r w') := fun W hW => Lx.scan_any u W (h.below hW) hus
  rw [← hub]
  clear hub h
  have g1 : ¬ ((tx x.2.1).size : Int) < 16 := by omega
  have g2 : ¬ (x.2.2 : Int) + ((tx x.2.1).size : Int) < (e : Int) := by omega
  simp only [wv]
  go_enter Tryz.func76, Tryz.ntmps76
  go_wp2_with fail
  have hd : Below w.heap.size w (w.alloc (.cells #[.int .i64 (x.1 : Int), .string (tx x.2.1), .int .i64 (x.2.2 : Int)] 101)).drew := (Lx.below_box w _).drew
  have c2 : (w.alloc (.cells #[.int .i64 (x.1 : Int), .string (tx x.2.1), .int .i64 (x.2.2 : Int)] 101)).drew.cell? ⟨w.heap.size, 2, none⟩ = some (.int .i64 (x.2.2 : Int)) := (Bx.new w #[.int .i64 (x.1 : Int), .string (tx x.2.1), .int .i64 (x.2.2 : Int)] 101).three.1.2.2
  have HS1 : Hid (Calls Tryz.prog 62 #[.string u] (w.alloc (.cells #[.int .i64 (x.1 : Int), .string (tx x.2.1), .int .i64 (x.2.2 : Int)] 101)).drew fun r w' => (∃ v n, r = .returned (.tuple #[v, .int .i64 n]) ∧ ((∃ ao cap L, scanL (bs u) 0 = some L ∧ n = 0 ∧ v = .slice ao L.length cap) ∨ (scanL (bs u) 0 = none ∧ n = 4 ∧ v = .slice none 0 0))) ∧ w'.cell? ⟨w.heap.size, 2, none⟩ = some (.int .i64 (x.2.2 : Int)) ∧ Below w.heap.size w w') := by
    refine (HS.out _ hd).mono ?_
    rintro r w' (⟨v, L', h1, rfl, hr⟩ | ⟨h1, rfl, hb⟩)
    · obtain ⟨ao, cap, rfl, _⟩ := hr.slice
      exact ⟨⟨_, _, rfl, Or.inl ⟨ao, cap, L', h1, rfl, rfl⟩⟩, cell_below' c2 hr.below, hd.trans (hr.below.mono hd.size)⟩
    · exact ⟨⟨_, _, rfl, Or.inr ⟨h1, rfl, rfl⟩⟩, cell_below' c2 hb, hd.trans (hb.mono hd.size)⟩
  clear HS hd
  obtain ⟨k, hk⟩ : ∃ k, Hid (e = k + 1) := ⟨e - 1, by show e = _; omega⟩
  obtain ⟨f, hf⟩ : ∃ f, Hid (e + 1 = f) := ⟨_, rfl⟩
  have hk' := hk.out
  have hf' := hf.out
  have i1 : ((e : Int) - 1) = (k : Int) := by omega
  have i2 : IntKind.i64.wrap (k : Int) = (k : Int) := by rw [IntKind.wrap_i64]; omega
  have i3 : ((e : Int) + 1) = (f : Int) := by omega
  have i4 : IntKind.i64.wrap (f : Int) = (f : Int) := by rw [IntKind.wrap_i64]; omega
  rw [hf', show e - 1 = k by omega] at hu
  have j1 : x.2.2 ≤ k := by omega
  have j2 : k ≤ s.size := by omega
  have j3 : e ≤ f := by omega
  have j4 : f ≤ s.size := by omega
  have z1 : (s.extract x.2.2 k).size ≤ 4000 := by simp; omega
  have z2 : (s.extract e f).size ≤ 4000 := by simp; omega
  have hu' := hide hu.out
  clear hk' hf' hu hx he hl
  go_region_held (fun w' => w'.cell? ⟨w.heap.size, 2, none⟩ = some (.int .i64 (x.2.2 : Int))) (first | exact c2 | exact m0)
    (first | (go_at_call 62; rw [hu'.out]; refine Calls.mono HS1.out ?_; rintro r w2 ⟨⟨v, n, rfl, ho⟩, m0, m1⟩))
  all_goals clear HS1 c2
  all_goals (rcases ho with ⟨ao, cap, L, hL, rfl, rfl⟩ | ⟨hL, rfl, rfl⟩)
  all_goals have HL := hide hL
  all_goals clear hL
  all_goals go_wp2_with fail
  all_goals go_ret
  all_goals rw [HL.out]
  all_goals first
    | exact ⟨rfl, m1⟩
    | (refine ⟨Vl.ret_bool ?_, m1⟩
       rw [Bool.eq_iff_iff]
       simp [oneW]
       omega)

/-- What ahead gives: the words ahead of the first fault. -/
theorem front_len (S : List UInt8) : (frontL S 0).length ≤ S.length := (front_ok _ S 0 (Nat.le_refl _)).2

set_option maxRecDepth 10000 in
set_option maxHeartbeats 2000000 in
theorem ahead_any (s : ByteArray) (w : World) (h : Sg w) (hs : s.size ≤ 4000) (hn : scanL (bs s) 0 = none) :
    Calls Tryz.prog 63 #[.string s] w fun e w' => ∃ v, e = .returned v ∧ w'.ownsRow w.heap.size 101 3 v (frontL (bs s) 0).length (cellsW (frontL (bs s) 0)) ∧ Below w.heap.size w w' := by
  have HG := hide (good_any s w h hs hn)
  obtain ⟨g1, _, _, g4⟩ := Ft.cut_all _ (bs s) (Nat.le_refl _) ⟨0, hn⟩
  obtain ⟨o1, o2, o3⟩ := Ft.goes_on _ (bs s) 0 (Nat.le_refl _) ⟨0, hn⟩
  have hok := (front_ok _ (bs s) 0 (Nat.le_refl _)).1
  rw [Lx.bs_length] at g1
  have hscan : scanL (bs (s.extract 0 (Ft.gl (bs s)))) 0 = some (frontL (bs s) 0 ++ Ft.ov (bs s) 0) := by rw [ext_take]; exact g4 0
  have HSc : Hid (∀ W, Below w.heap.size w W → Calls Tryz.prog 62 #[.string (s.extract 0 (Ft.gl (bs s)))] W fun e w' => ∃ v, e = .returned (.tuple #[v, .int .i64 0]) ∧ Rw 101 W w' v (frontL (bs s) 0 ++ Ft.ov (bs s) 0)) := fun W hW => by
    refine (Lx.scan_any _ W (h.below hW) (by simp; omega)).mono ?_
    rintro e w' (⟨v, L', h1, rfl, hr⟩ | ⟨h1, _⟩)
    · have h1' : scanL (bs (s.extract 0 (Ft.gl (bs s)))) 0 = some L' := h1
      obtain rfl := Option.some.inj (hscan.symm.trans h1')
      exact ⟨v, rfl, hr⟩
    · have h1' : scanL (bs (s.extract 0 (Ft.gl (bs s)))) 0 = none := h1
      rw [hscan] at h1'
      cases h1'
  obtain ⟨F, hF⟩ : ∃ F, Hid (frontL (bs s) 0 = F) := ⟨_, rfl⟩
  obtain ⟨O, hO⟩ : ∃ O, Hid (Ft.ov (bs s) 0 = O) := ⟨_, rfl⟩
  obtain ⟨q, hq⟩ : ∃ q, Hid (Ft.gl (bs s) = q) := ⟨_, rfl⟩
  have hFO : ∀ x ∈ F, OkW x := by rw [← hF.out]; exact hok
  rw [hO.out, hF.out, hq.out] at o1
  rw [hO.out, hq.out] at o2
  rw [hO.out] at o3
  have hq1 : q < s.size := by rw [← hq.out]; exact g1
  have HGo : Hid (∀ (W : World) (x : Wd), Below w.heap.size w W → (F ++ O).getLast? = some x → x.2.2 + x.2.1.length ≤ q → Calls Tryz.prog 76 #[wv x, .string s, .int .i64 (q : Int)] W fun r w' => r = .returned (.bool (!decide (O = []))) ∧ Below W.heap.size W w') := fun W x hW hx hxq => by
    rcases o3 with ho | ⟨y, ho⟩
    · rw [ho] at hx ⊢
      rw [List.append_nil] at hx
      have hxo := hFO x (List.mem_of_getLast? hx)
      by_cases hc : x.2.1.length < 16 ∨ x.2.2 + x.2.1.length < q
      · exact goes_no x s q W hc hxo.len (by omega) (by omega)
      · have hl16 : x.2.1.length = 16 := by have := hxo.len; omega
        have hge := goes_ask x s q W (h.below hW) hl16 (by omega) hq1 hs
        have hz := o1 ho x hx hl16 (by omega)
        have hsw : Ft.swp (bs s) (x.2.2 - 0) = (((bs s).drop x.2.2).take 15) ++ ((bs s).drop q).take 1 := by rw [Ft.swp, hq.out]; rfl
        rw [hsw] at hz
        rw [hz] at hge
        exact hge
    · rw [ho] at hx ⊢
      obtain rfl : y = x := by simpa using hx
      obtain ⟨q1, q2, x1, q3⟩ := o2 y ho
      have hge := goes_ask y s q W (h.below hW) q1 (by omega) hq1 hs
      have hsw : Ft.swp (bs s) (y.2.2 - 0) = (((bs s).drop y.2.2).take 15) ++ ((bs s).drop q).take 1 := by rw [Ft.swp, hq.out]; rfl
      rw [hsw] at q3
      rw [q3] at hge
      exact hge
  have hend : ∀ x, (F ++ O).getLast? = some x → x.2.2 + x.2.1.length ≤ q := fun x hx => by
    rcases o3 with ho | ⟨y, ho⟩
    · rw [ho, List.append_nil] at hx
      have := Ft.front_end _ (bs s) 0 (Nat.le_refl _) x (by rw [hF.out]; exact List.mem_of_getLast? hx)
      rw [hq.out] at this
      omega
    · rw [ho] at hx
      obtain rfl : y = x := by simpa using hx
      obtain ⟨q1, q2, _⟩ := o2 y ho
      omega
  have hO1 : O = [] ∨ ∃ y, O = [y] := o3
  have hFl : F.length ≤ 4000 := by
    have := front_len (bs s)
    rw [hF.out, Lx.bs_length] at this
    omega
  rw [hF.out]
  rw [hq.out] at HG
  rw [hF.out, hO.out, hq.out] at HSc
  have HEnd := hide hend
  clear o1 o2 o3 hend g1 g4 hscan hok hFO hF hO hq hn h
  go_enter Tryz.func63, Tryz.ntmps63
  go_wp2_with fail
  refine Calls.mono HG.out ?_
  rintro e w1 ⟨rfl, hb1⟩
  have HB1 := hide hb1
  have HSc1 := hide (HSc.out w1 hb1)
  clear HG HSc hb1
  have hqs : q ≤ s.size := by omega
  go_wp2_with fail
  refine Calls.mono HSc1.out ?_
  rintro e w2 ⟨v, rfl, hr⟩
  have HR := hide hr
  have HB2 := hide (HB1.out.trans (hr.below.mono HB1.out.size))
  obtain ⟨ao, cap, rfl, hg⟩ := hr.slice
  clear HSc1 hr
  have hbase : w.heap.size ≤ w1.heap.size := HB1.out.size
  by_cases hz : F ++ O = []
  · have hF0 : F = [] := (List.append_eq_nil_iff.1 hz).1
    have hl0 : (F ++ O).length = 0 := by rw [hz]; rfl
    have HRow : Hid (w2.ownsRow w.heap.size 101 3 (.slice ao 0 cap) F.length (cellsW F)) := by
      have h1 := HR.out.row
      rw [hl0, hz] at h1
      rw [hF0]
      exact Vl.own_base h1 (fun k hk => by have := (h1.lt k hk).1; omega)
    rw [hl0]
    clear hg HR HGo HEnd
    go_wp2_with fail
    go_ret
    exact ⟨_, rfl, HRow.out, HB2.out⟩
  · obtain ⟨n, hn⟩ : ∃ n, (F ++ O).length = n + 1 := ⟨(F ++ O).length - 1, by have := List.length_pos_iff.2 hz; omega⟩
    obtain ⟨g, rfl⟩ := hg (by omega)
    obtain ⟨x, hx⟩ : ∃ x, (F ++ O).getLast? = some x := by
      cases hl : (F ++ O).getLast? with
      | none => exact absurd (List.getLast?_eq_none_iff.1 hl) hz
      | some x => exact ⟨x, rfl⟩
    have hxn : (F ++ O)[n]'(by omega) = x := by
      rw [List.getLast?_eq_getElem?, hn, Nat.add_sub_cancel, List.getElem?_eq_getElem (by omega)] at hx
      exact Option.some.inj hx
    have hcs := HR.out.cells n (by omega)
    rw [hxn] at hcs
    obtain ⟨k0, k1, k2⟩ := hcs
    have HGo2 := hide (HGo.out w2 x HB2.out hx (HEnd.out x hx))
    have hnl : n ≤ 4001 := by
      rcases hO1 with ho | ⟨y, ho⟩
      · rw [ho, List.append_nil] at hn; omega
      · rw [ho, List.length_append] at hn; simp at hn; omega
    have HR0 := hide HR.out.row
    rw [hn] at HR0
    simp only [wv] at HGo2
    rw [hn]
    clear HGo HEnd hx hxn hg HR
    rcases hO1 with ho | ⟨y, ho⟩
    · subst ho
      simp only [decide_true, Bool.not_true] at HGo2
      rw [List.append_nil] at hn HR0
      have HRow : Hid (w2.ownsRow w.heap.size 101 3 (.slice (some ⟨g, 0, none⟩) (n + 1) cap) F.length (cellsW F)) := by
        rw [hn]
        exact Vl.own_base HR0.out (fun k hk => by have := (HR0.out.lt k hk).1; omega)
      clear HR0
      go_wp2_with fail
      refine Calls.mono HGo2.out ?_
      rintro e w3 ⟨rfl, hb3⟩
      have HRow3 := hide (Lx.own_below HRow.out hb3)
      have HB3 := hide (HB2.out.trans (hb3.mono HB2.out.size))
      clear HGo2 hb3 HRow k0 k1 k2
      go_wp2_with fail
      go_ret
      exact ⟨_, rfl, HRow3.out, HB3.out⟩
    · subst ho
      have hd0 : (!decide ([y] = ([] : List Wd))) = true := by simp
      rw [hd0] at HGo2
      have hFn : F.length = n := by
        rw [List.length_append] at hn
        simpa using hn
      obtain ⟨hcap, HRow⟩ : n + 1 ≤ cap ∧ Hid (w2.ownsRow w.heap.size 101 3 (.slice (some ⟨g, 0, none⟩) n cap) F.length (cellsW F)) := by
        obtain ⟨h1, h2⟩ := HR0.out
        rcases h2 with ⟨h2, _⟩ | ⟨g', cap', cur, h2, h3, h4, h5, h6, h7, h8⟩
        · cases h2
        · simp only [Value.slice.injEq, Option.some.injEq, Addr.mk.injEq] at h2
          obtain ⟨⟨rfl, _, _⟩, _, rfl⟩ := h2
          refine ⟨h5, ⟨by rw [Lx.cellsW_len], .inr ⟨g, cap, cur, by rw [hFn], by omega, h4, by omega, h6, h7, ?_⟩⟩⟩
          have e1 : cur.toList.take (F.length * 3) = (cur.toList.take ((n + 1) * 3)).take (F.length * 3) := by rw [List.take_take, Nat.min_eq_left (by omega)]
          rw [e1, h8, Lx.cellsW_append, List.take_left' (Lx.cellsW_len F)]
      clear HR0
      go_wp2_with fail
      refine Calls.mono HGo2.out ?_
      rintro e w3 ⟨rfl, hb3⟩
      have HRow3 := hide (Lx.own_below HRow.out hb3)
      have HB3 := hide (HB2.out.trans (hb3.mono HB2.out.size))
      clear HGo2 hb3 HRow k0 k1 k2
      go_wp2_with fail
      go_ret
      exact ⟨_, rfl, HRow3.out, HB3.out⟩

theorem push_words {W : World} {base : Nat} {v : Value} {L : List Wd} (h : W.ownsRow base 101 3 v L.length (cellsW L)) (hb : base ≤ W.heap.size) (hl : L.length ≤ 10000) :
    ∃ g cap w3, (∀ ty, (Builtin.append_ #[77, 77] ty #[v, .slice (some ⟨W.heap.size, 0, none⟩) 1 1]).run Tryz.prog (W.alloc (.cells #[.int .i64 0, .string ⟨#[]⟩, .int .i64 0] 101)) = .ok (.slice (some ⟨g, 0, none⟩) (L.length + 1) cap) w3) ∧
      Hid (w3.ownsRow base 101 3 (.slice (some ⟨g, 0, none⟩) (L.length + 1) cap) (L ++ [(0, [], 0)]).length (cellsW (L ++ [(0, [], 0)]))) ∧ Hid (Fr (fun k => v.ownBlock = some k) W w3) := by
  obtain ⟨g, cap, w3, h1, h2, h3⟩ := push_row 77 101 3 32 _ Tryz.underlying77 Lx.Tryz.info101 rfl (by decide) (by decide) h [.int .i64 0, .string ⟨#[]⟩, .int .i64 0] rfl (by simp [Value.oneCell']) (by omega) hb
  refine ⟨g, cap, w3, h1, ?_, h3⟩
  rw [List.length_append, Lx.cellsW_append]
  exact h2

set_option maxRecDepth 10000 in
theorem words_bad (s : ByteArray) (w : World) (h : Sg w) (hs : s.size ≤ 4000) (hn : scanAt (bs s) 0 = none) :
    Calls Tryz.prog 41 #[.string s] w fun e w' => Ws s w e w' := by
  have HS := hide (Lx.scan_any s w h hs)
  have HA : Hid (∀ W, Below w.heap.size w W → Calls Tryz.prog 63 #[.string s] W fun e w' => ∃ v, e = .returned v ∧ w'.ownsRow W.heap.size 101 3 v (frontL (bs s) 0).length (cellsW (frontL (bs s) 0)) ∧ Below W.heap.size W w') := fun W hW => ahead_any s W (h.below hW) hs hn
  have e : wordsL (bs s) = frontL (bs s) 0 ++ [(0, [], 0)] := by rw [wordsL, hn]; rfl
  have hfl := front_len (bs s)
  rw [Lx.bs_length] at hfl
  unfold Ws
  rw [e]
  clear e h
  generalize frontL (bs s) 0 = F at *
  go_enter Tryz.func41, Tryz.ntmps41
  go_wp2_with fail
  refine Calls.mono HS.out ?_
  rintro e w1 (⟨v, L', h1, _⟩ | ⟨h1, rfl, hb⟩)
  · rw [hn] at h1
    cases h1
  · have HB1 := hide hb
    have HA1 := hide (HA.out w1 hb)
    clear HS HA hb h1
    go_wp2_with fail
    refine Calls.mono HA1.out ?_
    rintro e w2 ⟨v, rfl, hr, hb2⟩
    obtain ⟨_, ao, cap, rfl⟩ := own_len hr
    have hb2s := hb2.size
    obtain ⟨g, cap3, w3, hap, HO, HF⟩ := push_words hr hb2s (by omega)
    have HB3 : Hid (Below w.heap.size w w3) := by
      have h2 : Below w1.heap.size w1 w3 := hb2.trans (HF.out.below (fun k hk => (hr.lt k hk).1) hb2s)
      exact HB1.out.trans (h2.mono HB1.out.size)
    have HO3 := hide (Vl.own_base HO.out (base' := w.heap.size) (fun k hk => by
      have := (HO.out.lt k hk).1
      have := HB1.out.size
      omega))
    clear HA1 hr hb2 HO HF
    go_wp2_with (at_builtin; refine wpList_append_run _ rfl (.tmp 14) (.tmp 16) 77 77 rfl _ _ rfl rfl (hap _) ?_)
    go_ret2
    exact ⟨_, rfl, HO3.out, HB3.out⟩

theorem words_any (s : ByteArray) (w : World) (h : Sg w) (hs : s.size ≤ 4000) : Calls Tryz.prog 41 #[.string s] w fun e w' => Ws s w e w' := by
  cases hn : scanAt (bs s) 0 with
  | none => exact words_bad s w h hs hn
  | some L => exact words_good s w h hs hn
/-- What Program gives of any text. -/
theorem program_any (s : ByteArray) (w : World) (h : Sg w) (hT : Tb w) (hs : s.size ≤ 4000) : Calls Tryz.prog 9 #[.string s] w fun e w' => Pg (progL 30 (wordsL (bs s))) w e w' :=
  program_of s w hs hT (words_any s w h hs)
end Go.Proofs.YtcfhpodpkficaaaGreatDoor.Sy
namespace Go.Proofs.YtcfhpodpkficaaaGreatDoor.Rp
open Go.RowKit
open Lx (Wd tx cellsW)
open Vl (Tm Fr)
open Sy

/-- The reference's parser at block r: at its a-th word, with its first error. -/
structure Pd (w : World) (r : Nat) (v : Value) (L : List Wd) (a : Nat) (e : Nat) : Prop where
  box : Bx w r 61 #[v, .int .i64 (a : Int), .int .i64 (e : Int)]
  row : w.ownsRow 0 50 3 v L.length (cellsW L)
  len : L.length ≤ 5000
  near : a ≤ 6000

theorem Pd.lt {w : World} {r : Nat} {v : Value} {L : List Wd} {a e : Nat} (h : Pd w r v L a e) : r < w.heap.size := h.box.lt
theorem Pd.not {w : World} {r : Nat} {v : Value} {L : List Wd} {a e : Nat} (h : Pd w r v L a e) {b e' s n : Nat} {u : Value} {xs : List Value} (ho : w.ownsRow b e' s u n xs) (he : e' ≠ 61) : ∀ k, u.ownBlock = some k → ¬ k = r := by
  intro k hk e2
  subst e2
  rcases ho.2 with ⟨rfl, _⟩ | ⟨g, cap, cur, rfl, _, hg, _⟩
  · simp [Value.ownBlock] at hk
  · simp [Value.ownBlock] at hk
    subst hk
    have := h.box.symm.trans hg
    simp only [Option.some.injEq, Obj.cells.injEq] at this
    exact he this.2.1.symm
theorem Pd.kept {w w' : World} {r : Nat} {v : Value} {L : List Wd} {a e : Nat} (h : Pd w r v L a e) (hf : Fr (fun k => k = r) w w') {b e' s n : Nat} {u : Value} {xs : List Value} (ho : w.ownsRow b e' s u n xs) (he : e' ≠ 61) : w'.ownsRow b e' s u n xs :=
  Vl.own_kept ho hf (h.not ho he)
theorem Pd.below {w w' : World} {r : Nat} {v : Value} {L : List Wd} {a e : Nat} (h : Pd w r v L a e) (hb : Below w.heap.size w w') : Pd w' r v L a e :=
  ⟨h.box.below hb, Lx.own_below h.row hb, h.len, h.near⟩
theorem Pd.shape {w : World} {r : Nat} {v : Value} {L : List Wd} {a e : Nat} (h : Pd w r v L a e) : ∃ ao cap, v = .slice ao L.length cap ∧ (0 < L.length → ∃ g, ao = some ⟨g, 0, none⟩ ∧ ∀ i (hi : i < L.length), w.cell? ⟨g, i * 3, none⟩ = some (.int .i64 (L[i].1 : Int)) ∧ w.cell? ⟨g, i * 3 + 1, none⟩ = some (.string (tx L[i].2.1)) ∧ w.cell? ⟨g, i * 3 + 2, none⟩ = some (.int .i64 (L[i].2.2 : Int))) := by
  have ho := h.row
  rcases Lx.own_shape ho with ⟨rfl, h0⟩ | ⟨g, cap, rfl, _⟩
  · exact ⟨none, 0, by rw [h0], fun hp => by omega⟩
  · refine ⟨_, cap, rfl, fun _ => ⟨g, rfl, fun i hi => ?_⟩⟩
    have hc := Lx.cellsW_get L i hi
    exact ⟨(ho.cellAt _ (by omega)).trans hc.1, (ho.cellAt _ (by omega)).trans hc.2.1, (ho.cellAt _ (by omega)).trans hc.2.2⟩
/-- Behind a store of the place; of the error. -/
theorem Pd.setAt {w : World} {r : Nat} {v : Value} {L : List Wd} {a e : Nat} (h : Pd w r v L a e) (b : Nat) (hb : b ≤ 6000) : Pd (w.setCell ⟨r, 1, none⟩ (.int .i64 (b : Int))) r v L b e ∧ Fr (fun k => k = r) w (w.setCell ⟨r, 1, none⟩ (.int .i64 (b : Int))) := by
  have hf : Fr (fun k => k = r) w (w.setCell ⟨r, 1, none⟩ (.int .i64 (b : Int))) := Vl.Fr.one w r 1 _
  exact ⟨⟨h.box.set 1 _, h.kept hf h.row (by decide), h.len, hb⟩, hf⟩
theorem Pd.setE {w : World} {r : Nat} {v : Value} {L : List Wd} {a e : Nat} (h : Pd w r v L a e) (b : Nat) : Pd (w.setCell ⟨r, 2, none⟩ (.int .i64 (b : Int))) r v L a b ∧ Fr (fun k => k = r) w (w.setCell ⟨r, 2, none⟩ (.int .i64 (b : Int))) := by
  have hf : Fr (fun k => k = r) w (w.setCell ⟨r, 2, none⟩ (.int .i64 (b : Int))) := Vl.Fr.one w r 2 _
  exact ⟨⟨h.box.set 2 _, h.kept hf h.row (by decide), h.len, h.near⟩, hf⟩
theorem Pd.step {w : World} {r : Nat} {v : Value} {L : List Wd} {a e : Nat} (h : Pd w r v L a e) (hb : a < 6000) : Pd (w.setCell ⟨r, 1, none⟩ (.int .i64 (wrap64 ((a : Int) + 1)))) r v L (a + 1) e ∧ Fr (fun k => k = r) w (w.setCell ⟨r, 1, none⟩ (.int .i64 (wrap64 ((a : Int) + 1)))) := by
  have e : wrap64 ((a : Int) + 1) = ((a + 1 : Nat) : Int) := by unfold wrap64; omega
  rw [e]
  exact h.setAt (a + 1) (by omega)

theorem Pd.stepI {w : World} {r : Nat} {v : Value} {L : List Wd} {a e : Nat} (h : Pd w r v L a e) (hb : a < 6000) : Pd (w.setCell ⟨r, 1, none⟩ (.int .i64 ((a : Int) + 1))) r v L (a + 1) e ∧ Fr (fun k => k = r) w (w.setCell ⟨r, 1, none⟩ (.int .i64 ((a : Int) + 1))) := by
  have e : (a : Int) + 1 = ((a + 1 : Nat) : Int) := by omega
  rw [e]
  exact h.setAt (a + 1) (by omega)

theorem res0 {fn : Func} (h : fn.results = #[]) (tmps : Array Value) (w : World) : (results fn tmps).run Tryz.prog w = .ok (.tuple #[]) w := by
  simp [results, h]

theorem bad_any {w : World} {r : Nat} {v : Value} {L : List Wd} {a e : Nat} (h : Pd w r v L a e) (c : Nat) :
    Calls Tryz.prog 27 #[.pointer (some ⟨r, 0, none⟩), .int .i64 (c : Int)] w fun x w' => x = .returned (.tuple #[]) ∧ Pd w' r v L a (if e = 0 then c else e) ∧ Fr (fun k => k = r) w w' := by
  obtain ⟨⟨c0, c1, c2⟩, f0, f1, f2⟩ := h.box.three
  have H := hide h
  by_cases h0 : e = 0
  · subst h0
    clear h
    go_enter Tryz.func27, Tryz.ntmps27
    go_wp2_with fail
    exact bodyPost_end (res0 rfl _ _) rfl ⟨rfl, (H.out.setE c).1, (H.out.setE c).2⟩
  · have g0 : ((e : Int) == 0) = false := by simp; omega
    rw [if_neg h0]
    clear h
    go_enter Tryz.func27, Tryz.ntmps27
    go_wp2_with fail
    exact bodyPost_end (res0 rfl _ _) rfl ⟨rfl, H.out, Fr.refl _ _⟩

/-- Is the next word that sign? -/
def signB (s : List UInt8) (ws : List Wd) : Bool := decide ((nextW ws).1 = 4) && decide ((nextW ws).2.1 = s)

set_option maxRecDepth 10000 in
set_option maxHeartbeats 2000000 in
theorem sign_any {w : World} {r : Nat} {v : Value} {L : List Wd} {a e : Nat} (h : Pd w r v L a e) (s : List UInt8) :
    Calls Tryz.prog 25 #[.pointer (some ⟨r, 0, none⟩), .string (tx s)] w fun x w' => x = .returned (.bool (signB s (L.drop a))) ∧ ∃ n, w' = w.drewN n := by
  obtain ⟨⟨c0, c1, c2⟩, _, _, _⟩ := h.box.three
  obtain ⟨ao, cap, rfl, hc⟩ := h.shape
  by_cases hl : a < L.length
  · have hlI : (a : Int) < (L.length : Int) := by omega
    obtain ⟨g, rfl, hc2⟩ := hc (by omega)
    obtain ⟨k0, k1, k2⟩ := hc2 a hl
    have hx : nextW (L.drop a) = L[a] := drop_next L a hl
    unfold signB
    rw [hx]
    have hbb := beq_bytes L[a].2.1 s
    clear hc hc2 h hx
    generalize L[a] = x at *
    by_cases h4 : x.1 = 4
    · have g4 : ((x.1 : Int) == 4) = true := by simp; omega
      by_cases hs : x.2.1 = s
      · have gs : ((tx x.2.1).toList == (tx s).toList) = true := by rw [hbb]; simpa using hs
        clear hbb
        go_enter Tryz.func25, Tryz.ntmps25
        go_wp2_with fail
        go_big_quiet (fail)
        go_wp2_with fail
        go_ret
        exact ⟨Vl.ret_bool (by simp [h4, hs]), _, rfl⟩
      · have gs : ((tx x.2.1).toList == (tx s).toList) = false := by rw [hbb]; simpa using hs
        clear hbb
        go_enter Tryz.func25, Tryz.ntmps25
        go_wp2_with fail
        go_big_quiet (fail)
        go_wp2_with fail
        go_ret
        exact ⟨Vl.ret_bool (by simp [hs]), _, rfl⟩
    · have g4 : ((x.1 : Int) == 4) = false := by simp; omega
      clear hbb
      go_enter Tryz.func25, Tryz.ntmps25
      go_wp2_with fail
      go_big_quiet (fail)
      go_wp2_with fail
      go_ret
      exact ⟨Vl.ret_bool (by simp [h4]), _, rfl⟩
  · have hx : nextW (L.drop a) = (0, [], 0) := by rw [drop_end L a (by omega)]; rfl
    have hlI : decide ((a : Int) < (L.length : Int)) = false := by simp; omega
    unfold signB
    rw [hx]
    clear hc h hx
    go_enter Tryz.func25, Tryz.ntmps25
    go_wp2_with fail
    go_big_quiet (fail)
    go_wp2_with fail
    go_ret
    exact ⟨rfl, _, rfl⟩

/-- A word's sign is told by its bytes. -/
theorem sign_take {L : List Wd} (hL : ∀ x ∈ L, OkW x) (a : Nat) (s : List UInt8) (hs : s ≠ []) (hk : Lx.kindL s = 4) : signB s (L.drop a) = takeB s (L.drop a) := by
  unfold signB takeB
  by_cases ht : (nextW (L.drop a)).2.1 = s
  · have hlt : a < L.length := by
      by_cases hl : a < L.length
      · exact hl
      · rw [drop_end L a (by omega)] at ht
        exact absurd ht.symm hs
    have hx := drop_next L a hlt
    rw [hx] at ht ⊢
    have h4 : L[a].1 = 4 := by rw [(hL _ (List.getElem_mem hlt)).kind, ht, hk]
    simp [h4]
  · simp [ht]

set_option maxRecDepth 10000 in
theorem eat_any {w : World} {r : Nat} {v : Value} {L : List Wd} {a : Nat} (h : Pd w r v L a 0) (s : List UInt8) (hn : a < 6000) :
    Calls Tryz.prog 28 #[.pointer (some ⟨r, 0, none⟩), .string (tx s)] w fun x w' => x = .returned (.tuple #[]) ∧ (∃ a', Pd w' r v L a' (if signB s (L.drop a) = true then 0 else 4) ∧ (signB s (L.drop a) = true → a' = a + 1) ∧ a' ≤ a + 1) ∧ Fr (fun k => k = r) w w' := by
  have HS := hide (sign_any h s)
  obtain ⟨⟨c0, c1, c2⟩, f0, f1, f2⟩ := h.box.three
  have H := hide h
  clear h
  generalize signB s (L.drop a) = b at *
  go_enter Tryz.func28, Tryz.ntmps28
  go_wp2_with fail
  refine Calls.mono HS.out ?_
  rintro x w1 ⟨rfl, n, rfl⟩
  have H1 := hide (H.out.below (Sy.below_drewN w n))
  cases b
  · have HB := hide (bad_any H1.out 4)
    clear HS
    go_wp2_with fail
    refine Calls.mono HB.out ?_
    rintro x w2 ⟨rfl, h2, f2'⟩
    go_wp2_with fail
    refine bodyPost_ret (res0 rfl _ _) rfl ?_
    exact ⟨rfl, ⟨a, h2, by omega⟩, (Fr.of_below (Sy.below_drewN w n)).trans f2' (fun _ _ e => e)⟩
  · clear HS
    go_wp2_with fail
    refine bodyPost_end (res0 rfl _ _) rfl ?_
    have hst := H1.out.stepI hn
    exact ⟨rfl, ⟨a + 1, hst.1, rfl, by omega⟩, (Fr.of_below (Sy.below_drewN w n)).trans hst.2 (fun _ _ e => e)⟩

/-- With an error eat does nothing. -/
theorem eat_err {w : World} {r : Nat} {v : Value} {L : List Wd} {a e : Nat} (h : Pd w r v L a e) (he : e ≠ 0) (s : List UInt8) :
    Calls Tryz.prog 28 #[.pointer (some ⟨r, 0, none⟩), .string (tx s)] w fun x w' => x = .returned (.tuple #[]) ∧ w' = w := by
  obtain ⟨⟨c0, c1, c2⟩, _, _, _⟩ := h.box.three
  have g0 : ((e : Int) == 0) = false := by simp; omega
  clear h
  go_enter Tryz.func28, Tryz.ntmps28
  go_wp2_with fail
  exact bodyPost_ret (res0 rfl _ _) rfl ⟨rfl, rfl⟩
end Go.Proofs.YtcfhpodpkficaaaGreatDoor.Rp
namespace Go.Proofs.YtcfhpodpkficaaaGreatDoor.Rp
open Go.RowKit
open Lx (Wd tx cellsW wpList_append_run)
open Vl (Tm Fr)
open Sy

theorem eqT_self (k x : Int) (s : ByteArray) : Vl.eqT k s x k s x = true := by simp [Vl.eqT]

set_option maxRecDepth 10000 in
set_option maxHeartbeats 2000000 in
theorem eqLit_same {w : World} {l : Sy.Lit} {y y' : Value} (h : isLit w l y) (h' : isLit w l y') :
    Calls Tryz.prog 19 #[y, y'] w fun e w' => e = .returned (.bool true) ∧ Below w.heap.size w w' := by
  obtain ⟨va, rfl, hva⟩ := h
  obtain ⟨vb, rfl, hvb⟩ := h'
  obtain ⟨ao, cap, rfl, hle, hc⟩ := ts_of hva
  obtain ⟨ao', cap', rfl, hle', hc'⟩ := ts_of hvb
  obtain ⟨k, nm, ts⟩ := l
  simp only at hc hc' hle hle' ⊢
  have HC := hide hc
  have HC' := hide hc'
  have HL : Hid (ts.length ≤ maxLen) := by
    show _ ≤ _
    rcases Lx.own_shape hva with ⟨_, h0⟩ | ⟨g, c2, hv, h1, h2, _⟩
    · simp only at h0; rw [h0]; exact Nat.zero_le _
    · exact Nat.le_trans h1 h2
  clear hva hvb hc hc'
  go_enter Tryz.func19, Tryz.ntmps19
  go_wp2_with fail
  go_loopw [5] (fun iv wr => ∃ i : Nat, iv = .int .i64 i ∧ i ≤ ts.length ∧ Below w.heap.size w wr ∧ Bx wr w.heap.size 33 #[.int .i64 k, .string nm, .slice ao ts.length cap] ∧ Bx wr (w.heap.size + 1) 33 #[.int .i64 k, .string nm, .slice ao' ts.length cap']) (fun iv _ => ts.length - (intOf iv).toNat)
  case atStart => exact ⟨0, rfl, Nat.zero_le _, Vl.below_box2 _ _ _, (Bx.new w _ _).below (Lx.below_box _ _), by have := Bx.new (w.alloc (.cells #[.int .i64 k, .string nm, .slice ao ts.length cap] 33)) #[.int .i64 k, .string nm, .slice ao' ts.length cap'] 33; simpa using this⟩
  case round =>
    obtain ⟨i, rfl, hi, hb, b1, b2⟩ := hrel
    obtain ⟨⟨c0, c1, c2⟩, _, _, _⟩ := b1.three
    obtain ⟨⟨d0, d1, d2⟩, _, _, _⟩ := b2.three
    by_cases hlt : i < ts.length
    · obtain ⟨g, off, rfl, hc⟩ := HC.out (by omega)
      obtain ⟨g', off', rfl, hc'⟩ := HC'.out (by omega)
      obtain ⟨k0, k1, k2⟩ := hc i hlt
      obtain ⟨m0, m1, m2⟩ := hc' i hlt
      have k0 := cell_below' k0 hb
      have k1 := cell_below' k1 hb
      have k2 := cell_below' k2 hb
      have m0 := cell_below' m0 hb
      have m1 := cell_below' m1 hb
      have m2 := cell_below' m2 hb
      have hltI : (i : Int) < (ts.length : Int) := by omega
      have cE : ∀ d os, Calls Tryz.prog 39 #[.agg #[.int .i64 ts[i].1, .string ts[i].2.1, .int .i64 ts[i].2.2], .agg #[.int .i64 ts[i].1, .string ts[i].2.1, .int .i64 ts[i].2.2]] (Sort.grow (redrawn wr d) os) fun e w'' => e = .returned (.bool true) ∧ ∃ p : Regrown, w'' = Sort.grow (redrawn wr p.d) p.os := fun d os => Calls.regrown_of (by
        have := Vl.eqRef_any ts[i].1 ts[i].1 ts[i].2.2 ts[i].2.2 ts[i].2.1 ts[i].2.1 (Sort.grow (redrawn wr d) os)
        rw [eqT_self] at this
        exact this)
      have HB := hide hb
      have B1 := hide b1
      have B2 := hide b2
      clear hc hc' hb b1 b2
      generalize ts[i] = t at *
      go_wp2_with fail
      have c2 := cell_regrown c2
      have d2 := cell_regrown d2
      have k0 := cell_regrown k0
      have k1 := cell_regrown k1
      have k2 := cell_regrown k2
      have m0 := cell_regrown m0
      have m1 := cell_regrown m1
      have m2 := cell_regrown m2
      refine wp_region_quiet_below (by kernel_rfl) (by kernel_rfl) ?_
      repeat (quiet_step (first | exact cE _ _))
      refine wpQuiet_nil ?_
      intro _ hw'
      obtain ⟨⟨dq, osq⟩, hw''⟩ := hw'
      have hbq := below_regrown wr dq osq
      rw [← hw''] at hbq
      rename_i wq
      have HB2 := hide (HB.out.trans (hbq.mono HB.out.size))
      have B3 := hide (B1.out.below hbq)
      have B4 := hide (B2.out.below hbq)
      clear hw'' hbq cE c0 c1 c2 d0 d1 d2 k0 k1 k2 m0 m1 m2
      go_wp2_with fail
      go_roundw
      case rel => exact ⟨i + 1, by have := HL.out; simp only [maxLen] at this; exact congrArg (Value.int .i64) (by unfold wrap64; omega), by omega, HB2.out, B3.out, B4.out⟩
      case measure => have := HL.out; simp only [maxLen] at this; have hw : wrap64 ((i : Int) + 1) = ((i + 1 : Nat) : Int) := (by unfold wrap64; omega); rw [hw]; simp [intOf]; omega
    · have hltI : ¬ (i : Int) < (ts.length : Int) := by omega
      go_wp2_with fail
      go_ret
      exact ⟨rfl, hb⟩

theorem Bx.four' {w : World} {b : Nat} {T : TypeId} {x y z u : Value} (h : Bx w b T #[x, y, z, u]) : w.cell? ⟨b, 0, none⟩ = some x ∧ w.cell? ⟨b, 1, none⟩ = some y ∧ w.cell? ⟨b, 2, none⟩ = some z ∧ w.cell? ⟨b, 3, none⟩ = some u := h.four.1

set_option maxRecDepth 10000 in
set_option maxHeartbeats 2000000 in
theorem eqRule_same {w : World} {q : Rul} {y y' : Value} (h : isRul w q y) (h' : isRul w q y') :
    Calls Tryz.prog 29 #[y, y'] w fun e w' => e = .returned (.bool true) ∧ Below w.heap.size w w' := by
  obtain ⟨⟨hk, hn, ht⟩, ls⟩ := q
  obtain ⟨va, vb, rfl, hva, hvb⟩ := h
  obtain ⟨va', vb', rfl, hva', hvb'⟩ := h'
  simp only at hva hvb hva' hvb' ⊢
  obtain ⟨_, aoa, capa, rfl⟩ := own_len hva
  obtain ⟨_, aoa', capa', rfl⟩ := own_len hva'
  obtain ⟨aob, capb, rfl⟩ := isLs_shape hvb
  obtain ⟨aob', capb', rfl⟩ := isLs_shape hvb'
  have HL : Hid (ls.length ≤ maxLen) := by
    show _ ≤ _
    obtain ⟨zs, rfl, h2, _⟩ := hvb
    rw [List.length_map]
    rcases Lx.own_shape h2 with ⟨_, h0⟩ | ⟨g, c2, hv, h1, h2, _⟩
    · rw [h0]; exact Nat.zero_le _
    · exact Nat.le_trans h1 h2
  have H1 : Hid (∀ W, Below w.heap.size w W → Calls Tryz.prog 19 #[.agg #[.int .i64 hk, .string hn, .slice aoa ht.length capa], .agg #[.int .i64 hk, .string hn, .slice aoa' ht.length capa']] W fun e w' => e = .returned (.bool true) ∧ Below W.heap.size W w') := fun W hW =>
    eqLit_same (l := (hk, hn, ht)) ⟨_, rfl, isTs_below hva hW⟩ ⟨_, rfl, isTs_below hva' hW⟩
  have HC := hide (isLs_cells hvb).2
  have HC' := hide (isLs_cells hvb').2
  clear hva hva' hvb hvb'
  go_enter Tryz.func29, Tryz.ntmps29
  go_wp2_with fail
  have B1 : Hid (Bx ((w.alloc (.cells #[.int .i64 hk, .string hn, .slice aoa ht.length capa, .slice aob ls.length capb] 36)).alloc (.cells #[.int .i64 hk, .string hn, .slice aoa' ht.length capa', .slice aob' ls.length capb'] 36)) w.heap.size 36 #[.int .i64 hk, .string hn, .slice aoa ht.length capa, .slice aob ls.length capb]) := (Bx.new w _ _).below (Lx.below_box _ _)
  have B2 : Hid (Bx ((w.alloc (.cells #[.int .i64 hk, .string hn, .slice aoa ht.length capa, .slice aob ls.length capb] 36)).alloc (.cells #[.int .i64 hk, .string hn, .slice aoa' ht.length capa', .slice aob' ls.length capb'] 36)) (w.heap.size + 1) 36 #[.int .i64 hk, .string hn, .slice aoa' ht.length capa', .slice aob' ls.length capb']) := by have := Bx.new (w.alloc (.cells #[.int .i64 hk, .string hn, .slice aoa ht.length capa, .slice aob ls.length capb] 36)) #[.int .i64 hk, .string hn, .slice aoa' ht.length capa', .slice aob' ls.length capb'] 36; show Bx _ _ _ _; simpa using this
  have HB := hide (Vl.below_box2 w (.cells #[.int .i64 hk, .string hn, .slice aoa ht.length capa, .slice aob ls.length capb] 36) (.cells #[.int .i64 hk, .string hn, .slice aoa' ht.length capa', .slice aob' ls.length capb'] 36))
  refine Calls.mono (H1.out _ HB.out) ?_
  rintro e w1 ⟨rfl, hb1⟩
  have HB1 := hide (HB.out.trans (hb1.mono HB.out.size))
  have B3 := hide (B1.out.below hb1)
  have B4 := hide (B2.out.below hb1)
  obtain ⟨⟨c0, c1, c2, c3⟩, _, _, _, _⟩ := B3.out.four
  obtain ⟨⟨d0, d1, d2, d3⟩, _, _, _, _⟩ := B4.out.four
  clear hb1 B1 B2 H1 HB
  go_wp2_with fail
  go_loopw [5] (fun iv wr => ∃ i : Nat, iv = .int .i64 i ∧ i ≤ ls.length ∧ Hid (Below w.heap.size w wr) ∧ Hid (Bx wr w.heap.size 36 #[.int .i64 hk, .string hn, .slice aoa ht.length capa, .slice aob ls.length capb]) ∧ Hid (Bx wr (w.heap.size + 1) 36 #[.int .i64 hk, .string hn, .slice aoa' ht.length capa', .slice aob' ls.length capb'])) (fun iv _ => ls.length - (intOf iv).toNat)
  case atStart => exact ⟨0, rfl, Nat.zero_le _, HB1, B3, B4⟩
  case round =>
    obtain ⟨i, rfl, hi, HB, B5, B6⟩ := hrel
    clear c0 c1 c2 c3 d0 d1 d2 d3 B3 B4 HB1
    obtain ⟨⟨c0, c1, c2, c3⟩, _, _, _, _⟩ := B5.out.four
    obtain ⟨⟨d0, d1, d2, d3⟩, _, _, _, _⟩ := B6.out.four
    by_cases hlt : i < ls.length
    · obtain ⟨g, rfl, hc⟩ := HC.out (by omega)
      obtain ⟨g', rfl, hc'⟩ := HC'.out (by omega)
      obtain ⟨u, hu, k0, k1, k2⟩ := hc i hlt
      obtain ⟨u', hu', m0, m1, m2⟩ := hc' i hlt
      have cE : ∀ d os, Calls Tryz.prog 19 #[.agg #[.int .i64 ls[i].1, .string ls[i].2.1, u], .agg #[.int .i64 ls[i].1, .string ls[i].2.1, u']] (Sort.grow (redrawn wr d) os) fun e w'' => e = .returned (.bool true) ∧ ∃ p : Regrown, w'' = Sort.grow (redrawn wr p.d) p.os := fun d os => Calls.regrown_of
        (eqLit_same (l := ls[i]) ⟨_, rfl, isTs_below hu (HB.out.trans ((below_regrown wr d os).mono HB.out.size))⟩ ⟨_, rfl, isTs_below hu' (HB.out.trans ((below_regrown wr d os).mono HB.out.size))⟩)
      have k0 := cell_regrown (cell_below' k0 HB.out)
      have k1 := cell_regrown (cell_below' k1 HB.out)
      have k2 := cell_regrown (cell_below' k2 HB.out)
      have m0 := cell_regrown (cell_below' m0 HB.out)
      have m1 := cell_regrown (cell_below' m1 HB.out)
      have m2 := cell_regrown (cell_below' m2 HB.out)
      have hltI : (i : Int) < (ls.length : Int) := by omega
      obtain ⟨_, aou, capu, rfl⟩ := own_len hu
      obtain ⟨_, aou', capu', rfl⟩ := own_len hu'
      clear hc hc' hu hu'
      generalize ls[i] = t at *
      go_wp2_with fail
      have c3 := cell_regrown c3
      have d3 := cell_regrown d3
      refine wp_region_quiet_below (by kernel_rfl) (by kernel_rfl) ?_
      repeat (quiet_step (first | exact cE _ _))
      refine wpQuiet_nil ?_
      intro _ hw'
      obtain ⟨⟨dq, osq⟩, hw''⟩ := hw'
      have hbq := below_regrown wr dq osq
      rw [← hw''] at hbq
      rename_i wq
      have HB2 := hide (HB.out.trans (hbq.mono HB.out.size))
      have B7 := hide (B5.out.below hbq)
      have B8 := hide (B6.out.below hbq)
      clear hw'' hbq cE c0 c1 c2 c3 d0 d1 d2 d3 k0 k1 k2 m0 m1 m2
      go_wp2_with fail
      go_roundw
      case rel => exact ⟨i + 1, by have := HL.out; simp only [maxLen] at this; exact congrArg (Value.int .i64) (by unfold wrap64; omega), by omega, HB2, B7, B8⟩
      case measure => have := HL.out; simp only [maxLen] at this; have hw : wrap64 ((i : Int) + 1) = ((i + 1 : Nat) : Int) := (by unfold wrap64; omega); rw [hw]; simp [intOf]; omega
    · have hltI : ¬ (i : Int) < (ls.length : Int) := by omega
      go_wp2_with fail
      go_ret
      exact ⟨rfl, HB.out⟩

/-- A row of rules, cell by cell. -/
theorem isRs_cells {w : World} {ls : List Rul} {ao : Option Addr} {n cap : Nat} (h : isRs w ls (.slice ao n cap)) : n = ls.length ∧ (0 < ls.length → ∃ g, ao = some ⟨g, 0, none⟩ ∧ ∀ i (hi : i < ls.length), ∃ va vb, isTs w ls[i].1.2.2 va ∧ isLs w ls[i].2 vb ∧ w.cell? ⟨g, i * 4, none⟩ = some (.int .i64 ls[i].1.1) ∧ w.cell? ⟨g, i * 4 + 1, none⟩ = some (.string ls[i].1.2.1) ∧ w.cell? ⟨g, i * 4 + 2, none⟩ = some va ∧ w.cell? ⟨g, i * 4 + 3, none⟩ = some vb) := by
  obtain ⟨zs, rfl, h2, h3⟩ := h
  have hlm : (zs.map (·.1)).length = zs.length := List.length_map _
  refine ⟨by rw [hlm]; exact (own_len h2).1, fun hp => ?_⟩
  rcases Lx.own_shape h2 with ⟨e, h0⟩ | ⟨g, cap', e, _⟩
  · omega
  · simp only [Value.slice.injEq] at e
    obtain ⟨rfl, rfl, rfl⟩ := e
    refine ⟨g, rfl, fun i hi0 => ?_⟩
    have hi : i < zs.length := by omega
    refine ⟨zs[i].2.1, zs[i].2.2, ?_⟩
    have e : zs = zs.take i ++ zs[i] :: zs.drop (i + 1) := by simp
    have hl : (cellsRz (zs.take i)).length = i * 4 := by
      have : ∀ q : List (Rul × Value × Value), (cellsRz q).length = q.length * 4 := fun q => by
        induction q with
        | nil => rfl
        | cons z q ih => simp [cellsRz] at ih ⊢; omega
      rw [this]; simp; omega
    have e2 : cellsRz zs = cellsRz (zs.take i) ++ (.int .i64 zs[i].1.1.1 :: .string zs[i].1.1.2.1 :: zs[i].2.1 :: zs[i].2.2 :: cellsRz (zs.drop (i + 1))) := by
      conv => lhs; rw [e]
      unfold cellsRz
      rw [List.flatMap_append, List.flatMap_cons]
      rfl
    have hc : ∀ j, j < 4 → w.cell? ⟨g, i * 4 + j, none⟩ = [.int .i64 zs[i].1.1.1, .string zs[i].1.1.2.1, zs[i].2.1, zs[i].2.2][j]? := fun j hj => by
      rw [h2.cellAt _ (by omega), e2, List.getElem?_append_right (by omega), hl, Nat.add_sub_cancel_left]
      match j, hj with
      | 0, _ => rfl
      | 1, _ => rfl
      | 2, _ => rfl
      | 3, _ => rfl
    have hz := h3 zs[i] (List.getElem_mem _)
    simp only [List.getElem_map]
    exact ⟨hz.1, hz.2, hc 0 (by decide), hc 1 (by decide), hc 2 (by decide), hc 3 (by decide)⟩
theorem isRs_shape {w : World} {ls : List Rul} {y : Value} (h : isRs w ls y) : ∃ ao cap, y = .slice ao ls.length cap := by
  obtain ⟨zs, rfl, h2, _⟩ := h
  rw [List.length_map]
  exact (own_len h2).2

set_option maxRecDepth 10000 in
set_option maxHeartbeats 2000000 in
theorem eqRules_same {w : World} {ls : List Rul} {y y' : Value} (h : isRs w ls y) (h' : isRs w ls y') :
    Calls Tryz.prog 11 #[y, y'] w fun e w' => e = .returned (.bool true) ∧ Below w.heap.size w w' := by
  obtain ⟨ao, cap, rfl⟩ := isRs_shape h
  obtain ⟨ao', cap', rfl⟩ := isRs_shape h'
  have HL : Hid (ls.length ≤ maxLen) := by
    show _ ≤ _
    obtain ⟨zs, rfl, h2, _⟩ := h
    rw [List.length_map]
    rcases Lx.own_shape h2 with ⟨_, h0⟩ | ⟨g, c2, hv, h1, h2, _⟩
    · rw [h0]; exact Nat.zero_le _
    · exact Nat.le_trans h1 h2
  have HC := hide (isRs_cells h).2
  have HC' := hide (isRs_cells h').2
  clear h h'
  go_enter Tryz.func11, Tryz.ntmps11
  go_wp2_with fail
  go_loopw [5] (fun iv wr => ∃ i : Nat, iv = .int .i64 i ∧ i ≤ ls.length ∧ Hid (Below w.heap.size w wr)) (fun iv _ => ls.length - (intOf iv).toNat)
  case atStart => exact ⟨0, rfl, Nat.zero_le _, Below.refl _ _⟩
  case round =>
    obtain ⟨i, rfl, hi, HB⟩ := hrel
    by_cases hlt : i < ls.length
    · obtain ⟨g, rfl, hc⟩ := HC.out (by omega)
      obtain ⟨g', rfl, hc'⟩ := HC'.out (by omega)
      obtain ⟨u, x, hu, hx, k0, k1, k2, k3⟩ := hc i hlt
      obtain ⟨u', x', hu', hx', m0, m1, m2, m3⟩ := hc' i hlt
      have cE : ∀ d os, Calls Tryz.prog 29 #[.agg #[.int .i64 ls[i].1.1, .string ls[i].1.2.1, u, x], .agg #[.int .i64 ls[i].1.1, .string ls[i].1.2.1, u', x']] (Sort.grow (redrawn wr d) os) fun e w'' => e = .returned (.bool true) ∧ ∃ p : Regrown, w'' = Sort.grow (redrawn wr p.d) p.os := fun d os => Calls.regrown_of (by
        have hW := HB.out.trans ((below_regrown wr d os).mono HB.out.size)
        exact eqRule_same (q := ls[i]) ⟨_, _, rfl, isTs_below hu hW, isLs_below hx hW⟩ ⟨_, _, rfl, isTs_below hu' hW, isLs_below hx' hW⟩)
      have k0 := cell_regrown (cell_below' k0 HB.out)
      have k1 := cell_regrown (cell_below' k1 HB.out)
      have k2 := cell_regrown (cell_below' k2 HB.out)
      have k3 := cell_regrown (cell_below' k3 HB.out)
      have m0 := cell_regrown (cell_below' m0 HB.out)
      have m1 := cell_regrown (cell_below' m1 HB.out)
      have m2 := cell_regrown (cell_below' m2 HB.out)
      have m3 := cell_regrown (cell_below' m3 HB.out)
      have hltI : (i : Int) < (ls.length : Int) := by omega
      obtain ⟨_, aou, capu, rfl⟩ := own_len hu
      obtain ⟨_, aou', capu', rfl⟩ := own_len hu'
      obtain ⟨aox, capx, rfl⟩ := isLs_shape hx
      obtain ⟨aox', capx', rfl⟩ := isLs_shape hx'
      clear hc hc' hu hu' hx hx'
      generalize ls[i] = t at *
      go_wp2_with fail
      refine wp_region_quiet_below (by kernel_rfl) (by kernel_rfl) ?_
      repeat (quiet_step (first | exact cE _ _))
      refine wpQuiet_nil ?_
      intro _ hw'
      obtain ⟨⟨dq, osq⟩, hw''⟩ := hw'
      have hbq := below_regrown wr dq osq
      rw [← hw''] at hbq
      rename_i wq
      have HB2 := hide (HB.out.trans (hbq.mono HB.out.size))
      clear hw'' hbq cE k0 k1 k2 k3 m0 m1 m2 m3
      go_wp2_with fail
      go_roundw
      case rel => exact ⟨i + 1, by have := HL.out; simp only [maxLen] at this; exact congrArg (Value.int .i64) (by unfold wrap64; omega), by omega, HB2⟩
      case measure => have := HL.out; simp only [maxLen] at this; have hw : wrap64 ((i : Int) + 1) = ((i + 1 : Nat) : Int) := (by unfold wrap64; omega); rw [hw]; simp [intOf]; omega
    · have hltI : ¬ (i : Int) < (ls.length : Int) := by omega
      go_wp2_with fail
      go_ret
      exact ⟨rfl, HB.out⟩
end Go.Proofs.YtcfhpodpkficaaaGreatDoor.Rp
