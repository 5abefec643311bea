/- tooLong. isGood. mayGoOn. has. The reader's walks once more, with where its bytes lie: below b. -/
import Derived.Test.YtjndgekpdmlbiaaGreatDoorPart11
namespace Go.Proofs.YtjndgekpdmlbiaaGreatDoor.Kp
open Go.RowKit Bn

def longE (e : Ent) : Bool := decide (8192 < e.data.length)
theorem any_none {es : List Ent} {f : Ent → Bool} (h : (es.take es.length).any f = false) : es.any f = false := by rwa [List.take_length] at h
theorem any_more {es : List Ent} {f : Ent → Bool} {k : Nat} {e : Ent} (he : es[k]? = some e) (h : (es.take k).any f = false) (hf : f e = false) : (es.take (k + 1)).any f = false := by
  obtain ⟨hk, rfl⟩ := List.getElem?_eq_some_iff.1 he
  rw [List.take_add_one, List.getElem?_eq_getElem hk, Option.toList_some, List.any_append, h]
  simp [hf]
theorem any_at {es : List Ent} {f : Ent → Bool} {k : Nat} {e : Ent} (he : es[k]? = some e) (hf : f e = true) : es.any f = true :=
  List.any_eq_true.2 ⟨e, List.mem_of_getElem? he, hf⟩

def longS : Option Snp → Bool
  | none => false
  | some p => decide (20000 < p.data.length)
theorem long_is (r : Rdy) : r.long = (r.ents.any longE || longS r.snap) := by
  cases h : r.snap <;> simp only [Rdy.long, longS, h] <;> rfl

set_option maxHeartbeats 2000000 in
theorem tooLong_core (a b c d y6 y7 y8 : Value) (es : List Ent) (snap : Option Snp) (p : Option Addr) (ve : Value) (w : World) (hE : Es w ve es) (hP : Ps w p snap) :
    Calls Tryz.prog 55 #[.agg #[a, b, c, d, ve, .pointer p, y6, y7, y8]] w fun x w' => x = .returned (.bool (es.any longE || longS snap)) ∧ Below w.heap.size w w' := by
  obtain ⟨ao, cap, rfl, h1, h2, h4⟩ := hE
  have h2' : cap ≤ 9223372036854775807 := h2
  obtain ⟨w0, hw0⟩ : ∃ w0, w0 = w.alloc (.cells #[a, b, c, d, .slice ao es.length cap, .pointer p, y6, y7, y8] 43) := ⟨_, rfl⟩
  have hb0 : Below w.heap.size w w0 := by rw [hw0]; exact (Below.refl _ _).alloc (Nat.le_refl _) _
  have hB : w0.heap[w.heap.size]? = some (Obj.cells #[a, b, c, d, .slice ao es.length cap, .pointer p, y6, y7, y8] 43 (0, 0)) := by rw [hw0]; exact heap_alloc_new _ _
  have HX : Hid (∀ wr, Below w0.heap.size w0 wr → (wr.cell? ⟨w.heap.size, 5, none⟩ = some (.pointer p)) ∧ Below w.heap.size w wr) := by
    intro wr hb
    exact ⟨(six_cells ((hb.block _ (lt_of_block hB)).trans hB)).2.2.2.2.2, hb0.trans (hb.mono hb0.size)⟩
  have HB0 : Hid (Below w0.heap.size w0 w0) := Below.refl _ _
  have H4 : Hid (0 < es.length → ∃ g off, ao = some ⟨g, off, none⟩ ∧ ∀ j e, es[j]? = some e → EntAt w0 g (off + j * 4) e) := by
    intro hp
    obtain ⟨g, off, ha, hc⟩ := h4 hp
    exact ⟨g, off, ha, fun j e hj => (hc j e hj).below hb0⟩
  have HP : Hid (Ps w0 p snap) := by
    cases snap with
    | none => exact hP
    | some s =>
      obtain ⟨g, o, e, hS⟩ := hP
      exact ⟨g, o, e, hS.below hb0⟩
  clear h2 h4 hP hb0 hB
  obtain ⟨W0, HW0⟩ : ∃ W0, Hid (W0 = w0) := ⟨_, rfl⟩
  rw [← HW0.out] at HX H4 HP
  have HB1 : Hid (Below W0.heap.size W0 (w.alloc (.cells #[a, b, c, d, .slice ao es.length cap, .pointer p, y6, y7, y8] 43))) := by
    show Below _ _ _
    rw [← hw0, ← HW0.out]
    exact Below.refl _ _
  clear hw0 HB0 HW0
  go_enter Tryz.func55, Tryz.ntmps55
  go_wp2
  go_loopw [8] (fun i wr => ∃ k : Nat, k ≤ es.length ∧ i = .int .i64 k ∧ Hid ((es.take k).any longE = false) ∧ Hid (Below W0.heap.size W0 wr)) (fun i _ => es.length - (intOf i).toNat)
  case atStart => exact ⟨0, Nat.zero_le _, rfl, rfl, HB1⟩
  case round =>
    obtain ⟨k, hk, rfl, HN, HB⟩ := hrel
    by_cases hx : k < es.length
    · obtain ⟨g, off, rfl, hc⟩ := H4.out (by omega)
      obtain ⟨e, he⟩ : ∃ e, es[k]? = some e := ⟨_, List.getElem?_eq_getElem hx⟩
      obtain ⟨ad, ld, cd, c0, c1, c2, c3, hS⟩ := hc k e he
      have hld := hS.len
      subst hld
      have K : ∀ o u, W0.cell? ⟨g, o, none⟩ = some u → wr.cell? ⟨g, o, none⟩ = some u := fun o u hc => (World.cell?_of_block (w := W0) (a := ⟨g, o, none⟩) (HB.out.block g (cell_lt hc))).trans hc
      have d0 := K _ _ c0
      have d1 := K _ _ c1
      have d2 := K _ _ c2
      have d3 := K _ _ c3
      have HA : Hid (∀ o, Below W0.heap.size W0 (wr.alloc o)) := fun o => HB.out.alloc HB.out.size o
      clear hc c0 c1 c2 c3 K hS
      by_cases hlong : 8192 < e.data.length
      · have HR : Hid (es.any longE = true) := any_at he (decide_eq_true hlong)
        go_wp2
        go_ret
        exact ⟨by rw [HR.out]; rfl, (HX.out _ (HA.out _)).2⟩
      · have HR : Hid (longE e = false) := decide_eq_false hlong
        go_wp2
        go_roundw
        case rel => exact ⟨k + 1, by omega, rfl, any_more he HN.out HR.out, HA.out _⟩
        case measure => simp [intOf]; omega
    · have hlt' : ¬ (k : Int) < (es.length : Int) := by omega
      have HR : Hid (es.any longE = false) := by
        have := HN.out
        rw [List.take_of_length_le (by omega)] at this
        exact this
      obtain ⟨x5, hwb⟩ := HX.out _ HB.out
      have HWB : Hid (Below w.heap.size w wr) := hwb
      clear hwb
      cases snap with
      | none =>
        have hp : p = none := HP.out
        subst hp
        go_wp2
        go_ret
        exact ⟨by rw [HR.out]; rfl, HWB.out⟩
      | some s =>
        obtain ⟨g, o, rfl, ac, lc, cc, ad, ld, cd, s0, s1, s2, s3, hC, hD⟩ := HP.out
        have hld := hD.len
        subst hld
        have d3 := (World.cell?_of_block (w := W0) (a := ⟨g, o + 3, none⟩) (HB.out.block g (cell_lt s3))).trans s3
        clear s0 s1 s2 s3 hC hD
        by_cases hl : 20000 < s.data.length
        · have HQ : Hid (longS (some s) = true) := decide_eq_true hl
          have hl' : (20000 : Int) < (s.data.length : Int) := by omega
          go_wp2
          go_ret
          exact ⟨by rw [HR.out, HQ.out]; rfl, HWB.out⟩
        · have HQ : Hid (longS (some s) = false) := decide_eq_false hl
          have hl' : ¬ (20000 : Int) < (s.data.length : Int) := by omega
          go_wp2
          go_ret
          exact ⟨by rw [HR.out, HQ.out]; rfl, HWB.out⟩

theorem tooLong_any (r : Rdy) (y6 y7 y8 : Value) (p : Option Addr) (ve : Value) (w : World) (hE : Es w ve r.ents) (hP : Ps w p r.snap) :
    Calls Tryz.prog 55 #[.agg #[.int .i64 r.term, .int .i64 r.vote, .bool r.saved, .int .i64 r.first, ve, .pointer p, y6, y7, y8]] w fun x w' => x = .returned (.bool r.long) ∧ Below w.heap.size w w' := by
  rw [long_is]
  exact tooLong_core _ _ _ _ _ _ _ r.ents r.snap p ve w hE hP

end Go.Proofs.YtjndgekpdmlbiaaGreatDoor.Kp
namespace Go.Proofs.YtjndgekpdmlbiaaGreatDoor.Kp
open Go.RowKit Bn

def badE (e : Ent) : Bool := decide (e.kind < 1) || decide (3 < e.kind) || decide (e.term < 1)
def goodS : Option Snp → Bool
  | none => true
  | some p => decide (0 ≤ p.term) && decide (0 ≤ p.idx) && membersB 0 p.conf
def goodH (t0 term vote : Int) (saved : Bool) : Bool := !saved || (decide (t0 ≤ term) && decide (0 ≤ vote) && decide (vote ≤ 7))
theorem all_any (es : List Ent) : es.all (fun e => decide (1 ≤ e.kind) && decide (e.kind ≤ 3) && decide (1 ≤ e.term)) = !es.any badE := by
  rw [List.any_eq_not_all_not, Bool.not_not]
  congr 1
  funext e
  by_cases h1 : 1 ≤ e.kind <;> by_cases h2 : e.kind ≤ 3 <;> by_cases h3 : 1 ≤ e.term <;> simp [badE, h1, h2, h3] <;> omega
theorem good_is (s : St) (r : Rdy) : s.isGood r = (goodH s.term r.term r.vote r.saved && !r.ents.any badE && goodS r.snap) := by
  rw [St.isGood, all_any]
  cases r.snap <;> rfl

set_option maxHeartbeats 4000000 in
theorem isGood_core (t0 : Int) (x1 x2 x3 x4 x5 x6 d y6 y7 y8 : Value) (term vote : Int) (saved : Bool) (es : List Ent) (snap : Option Snp) (p : Option Addr) (ve : Value) (w : World) (hE : Es w ve es) (hP : Ps w p snap) :
    Calls Tryz.prog 34 #[.agg #[.int .i64 t0, x1, x2, x3, x4, x5, x6], .agg #[.int .i64 term, .int .i64 vote, .bool saved, d, ve, .pointer p, y6, y7, y8]] w fun x w' => x = .returned (.bool (goodH t0 term vote saved && !es.any badE && goodS snap)) ∧ Below w.heap.size w w' := by
  obtain ⟨ao, cap, rfl, h1, h2, h4⟩ := hE
  have h2' : cap ≤ 9223372036854775807 := h2
  obtain ⟨w0, hw0⟩ : ∃ w0, w0 = (w.alloc (.cells #[.int .i64 t0, x1, x2, x3, x4, x5, x6] 78)).alloc (.cells #[.int .i64 term, .int .i64 vote, .bool saved, d, .slice ao es.length cap, .pointer p, y6, y7, y8] 43) := ⟨_, rfl⟩
  have hb0 : Below w.heap.size w w0 := by rw [hw0]; exact ((Below.refl _ _).alloc (Nat.le_refl _) _).alloc (by simp) _
  have hB : w0.heap[w.heap.size + 1]? = some (Obj.cells #[.int .i64 term, .int .i64 vote, .bool saved, d, .slice ao es.length cap, .pointer p, y6, y7, y8] 43 (0, 0)) := by
    rw [hw0, ← heap_alloc_new (w.alloc (.cells #[.int .i64 t0, x1, x2, x3, x4, x5, x6] 78))]
    simp
  have HX : Hid (∀ wr, Below w0.heap.size w0 wr → (wr.cell? ⟨w.heap.size + 1, 5, none⟩ = some (.pointer p)) ∧ Below w.heap.size w wr) := by
    intro wr hb
    exact ⟨(six_cells ((hb.block _ (lt_of_block hB)).trans hB)).2.2.2.2.2, hb0.trans (hb.mono hb0.size)⟩
  have H4 : Hid (0 < es.length → ∃ g off, ao = some ⟨g, off, none⟩ ∧ ∀ j e, es[j]? = some e → EntAt w0 g (off + j * 4) e) := by
    intro hp
    obtain ⟨g, off, ha, hc⟩ := h4 hp
    exact ⟨g, off, ha, fun j e hj => (hc j e hj).below hb0⟩
  have HP : Hid (Ps w0 p snap) := by
    cases snap with
    | none => exact hP
    | some s =>
      obtain ⟨g, o, e, hS⟩ := hP
      exact ⟨g, o, e, hS.below hb0⟩
  clear h2 h4 hP hb0 hB
  obtain ⟨W0, HW0⟩ : ∃ W0, Hid (W0 = w0) := ⟨_, rfl⟩
  rw [← HW0.out] at HX H4 HP
  have HB1 : Hid (Below W0.heap.size W0 ((w.alloc (.cells #[.int .i64 t0, x1, x2, x3, x4, x5, x6] 78)).alloc (.cells #[.int .i64 term, .int .i64 vote, .bool saved, d, .slice ao es.length cap, .pointer p, y6, y7, y8] 43))) := by
    show Below _ _ _
    rw [← hw0, ← HW0.out]
    exact Below.refl _ _
  clear hw0 HW0
  go_enter Tryz.func34, Tryz.ntmps34
  by_cases hG : goodH t0 term vote saved = false
  · have HR : Hid ((goodH t0 term vote saved && !es.any badE && goodS snap) = false) := by
      show _ = _
      rw [hG]; rfl
    rw [HR.out]
    cases saved with
    | false => simp [goodH] at hG
    | true =>
      by_cases h1 : term < t0
      · clear hG
        go_wp2
        go_ret
        exact ⟨rfl, (HX.out _ HB1.out).2⟩
      · by_cases h2 : vote < 0
        · clear hG
          go_wp2
          go_ret
          exact ⟨rfl, (HX.out _ HB1.out).2⟩
        · have h3 : 7 < vote := by
            by_cases h3 : 7 < vote
            · exact h3
            · simp [goodH] at hG; omega
          clear hG
          go_wp2
          go_ret
          exact ⟨rfl, (HX.out _ HB1.out).2⟩
  · have HG : Hid (goodH t0 term vote saved = true) := by
      show _ = _
      simpa using hG
    rw [HG.out, Bool.true_and]
    have hT : saved = true → ¬ term < t0 ∧ ¬ vote < 0 ∧ ¬ 7 < vote := by
      intro e
      subst e
      have := HG.out
      simp [goodH] at this
      omega
    clear hG
    cases saved
    case' false => clear hT
    case' true => obtain ⟨g1, g2, g3⟩ := hT rfl; clear hT
    all_goals (
      go_wp2
      go_loopw [33] (fun i wr => ∃ k : Nat, k ≤ es.length ∧ i = .int .i64 k ∧ Hid ((es.take k).any badE = false) ∧ Hid (Below W0.heap.size W0 wr)) (fun i _ => es.length - (intOf i).toNat)
      case atStart => exact ⟨0, Nat.zero_le _, rfl, rfl, HB1⟩
      case round =>
        obtain ⟨k, hk, rfl, HN, HB⟩ := hrel
        by_cases hx : k < es.length
        · obtain ⟨g, off, rfl, hc⟩ := H4.out (by omega)
          obtain ⟨e, he⟩ : ∃ e, es[k]? = some e := ⟨_, List.getElem?_eq_getElem hx⟩
          obtain ⟨ad, ld, cd, c0, c1, c2, c3, hS⟩ := hc k e he
          have K : ∀ o u, W0.cell? ⟨g, o, none⟩ = some u → wr.cell? ⟨g, o, none⟩ = some u := fun o u hc => (World.cell?_of_block (w := W0) (a := ⟨g, o, none⟩) (HB.out.block g (cell_lt hc))).trans hc
          have d0 := K _ _ c0
          have d1 := K _ _ c1
          have d2 := K _ _ c2
          have d3 := K _ _ c3
          have HA : Hid (∀ o, Below W0.heap.size W0 (wr.alloc o)) := fun o => HB.out.alloc HB.out.size o
          clear hc c0 c1 c2 c3 K hS
          by_cases hb1 : e.kind < 1
          · have HR : Hid (es.any badE = true) := any_at he (by simp [badE, hb1])
            go_wp2
            go_ret
            exact ⟨by rw [HR.out]; rfl, (HX.out _ (HA.out _)).2⟩
          · by_cases hb2 : 3 < e.kind
            · have HR : Hid (es.any badE = true) := any_at he (by simp [badE, hb2])
              go_wp2
              go_ret
              exact ⟨by rw [HR.out]; rfl, (HX.out _ (HA.out _)).2⟩
            · by_cases hb3 : e.term < 1
              · have HR : Hid (es.any badE = true) := any_at he (by simp [badE, hb3])
                go_wp2
                go_ret
                exact ⟨by rw [HR.out]; rfl, (HX.out _ (HA.out _)).2⟩
              · have HR : Hid (badE e = false) := by show _ = _; simp [badE]; omega
                go_wp2
                go_roundw
                case rel => exact ⟨k + 1, by omega, rfl, any_more he HN.out HR.out, HA.out _⟩
                case measure => simp [intOf]; omega
        · have hlt' : ¬ (k : Int) < (es.length : Int) := by omega
          have HR : Hid (es.any badE = false) := by
            have := HN.out
            rw [List.take_of_length_le (by omega)] at this
            exact this
          obtain ⟨x5, hwb⟩ := HX.out _ HB.out
          have HWB : Hid (Below w.heap.size w wr) := hwb
          clear hwb
          cases snap with
          | none =>
            have hp : p = none := HP.out
            subst hp
            go_wp2
            go_ret
            exact ⟨by rw [HR.out]; rfl, HWB.out⟩
          | some s =>
            obtain ⟨g, o, rfl, ac, lc, cc, ad, ld, cd, s0, s1, s2, s3, hC, hD⟩ := HP.out
            have K : ∀ o u, W0.cell? ⟨g, o, none⟩ = some u → wr.cell? ⟨g, o, none⟩ = some u := fun o u hc => (World.cell?_of_block (w := W0) (a := ⟨g, o, none⟩) (HB.out.block g (cell_lt hc))).trans hc
            have d0 := K _ _ s0
            have d1 := K _ _ s1
            have d2 := K _ _ s2
            have HC : Hid (Is wr (.slice ac lc cc) s.conf) := hC.below HB.out
            clear s0 s1 s2 s3 hC hD K
            by_cases hl : s.term < 0
            · have HQ : Hid (goodS (some s) = false) := by show _ = _; simp [goodS]; omega
              have hl' : ¬ 0 ≤ s.term := by omega
              go_wp2
              go_ret
              exact ⟨by rw [HR.out, HQ.out]; rfl, HWB.out⟩
            · have hl' : 0 ≤ s.term := by omega
              by_cases hi : s.idx < 0
              · have HQ : Hid (goodS (some s) = false) := by show _ = _; simp [goodS]; omega
                have hi' : ¬ 0 ≤ s.idx := by omega
                go_wp2
                go_ret
                exact ⟨by rw [HR.out, HQ.out]; rfl, HWB.out⟩
              · have hi' : 0 ≤ s.idx := by omega
                have HQ : Hid (goodS (some s) = membersB 0 s.conf) := by show _ = _; simp [goodS, hl', hi']
                go_wp2_with (go_at_call 53; refine (areMembers_any _ s.conf wr HC.out).mono ?_; rintro x w2 ⟨rfl, hw⟩; have hw' := hw.symm; subst hw')
                go_ret
                exact ⟨by rw [HR.out, HQ.out]; rfl, HWB.out⟩)

theorem isGood_any (s : St) (r : Rdy) (x1 x2 x3 x4 x5 x6 d y6 y7 y8 : Value) (p : Option Addr) (ve : Value) (w : World) (hE : Es w ve r.ents) (hP : Ps w p r.snap) :
    Calls Tryz.prog 34 #[.agg #[.int .i64 s.term, x1, x2, x3, x4, x5, x6], .agg #[.int .i64 r.term, .int .i64 r.vote, .bool r.saved, d, ve, .pointer p, y6, y7, y8]] w fun x w' => x = .returned (.bool (s.isGood r)) ∧ Below w.heap.size w w' := by
  rw [good_is]
  exact isGood_core _ _ _ _ _ _ _ _ _ _ _ _ _ _ _ _ _ _ _ hE hP

end Go.Proofs.YtjndgekpdmlbiaaGreatDoor.Kp
namespace Go.Proofs.YtjndgekpdmlbiaaGreatDoor.Kp
open Go.RowKit Bn

theorem rises_at (first : Int) (es : List Ent) (k : Nat) (e : Ent) (he : es[k]? = some e) (i : Int) : risesB first i (es.drop k) = (decide (first ≤ e.idx) && decide (e.idx - first = i) && risesB first (i + 1) (es.drop (k + 1))) := by
  obtain ⟨hk, rfl⟩ := List.getElem?_eq_some_iff.1 he
  rw [List.drop_eq_getElem_cons hk]
  rfl

set_option maxHeartbeats 4000000 in
theorem mayGoOn_any (s : St) (x0 x1 x3 x4 x5 : Value) (az : Option Addr) (cs : Nat) (first : Int) (es : List Ent) (ve : Value) (w : World) (hE : Es w ve es) (ho : ∀ e ∈ es, I64 e.idx) (hs : 0 ≤ s.snap.idx) (hf : 0 < first) (hf2 : first ≤ 9223372036854775807) (hls : s.ents.length ≤ 9223372036854775807) :
    Calls Tryz.prog 89 #[.agg #[x0, x1, .int .i64 s.snap.idx, x3, x4, x5, .slice az s.ents.length cs], .int .i64 first, ve] w fun x w' => x = .returned (.bool (s.mayGoOn first es)) ∧ Below w.heap.size w w' := by
  obtain ⟨ao, cap, rfl, h1, h2, h4⟩ := hE
  have h2' : cap ≤ 9223372036854775807 := h2
  obtain ⟨m, hm⟩ : ∃ m, s.snap.idx = m := ⟨_, rfl⟩
  obtain ⟨n, hn⟩ : ∃ n, s.ents.length = n := ⟨_, rfl⟩
  obtain ⟨res, hres⟩ : ∃ res, s.mayGoOn first es = res := ⟨_, rfl⟩
  have HG : Hid (res = (decide (m < first) && decide (first - 1 - m ≤ (n : Int)) && risesB first 0 es)) := by
    show _ = _
    rw [← hres, St.mayGoOn, hm, hn]
  rw [hm] at hs ⊢
  rw [hn] at hls ⊢
  rw [hres]
  clear hres hm hn
  obtain ⟨w0, hw0⟩ : ∃ w0, w0 = w.alloc (.cells #[x0, x1, .int .i64 m, x3, x4, x5, .slice az n cs] 78) := ⟨_, rfl⟩
  have hb0 : Below w.heap.size w w0 := by rw [hw0]; exact (Below.refl _ _).alloc (Nat.le_refl _) _
  have HX : Hid (∀ wr, Below w0.heap.size w0 wr → Below w.heap.size w wr) := by
    intro wr hb
    exact hb0.trans (hb.mono hb0.size)
  have H4 : Hid (0 < es.length → ∃ g off, ao = some ⟨g, off, none⟩ ∧ ∀ j e, es[j]? = some e → EntAt w0 g (off + j * 4) e) := by
    intro hp
    obtain ⟨g, off, ha, hc⟩ := h4 hp
    exact ⟨g, off, ha, fun j e hj => (hc j e hj).below hb0⟩
  have HO : Hid (∀ e ∈ es, I64 e.idx) := ho
  clear h2 h4 hb0 ho
  obtain ⟨W0, HW0⟩ : ∃ W0, Hid (W0 = w0) := ⟨_, rfl⟩
  rw [← HW0.out] at HX H4
  have HB1 : Hid (Below W0.heap.size W0 (w.alloc (.cells #[x0, x1, .int .i64 m, x3, x4, x5, .slice az n cs] 78))) := by
    show Below _ _ _
    rw [← hw0, ← HW0.out]
    exact Below.refl _ _
  clear hw0 HW0
  go_enter Tryz.func89, Tryz.ntmps89
  by_cases hA : first ≤ m
  · have HR : Hid (res = false) := by
      show _ = _
      rw [HG.out, decide_eq_false (p := m < first) (by omega)]; rfl
    go_wp2
    go_ret
    exact ⟨by rw [HR.out]; rfl, HX.out _ HB1.out⟩
  · by_cases hB : (n : Int) < first - 1 - m
    · have HR : Hid (res = false) := by
        show _ = _
        rw [HG.out, decide_eq_false (p := first - 1 - m ≤ (n : Int)) (by omega), Bool.and_false]; rfl
      go_wp2
      go_ret
      exact ⟨by rw [HR.out]; rfl, HX.out _ HB1.out⟩
    · have HR : Hid (res = risesB first 0 es) := by
        show _ = _
        rw [HG.out, decide_eq_true (p := m < first) (by omega), decide_eq_true (p := first - 1 - m ≤ (n : Int)) (by omega)]; rfl
      go_wp2
      go_loopw [28] (fun i wr => ∃ k : Nat, k ≤ es.length ∧ i = .int .i64 k ∧ Hid (risesB first (k : Int) (es.drop k) = risesB first 0 es) ∧ Hid (Below W0.heap.size W0 wr)) (fun i _ => es.length - (intOf i).toNat)
      case atStart => exact ⟨0, Nat.zero_le _, rfl, rfl, HB1⟩
      case round =>
        obtain ⟨k, hk, rfl, HN, HB⟩ := hrel
        by_cases hx : k < es.length
        · obtain ⟨g, off, rfl, hc⟩ := H4.out (by omega)
          obtain ⟨e, he⟩ : ∃ e, es[k]? = some e := ⟨_, List.getElem?_eq_getElem hx⟩
          obtain ⟨ad, ld, cd, c0, c1, c2, c3, hS⟩ := hc k e he
          have K : ∀ o u, W0.cell? ⟨g, o, none⟩ = some u → wr.cell? ⟨g, o, none⟩ = some u := fun o u hc => (World.cell?_of_block (w := W0) (a := ⟨g, o, none⟩) (HB.out.block g (cell_lt hc))).trans hc
          have d0 := K _ _ c0
          have d1 := K _ _ c1
          have d2 := K _ _ c2
          have d3 := K _ _ c3
          have HA : Hid (∀ o, Below W0.heap.size W0 (wr.alloc o)) := fun o => HB.out.alloc HB.out.size o
          have hN := HN.out
          rw [rises_at first es k e he] at hN
          obtain ⟨hi0, hi1⟩ := HO.out e (List.mem_of_getElem? he)
          clear hc c0 c1 c2 c3 K hS HN
          by_cases hb1 : e.idx < first
          · have HQ : Hid (risesB first 0 es = false) := by
              show _ = _
              rw [← hN, decide_eq_false (p := first ≤ e.idx) (by omega)]; rfl
            clear hN
            go_wp2
            go_ret
            exact ⟨by rw [HR.out, HQ.out]; rfl, HX.out _ (HA.out _)⟩
          · by_cases hb2 : e.idx - first = (k : Int)
            · have HQ : Hid (risesB first ((k + 1 : Nat) : Int) (es.drop (k + 1)) = risesB first 0 es) := by
                show _ = _
                rw [← hN, decide_eq_true (p := first ≤ e.idx) (by omega), decide_eq_true hb2]; rfl
              clear hN
              go_wp2
              go_roundw
              case rel => exact ⟨k + 1, by omega, rfl, HQ, HA.out _⟩
              case measure => simp [intOf]; omega
            · have HQ : Hid (risesB first 0 es = false) := by
                show _ = _
                rw [← hN, decide_eq_false hb2, Bool.and_false]; rfl
              clear hN
              go_wp2
              go_ret
              exact ⟨by rw [HR.out, HQ.out]; rfl, HX.out _ (HA.out _)⟩
        · have hlt' : ¬ (k : Int) < (es.length : Int) := by omega
          have HQ : Hid (risesB first 0 es = true) := by
            have := HN.out
            rw [List.drop_eq_nil_of_le (by omega)] at this
            exact this.symm
          clear HN
          go_wp2
          go_ret
          exact ⟨by rw [HR.out, HQ.out]; rfl, HX.out _ HB.out⟩

end Go.Proofs.YtjndgekpdmlbiaaGreatDoor.Kp
namespace Go.Proofs.YtjndgekpdmlbiaaGreatDoor.Kp
open Go.RowKit Bn

set_option maxHeartbeats 4000000 in
theorem has_any (s : St) (x0 x1 x3 x4 x5 : Value) (ve : Value) (i t : Int) (w : World) (hE : Es w ve s.ents) (hs : 0 ≤ s.snap.idx) (hi : i ≤ 9223372036854775807) :
    Calls Tryz.prog 36 #[.agg #[x0, x1, .int .i64 s.snap.idx, x3, x4, x5, ve], .int .i64 i, .int .i64 t] w fun x w' => x = .returned (.bool (s.has i t)) ∧ Below w.heap.size w w' := by
  obtain ⟨ao, cap, rfl, h1, h2, h4⟩ := hE
  have h2' : cap ≤ 9223372036854775807 := h2
  obtain ⟨m, hm⟩ : ∃ m, s.snap.idx = m := ⟨_, rfl⟩
  obtain ⟨es, hes⟩ : ∃ es, s.ents = es := ⟨_, rfl⟩
  obtain ⟨res, hres⟩ : ∃ res, s.has i t = res := ⟨_, rfl⟩
  have HG : Hid (res = (decide (m < i) && (match es[(i - m - 1).toNat]? with | none => false | some e => decide (e.term = t)))) := by
    show _ = _
    rw [← hres, St.has, hm, hes]
    rfl
  rw [hres]
  rw [hm] at hs ⊢
  rw [hes] at h1 h4 ⊢
  clear hres hm hes h2
  have HA : Hid (∀ o, Below w.heap.size w (w.alloc o)) := fun o => (Below.refl _ _).alloc (Nat.le_refl _) o
  by_cases hA : i ≤ m
  · have HR : Hid (res = false) := by
      show _ = _
      rw [HG.out, decide_eq_false (p := m < i) (by omega)]; rfl
    clear h4
    go_enter Tryz.func36, Tryz.ntmps36
    go_wp2
    go_ret
    exact ⟨by rw [HR.out]; rfl, HA.out _⟩
  · obtain ⟨k, hk⟩ : ∃ k : Nat, i - m - 1 = (k : Int) := ⟨(i - m - 1).toNat, by omega⟩
    have HG2 : Hid (res = (match es[k]? with | none => false | some e => decide (e.term = t))) := by
      show _ = _
      rw [HG.out, decide_eq_true (p := m < i) (by omega), hk, Int.toNat_natCast]; rfl
    by_cases hx : k < es.length
    · obtain ⟨g, off, rfl, hc⟩ := h4 (by omega)
      obtain ⟨e, he⟩ : ∃ e, es[k]? = some e := ⟨_, List.getElem?_eq_getElem hx⟩
      obtain ⟨ad, ld, cd, c0, c1, c2, c3, hS⟩ := hc k e he
      have K : ∀ (o' : Obj) o u, w.cell? ⟨g, o, none⟩ = some u → (w.alloc o').cell? ⟨g, o, none⟩ = some u := fun o' o u hc => (World.cell?_of_block (w := w) (a := ⟨g, o, none⟩) ((HA.out o').block g (cell_lt hc))).trans hc
      have d1 := K (.cells #[x0, x1, .int .i64 m, x3, x4, x5, .slice (some ⟨g, off, none⟩) es.length cap] 78) _ _ c1
      have hg := cell_lt c1
      have HQ : Hid (res = decide (e.term = t)) := by
        show _ = _
        rw [HG2.out, he]
      clear h4 hc c0 c2 c3 K hS HG HG2
      by_cases ht : e.term = t
      · have HR : Hid (res = true) := by show _ = _; rw [HQ.out, decide_eq_true ht]
        subst ht
        go_enter Tryz.func36, Tryz.ntmps36
        go_wp2
        go_ret
        exact ⟨by rw [HR.out]; rfl, HA.out _⟩
      · have HR : Hid (res = (e.term == t)) := by
          show _ = _
          rw [HQ.out, decide_eq_false ht]
          simp [ht]
        clear ht
        go_enter Tryz.func36, Tryz.ntmps36
        go_wp2
        go_ret
        exact ⟨by rw [HR.out]; rfl, HA.out _⟩
    · have HR : Hid (res = false) := by
        show _ = _
        rw [HG2.out, List.getElem?_eq_none (by omega)]
      clear h4 HG HG2
      go_enter Tryz.func36, Tryz.ntmps36
      go_wp2
      go_ret
      exact ⟨by rw [HR.out]; rfl, HA.out _⟩

end Go.Proofs.YtjndgekpdmlbiaaGreatDoor.Kp
namespace Go.Proofs.YtjndgekpdmlbiaaGreatDoor.Kp
open Go.RowKit Bn

/-- A reader whose bytes lie below b. -/
def Rq (w : World) (b B : Nat) (st : Option (List UInt8)) : Prop := ∃ v, w.heap[B]? = some (.cells #[v, .bool st.isNone] 164 (0, 0)) ∧ Sl w v (st.getD []) ∧ Pl v ∧ (st.getD []).length ≤ 140737488355328 ∧ ∀ k, v.ownBlock = some k → k < b
theorem Rq.rd {w : World} {b B : Nat} {st : Option (List UInt8)} (h : Rq w b B st) : Rd w 164 B st := by
  obtain ⟨v, h1, h2, h3, h4, _⟩ := h
  exact ⟨v, h1, h2, h3, h4⟩
theorem Rq.put {w : World} {b B : Nat} {v x : Value} {st bs : List UInt8} (hB : w.heap[B]? = some (.cells #[v, .bool false] 164 (0, 0))) (hv : Sl w v st) (hx : Sl w x bs) (hp : Pl x) (hl : bs.length ≤ 140737488355328) (hk : ∀ k, x.ownBlock = some k → k < b) :
    Rq (w.setCell ⟨B, 0, none⟩ x) b B (some bs) ∧ w.grownBy (w.setCell ⟨B, 0, none⟩ x) (some B) := by
  obtain ⟨⟨u, h1, h2, h3, h4⟩, hg⟩ := Rd.put hB hv hx hp hl
  have e := set_first (x := x) hB
  rw [h1] at e
  simp at e
  subst e
  exact ⟨⟨u, h1, h2, h3, h4, hk⟩, hg⟩
theorem Rq.below {w w' : World} {b B : Nat} {st : Option (List UInt8)} (h : Rq w b B st) (hb : Below w.heap.size w w') : Rq w' b B st := by
  obtain ⟨u, hB, hu, hp, hl, hk⟩ := h
  exact ⟨u, by rw [hb.block B (lt_of_block hB)]; exact hB, hu.below hb, hp, hl, hk⟩
/-- What is done from b on leaves it. -/
theorem Rq.above {w w' : World} {b B : Nat} {st : Option (List UInt8)} (h : Rq w b B st) (hB : B < b) (hb : Below b w w') : Rq w' b B st := by
  obtain ⟨u, hBl, hu, hp, hl, hk⟩ := h
  refine ⟨u, by rw [hb.block B hB]; exact hBl, ?_, hp, hl, hk⟩
  obtain ⟨ao, cap, rfl, a1, a2, a3, a4⟩ := hu
  refine ⟨ao, cap, rfl, a1, a2, a3, fun h0 => ?_⟩
  obtain ⟨g, off, rfl, hc⟩ := a4 h0
  have hg : g < b := hk g rfl
  exact ⟨g, off, rfl, fun j hj => (World.cell?_of_block (w := w) (a := ⟨g, off + j, none⟩) (hb.block g hg)).trans (hc j hj)⟩

set_option maxHeartbeats 400000 in
theorem fail_q (b B : Nat) (st : Option (List UInt8)) (w : World) (h : Rq w b B st) :
    Calls Tryz.prog 108 #[.pointer (some ⟨B, 0, none⟩)] w fun e w' => e = .returned (.tuple #[]) ∧ Rq w' b B none ∧ w.grownBy w' (some B) := by
  obtain ⟨v, hB, hv, _⟩ := h
  obtain ⟨c0, c1, f0, f1⟩ := two_cells hB
  have hfin : Rq ((w.setCell ⟨B, 0, none⟩ (.slice none 0 0)).setCell ⟨B, 1, none⟩ (.bool true)) b B none ∧ w.grownBy ((w.setCell ⟨B, 0, none⟩ (.slice none 0 0)).setCell ⟨B, 1, none⟩ (.bool true)) (some B) :=
    ⟨⟨_, set_second (set_first hB), Sl.nil _, Or.inl rfl, by simp, by simp [Value.ownBlock]⟩, grown_set (grown_set (grown_refl _ _))⟩
  clear hB hv
  go_enter Tryz.func108, Tryz.ntmps108
  go_wp2
  go_end0
  exact ⟨rfl, hfin⟩

set_option maxHeartbeats 400000 in
theorem qnum_none (b B : Nat) (w : World) (h : Rq w b B none) :
    Calls Tryz.prog 104 #[.pointer (some ⟨B, 0, none⟩)] w fun e w' => e = .returned (.int .i64 0) ∧ Rq w' b B none ∧ w.grownBy w' (some B) := by
  go_enter Tryz.func104, Tryz.ntmps104
  go_wp2_with (go_at_call 84; refine (ok_any B none _ h.rd).mono ?_; rintro e w' ⟨rfl, rfl⟩)
  go_ret
  exact ⟨rfl, h, grown_refl _ _⟩

set_option maxHeartbeats 400000 in
theorem qnum_bad (b B : Nat) (bs : List UInt8) (w : World) (h : Rq w b B (some bs)) (hn : num bs = none) :
    Calls Tryz.prog 104 #[.pointer (some ⟨B, 0, none⟩)] w fun e w' => e = .returned (.int .i64 0) ∧ Rq w' b B none ∧ w.grownBy w' (some B) := by
  have H : Hid (Rq w b B (some bs)) := h
  obtain ⟨v, hB, hv, hp, hlim, _⟩ := h
  obtain ⟨c0, c1, f0, f1⟩ := two_cells hB
  obtain ⟨ao, cap, rfl, hc1, hc2⟩ := hv.shape
  have HN : Hid (num bs = none) := hn
  have HV : Hid (Sl w (.slice ao (Option.getD (some bs) []).length cap) ((some bs).getD [])) := hv
  clear hn hv hB hp hlim
  go_enter Tryz.func104, Tryz.ntmps104
  go_wp2_with (first
    | (go_at_call 84; refine (ok_any B (some bs) _ H.out.rd).mono ?_; rintro e w' ⟨rfl, rfl⟩)
    | (go_at_call 130; refine (groups_none _ bs _ HV.out HN.out).mono ?_; rintro e w' ⟨rfl, rfl⟩)
    | (go_at_call 108; refine (fail_q b B (some bs) _ H.out).mono ?_; rintro e w' ⟨rfl, hr', hg'⟩))
  go_ret
  exact ⟨rfl, hr', hg'⟩

set_option maxHeartbeats 400000 in
theorem qnum_ok (b B : Nat) (bs : List UInt8) (w : World) (h : Rq w b B (some bs)) (u k : Nat) (hn : num bs = some (u, k)) :
    Calls Tryz.prog 104 #[.pointer (some ⟨B, 0, none⟩)] w fun e w' => e = .returned (.int .i64 (zag u)) ∧ Rq w' b B (some (bs.drop k)) ∧ w.grownBy w' (some B) := by
  obtain ⟨hu, hk0, hkl, hk10⟩ := num_bds hn
  have H : Hid (Rq w b B (some bs)) := h
  obtain ⟨v, hB, hv, hp, hlim, hkk⟩ := h
  obtain ⟨c0, c1, f0, f1⟩ := two_cells hB
  obtain ⟨ao, cap, rfl, hc1, hc2⟩ := hv.shape
  have hkl' : k ≤ (Option.getD (some bs) []).length := hkl
  obtain ⟨g, off, rfl, _⟩ := hv.cell (by omega)
  have HN : Hid (num bs = some (u, k)) := hn
  have HP : Hid (_) := Rq.put (b := b) hB hv (sl_rest hv k hkl').1 (sl_rest hv k hkl').2 (by rw [List.length_drop]; omega) (fun k' hk' => by
    have := hkk g rfl
    split at hk' <;> simp [Value.ownBlock] at hk' <;> omega)
  have HV : Hid (Sl w (.slice (some ⟨g, off, none⟩) (Option.getD (some bs) []).length cap) ((some bs).getD [])) := hv
  have hkc : (k : Int) ≤ (bs.length : Int) := by omega
  have hne : ((k : Int) == 0) = false := by rw [beq_eq_false_iff_ne]; omega
  have hcm : (bs.length : Int) ≤ cap := by have : bs.length ≤ cap := hc1; omega
  clear hn hv hB hkl' hp hlim hkk
  go_enter Tryz.func104, Tryz.ntmps104
  go_wp2_with (first
    | (go_at_call 84; refine (ok_any B (some bs) _ H.out.rd).mono ?_; rintro e w' ⟨rfl, rfl⟩)
    | (go_at_call 130; refine (groups_ok _ bs _ HV.out u k HN.out).mono ?_; rintro e w' ⟨rfl, rfl⟩)
    | (go_at_call 131; refine (unfold_any u _ (by omega)).mono ?_; rintro e w' ⟨rfl, rfl⟩))
  all_goals go_ret
  · have hp := HP.out
    rw [if_pos (by assumption), show cap - k = 0 by omega] at hp
    exact ⟨rfl, hp⟩
  · have hp := HP.out
    rw [if_neg (by assumption)] at hp
    exact ⟨rfl, hp⟩

theorem qnum_any (b B : Nat) (st : Option (List UInt8)) (w : World) (h : Rq w b B st) :
    Calls Tryz.prog 104 #[.pointer (some ⟨B, 0, none⟩)] w fun e w' => e = .returned (.int .i64 (rNum st).1) ∧ Rq w' b B (rNum st).2 ∧ w.grownBy w' (some B) := by
  cases st with
  | none => exact qnum_none b B w h
  | some bs =>
    cases hn : num bs with
    | none => simp only [rNum, hn]; exact qnum_bad b B bs w h hn
    | some uk => obtain ⟨u, k⟩ := uk; simp only [rNum, hn]; exact qnum_ok b B bs w h u k hn
theorem qnum_is (b B : Nat) (st st1 : Option (List UInt8)) (n : Int) (w : World) (h : Rq w b B st) (hn : rNum st = (n, st1)) :
    Calls Tryz.prog 104 #[.pointer (some ⟨B, 0, none⟩)] w fun e w' => e = .returned (.int .i64 n) ∧ Rq w' b B st1 ∧ w.grownBy w' (some B) := by
  have := qnum_any b B st w h
  rw [hn] at this
  exact this

/-- A row that lies above stays while a reader's block is written. -/
theorem own_rd {w w' : World} {base B e s n : Nat} {v : Value} {xs : List Value} (h : w.ownsRow base e s v n xs) (hg : w.grownBy w' (some B)) (hB : B < base) : w'.ownsRow base e s v n xs := by
  refine ⟨h.1, ?_⟩
  rcases h.2 with h2 | ⟨g, cap, cur, e1, e2, e3, e4⟩
  · exact Or.inl h2
  · refine Or.inr ⟨g, cap, cur, e1, e2, ?_, e4⟩
    rw [hg.block g (lt_of_block e3) (by simp; omega)]
    exact e3

set_option maxHeartbeats 400000 in
theorem qtext_none (b B : Nat) (st : Option (List UInt8)) (n : Int) (w : World) (h : Rq w b B st) (hn : rNum st = (n, none)) :
    Calls Tryz.prog 105 #[.pointer (some ⟨B, 0, none⟩)] w fun e w' => ∃ v, e = .returned v ∧ w'.ownsRow w.heap.size 5 1 v ([] : List UInt8).length (cells8 []) ∧ Rq w' b B none ∧ w.grownBy w' (some B) := by
  have HN : Hid (rNum st = (n, none)) := hn
  clear hn
  go_enter Tryz.func105, Tryz.ntmps105
  go_wp2_with (first
    | (go_at_call 104; refine (qnum_is b B st none n _ h HN.out).mono ?_; rintro e w1 ⟨rfl, hr1, hg1⟩)
    | (go_at_call 84; refine (ok_any B none _ hr1.rd).mono ?_; rintro e w' ⟨rfl, rfl⟩))
  go_ret
  exact ⟨_, rfl, World.ownsRow_nil _ _ _ _, hr1, hg1⟩

set_option maxHeartbeats 400000 in
theorem qtext_bad (b B : Nat) (st : Option (List UInt8)) (bs : List UInt8) (n : Int) (w : World) (h : Rq w b B st) (hn : rNum st = (n, some bs)) (hb : ¬ (0 ≤ n ∧ n ≤ bs.length)) :
    Calls Tryz.prog 105 #[.pointer (some ⟨B, 0, none⟩)] w fun e w' => ∃ v, e = .returned v ∧ w'.ownsRow w.heap.size 5 1 v ([] : List UInt8).length (cells8 []) ∧ Rq w' b B none ∧ w.grownBy w' (some B) := by
  have HN : Hid (rNum st = (n, some bs)) := hn
  clear hn
  by_cases h0 : n < 0
  · clear hb
    go_enter Tryz.func105, Tryz.ntmps105
    go_wp2_with (first
      | (go_at_call 104; refine (qnum_is b B st (some bs) n _ h HN.out).mono ?_; rintro e w1 ⟨rfl, hr1, hg1⟩)
      | (go_at_call 84; refine (ok_any B (some bs) _ hr1.rd).mono ?_; rintro e w' ⟨rfl, rfl⟩)
      | (go_at_call 108; refine (fail_q b B (some bs) _ hr1).mono ?_; rintro e w2 ⟨rfl, hr2, hg2⟩))
    go_ret
    exact ⟨_, rfl, World.ownsRow_nil _ _ _ _, hr2, hg1.trans hg2⟩
  · have h1 : (bs.length : Int) < n := by omega
    clear hb
    go_enter Tryz.func105, Tryz.ntmps105
    go_wp2_with (first
      | (go_at_call 104; refine (qnum_is b B st (some bs) n _ h HN.out).mono ?_; rintro e w1 ⟨rfl, hr1, hg1⟩)
      | (go_at_call 84; refine (ok_any B (some bs) _ hr1.rd).mono ?_; rintro e w' ⟨rfl, rfl⟩; have H1 : Hid _ := hr1; obtain ⟨v, hB, hv, _, _⟩ := hr1; obtain ⟨ao, cap, rfl, _, _⟩ := hv.shape; obtain ⟨c0, _, _, _⟩ := two_cells hB; clear hB hv)
      | (go_at_call 108; refine (fail_q b B (some bs) _ H1.out).mono ?_; rintro e w2 ⟨rfl, hr2, hg2⟩))
    go_ret
    exact ⟨_, rfl, World.ownsRow_nil _ _ _ _, hr2, hg1.trans hg2⟩

set_option maxHeartbeats 400000 in
theorem qtext_ok (b B : Nat) (st : Option (List UInt8)) (bs : List UInt8) (m : Nat) (w : World) (h : Rq w b B st) (hn : rNum st = ((m : Int), some bs)) (hb : m ≤ bs.length) :
    Calls Tryz.prog 105 #[.pointer (some ⟨B, 0, none⟩)] w fun e w' => ∃ v, e = .returned v ∧ w'.ownsRow w.heap.size 5 1 v (bs.take m).length (cells8 (bs.take m)) ∧ Rq w' b B (some (bs.drop m)) ∧ w.grownBy w' (some B) := by
  have HN : Hid (rNum st = ((m : Int), some bs)) := hn
  have hBw : B < w.heap.size := h.rd.lt
  clear hn
  have hb' : (m : Int) ≤ bs.length := by omega
  go_enter Tryz.func105, Tryz.ntmps105
  go_wp2_with fail
  refine (qnum_is b B st (some bs) m _ h HN.out).mono ?_
  rintro e w1 ⟨rfl, hr1, hg1⟩
  have H1 : Hid (Rq w1 b B (some bs)) := hr1
  obtain ⟨v, hB, hv, hp, hlim, hkk⟩ := hr1
  have hlim' : bs.length ≤ 140737488355328 := hlim
  rcases hp with rfl | ⟨g, off, n', cap, rfl⟩
  · have e0 := hv.len
    simp only [Option.getD_some] at e0
    have e1 : bs = [] := List.eq_nil_of_length_eq_zero e0.symm
    subst e1
    have e2 : m = 0 := by simpa using hb
    subst e2
    obtain ⟨c0, c1, f0, f1⟩ := two_cells hB
    have HP : Hid (_) := Rq.put (b := b) hB hv (Sl.nil _) (Or.inl rfl) (by simp) (by simp [Value.ownBlock])
    clear hv hlim hlim' hB e0 hb hb' hkk
    go_wp2_with (first
      | (go_at_call 84; refine (ok_any B (some []) _ H1.out.rd).mono ?_; rintro e w' ⟨rfl, rfl⟩)
      | (go_at_call 58; refine (clone_nil _).mono ?_; rintro e w2 ⟨rfl, rfl⟩))
    go_ret
    exact ⟨_, rfl, World.ownsRow_nil _ _ _ _, HP.out.1, hg1.trans HP.out.2⟩
  · have e0 := hv.len
    simp only [Option.getD_some] at e0
    subst e0
    have hcap : bs.length ≤ cap := by obtain ⟨_, _, e, h1, _⟩ := hv; simp only [Value.slice.injEq] at e; rw [e.2.2]; exact h1
    obtain ⟨c0, c1, f0, f1⟩ := two_cells hB
    have hBl := lt_of_block hB
    have HV : Hid (Sl w1 (.slice (some ⟨g, off, none⟩) bs.length cap) bs) := hv
    have HB : Hid (_) := hB
    have HK : Hid (g < b) := hkk g rfl
    clear hv hlim hB hkk
    go_wp2_with (first
      | (go_at_call 84; refine (ok_any B (some bs) _ H1.out.rd).mono ?_; rintro e w' ⟨rfl, rfl⟩)
      | (go_at_call 58; refine (clone_any _ (bs.take m) _ (HV.out.take m hb) (by rw [List.length_take]; omega)).mono ?_; rintro e w2 ⟨v', rfl, hown, hb2⟩; have c0' := (hb2.cell (p := ⟨B, 0, none⟩) hBl).trans c0; have f0' := (hb2.frozen (p := ⟨B, 0, none⟩) hBl).trans f0; obtain ⟨ao', cap', rfl, _, _⟩ := (Sl.of_own hown).shape))
    all_goals go_ret
    all_goals
      have hB2 := (hb2.block B hBl).trans HB.out
      have hv2 := HV.out.below hb2
      have HP := Rq.put (b := b) hB2 hv2 (sl_rest hv2 m hb).1 (sl_rest hv2 m hb).2 (by rw [List.length_drop]; omega) (fun k' hk' => by
        have := HK.out
        split at hk' <;> simp [Value.ownBlock] at hk' <;> omega)
      have HS := Fr.own_lower (own_rd hown HP.2 hBl) hg1.size
      have hlm : (bs.take m).length = m := by rw [List.length_take]; omega
    · rw [if_pos (by assumption), show cap - m = 0 by omega] at HP HS
      rw [hlm] at HS
      exact ⟨_, rfl, HS, HP.1, (grown_below hg1 hb2).trans HP.2⟩
    · rw [if_neg (by assumption)] at HP HS
      rw [hlm] at HS
      exact ⟨_, rfl, HS, HP.1, (grown_below hg1 hb2).trans HP.2⟩

theorem qtext_any (b B : Nat) (st : Option (List UInt8)) (w : World) (h : Rq w b B st) :
    Calls Tryz.prog 105 #[.pointer (some ⟨B, 0, none⟩)] w fun e w' => ∃ v, e = .returned v ∧ w'.ownsRow w.heap.size 5 1 v (rText st).1.length (cells8 (rText st).1) ∧ Rq w' b B (rText st).2 ∧ w.grownBy w' (some B) := by
  unfold rText
  cases hn : rNum st with
  | mk n st1 =>
    cases st1 with
    | none => exact qtext_none b B st n w h hn
    | some bs =>
      simp only [rCut]
      by_cases hb : 0 ≤ n ∧ n ≤ bs.length
      · rw [if_pos hb]
        obtain ⟨m, rfl⟩ := Int.eq_ofNat_of_zero_le hb.1
        exact qtext_ok b B st bs m w h hn (by omega)
      · rw [if_neg hb]
        exact qtext_bad b B st bs n w h hn hb

end Go.Proofs.YtjndgekpdmlbiaaGreatDoor.Kp
