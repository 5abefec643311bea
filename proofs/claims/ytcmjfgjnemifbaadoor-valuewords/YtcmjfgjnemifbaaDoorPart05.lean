/- The walk of a table's Id. The law's first steps: two constants, a table, a fact. The law of words and numbers that may be. -/
import Derived.Test.YtcmjfgjnemifbaaDoorPart04
namespace Go.Proofs.YtcmjfgjnemifbaaDoor
open Go.RowKit

def mayM (t : Tm) : Bool := mayT t.1 t.2.1 t.2.2
/-- What comes back, and the list behind it. -/
def idN (L : List Tm) (t : Tm) : Nat := if mayM t = true then (match find L t 0 with | some q => q + 1 | none => L.length + 1) else 0
def addT (L : List Tm) (t : Tm) : List Tm := if mayM t = true ∧ find L t 0 = none then L ++ [t] else L

theorem id_nil (t : Tm) (w : World) : Calls Tryd.prog 18 #[.pointer none, .agg #[.int .i64 t.1, .string t.2.1, .int .i64 t.2.2]] w fun e w' => e = .returned (.int .i64 0) ∧ Below w.heap.size w w' := by
  go_enter Tryd.func18, Tryd.ntmps18
  go_wp2
  go_ret
  exact ⟨rfl, below_box _ _⟩

set_option maxHeartbeats 2000000 in
theorem id_any {p : Nat} {vr mv : Value} {L : List Tm} {G : Nat → Prop} (t : Tm) {w : World} (h : Tb w p vr mv L G) (hs : t.2.1.size ≤ 281474976710656) (hl : L.length ≤ 1000000) :
    Calls Tryd.prog 18 #[.pointer (some ⟨p, 0, none⟩), .agg #[.int .i64 t.1, .string t.2.1, .int .i64 t.2.2]] w fun e w' => e = .returned (.int .i64 (idN L t : Int)) ∧ (∃ vr' mv', Tb w' p vr' mv' (addT L t) (ext G w w')) ∧ Fr G w w' := by
  have hplt := h.lt p h.self
  have HB : ∀ w1, Below (w.heap.size + 1) (w.alloc (.cells #[.int .i64 t.1, .string t.2.1, .int .i64 t.2.2] 23)) w1 → w1.cell? ⟨w.heap.size, 0, none⟩ = some (.int .i64 t.1) ∧ w1.cell? ⟨w.heap.size, 1, none⟩ = some (.string t.2.1) ∧ w1.cell? ⟨w.heap.size, 2, none⟩ = some (.int .i64 t.2.2) ∧ Tb w1 p vr mv L G ∧ Below w.heap.size w w1 := by
    intro w1 hb1
    have hx : w1.heap[w.heap.size]? = some (.cells #[.int .i64 t.1, .string t.2.1, .int .i64 t.2.2] 23 (0, 0)) := by rw [hb1.block _ (by omega)]; exact heap_alloc_new _ _
    have hbw : Below w.heap.size w w1 := (below_box w _).trans (hb1.mono (by omega))
    exact ⟨by rw [cell_of_row w1 _ 0 _ _ _ hx]; rfl, by rw [cell_of_row w1 _ 1 _ _ _ hx]; rfl, by rw [cell_of_row w1 _ 2 _ _ _ hx]; rfl, h.below hbw, hbw⟩
  have hself : ∀ w', Below w.heap.size w w' → (∃ vr' mv', Tb w' p vr' mv' L (ext G w w')) ∧ Fr G w w' := fun w' hb => ⟨⟨_, _, (h.below hb).more (fun k hk => Or.inl hk) (ext_lt h.lt hb.size)⟩, Fr.of_below hb⟩
  have HB' : Hid _ := HB
  have HS : Hid _ := hself
  clear HB hself
  cases hm : mayM t with
  | false =>
    have e1 : idN L t = 0 := by simp [idN, hm]
    have e2 : addT L t = L := by simp [addT, hm]
    have hm' : mayT t.1 t.2.1 t.2.2 = false := hm
    rw [e1, e2]
    clear h hm e1 e2
    go_enter Tryd.func18, Tryd.ntmps18
    go_wp2_with (go_at_call 9; refine (may_any _ _ _ _).mono ?_; rintro e w1 ⟨rfl, hb1⟩; rw [hm'])
    go_ret
    exact ⟨rfl, HS.out _ (HB'.out _ (by simpa using hb1)).2.2.2.2⟩
  | true =>
    have hm' : mayT t.1 t.2.1 t.2.2 = true := hm
    have HL : ∀ w1, Tb w1 p vr mv L G → (Instr.lookup 46 mv (.agg #[.int .i64 t.1, .string t.2.1, .int .i64 t.2.2]) true).run Tryd.prog w1.drew = .ok (.tuple #[.int .i64 (idOf L t : Int), .bool (find L t 0).isSome]) w1.drew := by
      intro w1 h1
      rcases h1.ids with ⟨rfl, rfl, rfl⟩ | ⟨m, rfl, hmm, _⟩
      · exact run_lookup23_nil t _
      · exact run_lookup23 t L _ m w1.drew hmm
    have HL' : Hid _ := HL
    clear HL
    cases hf : find L t 0 with
    | some q =>
      have e1 : idN L t = q + 1 := by simp [idN, hm, hf]
      have e2 : addT L t = L := by simp [addT, hf]
      have e3 : idOf L t = q + 1 := by simp [idOf, hf]
      rw [e1, e2]
      rw [e3, hf] at HL'
      clear h hm e1 e2 e3
      go_enter Tryd.func18, Tryd.ntmps18
      go_wp2_with fail
      refine (may_any _ _ _ _).mono ?_
      rintro e w1 ⟨rfl, hb1⟩
      rw [hm']
      obtain ⟨d0, d1, d2, hT, hbw⟩ := HB'.out _ (by simpa using hb1)
      have hl1 := HL'.out _ hT
      have HX : Hid _ := HS.out w1.drew ⟨hbw.os, hbw.tape, hbw.output, hbw.size, hbw.block⟩
      obtain ⟨c0, c1, _⟩ := hT.cells
      clear hT hb1 hbw
      simp only [Option.isSome_some] at hl1
      rw [show ((q + 1 : Nat) : Int) = (q : Int) + 1 by omega] at hl1
      go_wp2_with fail
      go_region
      go_wp2
      go_ret
      exact ⟨rfl, HX.out⟩
    | none =>
      have e1 : idN L t = L.length + 1 := by simp [idN, hm, hf]
      have e2 : addT L t = L ++ [t] := by simp [addT, hm, hf]
      have e3 : idOf L t = 0 := by simp [idOf, hf]
      rw [e1, e2]
      rw [e3, hf] at HL'
      have HA : ∀ w1, Below w.heap.size w w1 → Tb w1 p vr mv L G → Calls Tryd.prog 28 #[.pointer (some ⟨p, 0, none⟩), .agg #[.int .i64 t.1, .string t.2.1, .int .i64 t.2.2]] w1.drew fun e w' => e = .returned (.int .i64 ((L.length : Int) + 1)) ∧ (∃ vr' mv', Tb w' p vr' mv' (L ++ [t]) (ext G w w')) ∧ Fr G w w' := by
        intro w1 hbw hT
        have hT' : Tb w1.drew p vr mv L G := hT.kept (F := fun _ => False) (Fr.refl _ _).drew (fun _ _ h => h)
        refine (add_any t hT' hf hs hl).mono ?_
        rintro e w' ⟨rfl, ⟨vr', mv', hT2⟩, hF⟩
        have hs1 : w.heap.size ≤ w1.heap.size := hbw.size
        refine ⟨rfl, ⟨vr', mv', hT2.more (fun k hk => ?_) (ext_lt h.lt (Nat.le_trans hs1 hF.size))⟩, (Fr.of_below (F := G) hbw).drew.trans hF (fun _ _ h => h)⟩
        rcases hk with hk | hk
        · exact Or.inl hk
        · have h1 : w1.heap.size ≤ k := hk.1
          exact Or.inr ⟨by omega, hk.2⟩
      have HA' : Hid _ := HA
      clear HA
      clear h hm e1 e2 e3
      go_enter Tryd.func18, Tryd.ntmps18
      go_wp2_with fail
      refine (may_any _ _ _ _).mono ?_
      rintro e w1 ⟨rfl, hb1⟩
      rw [hm']
      obtain ⟨d0, d1, d2, hT, hbw⟩ := HB'.out _ (by simpa using hb1)
      have hl1 := HL'.out _ hT
      have HX : Hid _ := HA'.out _ hbw hT
      obtain ⟨c0, c1, _⟩ := hT.cells
      clear hT hb1 hbw
      simp only [Option.isSome_none, Int.ofNat_zero] at hl1
      go_wp2_with fail
      go_region
      go_wp2_with (go_at_call 28; refine Calls.mono HX.out ?_; rintro e w2 ⟨rfl, h2, h3⟩)
      go_ret
      exact ⟨rfl, h2, h3⟩

end Go.Proofs.YtcmjfgjnemifbaaDoor
namespace Go.Proofs.YtcmjfgjnemifbaaDoor
open Go.RowKit

def tA : Tm := (3, ⟨#[]⟩, 5)
def tB : Tm := (2, ⟨#[120]⟩, 0)

/-- What the steps go by: the two constants' cells and the table behind them. -/
structure Bg (w W : World) (L : List Tm) : Prop where
  a : W.heap[w.heap.size]? = some (.cells #[.int .i64 3, .string ⟨#[]⟩, .int .i64 5] 23 (0, 0))
  b : W.heap[w.heap.size + 1]? = some (.cells #[.int .i64 2, .string ⟨#[120]⟩, .int .i64 0] 23 (0, 0))
  t : ∃ vr mv G, Tb W (w.heap.size + 2) vr mv L G ∧ ∀ k, G k → w.heap.size + 2 ≤ k
  below : Below w.heap.size w W
theorem Bg.fr {w W W' : World} {L : List Tm} (h : Bg w W L) {G : Nat → Prop} (hG : ∀ k, G k → w.heap.size + 2 ≤ k) (hf : Fr G W W') {L' : List Tm} (ht : ∃ vr mv G, Tb W' (w.heap.size + 2) vr mv L' G ∧ ∀ k, G k → w.heap.size + 2 ≤ k) : Bg w W' L' := by
  have h1 : w.heap.size < W.heap.size := (Array.getElem?_eq_some_iff.1 h.a).1
  have h2 : w.heap.size + 1 < W.heap.size := (Array.getElem?_eq_some_iff.1 h.b).1
  refine ⟨by rw [hf.block _ h1 (fun hg => by have := hG _ hg; omega)]; exact h.a, by rw [hf.block _ h2 (fun hg => by have := hG _ hg; omega)]; exact h.b, ht, h.below.trans (hf.below (fun k hk => by have := hG k hk; omega) (by omega))⟩
theorem Bg.keep {w W W' : World} {L : List Tm} (h : Bg w W L) (hb : Below W.heap.size W W') : Bg w W' L := by
  obtain ⟨vr, mv, G, hT, hG⟩ := h.t
  exact h.fr (G := fun _ => False) (fun _ hk => hk.elim) (Fr.of_below hb) ⟨vr, mv, G, hT.below hb, hG⟩
/-- The cells. -/
def Bc (w W : World) : Prop := (W.cell? ⟨w.heap.size, 0, none⟩ = some (.int .i64 3) ∧ W.cell? ⟨w.heap.size, 1, none⟩ = some (.string ⟨#[]⟩) ∧ W.cell? ⟨w.heap.size, 2, none⟩ = some (.int .i64 5)) ∧ W.cell? ⟨w.heap.size + 1, 0, none⟩ = some (.int .i64 2) ∧ W.cell? ⟨w.heap.size + 1, 1, none⟩ = some (.string ⟨#[120]⟩) ∧ W.cell? ⟨w.heap.size + 1, 2, none⟩ = some (.int .i64 0)
theorem Bg.cells {w W : World} {L : List Tm} (h : Bg w W L) : Bc w W := by
  refine ⟨⟨?_, ?_, ?_⟩, ?_, ?_, ?_⟩
  · rw [cell_of_row W _ 0 _ _ _ h.a]; rfl
  · rw [cell_of_row W _ 1 _ _ _ h.a]; rfl
  · rw [cell_of_row W _ 2 _ _ _ h.a]; rfl
  · rw [cell_of_row W _ 0 _ _ _ h.b]; rfl
  · rw [cell_of_row W _ 1 _ _ _ h.b]; rfl
  · rw [cell_of_row W _ 2 _ _ _ h.b]; rfl

theorem bg_id {w W : World} {L : List Tm} (t : Tm) (h : Bg w W L) (hs : t.2.1.size ≤ 100) (hl : L.length ≤ 1000) :
    Calls Tryd.prog 18 #[.pointer (some ⟨w.heap.size + 2, 0, none⟩), .agg #[.int .i64 t.1, .string t.2.1, .int .i64 t.2.2]] W fun e w' => e = .returned (.int .i64 (idN L t : Int)) ∧ Bc w w' ∧ Hid (Bg w w' (addT L t)) := by
  obtain ⟨vr, mv, G, hT, hG⟩ := h.t
  refine (id_any t hT (by omega) (by omega)).mono ?_
  rintro e w' ⟨rfl, ⟨vr', mv', hT'⟩, hF⟩
  have h1 : w.heap.size + 1 < W.heap.size := (Array.getElem?_eq_some_iff.1 h.b).1
  have hB : Bg w w' (addT L t) := h.fr hG hF ⟨vr', mv', _, hT', fun k hk => by
    rcases hk with hk | hk
    · exact hG k hk
    · omega⟩
  exact ⟨rfl, hB.cells, hB⟩

theorem mayA : mayT 3 ⟨#[]⟩ 5 = true := by simp [mayT, Lib.toList_data]
theorem mayB : mayT 2 ⟨#[120]⟩ 0 = true := by decide
theorem idAB : idN [] tB = 1 ∧ addT [] tB = [tB] ∧ idN [tB] tA = 2 ∧ addT [tB] tA = [tB, tA] ∧ idN [tB, tA] tB = 1 ∧ addT [tB, tA] tB = [tB, tA] := by
  have m1 : mayM tA = true := mayA
  have m2 : mayM tB = true := by decide
  have f1 : find [] tB 0 = none := rfl
  have f2 : find [tB] tA 0 = none := by decide
  have f3 : find [tB, tA] tB 0 = some 0 := by simp [find, eqM, eqT]
  simp [idN, addT, m1, m2, f1, f2, f3]

theorem factAB : factS ⟨#[112]⟩ [tA, tB] = ⟨#[112, 40, 53, 44, 32, 120, 41]⟩ := by
  apply bytes_ext
  have h5 : (prt tA).data.toList = [53] := by
    show (Lib.itoa 5) = _
    rw [show (5 : Int) = ((5 : Nat) : Int) by rfl, Lib.itoa_nonneg, Lib.decDigits_one (by omega)]
    rfl
  have hx : (prt tB).data.toList = [120] := rfl
  simp [factS, factL, prtL, h5, hx, Lib.join_cons, Lib.joinTail]

theorem ts_two (W : World) : Ts (W.alloc (.cells #[.int .i64 3, .string ⟨#[]⟩, .int .i64 5, .int .i64 2, .string ⟨#[120]⟩, .int .i64 0] 23)) (.slice (some ⟨W.heap.size, 0, none⟩) 2 2) [tA, tB] := by
  have hg := heap_alloc_new W (.cells #[.int .i64 3, .string ⟨#[]⟩, .int .i64 5, .int .i64 2, .string ⟨#[120]⟩, .int .i64 0] 23)
  refine ⟨_, 2, rfl, Nat.le_refl _, fun _ => ⟨_, _, rfl, fun i hi => ?_⟩⟩
  have : i = 0 ∨ i = 1 := by simp at hi; omega
  rcases this with rfl | rfl
  · exact ⟨by rw [cell_of_row _ _ _ _ _ _ hg]; rfl, by rw [cell_of_row _ _ _ _ _ _ hg]; rfl, by rw [cell_of_row _ _ _ _ _ _ hg]; rfl⟩
  · exact ⟨by rw [cell_of_row _ _ _ _ _ _ hg]; rfl, by rw [cell_of_row _ _ _ _ _ _ hg]; rfl, by rw [cell_of_row _ _ _ _ _ _ hg]; rfl⟩

theorem bg_fact (W : World) : Calls Tryd.prog 22 #[.agg #[.string ⟨#[112]⟩, .slice (some ⟨W.heap.size, 0, none⟩) 2 2]] (W.alloc (.cells #[.int .i64 3, .string ⟨#[]⟩, .int .i64 5, .int .i64 2, .string ⟨#[120]⟩, .int .i64 0] 23)) fun e w' => e = .returned (.string ⟨#[112, 40, 53, 44, 32, 120, 41]⟩) ∧ Below W.heap.size W w' := by
  refine (fact_any ⟨#[112]⟩ _ [tA, tB] _ (ts_two W) (by simp) (by decide) (fun t ht => ?_) (fun t ht h3 => ?_)).mono ?_
  · simp at ht
    rcases ht with rfl | rfl
    · have h5 : (prt tA).data.toList = [53] := by
        show (Lib.itoa 5) = _
        rw [show (5 : Int) = ((5 : Nat) : Int) by rfl, Lib.itoa_nonneg, Lib.decDigits_one (by omega)]
        rfl
      rw [size_list, h5]
      simp
    · decide
  · simp at ht
    rcases ht with rfl | rfl
    · exact .inl (by decide)
    · exact absurd h3 (by decide)
  · rintro e w' ⟨rfl, hb⟩
    rw [factAB]
    exact ⟨rfl, (below_box _ _).trans (hb.mono (by simp))⟩

theorem fld2 (k n : Int) (s : ByteArray) (W : World) : (Instr.field 23 (.agg #[.int .i64 k, .string s, .int .i64 n]) 2).run Tryd.prog W = .ok (.int .i64 n) W := by kernel_rfl
theorem fld0 (k n : Int) (s : ByteArray) (W : World) : (Instr.field 23 (.agg #[.int .i64 k, .string s, .int .i64 n]) 0).run Tryd.prog W = .ok (.int .i64 k) W := by kernel_rfl

set_option maxHeartbeats 1000000 in
theorem begun_any (w : World) : Calls Tryd.prog 7 #[] w fun e w' => e = .returned (.bool true) ∧ Below w.heap.size w w' := by
  have HN : Hid (∀ W, Calls Tryd.prog 17 #[] W fun e w' => e = .returned (.pointer (some ⟨W.heap.size, 0, none⟩)) ∧ w' = W.alloc (.cells #[.slice none 0 0, .map none] 48)) := new_any
  have H0 : Hid (Bg w (((w.alloc (.cells #[.int .i64 3, .string ⟨#[]⟩, .int .i64 5] 23)).alloc (.cells #[.int .i64 2, .string ⟨#[120]⟩, .int .i64 0] 23)).alloc (.cells #[.slice none 0 0, .map none] 48)) []) := by
    refine ⟨?_, ?_, ⟨.slice none 0 0, .map none, fun k => k = w.heap.size + 2, ?_, fun k hk => ?_⟩, ((below_box2 w _ _)).alloc (by simp; omega) _⟩
    · rw [(below_box _ _).block _ (by simp; omega), (below_box _ _).block _ (by simp)]; exact heap_alloc_new _ _
    · rw [(below_box _ _).block _ (by simp)]
      have := heap_alloc_new (w.alloc (.cells #[.int .i64 3, .string ⟨#[]⟩, .int .i64 5] 23)) (.cells #[.int .i64 2, .string ⟨#[120]⟩, .int .i64 0] 23)
      simpa using this
    · have := tb_new ((w.alloc (.cells #[.int .i64 3, .string ⟨#[]⟩, .int .i64 5] 23)).alloc (.cells #[.int .i64 2, .string ⟨#[120]⟩, .int .i64 0] 23))
      simpa using this
    · have hk' : k = w.heap.size + 2 := hk
      omega
  have HM : Hid (∀ W, Hid (Bg w W []) → Calls Tryd.prog 9 #[.agg #[.int .i64 3, .string ⟨#[]⟩, .int .i64 5]] W fun e w' => e = .returned (.bool true) ∧ Bc w w' ∧ Hid (Bg w w' [])) := fun W hW => (may_any 3 5 ⟨#[]⟩ W).mono fun e w' ⟨he, hb⟩ => ⟨by rw [he, mayA], (hW.out.keep hb).cells, hW.out.keep hb⟩
  have HL : Hid (∀ W, Hid (Bg w W []) → Calls Tryd.prog 11 #[.agg #[.int .i64 3, .string ⟨#[]⟩, .int .i64 5], .agg #[.int .i64 2, .string ⟨#[120]⟩, .int .i64 0]] W fun e w' => e = .returned (.bool true) ∧ Bc w w' ∧ Hid (Bg w w' [])) := fun W hW => (less_any 3 2 5 0 ⟨#[]⟩ ⟨#[120]⟩ W (Or.inr rfl) (Or.inl rfl)).mono fun e w' ⟨he, hb⟩ => ⟨by rw [he]; rfl, (hW.out.keep hb).cells, hW.out.keep hb⟩
  have HP : Hid (∀ W, Hid (Bg w W []) → Calls Tryd.prog 15 #[.agg #[.int .i64 2, .string ⟨#[120]⟩, .int .i64 0]] W fun e w' => e = .returned (.string ⟨#[120]⟩) ∧ Bc w w' ∧ Hid (Bg w w' [])) := fun W hW => (print_any tB W (fun h => absurd h (by decide))).mono fun e w' ⟨he, hb⟩ => ⟨by rw [he]; rfl, (hW.out.keep hb).cells, hW.out.keep hb⟩
  have HI1 : Hid (∀ W, Hid (Bg w W []) → Calls Tryd.prog 18 #[.pointer (some ⟨w.heap.size + 2, 0, none⟩), .agg #[.int .i64 2, .string ⟨#[120]⟩, .int .i64 0]] W fun e w' => e = .returned (.int .i64 1) ∧ Bc w w' ∧ Hid (Bg w w' [tB])) := fun W hW => by
    have h := bg_id tB hW.out (by decide) (by simp)
    rw [idAB.1, idAB.2.1] at h
    exact h
  have HI2 : Hid (∀ W, Hid (Bg w W [tB]) → Calls Tryd.prog 18 #[.pointer (some ⟨w.heap.size + 2, 0, none⟩), .agg #[.int .i64 3, .string ⟨#[]⟩, .int .i64 5]] W fun e w' => e = .returned (.int .i64 2) ∧ Bc w w' ∧ Hid (Bg w w' [tB, tA])) := fun W hW => by
    have h := bg_id tA hW.out (by decide) (by simp)
    rw [idAB.2.2.1, idAB.2.2.2.1] at h
    exact h
  have HI3 : Hid (∀ W, Hid (Bg w W [tB, tA]) → Calls Tryd.prog 18 #[.pointer (some ⟨w.heap.size + 2, 0, none⟩), .agg #[.int .i64 2, .string ⟨#[120]⟩, .int .i64 0]] W fun e w' => e = .returned (.int .i64 1) ∧ Bc w w' ∧ Hid (Bg w w' [tB, tA])) := fun W hW => by
    have h := bg_id tB hW.out (by decide) (by simp)
    rw [idAB.2.2.2.2.1, idAB.2.2.2.2.2] at h
    exact h
  have HT : Hid (∀ W, Hid (Bg w W [tB, tA]) → Calls Tryd.prog 20 #[.pointer (some ⟨w.heap.size + 2, 0, none⟩), .int .i64 2] W fun e w' => e = .returned (.agg #[.int .i64 3, .string ⟨#[]⟩, .int .i64 5]) ∧ Bc w w' ∧ Hid (Bg w w' [tB, tA])) := fun W hW => by
    obtain ⟨vr, mv, G, hT, hG⟩ := hW.out.t
    exact (term_any 2 hT (by simp)).mono fun e w' ⟨he, hb⟩ => ⟨by rw [he]; rfl, (hW.out.keep hb).cells, hW.out.keep hb⟩
  have HLn : Hid (∀ W, Hid (Bg w W [tB, tA]) → Calls Tryd.prog 19 #[.pointer (some ⟨w.heap.size + 2, 0, none⟩)] W fun e w' => e = .returned (.int .i64 2) ∧ Bc w w' ∧ Hid (Bg w w' [tB, tA])) := fun W hW => by
    obtain ⟨vr, mv, G, hT, hG⟩ := hW.out.t
    exact (len_any hT).mono fun e w' ⟨he, hw⟩ => ⟨by rw [he]; rfl, by rw [hw]; exact hW.out.cells, by rw [hw]; exact hW⟩
  have HF : Hid (∀ W, Hid (Bg w W [tB, tA]) → Calls Tryd.prog 22 #[.agg #[.string ⟨#[112]⟩, .slice (some ⟨W.heap.size, 0, none⟩) 2 2]] (W.alloc (.cells #[.int .i64 3, .string ⟨#[]⟩, .int .i64 5, .int .i64 2, .string ⟨#[120]⟩, .int .i64 0] 23)) fun e w' => e = .returned (.string ⟨#[112, 40, 53, 44, 32, 120, 41]⟩) ∧ Below w.heap.size w w') := fun W hW => (bg_fact W).mono fun e w' ⟨he, hb⟩ => ⟨he, hW.out.below.trans (hb.mono hW.out.below.size)⟩
  have hfld := fld2 3 5 ⟨#[]⟩
  go_enter Tryd.func7, Tryd.ntmps7
  go_wp2_with fail
  refine (HN.out _).mono ?_
  rintro e w1 ⟨rfl, rfl⟩
  have HG := H0
  clear H0 HN
  go_wp2_with fail
  refine ((HM.out _ HG)).mono ?_
  clear HG HM
  rintro e w1 ⟨rfl, ⟨⟨a0, a1, a2⟩, b0, b1, b2⟩, HG⟩
  go_wp2_with fail
  refine ((HL.out _ HG)).mono ?_
  clear HG HL
  rintro e w1 ⟨rfl, ⟨⟨a0, a1, a2⟩, b0, b1, b2⟩, HG⟩
  go_wp2_with fail
  refine ((HP.out _ HG)).mono ?_
  clear HG HP
  rintro e w1 ⟨rfl, ⟨⟨a0, a1, a2⟩, b0, b1, b2⟩, HG⟩
  go_wp2_with fail
  refine ((HI1.out _ HG)).mono ?_
  clear HG HI1
  rintro e w1 ⟨rfl, ⟨⟨a0, a1, a2⟩, b0, b1, b2⟩, HG⟩
  go_wp2_with fail
  refine ((HI2.out _ HG)).mono ?_
  clear HG HI2
  rintro e w1 ⟨rfl, ⟨⟨a0, a1, a2⟩, b0, b1, b2⟩, HG⟩
  go_wp2_with fail
  refine ((HI3.out _ HG)).mono ?_
  clear HG HI3
  rintro e w1 ⟨rfl, ⟨⟨a0, a1, a2⟩, b0, b1, b2⟩, HG⟩
  go_wp2_with fail
  refine ((HT.out _ HG)).mono ?_
  clear HG HT
  rintro e w1 ⟨rfl, ⟨⟨a0, a1, a2⟩, b0, b1, b2⟩, HG⟩
  go_wp2_with fail
  refine ((HLn.out _ HG)).mono ?_
  clear HG HLn
  rintro e w1 ⟨rfl, ⟨⟨a0, a1, a2⟩, b0, b1, b2⟩, HG⟩
  go_wp2_with fail
  refine (HF.out _ HG).mono ?_
  clear HG HF
  rintro e w1 ⟨rfl, hb⟩
  go_wp2
  go_ret
  exact ⟨rfl, hb⟩

end Go.Proofs.YtcmjfgjnemifbaaDoor
namespace Go.Proofs.YtcmjfgjnemifbaaDoor
open Go.RowKit

theorem word_w (n : Nat) (s : ByteArray) (h : s.data.toList = List.replicate n 119) : wordS s = (decide (1 ≤ n) && decide (n ≤ 16)) := by
  have hs : s.size = n := by rw [size_list, h]; simp
  have hb : ∀ j, j < n → bt s j = 119 := fun j hj => by simp [bt, h, hj]
  rw [Bool.eq_iff_iff, wordS_iff]
  simp only [Bool.and_eq_true, decide_eq_true_eq]
  rw [hs]
  constructor
  · exact fun h => ⟨h.1, h.2.1⟩
  · rintro ⟨h1, h2⟩
    exact ⟨h1, h2, by rw [hb 0 (by omega)]; decide, fun j _ hj => by rw [hb j hj]; decide⟩

set_option maxHeartbeats 2000000 in
theorem words_any (n num : Int) (w : World) : Calls Tryd.prog 6 #[.int .i64 n, .int .i64 num] w fun e w' => e = .returned (.bool true) ∧ Below w.heap.size w w' := by
  by_cases hn : n < 0
  · go_enter Tryd.func6, Tryd.ntmps6
    go_wp2_with (go_at_call 7; refine (begun_any _).mono ?_; rintro e w1 ⟨rfl, hb⟩)
    go_ret
    exact ⟨rfl, hb⟩
  · by_cases hn4 : 40 < n
    · go_enter Tryd.func6, Tryd.ntmps6
      go_wp2_with (go_at_call 7; refine (begun_any _).mono ?_; rintro e w1 ⟨rfl, hb⟩)
      go_ret
      exact ⟨rfl, hb⟩
    · obtain ⟨m, rfl⟩ : ∃ m : Nat, n = m := ⟨n.toNat, by omega⟩
      have hm : m ≤ 40 := by omega
      go_enter Tryd.func6, Tryd.ntmps6
      go_wp2_with (go_at_call 7; refine (begun_any _).mono ?_; rintro e w1 ⟨rfl, hb⟩)
      go_loopw [6, 7] (fun s i wr => ∃ (sb : ByteArray) (k : Nat), s = .string sb ∧ i = .int .i64 k ∧ k ≤ m ∧ sb.size = k ∧ Hid (sb.data.toList = List.replicate k 119) ∧ wr = w1) (fun _ i _ => m - (intOf i).toNat)
      case atStart => exact ⟨⟨#[]⟩, 0, rfl, rfl, Nat.zero_le _, rfl, rfl, rfl⟩
      case round =>
        obtain ⟨sb, k, rfl, rfl, hk, hsz, HS, hw⟩ := hrel
        have hw' := hw.symm
        subst hw'
        by_cases hlt : k < m
        · go_wp2
          go_roundw
          case rel =>
            refine ⟨_, k + 1, rfl, by go_num, by omega, by rw [size_list, bytes_app, List.length_append, ← size_list, hsz]; rfl, ?_, trivial⟩
            show _ = _
            rw [bytes_app, HS.out, List.replicate_succ']
          case measure => simp [intOf]; omega
        · have hke : k = m := by omega
          subst hke
          have HM : Hid (∀ W, Calls Tryd.prog 9 #[.agg #[.int .i64 2, .string sb, .int .i64 0]] W fun e w' => e = .returned (.bool (decide (1 ≤ k) && decide (k ≤ 16))) ∧ Below W.heap.size W w') := fun W => by
            have h := may_any 2 0 sb W
            have e1 : mayT 2 sb 0 = (decide (1 ≤ k) && decide (k ≤ 16)) := by rw [← word_w k sb HS.out]; simp [mayT]
            rw [e1] at h
            exact h
          have HN : Hid (∀ W, Calls Tryd.prog 9 #[.agg #[.int .i64 3, .string ⟨#[]⟩, .int .i64 num]] W fun e w' => e = .returned (.bool (decide (-2147483648 ≤ num) && decide (num ≤ 2147483648))) ∧ Below W.heap.size W w') := fun W => by
            have h := may_any 3 num ⟨#[]⟩ W
            have e1 : mayT 3 ⟨#[]⟩ num = (decide (-2147483648 ≤ num) && decide (num ≤ 2147483648)) := by simp [mayT, Lib.toList_data]
            rw [e1] at h
            exact h
          have HV : Hid (∀ W, Calls Tryd.prog 9 #[.agg #[.int .i64 1, .string ⟨#[88]⟩, .int .i64 0]] W fun e w' => e = .returned (.bool false) ∧ Below W.heap.size W w') := fun W => may_any 1 0 ⟨#[88]⟩ W
          have HA : Hid (∀ W, Calls Tryd.prog 9 #[.agg #[.int .i64 3, .string ⟨#[97]⟩, .int .i64 0]] W fun e w' => e = .returned (.bool false) ∧ Below W.heap.size W w') := fun W => by
            have h := may_any 3 0 ⟨#[97]⟩ W
            have e1 : mayT 3 ⟨#[97]⟩ 0 = false := by simp [mayT, Lib.toList_data]
            rw [e1] at h
            exact h
          have hk3 : (1 ≤ k ∧ k ≤ 16) ∨ k < 1 ∨ 16 < k := by omega
          have hn3 : (-2147483648 ≤ num ∧ num ≤ 2147483648) ∨ num < -2147483648 ∨ 2147483648 < num := by omega
          rcases hk3 with ⟨x1, x2⟩ | x1 | x1 <;> rcases hn3 with ⟨y1, y2⟩ | y1 | y1
          all_goals (first
            | (have ek : (decide (1 ≤ k) && decide (k ≤ 16)) = true := by simp; omega)
            | (have ek : (decide (1 ≤ k) && decide (k ≤ 16)) = false := by simp; omega))
          all_goals (first
            | (have en : (decide (-2147483648 ≤ num) && decide (num ≤ 2147483648)) = true := by simp; omega)
            | (have en : (decide (-2147483648 ≤ num) && decide (num ≤ 2147483648)) = false := by simp; omega))
          all_goals rw [ek] at HM
          all_goals rw [en] at HN
          all_goals clear ek en
          all_goals go_wp2_with fail
          all_goals refine (HM.out _).mono ?_
          all_goals (rintro e w2 ⟨rfl, hb2⟩)
          all_goals go_wp2_with fail
          all_goals refine (HN.out _).mono ?_
          all_goals (rintro e w3 ⟨rfl, hb3⟩)
          all_goals go_wp2_with fail
          all_goals refine (HV.out _).mono ?_
          all_goals (rintro e w4 ⟨rfl, hb4⟩)
          all_goals go_wp2_with fail
          all_goals refine (HA.out _).mono ?_
          all_goals (rintro e w5 ⟨rfl, hb5⟩)
          all_goals go_wp2
          all_goals go_ret
          all_goals exact ⟨ret_bool (by first | rfl | (simp; omega)), hb.trans (((hb2.trans (hb3.mono hb2.size)).trans (hb4.mono (Nat.le_trans hb2.size hb3.size))).trans (hb5.mono (Nat.le_trans (Nat.le_trans hb2.size hb3.size) hb4.size)) |>.mono hb.size)⟩

end Go.Proofs.YtcmjfgjnemifbaaDoor
