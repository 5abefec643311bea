/- A row of words in memory, and what 'append' of one word leaves; strings.Clone. The walk of the program's Scan. The words of a text that stand ahead of its first fault, in plain mathematics. Constants: what may be one, in plain mathematics; the walks of isSmall, isDigit, isWord and of the reference's Name. The walks of May, Less, Eq and of the reference's own; Cut. -/
import Derived.Test.YtcfhpodpkficaaaDoorPart01
import Derived.Maps.AppendAt
import Derived.Laws.AppendOwnNone
import Derived.Laws.Rows
import Derived.Test.YtcfhpodpkficaaaDoorRows
import Derived.WalkKit
import Derived.WalkSpells
import Derived.WalkLawsBesides
import Derived.BigQuiet
namespace Go.Proofs.YtcfhpodpkficaaaDoor.Lx
open Go.RowKit

theorem wpList_append_run {P : Program} (w : World) {ops : Array Oper} {rest : List Oper} {o : Oper} {a : Act} {Q : Exit → Act → World → Prop} (hgd : o.guard = none) (d x : Operand) (dT sT : TypeId)
    (ho : o.op = .call { callee := .builtin .append, args := #[d, x], argTypes := #[dT, sT] }) (v u : Value) (hd : a.eval d = v) (hx : a.eval x = u) {v' : Value} {w' : World}
    (hr : (Builtin.append_ #[dT, sT] o.type #[v, u]).run P w = .ok v' w') (h : wpList P ops Q rest (a.put o.dst v') w') : wpList P ops Q (o :: rest) a w := by
  refine wpList_plain hgd fun _ hK => ?_
  unfold Oper.wp
  simp [execOp, ho, resolve, invoke, builtin, hd, hx, hr, Result.andThen]
  exact hK _ _ h

/-- A text out of its bytes. -/
def tx (x : List UInt8) : ByteArray := ⟨x.toArray⟩
theorem bs_tx (x : List UInt8) : bs (tx x) = x := rfl
theorem tx_bs (s : ByteArray) : tx (bs s) = s := rfl
theorem tx_size (x : List UInt8) : (tx x).size = x.length := rfl
theorem extract_tx (s : ByteArray) (a b : Nat) : s.extract a b = tx (((bs s).drop a).take (b - a)) := by
  rw [← tx_bs (s.extract a b), bs_extract]

def cellsW (L : List Wd) : List Value := L.flatMap fun t => [.int .i64 (t.1 : Int), .string (tx t.2.1), .int .i64 (t.2.2 : Int)]
theorem cellsW_len : ∀ L : List Wd, (cellsW L).length = L.length * 3
  | [] => rfl
  | t :: r => by
    have := cellsW_len r
    simp [cellsW] at this ⊢
    omega
theorem cellsW_append (a b : List Wd) : cellsW (a ++ b) = cellsW a ++ cellsW b := by simp [cellsW]
theorem cellsW_cons (t : Wd) (b : List Wd) : cellsW (t :: b) = .int .i64 (t.1 : Int) :: .string (tx t.2.1) :: .int .i64 (t.2.2 : Int) :: cellsW b := by simp [cellsW]
theorem cellsW_get (L : List Wd) (i : Nat) (h : i < L.length) : (cellsW L)[i * 3]? = some (.int .i64 (L[i].1 : Int)) ∧ (cellsW L)[i * 3 + 1]? = some (.string (tx L[i].2.1)) ∧ (cellsW L)[i * 3 + 2]? = some (.int .i64 (L[i].2.2 : Int)) := by
  have e : L = L.take i ++ L[i] :: L.drop (i + 1) := by simp
  have hl : (cellsW (L.take i)).length = i * 3 := by rw [cellsW_len]; simp; omega
  have e2 : cellsW L = cellsW (L.take i) ++ (.int .i64 (L[i].1 : Int) :: .string (tx L[i].2.1) :: .int .i64 (L[i].2.2 : Int) :: cellsW (L.drop (i + 1))) := by
    conv => lhs; rw [e]
    rw [cellsW_append, cellsW_cons]
  rw [e2]
  refine ⟨?_, ?_, ?_⟩
  · rw [List.getElem?_append_right (by omega), hl]; simp
  · rw [List.getElem?_append_right (by omega), hl, Nat.add_sub_cancel_left]; rfl
  · rw [List.getElem?_append_right (by omega), hl, Nat.add_sub_cancel_left]; rfl
theorem cellsW_one (L : List Wd) : ∀ u ∈ cellsW L, u.oneCell' = true := by
  intro u hu
  obtain ⟨t, _, hu⟩ := List.mem_flatMap.1 hu
  simp at hu
  rcases hu with rfl | rfl | rfl <;> rfl

theorem own_shape {w : World} {b e s n : Nat} {v : Value} {xs : List Value} (h : w.ownsRow b e s v n xs) : (v = .slice none 0 0 ∧ n = 0) ∨ ∃ g cap, v = .slice (some ⟨g, 0, none⟩) n cap ∧ n ≤ cap ∧ cap ≤ maxLen ∧ g < w.heap.size ∧ b ≤ g := by
  rcases h.2 with h | ⟨g, cap, cur, rfl, hb, hg, h1, h2, _⟩
  · exact .inl h
  · exact .inr ⟨g, cap, rfl, h1, h2, (Array.getElem?_eq_some_iff.1 hg).1, hb⟩
theorem own_below {w w' : World} {base e size n : Nat} {v : Value} {xs : List Value} (h : w.ownsRow base e size v n xs) (hb : Below w.heap.size w w') : w'.ownsRow base e size v n xs := by
  refine ⟨h.1, ?_⟩
  rcases h.2 with hn' | ⟨g, cap, cur, rfl, hbb, hgg, rest⟩
  · exact .inl hn'
  · refine .inr ⟨g, cap, cur, rfl, hbb, ?_, rest⟩
    rw [hb.block g (Array.getElem?_eq_some_iff.1 hgg).1]
    exact hgg
theorem below_box (w : World) (o : Obj) : Below w.heap.size w (w.alloc o) := (Below.refl _ _).alloc (Nat.le_refl _) o

/-- A row of words of the call's own, e the words' type; nothing else was turned. -/
structure Rw (e : TypeId) (w W : World) (v : Value) (L : List Wd) : Prop where
  row : W.ownsRow w.heap.size e 3 v L.length (cellsW L)
  below : Below w.heap.size w W
theorem Rw.keep {e : TypeId} {w W W' : World} {v : Value} {L : List Wd} (h : Rw e w W v L) (hb : Below W.heap.size W W') : Rw e w W' v L :=
  ⟨own_below h.row hb, h.below.trans (hb.mono h.below.size)⟩
theorem Rw.nil (e : TypeId) (w : World) : Rw e w w (.slice none 0 0) [] := ⟨⟨by simp [cellsW], .inl ⟨rfl, rfl⟩⟩, Below.refl _ _⟩
theorem Rw.slice {e : TypeId} {w W : World} {v : Value} {L : List Wd} (h : Rw e w W v L) : ∃ ao cap, v = .slice ao L.length cap ∧ (0 < L.length → ∃ g, ao = some ⟨g, 0, none⟩) := by
  rcases own_shape h.row with ⟨rfl, h0⟩ | ⟨g, cap, rfl, _⟩
  · exact ⟨none, 0, by rw [h0], fun hp => by omega⟩
  · exact ⟨_, cap, rfl, fun _ => ⟨g, rfl⟩⟩
theorem Rw.cells {e : TypeId} {w W : World} {g cap : Nat} {L : List Wd} (h : Rw e w W (.slice (some ⟨g, 0, none⟩) L.length cap) L) (i : Nat) (hi : i < L.length) :
    W.cell? ⟨g, i * 3, none⟩ = some (.int .i64 (L[i].1 : Int)) ∧ W.cell? ⟨g, i * 3 + 1, none⟩ = some (.string (tx L[i].2.1)) ∧ W.cell? ⟨g, i * 3 + 2, none⟩ = some (.int .i64 (L[i].2.2 : Int)) := by
  have hc := cellsW_get L i hi
  exact ⟨(h.row.cellAt _ (by omega)).trans hc.1, (h.row.cellAt _ (by omega)).trans hc.2.1, (h.row.cellAt _ (by omega)).trans hc.2.2⟩

theorem grown_below {w w' : World} {B : Nat} {row : Option Nat} (h : w.grownBy w' row) (hB : B ≤ w.heap.size) (hr : ∀ k, row = some k → B ≤ k) : Below B w w' :=
  ⟨h.os, h.tape, h.output, h.size, fun k hk => h.block k (by omega) (fun e => by have := hr k e.symm; omega)⟩

theorem push_any (t e : TypeId) (ht : Tryd.prog.underlying t = some (.slice e)) (hi : (Tryd.prog.info? e).map (fun i => (i.zero, i.size, i.bytes)) = some (some (.agg #[.int .i64 0, .string ⟨#[]⟩, .int .i64 0]), 3, 32))
    {w W : World} {v : Value} {L : List Wd} (h : Rw e w W v L) (x : Wd) (hl : L.length ≤ 1000000) :
    ∃ g cap w3, (∀ ty, (Builtin.append_ #[t, t] ty #[v, .slice (some ⟨W.heap.size, 0, none⟩) 1 1]).run Tryd.prog (W.alloc (.cells #[.int .i64 (x.1 : Int), .string (tx x.2.1), .int .i64 (x.2.2 : Int)] e)) = .ok (.slice (some ⟨g, 0, none⟩) (L.length + 1) cap) w3) ∧
      Hid (Rw e w w3 (.slice (some ⟨g, 0, none⟩) (L.length + 1) cap) (L ++ [x])) := by
  obtain ⟨i, hi, hz, hsize, hby⟩ := info_parts hi
  have ha := h.keep (below_box W (.cells #[.int .i64 (x.1 : Int), .string (tx x.2.1), .int .i64 (x.2.2 : Int)] e))
  have hsa : (W.alloc (.cells #[.int .i64 (x.1 : Int), .string (tx x.2.1), .int .i64 (x.2.2 : Int)] e)).heap.size = W.heap.size + 1 := by simp
  have hbs := h.below.size
  have H := fun ty => run_append_own_at (P := Tryd.prog) _ w.heap.size t ty e i _ 3 32 ht hi hz hsize hby rfl (by decide) v L.length (cellsW L) ha.row ⟨W.heap.size, 0, none⟩ 1 1 (cellsW [x]) rfl (fun j u hj => by
    rw [Addr.add_lit, Nat.zero_add, cell_of_row _ _ j _ _ _ (heap_alloc_new _ _)]
    simpa [cellsW] using hj) (cellsW_one [x]) (by simp only [maxLen]; omega) (by omega) (by omega)
  obtain ⟨v', w', hr, g1, g2, _, g4⟩ := H 0
  rw [← cellsW_append] at g1
  rcases own_shape g1 with ⟨_, h0⟩ | ⟨g', cap, rfl, _⟩
  · omega
  · refine ⟨g', cap, w', fun ty => hr, ⟨by rw [List.length_append]; exact g1, ?_⟩⟩
    refine ha.below.trans (grown_below g2 (by omega) fun k hk => ?_)
    rcases own_shape h.row with ⟨rfl, _⟩ | ⟨g0, cap0, rfl, _, _, _, hb⟩
    · simp [Value.ownBlock] at hk
    · simp [Value.ownBlock] at hk
      omega

theorem Tryd.info64 : (Tryd.prog.info? 64).map (fun i => (i.zero, i.size, i.bytes)) = some (some (.agg #[.int .i64 0, .string ⟨#[]⟩, .int .i64 0]), 3, 32) := by kernel_rfl

theorem clone_any (s : ByteArray) (w : World) (hs : s.size ≤ 281474976710656) : Calls Tryd.prog 43 #[.string s] w fun e w' => e = .returned (.string s) ∧ Below w.heap.size w w' := by
  go_enter Tryd.func43, Tryd.ntmps43
  go_wp2_with (go_at_call 64; refine (Tryd.stringslite_Clone s _ hs).mono ?_; rintro e w' ⟨rfl, hb⟩)
  go_ret
  exact ⟨rfl, hb⟩

end Go.Proofs.YtcfhpodpkficaaaDoor.Lx
namespace Go.Proofs.YtcfhpodpkficaaaDoor.Lx
open Go.RowKit

theorem kindN_pos (n : Nat) : 1 ≤ kindN n ∧ kindN n ≤ 4 := by
  unfold kindN
  repeat' split
  all_goals omega

/-- What first says of the rest of a text, for the words from there on. -/
theorem first_says (S : List UInt8) (a : Nat) (h : a < S.length) (hb : blankN (S.getD a 0).toNat = false) (hn : (S.getD a 0).toNat ≠ 37) :
    (firstK (S.drop a) = 0 ∧ scanAt S a = none) ∨ (1 ≤ firstK (S.drop a) ∧ 1 ≤ firstN (S.drop a) ∧ firstN (S.drop a) ≤ 16 ∧ a + firstN (S.drop a) ≤ S.length ∧
      scanAt S a = (scanAt S (a + firstN (S.drop a))).map (fun r => (firstK (S.drop a), (S.drop a).take (firstN (S.drop a)), a) :: r)) := by
  by_cases hs : sizeL (S.drop a) = 0 ∨ 16 < sizeL (S.drop a)
  · left
    exact ⟨if_pos hs, scanAt_bad S a h hb hn hs⟩
  · right
    have e1 : firstK (S.drop a) = kindL (S.drop a) := if_neg hs
    have e2 : firstN (S.drop a) = sizeL (S.drop a) := if_neg hs
    have hl := sizeL_le (S.drop a)
    rw [List.length_drop] at hl
    rw [e1, e2]
    exact ⟨(kindN_pos _).1, by omega, by omega, by omega, scanAt_word S a h hb hn (by omega) (by omega)⟩

/-- What Scan gives: an error, or a row of the words. -/
def Sc (e : TypeId) (s : ByteArray) (w : World) (r : Ending) (w' : World) : Prop :=
  (∃ v L, scanAt (bs s) 0 = some L ∧ r = .returned (.tuple #[v, .int .i64 0]) ∧ Rw e w w' v L) ∨ (scanAt (bs s) 0 = none ∧ r = .returned (.tuple #[.slice none 0 0, .int .i64 4]) ∧ Below w.heap.size w w')

theorem map_snoc {α : Type} (o : Option (List α)) (L : List α) (x : α) : (o.map (fun r => x :: r)).map (fun r => L ++ r) = o.map (fun r => (L ++ [x]) ++ r) := by
  cases o <;> simp

theorem scan_long (s : ByteArray) (w : World) (h : 4000 < s.size) :
    Calls Tryd.prog 31 #[.string s] w fun e w' => e = .returned (.tuple #[.slice none 0 0, .int .i64 8]) ∧ w' = w := by
  go_enter Tryd.func31, Tryd.ntmps31
  go_wp2
  go_ret2
  exact ⟨rfl, rfl⟩

set_option maxHeartbeats 2000000 in
theorem scan_any (s : ByteArray) (w : World) (h : Sg w) (hs : s.size ≤ 4000) :
    Calls Tryd.prog 31 #[.string s] w fun e w' => Sc 64 s w e w' := by
  have HS : Hid (Sg w) := h
  clear h
  go_enter Tryd.func31, Tryd.ntmps31
  go_wp2_with fail
  refine (skip_any s 0 w (Nat.zero_le _) (by omega)).mono ?_
  rintro e w' ⟨⟨b, rfl, hb1, _, hb2, hb3⟩, hw⟩
  have hw' := hw.symm
  subst hw'
  clear hw
  have HB2 : Hid _ := hb2
  have HB3 : Hid _ := hb3
  clear hb2 hb3
  go_wp2_with fail
  go_loopw [4, 5] (fun v i wr => ∃ (k : Nat) (L : List Wd), i = .int .i64 k ∧ k ≤ s.size ∧ Hid (scanAt (bs s) 0 = (scanAt (bs s) k).map (fun r => L ++ r)) ∧ Hid (k < s.size → blankN (bt s k) = false ∧ bt s k ≠ 37) ∧ L.length ≤ k ∧ Hid (Rw 64 w wr v L)) (fun _ i _ => s.size - (intOf i).toNat)
  case atStart => exact ⟨b, [], rfl, hb1, by rw [HB2.out]; show _ = _; cases scanAt (bs s) b <;> simp, HB3, Nat.zero_le _, Rw.nil _ _⟩
  case round =>
    obtain ⟨k, L, rfl, hk, H1, H2, hLk, HR⟩ := hrel
    clear HB2 HB3
    by_cases hlt : k < s.size
    · have hF := first_says (bs s) k hlt (H2.out hlt).1 (H2.out hlt).2
      have HSr : Hid (Sg wr) := HS.out.below HR.out.below
      obtain ⟨kk, hkk⟩ : ∃ kk, Hid (firstK ((bs s).drop k) = kk) := ⟨_, rfl⟩
      obtain ⟨nn, hnn⟩ : ∃ nn, Hid (firstN ((bs s).drop k) = nn) := ⟨_, rfl⟩
      rw [hkk.out, hnn.out] at hF
      go_wp2_with fail
      refine (first_any _ _ HSr.out (by rw [size_from]; omega) (by rw [size_from]; omega)).mono ?_
      rintro e w' ⟨rfl, hw⟩
      have hw' := hw.symm
      subst hw'
      clear hw
      rw [bs_from, hkk.out, hnn.out]
      rcases hF with ⟨h0, hnone⟩ | ⟨h1, h2, h3, h4, h5⟩
      · subst h0
        have HN : Hid _ := hnone
        clear hnone
        go_wp2_with fail
        go_ret2
        exact Or.inr ⟨by rw [H1.out, HN.out]; rfl, rfl, HR.out.below⟩
      · have g0 : ((kk : Int) == 0) = false := by simp; omega
        have H5 : Hid _ := h5
        have h4' : k + nn ≤ s.size := h4
        clear h5 h4
        obtain ⟨X, hX⟩ : ∃ X, Hid (((bs s).drop k).take nn = X) := ⟨_, rfl⟩
        have hex : s.extract k (k + nn) = tx X := by rw [extract_tx, Nat.add_sub_cancel_left, hX.out]
        have hsz : (tx X).size ≤ 281474976710656 := by rw [← hex]; simp; omega
        rw [hX.out] at H5
        have HX : Hid _ := hex
        have HZ : Hid _ := hsz
        clear hex hsz
        go_wp2_with fail
        rw [HX.out]
        refine (clone_any _ _ HZ.out).mono ?_
        rintro e w1 ⟨rfl, hb⟩
        have HR1 : Hid (Rw 64 w w1 u4 L) := HR.out.keep hb
        obtain ⟨g, cap, w3, hap, HR3⟩ := push_any 53 64 Tryd.underlying53 Tryd.info64 HR1.out (kk, X, k) (by omega)
        clear HR HR1 hb HZ HX HSr
        go_wp2_with (at_builtin; refine wpList_append_run _ rfl (.tmp 26) (.tmp 37) 53 53 rfl _ _ rfl rfl (hap _) ?_)
        refine (skip_any s (k + nn) w3 (by omega) (by omega)).mono ?_
        rintro e w' ⟨⟨b2, rfl, hc1, hc4, hc2, hc3⟩, hw⟩
        have hw' := hw.symm
        subst hw'
        clear hw
        have HC2 : Hid _ := hc2
        have HC3 : Hid _ := hc3
        clear hc2 hc3 hap
        go_wp2_with fail
        go_roundw
        case rel => exact ⟨b2, L ++ [(kk, X, k)], rfl, hc1, by rw [H1.out, H5.out, map_snoc, HC2.out]; rfl, HC3, by simp; omega, HR3⟩
        case measure => simp [intOf]; omega
    · have hke : k = s.size := by omega
      subst hke
      go_wp2_with fail
      go_ret2
      exact Or.inl ⟨_, L, by rw [H1.out, scanAt_end (bs s) s.size (Nat.le_refl _)]; simp, rfl, HR.out⟩

end Go.Proofs.YtcfhpodpkficaaaDoor.Lx
namespace Go.Proofs.YtcfhpodpkficaaaDoor.Lx

/-- The words ahead of the first fault; all words, if there is none. -/
def frontL (L : List UInt8) (a : Nat) : List Wd :=
  match L with
  | [] => []
  | c :: t =>
    if blankN c.toNat = true then frontL t (a + 1)
    else if c.toNat = 37 then frontL (t.drop (lineL t)) (a + 1 + lineL t)
    else if sizeL (c :: t) = 0 ∨ 16 < sizeL (c :: t) then []
    else (kindL (c :: t), (c :: t).take (sizeL (c :: t)), a) :: frontL (t.drop (sizeL (c :: t) - 1)) (a + sizeL (c :: t))
  termination_by L.length
  decreasing_by all_goals (simp <;> omega)

theorem frontL_nil (a : Nat) : frontL [] a = [] := by rw [frontL]
theorem frontL_cons (c : UInt8) (t : List UInt8) (a : Nat) : frontL (c :: t) a = if blankN c.toNat = true then frontL t (a + 1)
    else if c.toNat = 37 then frontL (t.drop (lineL t)) (a + 1 + lineL t)
    else if sizeL (c :: t) = 0 ∨ 16 < sizeL (c :: t) then []
    else (kindL (c :: t), (c :: t).take (sizeL (c :: t)), a) :: frontL (t.drop (sizeL (c :: t) - 1)) (a + sizeL (c :: t)) := by
  rw [frontL]

theorem front_of_scan (n : Nat) : ∀ (L : List UInt8) (a : Nat) (m : List Wd), L.length ≤ n → scanL L a = some m → frontL L a = m := by
  induction n with
  | zero =>
    intro L a m hl h
    obtain rfl : L = [] := by cases L; rfl; simp at hl
    rw [scanL_nil] at h
    rw [frontL_nil]
    exact Option.some.inj h
  | succ n ih =>
    intro L a m hl h
    match L with
    | [] =>
      rw [scanL_nil] at h
      rw [frontL_nil]
      exact Option.some.inj h
    | c :: t =>
      simp only [List.length_cons] at hl
      rw [scanL_cons] at h
      rw [frontL_cons]
      by_cases hb : blankN c.toNat = true
      · rw [if_pos hb] at h ⊢
        exact ih t _ m (by omega) h
      · rw [if_neg hb] at h ⊢
        by_cases hn : c.toNat = 37
        · rw [if_pos hn] at h ⊢
          exact ih _ _ m (by rw [List.length_drop]; omega) h
        · rw [if_neg hn] at h ⊢
          by_cases hs : sizeL (c :: t) = 0 ∨ 16 < sizeL (c :: t)
          · rw [if_pos hs] at h
            cases h
          · rw [if_neg hs] at h ⊢
            cases hr : scanL (t.drop (sizeL (c :: t) - 1)) (a + sizeL (c :: t)) with
            | none => rw [hr] at h; cases h
            | some r =>
              rw [hr] at h
              obtain rfl := Option.some.inj h
              rw [ih _ _ r (by rw [List.length_drop]; omega) hr]

def frontAt (S : List UInt8) (a : Nat) : List Wd := frontL (S.drop a) a
theorem frontAt_of_scan {S : List UInt8} {a : Nat} {m : List Wd} (h : scanAt S a = some m) : frontAt S a = m := front_of_scan _ _ _ _ (Nat.le_refl _) h

theorem frontAt_end (S : List UInt8) (a : Nat) (h : S.length ≤ a) : frontAt S a = [] := by
  rw [frontAt, List.drop_eq_nil_of_le h, frontL_nil]
theorem frontAt_blank (S : List UInt8) (a : Nat) (h : a < S.length) (hb : blankN (S.getD a 0).toNat = true) : frontAt S a = frontAt S (a + 1) := by
  rw [frontAt, drop_cons S a h, frontL_cons, if_pos hb, frontAt]
theorem frontAt_note (S : List UInt8) (a : Nat) (h : a < S.length) (hb : (S.getD a 0).toNat = 37) : frontAt S a = frontAt S (a + lineL (S.drop a)) := by
  have e := drop_cons S a h
  rw [frontAt, e, frontL_cons, if_neg (by rw [hb]; decide), if_pos hb, frontAt, line_cons _ _ hb, List.drop_drop]
  have e1 : a + 1 + lineL (S.drop (a + 1)) = a + (lineL (S.drop (a + 1)) + 1) := by omega
  rw [e1]
theorem frontAt_bad (S : List UInt8) (a : Nat) (h : a < S.length) (hb : blankN (S.getD a 0).toNat = false) (hn : (S.getD a 0).toNat ≠ 37) (hs : sizeL (S.drop a) = 0 ∨ 16 < sizeL (S.drop a)) : frontAt S a = [] := by
  have e := drop_cons S a h
  rw [frontAt, e, frontL_cons, if_neg (by rw [hb]; decide), if_neg hn, ← e, if_pos hs]
theorem frontAt_word (S : List UInt8) (a : Nat) (h : a < S.length) (hb : blankN (S.getD a 0).toNat = false) (hn : (S.getD a 0).toNat ≠ 37) (h0 : sizeL (S.drop a) ≠ 0) (hs : sizeL (S.drop a) ≤ 16) :
    frontAt S a = (kindL (S.drop a), (S.drop a).take (sizeL (S.drop a)), a) :: frontAt S (a + sizeL (S.drop a)) := by
  have e := drop_cons S a h
  have e2 : (S.drop (a + 1)).drop (sizeL (S.drop a) - 1) = S.drop (a + sizeL (S.drop a)) := by
    rw [List.drop_drop]
    congr 1
    omega
  rw [frontAt, e, frontL_cons, if_neg (by rw [hb]; decide), if_neg hn, ← e, if_neg (by omega), e2, frontAt]

/-- How far a text has been read: the words so far, and what the rest gives. -/
def Sp (S : List UInt8) (k : Nat) (L : List Wd) : Prop := scanAt S 0 = (scanAt S k).map (fun r => L ++ r) ∧ frontAt S 0 = L ++ frontAt S k
theorem Sp.start (S : List UInt8) : Sp S 0 [] := ⟨by cases scanAt S 0 <;> simp, by simp⟩
theorem Sp.same {S : List UInt8} {k j : Nat} {L : List Wd} (h : Sp S k L) (e : scanAt S k = scanAt S j ∧ frontAt S k = frontAt S j) : Sp S j L := ⟨by rw [h.1, e.1], by rw [h.2, e.2]⟩
theorem Sp.more {S : List UInt8} {k j : Nat} {L : List Wd} {x : Wd} (h : Sp S k L) (e : scanAt S k = (scanAt S j).map (fun r => x :: r) ∧ frontAt S k = x :: frontAt S j) : Sp S j (L ++ [x]) :=
  ⟨by rw [h.1, e.1]; cases scanAt S j <;> simp, by rw [h.2, e.2]; simp⟩
theorem Sp.bad {S : List UInt8} {k : Nat} {L : List Wd} (h : Sp S k L) (e : scanAt S k = none ∧ frontAt S k = []) : scanAt S 0 = none ∧ frontAt S 0 = L := ⟨by rw [h.1, e.1]; rfl, by rw [h.2, e.2]; simp⟩
theorem Sp.good {S : List UInt8} {k : Nat} {L : List Wd} (h : Sp S k L) (e : S.length ≤ k) : scanAt S 0 = some L := by rw [h.1, scanAt_end S k e]; simp

end Go.Proofs.YtcfhpodpkficaaaDoor.Lx
namespace Go.Proofs.YtcfhpodpkficaaaDoor.Vl
open Go.RowKit

/-- A small letter; a digit; what may stand behind a word's first letter. -/
def smallN (n : Nat) : Bool := decide (97 ≤ n) && decide (n ≤ 122)
def digitN (n : Nat) : Bool := decide (48 ≤ n) && decide (n ≤ 57)
def restN (n : Nat) : Bool := smallN n || digitN n || decide (n = 95)
/-- The byte at a place, as a number. -/
def bt (s : ByteArray) (j : Nat) : Nat := (s.data.toList.getD j 0).toNat
theorem bt_lt (s : ByteArray) (j : Nat) : bt s j < 256 := UInt8.toNat_lt _
theorem bt_at (s : ByteArray) (j : Nat) (h : j < s.size) : (s[j]'h).toNat = bt s j := by
  unfold bt
  rw [List.getD, Array.getElem?_toList, Array.getElem?_eq_getElem (show j < s.data.size from h)]
  rfl

def wordS (s : ByteArray) : Bool := decide (1 ≤ s.size) && decide (s.size ≤ 16) && smallN (bt s 0) && (List.range s.size).all fun j => j == 0 || restN (bt s j)

theorem wordS_iff (s : ByteArray) : wordS s = true ↔ 1 ≤ s.size ∧ s.size ≤ 16 ∧ smallN (bt s 0) = true ∧ ∀ j, 1 ≤ j → j < s.size → restN (bt s j) = true := by
  unfold wordS
  simp only [Bool.and_eq_true, decide_eq_true_eq, List.all_eq_true, List.mem_range, Bool.or_eq_true, beq_iff_eq]
  constructor
  · rintro ⟨⟨⟨h1, h2⟩, h3⟩, h4⟩
    exact ⟨h1, h2, h3, fun j hj hl => (h4 j hl).resolve_left (by omega)⟩
  · rintro ⟨h1, h2, h3, h4⟩
    exact ⟨⟨⟨h1, h2⟩, h3⟩, fun j hl => if hj : j = 0 then Or.inl hj else Or.inr (h4 j (by omega) hl)⟩

theorem ret_bool {a b : Bool} (h : a = b) : Ending.returned (.bool a) = Ending.returned (.bool b) := by rw [h]

theorem isSmall_any (n : Nat) (w : World) :
    Calls Tryd.prog 49 #[.int .u8 (n : Int)] w fun e w' => e = .returned (.bool (smallN n)) ∧ w' = w := by
  go_enter Tryd.func49, Tryd.ntmps49
  go_wp2
  all_goals (go_ret; refine ⟨ret_bool ?_, rfl⟩; unfold smallN; rw [Bool.eq_iff_iff]; simp; omega)

theorem isDigit_any (n : Nat) (w : World) :
    Calls Tryd.prog 50 #[.int .u8 (n : Int)] w fun e w' => e = .returned (.bool (digitN n)) ∧ w' = w := by
  go_enter Tryd.func50, Tryd.ntmps50
  go_wp2
  all_goals (go_ret; refine ⟨ret_bool ?_, rfl⟩; unfold digitN; rw [Bool.eq_iff_iff]; simp; omega)

theorem wordS_not {s : ByteArray} (h : ¬ (1 ≤ s.size ∧ s.size ≤ 16 ∧ smallN (bt s 0) = true ∧ ∀ j, 1 ≤ j → j < s.size → restN (bt s j) = true)) : wordS s = false := by
  rw [← wordS_iff] at h
  simpa using h

theorem rest_more {s : ByteArray} {k a : Nat} (h : ∀ j, a ≤ j → j < k → restN (bt s j) = true) (hk : restN (bt s k) = true) : ∀ j, a ≤ j → j < k + 1 → restN (bt s j) = true := by
  intro j hj hl
  by_cases e : j < k
  · exact h j hj e
  · have : j = k := by omega
    rw [this]; exact hk

set_option maxHeartbeats 1000000 in
theorem isWord_any (s : ByteArray) (w : World) :
    Calls Tryd.prog 37 #[.string s] w fun e w' => e = .returned (.bool (wordS s)) ∧ w' = w := by
  by_cases h1 : 1 ≤ s.size
  · by_cases h16 : s.size ≤ 16
    · have b0 := bt_at s 0 h1
      go_enter Tryd.func37, Tryd.ntmps37
      go_wp2_with (first
        | (go_at_call 49; refine (isSmall_any _ _).mono ?_; rintro e w' ⟨rfl, hw⟩; have hw' := hw.symm; subst hw'; clear hw)
        | (go_at_call 50; refine (isDigit_any _ _).mono ?_; rintro e w' ⟨rfl, hw⟩; have hw' := hw.symm; subst hw'; clear hw))
      · have hb : smallN (bt s 0) = false := by
          rename_i hx
          rcases hx with hx | hx
          · omega
          · simpa using hx
        go_ret
        refine ⟨ret_bool (wordS_not ?_).symm, rfl⟩
        rintro ⟨_, _, h3, _⟩
        rw [hb] at h3
        cases h3
      · have hb : Hid (smallN (bt s 0) = true) := by
          rename_i hx _ _
          show _ = _
          simpa using hx.2
        rename_i hx _ _
        clear hx
        go_loopw [3] (fun i wr => ∃ k : Nat, 1 ≤ k ∧ k ≤ s.size ∧ i = .int .i64 k ∧ Hid (∀ j, 1 ≤ j → j < k → restN (bt s j) = true) ∧ wr = w) (fun i _ => s.size - (intOf i).toNat)
        case atStart => exact ⟨1, Nat.le_refl _, h1, rfl, fun j h1 h2 => by omega, rfl⟩
        case round =>
          obtain ⟨k, hk1, hk, rfl, hh, hw⟩ := hrel
          have hw' := hw.symm
          subst hw'
          by_cases hlt : k < s.size
          · have bk := bt_at s k hlt
            go_wp2_with (first
              | (go_at_call 49; refine (isSmall_any _ _).mono ?_; rintro e w' ⟨rfl, hw⟩; have hw' := hw.symm; subst hw'; clear hw)
              | (go_at_call 50; refine (isDigit_any _ _).mono ?_; rintro e w' ⟨rfl, hw⟩; have hw' := hw.symm; subst hw'; clear hw))
            · rename_i hx
              go_roundw
              case rel => exact ⟨k + 1, by omega, by omega, by go_num, rest_more hh.out (by simp [restN, hx]), trivial⟩
              case measure => simp [intOf]; omega
            · rename_i hx
              go_roundw
              case rel => exact ⟨k + 1, by omega, by omega, by go_num, rest_more hh.out (by simp [restN, hx]), trivial⟩
              case measure => simp [intOf]; omega
            · have hx2 : ¬ smallN (bt s k) = true := by assumption
              have hx1 : ¬ digitN (bt s k) = true := by assumption
              rename_i hx
              go_ret
              refine ⟨ret_bool (wordS_not ?_).symm, rfl⟩
              rintro ⟨_, _, _, h4⟩
              have := h4 k hk1 hlt
              have hne : bt s k ≠ 95 := by
                intro e
                rw [e] at hx
                exact absurd hx (by decide)
              simp [restN, hne] at this
              rcases this with h | h
              · exact hx2 h
              · exact hx1 h
            · rename_i hx
              have hne : bt s k = 95 := by
                have : ((bt s k : Nat) : Int) = 95 := by simpa using hx
                omega
              go_roundw
              case rel => exact ⟨k + 1, by omega, by omega, by go_num, rest_more hh.out (by simp [restN, hne]), trivial⟩
              case measure => simp [intOf]; omega
          · have hke : k = s.size := by omega
            subst hke
            go_wp2
            go_ret
            exact ⟨ret_bool ((wordS_iff s).2 ⟨h1, h16, hb.out, hh.out⟩).symm, rfl⟩
    · go_enter Tryd.func37, Tryd.ntmps37
      go_wp2
      go_ret
      exact ⟨ret_bool (wordS_not fun h => h16 h.2.1).symm, rfl⟩
  · go_enter Tryd.func37, Tryd.ntmps37
    go_wp2
    go_ret
    exact ⟨ret_bool (wordS_not fun h => h1 h.1).symm, rfl⟩

theorem ref_not {n k : Nat} (h : ¬ ((¬ (smallN n = true)) ∧ (k = 0 ∨ ¬ (digitN n = true ∨ n = 95)))) : (k = 0 → smallN n = true) ∧ restN n = true := by
  unfold restN
  by_cases h1 : smallN n = true <;> by_cases h2 : digitN n = true <;> by_cases h3 : n = 95 <;> simp_all

end Go.Proofs.YtcfhpodpkficaaaDoor.Vl
namespace Go.Proofs.YtcfhpodpkficaaaDoor.Vl
open Go.RowKit

/-- May a term be a constant? -/
def mayT (k : Int) (s : ByteArray) (n : Int) : Bool :=
  if k = 3 then s.toList.isEmpty && decide (-2147483648 ≤ n) && decide (n ≤ 2147483648)
  else if k = 2 then decide (n = 0) && wordS s else false

theorem below_box (w : World) (o : Obj) : Below w.heap.size w (w.alloc o) := (Below.refl _ _).alloc (Nat.le_refl _) o
theorem below_box2 (w : World) (o o' : Obj) : Below w.heap.size w ((w.alloc o).alloc o') := (below_box w o).alloc (by simp) o'

set_option maxHeartbeats 1000000 in
theorem may_any (k n : Int) (s : ByteArray) (w : World) :
    Calls Tryd.prog 24 #[.agg #[.int .i64 k, .string s, .int .i64 n]] w fun e w' => e = .returned (.bool (mayT k s n)) ∧ Below w.heap.size w w' := by
  by_cases h3 : k = 3
  · subst h3
    go_enter Tryd.func24, Tryd.ntmps24
    go_wp2
    all_goals (go_ret; refine ⟨ret_bool ?_, below_box _ _⟩; simp_all [mayT] <;> omega)
  · have h3' : (k == 3) = false := by simpa using h3
    by_cases h2 : k = 2
    · subst h2
      go_enter Tryd.func24, Tryd.ntmps24
      go_wp2_with (go_at_call 37; refine (isWord_any _ _).mono ?_; rintro e w' ⟨rfl, hw⟩; have hw' := hw.symm; subst hw'; clear hw)
      all_goals (go_ret; refine ⟨ret_bool ?_, below_box _ _⟩; simp_all [mayT])
    · have h2' : (k == 2) = false := by simpa using h2
      go_enter Tryd.func24, Tryd.ntmps24
      go_wp2
      all_goals (go_ret; refine ⟨ret_bool ?_, below_box _ _⟩; simp_all [mayT])

/-- How two constants are ordered; whether they are one. -/
def lessT (k : Int) (s : ByteArray) (x : Int) (k' : Int) (s' : ByteArray) (y : Int) : Bool :=
  if k = 3 then (if k' = 3 then decide (x < y) else true) else if k' = 3 then false else Op.bytesLess s.toList s'.toList
def eqT (k : Int) (s : ByteArray) (x : Int) (k' : Int) (s' : ByteArray) (y : Int) : Bool := decide (k = k') && decide (s.toList = s'.toList) && decide (x = y)

/-- A string's first bytes. -/
def cutS (s : ByteArray) (n : Nat) : ByteArray := if n < s.size then s.extract 0 n else s

end Go.Proofs.YtcfhpodpkficaaaDoor.Vl
