/- The law of variables: what it has in memory. The law of variables: which rules of its are safe. The law of variables: its literals pushed. The law of variables: its walk. -/
import Derived.Test.YtienpejlfjhnmaaPart10
import Derived.Test.YtienpejlfjhnmaaPart14
import Derived.Deep.CutRange
import Derived.Deep.RegionLaw
import Derived.Deep.RegionHeld3
import Derived.Deep.DrawnRows
namespace Go.Proofs.Ytienpejlfjhnmaa.Ck
open Go.RowKit
open Lx (tx)
open Vl (Tm Ts Fr)
open Sy

/-- What the law has in memory: the bools, their number, the rule so far. -/
structure Cv (w W : World) (bb nb hb rb n : Nat) (v : Value) (hT : Tm) (yb : Value) (zs : List (Sy.Lit × Value)) : Prop where
  bbx : Bx W bb 44 #[v]
  nbx : Bx W nb 3 #[.int .i64 (n : Int)]
  rbx : Bx W rb 32 #[.int .i64 1, .string ⟨#[104]⟩, .slice (some ⟨hb, 0, none⟩) 1 1, yb]
  hd : isTs W [hT] (.slice (some ⟨hb, 0, none⟩) 1 1)
  row : W.ownsRow w.heap.size 29 3 yb zs.length (cellsLz zs)
  tsz : ∀ z ∈ zs, isTs W z.1.2.2 z.2
  below : Below w.heap.size w W
theorem Cv.keep {w W W' : World} {bb nb hb rb n : Nat} {v : Value} {hT : Tm} {yb : Value} {zs : List (Sy.Lit × Value)} (h : Cv w W bb nb hb rb n v hT yb zs) (hb' : Below W.heap.size W W') : Cv w W' bb nb hb rb n v hT yb zs :=
  ⟨h.bbx.below hb', h.nbx.below hb', h.rbx.below hb', isTs_below h.hd hb', Lx.own_below h.row hb', fun z hz => isTs_below (h.tsz z hz) hb', h.below.trans (hb'.mono h.below.size)⟩

theorem one_term (w : World) (t : Tm) : isTs (w.alloc (.cells #[.int .i64 t.1, .string t.2.1, .int .i64 t.2.2] 46)) [t] (.slice (some ⟨w.heap.size, 0, none⟩) 1 1) :=
  ⟨by simp [Vl.cellsT], .inr ⟨w.heap.size, 1, _, rfl, Nat.zero_le _, heap_alloc_new _ _, Nat.le_refl _, by decide, rfl, rfl⟩⟩

/-- A row pushed at the end of a row. -/
theorem push_rows (t e size bytes : Nat) (z : Value) (ht : Try.prog.underlying t = some (.slice e)) (hi : (Try.prog.info? e).map (fun i => (i.zero, i.size, i.bytes)) = some (some z, size, bytes)) (hzs : z.cells.size = size) (hs0 : 0 < size) (hby : bytes ≤ 1000)
    {W : World} {base n : Nat} {v : Value} {xs : List Value} (h : W.ownsRow base e size v n xs) (m : Nat) (hm0 : 0 < m) (hm : m ≤ 100) (cs : List Value) (hc : cs.length = m * size) (h1 : ∀ u ∈ cs, u.oneCell' = true) (hl : n ≤ 1000000) (hbase : base ≤ W.heap.size) :
    ∃ g cap w3, (∀ ty, (Builtin.append_ #[t, t] ty #[v, .slice (some ⟨W.heap.size, 0, none⟩) m m]).run Try.prog (W.alloc (.cells cs.toArray e)) = .ok (.slice (some ⟨g, 0, none⟩) (n + m) cap) w3) ∧
      Hid (w3.ownsRow base e size (.slice (some ⟨g, 0, none⟩) (n + m) cap) (n + m) (xs ++ cs)) ∧ Hid (Fr (fun k => v.ownBlock = some k) W w3) := by
  obtain ⟨i, hi, hz, hsize, hbyt⟩ := info_parts hi
  have ha : (W.alloc (.cells cs.toArray e)).ownsRow base e size v n xs := h.alloc _
  have H := fun ty => run_append_own_at (P := Try.prog) (W.alloc (.cells cs.toArray e)) base t ty e i z size bytes ht hi hz hsize hbyt hzs hs0 v n xs ha ⟨W.heap.size, 0, none⟩ m m cs (by omega) (fun j u hj => by
    rw [Addr.add_lit, Nat.zero_add, cell_of_row _ _ j _ _ _ (heap_alloc_new _ _)]
    simpa using hj) h1 (by simp only [maxLen]; omega) (by
      have : (n + m) * bytes ≤ 1000100 * 1000 := Nat.mul_le_mul (by omega) hby
      omega) (by simp; omega)
  obtain ⟨v', w', hr, g1, g2, _, g4⟩ := H 0
  have hF : Fr (fun k => v.ownBlock = some k) W w' := ((Fr.refl (fun k => v.ownBlock = some k) W).alloc (.cells cs.toArray e)).trans (Vl.Fr.of_grown (F := fun k => v.ownBlock = some k) g2 (fun k hk => hk)) (fun _ _ e => e)
  rcases Lx.own_shape g1 with ⟨_, h0⟩ | ⟨g', cap, rfl, _⟩
  · omega
  · exact ⟨g', cap, w', fun ty => hr, g1, hF⟩

theorem cellsLz_app (a b : List (Sy.Lit × Value)) : cellsLz (a ++ b) = cellsLz a ++ cellsLz b := by simp [cellsLz]
theorem cellsLz_len (a : List (Sy.Lit × Value)) : (cellsLz a).length = a.length * 3 := by
  induction a with
  | nil => rfl
  | cons x l ih => simp only [cellsLz, List.flatMap_cons, List.length_append, List.length_cons, List.length_nil] at ih ⊢; omega

/-- Literals more at the end of the rule's body: the append, and the store. -/
theorem Cv_push {w W : World} {bb nb hb rb n : Nat} {v : Value} {hT : Tm} {yb : Value} {zs : List (Sy.Lit × Value)} (h : Cv w W bb nb hb rb n v hT yb zs) (hw : w.heap.size ≤ rb) (hz : zs.length ≤ 100) (new : List (Sy.Lit × Value)) (hn0 : 0 < new.length) (hn1 : new.length ≤ 100) (hzt : ∀ z ∈ new, isTs W z.1.2.2 z.2) :
    ∃ g cap w3, (∀ ty, (Builtin.append_ #[30, 30] ty #[yb, .slice (some ⟨W.heap.size, 0, none⟩) new.length new.length]).run Try.prog (W.alloc (.cells (cellsLz new).toArray 29)) = .ok (.slice (some ⟨g, 0, none⟩) (zs.length + new.length) cap) w3) ∧
      (w3.cell? ⟨rb, 3, none⟩ = some yb ∧ w3.frozen? ⟨rb, 3, none⟩ = false) ∧
      Hid (Cv w (w3.setCell ⟨rb, 3, none⟩ (.slice (some ⟨g, 0, none⟩) (zs.length + new.length) cap)) bb nb hb rb n v hT (.slice (some ⟨g, 0, none⟩) (zs.length + new.length) cap) (zs ++ new)) := by
  obtain ⟨g, cap, w3, hap, HO3, HF3⟩ := push_rows 30 29 3 48 _ Try.underlying30 Sy.Try.info29 rfl (by decide) (by decide) h.row new.length hn0 hn1 (cellsLz new) (cellsLz_len _) (by
    intro u hu
    simp only [cellsLz, List.mem_flatMap] at hu
    obtain ⟨z, hz, hu⟩ := hu
    rcases List.mem_cons.1 hu with rfl | hu
    · rfl
    rcases List.mem_cons.1 hu with rfl | hu
    · rfl
    rw [List.mem_singleton.1 hu]
    exact isTs_one (hzt z hz)) (by omega) h.below.size
  have hnot : ∀ {b : Nat} {T : TypeId} {cs : Array Value}, Bx W b T cs → T ≠ 29 → ¬ yb.ownBlock = some b := fun {b T cs} hb hT hk => by
    rcases h.row.2 with ⟨rfl, _⟩ | ⟨g', cap', cur, rfl, _, hg, _⟩
    · simp [Value.ownBlock] at hk
    · simp [Value.ownBlock] at hk
      subst hk
      have := hb.symm.trans hg
      simp only [Option.some.injEq, Obj.cells.injEq] at this
      exact hT this.2.1
  have hrow : ∀ j, yb.ownBlock = some j → w.heap.size ≤ j := fun j hj => (h.row.lt j hj).1
  have rb3 := h.rbx.fr HF3.out (hnot h.rbx (by decide))
  have hs : Fr (fun k => k = rb) w3 (w3.setCell ⟨rb, 3, none⟩ (.slice (some ⟨g, 0, none⟩) (zs.length + new.length) cap)) := Vl.Fr.one w3 rb 3 _
  have hne : ∀ {b : Nat} {T : TypeId} {cs : Array Value}, Bx w3 b T cs → T ≠ 32 → ¬ b = rb := fun {b T cs} hb hT e => by
    subst e
    have := hb.symm.trans rb3
    simp only [Option.some.injEq, Obj.cells.injEq] at this
    exact hT this.2.1
  have bb3 := h.bbx.fr HF3.out (hnot h.bbx (by decide))
  have nb3 := h.nbx.fr HF3.out (hnot h.nbx (by decide))
  refine ⟨g, cap, w3, hap, ⟨rb3.c 3, rb3.f 3⟩, ⟨bb3.fr hs (hne bb3 (by decide)), nb3.fr hs (hne nb3 (by decide)), rb3.set 3 _, isTs_put (isTs_grow h.hd h.row (by decide) HF3.out) rb3 (by decide) 3 _, ?_, fun y hy => ?_, ?_⟩⟩
  · rw [List.length_append, cellsLz_app]
    exact own_put HO3.out rb3 (by decide) 3 _
  · rcases List.mem_append.1 hy with hy | hy
    · exact isTs_put (isTs_grow (h.tsz y hy) h.row (by decide) HF3.out) rb3 (by decide) 3 _
    · exact isTs_put (isTs_grow (hzt y hy) h.row (by decide) HF3.out) rb3 (by decide) 3 _
  · exact (h.below.trans (HF3.out.below hrow h.below.size)).setCell (p := ⟨rb, 3, none⟩) hw _

/-- The body's literals that the bools say. -/
def bodyV (n : Nat) (L : List Bool) (k : Nat) : List Sy.Lit := (List.range k).filterMap fun i => if L.getD i false = true then some (1, ⟨#[98]⟩, [vT n (i : Int)]) else none
theorem bodyV_succ (n : Nat) (L : List Bool) (k : Nat) : bodyV n L (k + 1) = bodyV n L k ++ (if L.getD k false = true then [(1, ⟨#[98]⟩, [vT n (k : Int)])] else []) := by
  unfold bodyV
  rw [List.range_succ, List.filterMap_append]
  congr 1
  simp only [List.filterMap_cons, List.filterMap_nil]
  split <;> simp_all
theorem bodyV_len (n : Nat) (L : List Bool) (k : Nat) : (bodyV n L k).length ≤ k := by
  unfold bodyV
  have := List.length_filterMap_le (fun i => if L.getD i false = true then some ((1, ⟨#[98]⟩, [vT n (i : Int)]) : Sy.Lit) else none) (List.range k)
  simpa using this

theorem run_min4 (l n : Nat) (hn : n = min l 4) (ty : TypeId) (w : World) : (Builtin.min_ #[3, 3] ty #[.int .i64 (l : Int), .int .i64 4]).run Try.prog w = .ok (.int .i64 (n : Int)) w := by
  have e : (n : Int) = if (4 : Int) < (l : Int) then 4 else (l : Int) := by split <;> omega
  rw [e]
  rfl
end Go.Proofs.Ytienpejlfjhnmaa.Ck
namespace Go.Proofs.Ytienpejlfjhnmaa.Ck
open Go.RowKit
open Lx (tx)
open Vl (Tm Ts Fr)
open Sy

theorem tx_size (l : List UInt8) : (tx l).size = l.length := by simp [tx, ByteArray.size]
theorem tx_one (b : UInt8) : (tx [b]).size ≤ maxLen := by
  rw [tx_size]
  exact (show 1 ≤ maxLen by decide)
def nv (k : Nat) : Nm := ⟨tx [UInt8.ofNat (65 + k)], tx_one _⟩
theorem varN_vT (n : Nat) (i : Int) : varN (vT n i) = some (nv (at4 n i)) := by
  unfold varN vT
  rw [dif_pos ⟨rfl, tx_one _⟩]
  rfl
theorem varsT_one (n : Nat) (i : Int) : varsT [vT n i] = [nv (at4 n i)] := by simp [varsT, varN_vT]
theorem varsT_two (n : Nat) (i : Int) : varsT [vT n i, (3, ⟨#[]⟩, 3)] = [nv (at4 n i)] := by
  have h : varN ((3, ⟨#[]⟩, 3) : Tm) = none := by simp [varN]
  simp [varsT, varN_vT, h]
theorem nv_eq {j k : Nat} (hj : j < 4) (hk : k < 4) : ((nv k).1.data.toList == (nv j).1.data.toList) = decide (k = j) := by
  have : ∀ a < 4, ∀ b < 4, (([UInt8.ofNat (65 + a)] : List UInt8) == [UInt8.ofNat (65 + b)]) = decide (a = b) := by decide
  exact this k hk j hj
theorem at4_self {n k : Nat} (h : k < n) : at4 n (k : Int) = k := by
  unfold at4
  rw [Int.tmod_eq_of_lt (by omega) (by omega)]
  simp
theorem boundL_app (a b : List Sy.Lit) : boundL (a ++ b) = boundL a ++ boundL b := by simp [boundL]
theorem inS_app (a b : List Nm) (x : Nm) : inS (a ++ b) x = (inS a x || inS b x) := by simp [inS]
theorem inS_bodyV {n : Nat} (hn4 : n ≤ 4) (L : List Bool) {j : Nat} (hj : j < 4) : ∀ k, k ≤ n → inS (boundL (bodyV n L k)) (nv j) = (decide (j < k) && L.getD j false)
  | 0, _ => by simp [bodyV, boundL, inS]
  | k + 1, hk => by
    have ih := inS_bodyV hn4 L hj k (by omega)
    rw [bodyV_succ, boundL_app, inS_app, ih]
    have h2 : inS (boundL (if L.getD k false = true then [((1, ⟨#[98]⟩, [vT n (k : Int)]) : Sy.Lit)] else [])) (nv j) = (L.getD k false && decide (k = j)) := by
      cases hL : L.getD k false
      · simp [boundL, inS]
      · have h3 : boundL [((1, ⟨#[98]⟩, [vT n (k : Int)]) : Sy.Lit)] = [nv k] := by
          simp only [boundL, List.flatMap_cons, List.flatMap_nil, if_true, List.append_nil]
          rw [varsT_one, at4_self (by omega)]
        rw [if_pos rfl, h3]
        simp only [inS, List.any_cons, List.any_nil, Bool.or_false, Bool.true_and]
        exact nv_eq hj (by omega)
    rw [h2]
    by_cases h : k = j
    · subst h
      simp
    · have e1 : decide (k = j) = false := by simp [h]
      have e2 : decide (j < k + 1) = decide (j < k) := by
        by_cases h3 : j < k
        · simp [h3]; omega
        · simp [h3]; omega
      rw [e1, e2]
      simp
/-- The rule that the law makes. -/
def bodyE (n : Nat) (L : List Bool) (ng ls : Int) : List Sy.Lit := bodyV n L n ++ [((2, ⟨#[110]⟩, [vT n ng]) : Sy.Lit), ((5, ⟨#[]⟩, [vT n ls, (3, ⟨#[]⟩, 3)]) : Sy.Lit)]
theorem boundL_end (n : Nat) (ng ls : Int) : boundL [((2, ⟨#[110]⟩, [vT n ng]) : Sy.Lit), ((5, ⟨#[]⟩, [vT n ls, (3, ⟨#[]⟩, 3)]) : Sy.Lit)] = [] := by
  simp [boundL]
theorem inS_bodyE {n : Nat} (hn : 0 < n) (hn4 : n ≤ 4) (L : List Bool) (ng ls i : Int) : inS (boundL (bodyE n L ng ls)) (nv (at4 n i)) = L.getD (at4 n i) false := by
  have h := at4_lt hn i
  rw [bodyE, boundL_app, boundL_end, List.append_nil, inS_bodyV hn4 L (by omega) n (Nat.le_refl _)]
  simp [h]
theorem kinds_bodyV (n : Nat) (L : List Bool) (k : Nat) : ∀ l ∈ bodyV n L k, l.1 = 1 ∧ ∃ i : Nat, l.2.2 = [vT n (i : Int)] := by
  intro l hl
  simp only [bodyV, List.mem_filterMap] at hl
  obtain ⟨i, _, h⟩ := hl
  split at h
  · cases h
    exact ⟨rfl, i, rfl⟩
  · cases h
theorem safeR_vars {n : Nat} (hn : 0 < n) (hn4 : n ≤ 4) (L : List Bool) (hd ng ls : Int) (nm : ByteArray) :
    safeR ((1, nm, [vT n hd]), bodyE n L ng ls) = (L.getD (at4 n hd) false && (L.getD (at4 n ng) false && L.getD (at4 n ls) false)) := by
  unfold safeR
  simp only
  have hall : ∀ p : Sy.Lit → Bool, (∀ l ∈ bodyV n L n, p l = true) → (bodyE n L ng ls).all p = (p (2, ⟨#[110]⟩, [vT n ng]) && p (5, ⟨#[]⟩, [vT n ls, (3, ⟨#[]⟩, 3)])) := fun p hp => by
    rw [bodyE, List.all_append]
    have : (bodyV n L n).all p = true := List.all_eq_true.2 hp
    rw [this]
    simp
  rw [hall _ (fun l hl => by
    rw [(kinds_bodyV n L n l hl).1]
    rfl)]
  simp only [varsT_one, varsT_two, List.all_cons, List.all_nil, Bool.and_true, inS_bodyE hn hn4]
  rfl
theorem boundL_len (n : Nat) (L : List Bool) : ∀ k, (boundL (bodyV n L k)).length ≤ k
  | 0 => by simp [bodyV, boundL]
  | k + 1 => by
    have ih := boundL_len n L k
    rw [bodyV_succ, boundL_app, List.length_append]
    have : (boundL (if L.getD k false = true then [((1, ⟨#[98]⟩, [vT n (k : Int)]) : Sy.Lit)] else [])).length ≤ 1 := by
      cases L.getD k false
      · simp [boundL]
      · simp only [if_true, boundL, List.flatMap_cons, List.flatMap_nil, List.append_nil, varsT_one]
        exact Nat.le_refl _
    omega
theorem vT_size (n : Nat) (i : Int) : (vT n i).2.1.size ≤ maxLen := by
  show (tx [UInt8.ofNat (65 + at4 n i)]).size ≤ maxLen
  exact tx_one _
theorem few_vars {n : Nat} (hn4 : n ≤ 4) (L : List Bool) (hd ng ls : Int) (nm : ByteArray) : FewR ((1, nm, [vT n hd]), bodyE n L ng ls) := by
  have hone : ∀ i : Int, ∀ t ∈ [vT n i], t.2.1.size ≤ maxLen := fun i t ht => by
    rw [List.mem_singleton.1 ht]
    exact vT_size n i
  refine ⟨⟨by simp, hone hd⟩, ⟨?_, fun l hl => ?_, ?_⟩⟩
  · have := bodyV_len n L n
    simp only [bodyE, List.length_append, List.length_cons, List.length_nil]
    omega
  · rcases List.mem_append.1 hl with hl | hl
    · obtain ⟨_, i, hi⟩ := kinds_bodyV n L n l hl
      rw [hi]
      exact ⟨by simp, hone _⟩
    · rcases List.mem_cons.1 hl with rfl | hl
      · exact ⟨by simp, hone _⟩
      · rw [List.mem_singleton.1 hl]
        refine ⟨by simp, fun t ht => ?_⟩
        rcases List.mem_cons.1 ht with rfl | ht
        · exact vT_size n ls
        · rw [List.mem_singleton.1 ht]
          decide
  · have := boundL_len n L n
    rw [bodyE, boundL_app, boundL_end, List.append_nil]
    omega
end Go.Proofs.Ytienpejlfjhnmaa.Ck
namespace Go.Proofs.Ytienpejlfjhnmaa.Ck
open Go.RowKit
open Lx (tx)
open Vl (Tm Ts Fr)
open Sy

/-- v's answer, with its name a letter. -/
theorem v_one (n : Nat) (hn : 0 < n) (hn4 : n ≤ 4) (i : Int) (nb : Nat) (w : World) (hc : w.cell? ⟨nb, 0, none⟩ = some (.int .i64 (n : Int))) :
    Calls Try.prog 13 #[.int .i64 i, .pointer (some ⟨nb, 0, none⟩)] w fun e w' => ∃ S, e = .returned (.agg #[.int .i64 1, .string S, .int .i64 0]) ∧ Hid (vT n i = (1, S, 0)) ∧ Hid (Below w.heap.size w w') := by
  refine (v_any n hn hn4 i nb w hc).mono ?_
  rintro e w' ⟨rfl, hb⟩
  exact ⟨_, rfl, rfl, hb⟩
theorem bel_d {w W : World} (h : Below w.heap.size w W) : Below w.heap.size w W.drew := h.drew
theorem bel_a {w W : World} (h : Below w.heap.size w W) (o : Obj) : Below w.heap.size w (W.alloc o) := h.alloc h.size o

theorem bodyV_push {n : Nat} {L : List Bool} {i : Nat} {S : ByteArray} {y : Value} {zs : List (Sy.Lit × Value)} (hz : zs.map (·.1) = bodyV n L i) (hs : bodyV n L (i + 1) = bodyV n L i ++ (if true = true then [((1, ⟨#[98]⟩, [vT n (i : Int)]) : Sy.Lit)] else [])) (hS : vT n (i : Int) = (1, S, 0)) :
    (zs ++ [(((1, ⟨#[98]⟩, [(1, S, 0)]) : Sy.Lit), y)]).map (·.1) = bodyV n L (i + 1) := by
  rw [hs, List.map_append, hz, hS]
  rfl

/-- One literal more of the name b. -/
theorem Cv_push1 {w w3 : World} {bb nb hb rb n : Nat} {v : Value} {hT : Tm} {yb : Value} {zs : List (Sy.Lit × Value)} (h : Cv w w3 bb nb hb rb n v hT yb zs) (hw : w.heap.size ≤ rb) (hz : zs.length ≤ 100) (S : ByteArray) :
    ∃ g cap w4, (∀ ty, (Builtin.append_ #[30, 30] ty #[yb, .slice (some ⟨w3.heap.size + 1, 0, none⟩) 1 1]).run Try.prog ((w3.alloc (.cells #[.int .i64 1, .string S, .int .i64 0] 46)).alloc (.cells #[.int .i64 1, .string ⟨#[98]⟩, .slice (some ⟨w3.heap.size, 0, none⟩) 1 1] 29)) = .ok (.slice (some ⟨g, 0, none⟩) (zs.length + 1) cap) w4) ∧
      (w4.cell? ⟨rb, 3, none⟩ = some yb ∧ w4.frozen? ⟨rb, 3, none⟩ = false) ∧
      Hid (Cv w (w4.setCell ⟨rb, 3, none⟩ (.slice (some ⟨g, 0, none⟩) (zs.length + 1) cap)) bb nb hb rb n v hT (.slice (some ⟨g, 0, none⟩) (zs.length + 1) cap) (zs ++ [((1, ⟨#[98]⟩, [(1, S, 0)]), .slice (some ⟨w3.heap.size, 0, none⟩) 1 1)])) := by
  obtain ⟨g, cap, w4, hap, hst, HC⟩ := Cv_push (h.keep (Lx.below_box w3 (.cells #[.int .i64 1, .string S, .int .i64 0] 46))) hw hz [((1, ⟨#[98]⟩, [(1, S, 0)]), .slice (some ⟨w3.heap.size, 0, none⟩) 1 1)] (Nat.succ_pos _) (show 1 ≤ 100 by decide) (fun z hz => by
    rw [List.mem_singleton.1 hz]
    exact one_term w3 (1, S, 0))
  refine ⟨g, cap, w4, fun ty => ?_, hst, HC⟩
  have := hap ty
  rw [World.size_alloc] at this
  exact this

theorem step_append_at {P : Program} {ops : Array Oper} {o : Oper} {a : Act} {w w0 : World} {K : Act → World → Prop} {Q : Exit → Act → World → Prop} {E : Prop} (hw : w = w0)
    (hg : o.guard = none) (d x : Operand) (dT sT : TypeId) (hop : o.op = Op.call { callee := Callee.builtin Builtin.append, args := #[d, x], argTypes := #[dT, sT] })
    (v u : Value) (hd : a.eval d = v) (hx : a.eval x = u) {v' : Value} {w' : World} (hr : (Builtin.append_ #[dT, sT] o.type #[v, u]).run P w0 = .ok v' w') (hK : K (a.put o.dst v') w') :
    if Region.wanted o (yielded ops a.tmps) = true then Oper.wp P o a w K Q else E := by
  subst hw
  exact Vl.step_append_run hg d x dT sT hop v u hd hx hr hK

theorem two_terms (w : World) (S : ByteArray) : isTs (w.alloc (.cells #[.int .i64 1, .string S, .int .i64 0, .int .i64 3, .string ⟨#[]⟩, .int .i64 3] 46)) [(1, S, 0), (3, ⟨#[]⟩, 3)] (.slice (some ⟨w.heap.size, 0, none⟩) 2 2) :=
  ⟨by simp [Vl.cellsT], .inr ⟨w.heap.size, 2, _, rfl, Nat.zero_le _, heap_alloc_new _ _, Nat.le_refl _, by decide, rfl, rfl⟩⟩
def new2 (S3 S5 : ByteArray) (a b : Nat) : List (Sy.Lit × Value) := [((2, ⟨#[110]⟩, [(1, S3, 0)]), .slice (some ⟨a, 0, none⟩) 1 1), ((5, ⟨#[]⟩, [(1, S5, 0), (3, ⟨#[]⟩, 3)]), .slice (some ⟨b, 0, none⟩) 2 2)]
theorem new2_body {n : Nat} {L : List Bool} {ng ls : Int} {S3 S5 : ByteArray} {zs : List (Sy.Lit × Value)} (hz : zs.map (·.1) = bodyV n L n) (h3 : vT n ng = (1, S3, 0)) (h5 : vT n ls = (1, S5, 0)) (a b : Nat) : (zs ++ new2 S3 S5 a b).map (·.1) = bodyE n L ng ls := by
  rw [List.map_append, hz, bodyE, h3, h5]
  rfl
/-- The last two literals, wherever their terms lie. -/
theorem Cv_push2 {w W : World} {bb nb hb rb n : Nat} {v : Value} {hT : Tm} {yb : Value} {zs : List (Sy.Lit × Value)} (h : Cv w W bb nb hb rb n v hT yb zs) (hw : w.heap.size ≤ rb) (hz : zs.length ≤ 100) {S3 S5 : ByteArray} {a b : Nat} (ha : isTs W [(1, S3, 0)] (.slice (some ⟨a, 0, none⟩) 1 1)) (hb' : isTs W [(1, S5, 0), (3, ⟨#[]⟩, 3)] (.slice (some ⟨b, 0, none⟩) 2 2)) :
    ∃ g cap w6, (∀ ty, (Builtin.append_ #[30, 30] ty #[yb, .slice (some ⟨W.heap.size, 0, none⟩) 2 2]).run Try.prog (W.alloc (.cells #[.int .i64 2, .string ⟨#[110]⟩, .slice (some ⟨a, 0, none⟩) 1 1, .int .i64 5, .string ⟨#[]⟩, .slice (some ⟨b, 0, none⟩) 2 2] 29)) = .ok (.slice (some ⟨g, 0, none⟩) (zs.length + 2) cap) w6) ∧
      (w6.cell? ⟨rb, 3, none⟩ = some yb ∧ w6.frozen? ⟨rb, 3, none⟩ = false) ∧
      Hid (Cv w (w6.setCell ⟨rb, 3, none⟩ (.slice (some ⟨g, 0, none⟩) (zs.length + 2) cap)) bb nb hb rb n v hT (.slice (some ⟨g, 0, none⟩) (zs.length + 2) cap) (zs ++ new2 S3 S5 a b)) :=
  Cv_push h hw hz (new2 S3 S5 a b) (Nat.succ_pos _) (show 2 ≤ 100 by decide) (fun z hz => by
    rcases List.mem_cons.1 hz with rfl | hz
    · exact ha
    · rw [List.mem_singleton.1 hz]
      exact hb')
abbrev oA (S : ByteArray) : Obj := .cells #[.int .i64 1, .string S, .int .i64 0] 46
abbrev oB (S : ByteArray) : Obj := .cells #[.int .i64 1, .string S, .int .i64 0, .int .i64 3, .string ⟨#[]⟩, .int .i64 3] 46
theorem p1 {w W0 w3 w5 : World} {bb nb hb rb n : Nat} {v : Value} {hT : Tm} {yb : Value} {zs : List (Sy.Lit × Value)} (h : Cv w W0 bb nb hb rb n v hT yb zs) (hw : w.heap.size ≤ rb) (hz : zs.length ≤ 100) (S3 S5 : ByteArray) (H3 : Below W0.heap.size W0 w3) (H5 : Below (w3.alloc (oA S3)).heap.size (w3.alloc (oA S3)) w5) :
    ∃ g cap w6, (∀ ty, (Builtin.append_ #[30, 30] ty #[yb, .slice (some ⟨w5.heap.size + 1, 0, none⟩) 2 2]).run Try.prog ((w5.alloc (.cells #[.int .i64 1, .string S5, .int .i64 0, .int .i64 3, .string ⟨#[]⟩, .int .i64 3] 46)).alloc (.cells #[.int .i64 2, .string ⟨#[110]⟩, .slice (some ⟨w3.heap.size, 0, none⟩) 1 1, .int .i64 5, .string ⟨#[]⟩, .slice (some ⟨w5.heap.size, 0, none⟩) 2 2] 29)) = .ok (.slice (some ⟨g, 0, none⟩) (zs.length + 2) cap) w6) ∧
      (w6.cell? ⟨rb, 3, none⟩ = some yb ∧ w6.frozen? ⟨rb, 3, none⟩ = false) ∧
      Hid (Cv w (w6.setCell ⟨rb, 3, none⟩ (.slice (some ⟨g, 0, none⟩) (zs.length + 2) cap)) bb nb hb rb n v hT (.slice (some ⟨g, 0, none⟩) (zs.length + 2) cap) (zs ++ new2 S3 S5 w3.heap.size w5.heap.size)) := by
  have hk := (((h.keep H3).keep (Lx.below_box w3 (oA S3))).keep H5).keep (Lx.below_box w5 (oB S5))
  have := Cv_push2 hk hw hz (isTs_below (isTs_below (one_term w3 (1, S3, 0)) H5) (Lx.below_box w5 (oB S5))) (two_terms w5 S5)
  rw [World.size_alloc] at this
  exact this
theorem p2 {w W0 w3 w5 : World} {bb nb hb rb n : Nat} {v : Value} {hT : Tm} {yb : Value} {zs : List (Sy.Lit × Value)} (h : Cv w W0 bb nb hb rb n v hT yb zs) (hw : w.heap.size ≤ rb) (hz : zs.length ≤ 100) (S3 S5 : ByteArray) (H3 : Below W0.heap.size W0 w3) (H5 : Below w3.heap.size w3 w5) :
    ∃ g cap w6, (∀ ty, (Builtin.append_ #[30, 30] ty #[yb, .slice (some ⟨w5.heap.size + 1 + 1, 0, none⟩) 2 2]).run Try.prog (((w5.alloc (.cells #[.int .i64 1, .string S3, .int .i64 0] 46)).alloc (.cells #[.int .i64 1, .string S5, .int .i64 0, .int .i64 3, .string ⟨#[]⟩, .int .i64 3] 46)).alloc (.cells #[.int .i64 2, .string ⟨#[110]⟩, .slice (some ⟨w5.heap.size, 0, none⟩) 1 1, .int .i64 5, .string ⟨#[]⟩, .slice (some ⟨w5.heap.size + 1, 0, none⟩) 2 2] 29)) = .ok (.slice (some ⟨g, 0, none⟩) (zs.length + 2) cap) w6) ∧
      (w6.cell? ⟨rb, 3, none⟩ = some yb ∧ w6.frozen? ⟨rb, 3, none⟩ = false) ∧
      Hid (Cv w (w6.setCell ⟨rb, 3, none⟩ (.slice (some ⟨g, 0, none⟩) (zs.length + 2) cap)) bb nb hb rb n v hT (.slice (some ⟨g, 0, none⟩) (zs.length + 2) cap) (zs ++ new2 S3 S5 w5.heap.size (w5.heap.size + 1))) := by
  have hk := ((h.keep H3).keep H5).keep (Vl.below_box2 w5 (oA S3) (oB S5))
  have h2 := two_terms (w5.alloc (oA S3)) S5
  rw [World.size_alloc] at h2
  have := Cv_push2 hk hw hz (isTs_below (one_term w5 (1, S3, 0)) (Lx.below_box _ (oB S5))) h2
  rw [World.size_alloc, World.size_alloc] at this
  exact this
theorem p3 {w W0 w3 w5 : World} {bb nb hb rb n : Nat} {v : Value} {hT : Tm} {yb : Value} {zs : List (Sy.Lit × Value)} (h : Cv w W0 bb nb hb rb n v hT yb zs) (hw : w.heap.size ≤ rb) (hz : zs.length ≤ 100) (S3 S5 : ByteArray) (H3 : Below W0.heap.size W0 w3) (H5 : Below w3.heap.size w3 w5) :
    ∃ g cap w6, (∀ ty, (Builtin.append_ #[30, 30] ty #[yb, .slice (some ⟨w5.heap.size + 1 + 1, 0, none⟩) 2 2]).run Try.prog (((w5.alloc (.cells #[.int .i64 1, .string S5, .int .i64 0, .int .i64 3, .string ⟨#[]⟩, .int .i64 3] 46)).alloc (.cells #[.int .i64 1, .string S3, .int .i64 0] 46)).alloc (.cells #[.int .i64 2, .string ⟨#[110]⟩, .slice (some ⟨w5.heap.size + 1, 0, none⟩) 1 1, .int .i64 5, .string ⟨#[]⟩, .slice (some ⟨w5.heap.size, 0, none⟩) 2 2] 29)) = .ok (.slice (some ⟨g, 0, none⟩) (zs.length + 2) cap) w6) ∧
      (w6.cell? ⟨rb, 3, none⟩ = some yb ∧ w6.frozen? ⟨rb, 3, none⟩ = false) ∧
      Hid (Cv w (w6.setCell ⟨rb, 3, none⟩ (.slice (some ⟨g, 0, none⟩) (zs.length + 2) cap)) bb nb hb rb n v hT (.slice (some ⟨g, 0, none⟩) (zs.length + 2) cap) (zs ++ new2 S3 S5 (w5.heap.size + 1) w5.heap.size)) := by
  have hk := ((h.keep H3).keep H5).keep (Vl.below_box2 w5 (oB S5) (oA S3))
  have h1 := one_term (w5.alloc (oB S5)) (1, S3, 0)
  rw [World.size_alloc] at h1
  have := Cv_push2 hk hw hz h1 (isTs_below (two_terms w5 S5) (Lx.below_box _ (oA S3)))
  rw [World.size_alloc, World.size_alloc] at this
  exact this

end Go.Proofs.Ytienpejlfjhnmaa.Ck
namespace Go.Proofs.Ytienpejlfjhnmaa.Ck
open Go.RowKit
open Lx (tx)
open Vl (Tm Ts Fr)
open Sy
attribute [local go_sem ↓] Go.wp_at_zero Go.wp_at_succ

set_option maxRecDepth 10000 in
set_option maxHeartbeats 16000000 in
theorem vars_law (L : List Bool) (v : Value) (hd ng ls : Int) (w : World) (hv : Bls w v L) :
    Calls Try.prog 4 #[v, .int .i64 hd, .int .i64 ng, .int .i64 ls] w fun e w' => e = .returned (.bool true) ∧ Below w.heap.size w w' := by
  have HV := hide hv
  obtain ⟨ao, cap, rfl, hml, hcs⟩ := hv
  have HBg := hide fun W => begun_any W
  clear hcs
  have B0 := hide (Bx.new w #[.slice ao L.length cap] 44)
  have H0 := hide (Lx.below_box w (.cells #[.slice ao L.length cap] 44))
  go_enter Try.func4, Try.ntmps4
  go_wp2_with fail
  refine Calls.mono (HBg.out _) ?_
  rintro e w1 ⟨rfl, hb1⟩
  have B1 := hide (B0.out.below hb1)
  have H1 := hide (H0.out.trans (hb1.mono H0.out.size))
  have hwb : w.heap.size < w1.heap.size := B1.out.lt
  have c0 := B1.out.c 0
  simp only [List.getElem?_toArray, List.getElem?_cons_zero] at c0
  clear B0 H0 hb1 HBg
  by_cases hL0 : L = []
  · subst hL0
    go_wp2_with fail
    go_ret
    exact ⟨rfl, (H1.out.alloc (by omega) _)⟩
  · have hLp : 0 < L.length := List.length_pos_iff.2 hL0
    obtain ⟨n, hn⟩ : ∃ n, n = min L.length 4 := ⟨_, rfl⟩
    have hn1 : 0 < n := by omega
    have hn4 : n ≤ 4 := by omega
    have hnL : n ≤ L.length := by omega
    have hmin : (Builtin.min_ #[3, 3] 3 #[.int .i64 (L.length : Int), .int .i64 4]).run Try.prog w1 = .ok (.int .i64 (n : Int)) w1 := run_min4 _ _ hn _ _
    clear hn hL0
    go_wp2_with fail
    refine Calls.mono (v_one n hn1 hn4 hd w1.heap.size _ ((Bx.new w1 #[.int .i64 (n : Int)] 3).c 0)) ?_
    rintro e w2 ⟨S, rfl, HS, hb2⟩
    have hs2 : w1.heap.size + 1 ≤ w2.heap.size := by have := hb2.out.size; simpa using this
    have B2 := hide ((B1.out.below (Lx.below_box w1 (.cells #[.int .i64 (n : Int)] 3))).below hb2.out)
    have N2 := hide ((Bx.new w1 #[.int .i64 (n : Int)] 3).below hb2.out)
    have H2 := hide ((H1.out.alloc H1.out.size (.cells #[.int .i64 (n : Int)] 3)).trans (hb2.out.mono (H1.out.alloc H1.out.size _).size))
    clear B1 H1 c0 hb2 hmin
    have hT1 := one_term w2 (1, S, 0)
    have hR1 := Bx.new (w2.alloc (.cells #[.int .i64 1, .string S, .int .i64 0] 46)) #[.int .i64 1, .string ⟨#[104]⟩, .slice (some ⟨w2.heap.size, 0, none⟩) 1 1, .slice none 0 0] 32
    rw [World.size_alloc] at hR1
    have C0 : Hid (Cv w ((w2.alloc (.cells #[.int .i64 1, .string S, .int .i64 0] 46)).alloc (.cells #[.int .i64 1, .string ⟨#[104]⟩, .slice (some ⟨w2.heap.size, 0, none⟩) 1 1, .slice none 0 0] 32)) w.heap.size w1.heap.size w2.heap.size (w2.heap.size + 1) n (.slice ao L.length cap) (1, S, 0) (.slice none 0 0) []) :=
      ⟨B2.out.below (Vl.below_box2 _ _ _), N2.out.below (Vl.below_box2 _ _ _), hR1, isTs_below hT1 (Lx.below_box _ _), ⟨by simp [cellsLz], .inl ⟨rfl, rfl⟩⟩, by simp, H2.out.trans ((Vl.below_box2 _ _ _).mono H2.out.size)⟩
    have HHV := hide (fun (W : World) (h : Below w.heap.size w W) => HV.out.below h)
    obtain ⟨ao', cap', hao, _, hcs⟩ := HV.out
    obtain ⟨g, off, rfl, _⟩ := hcs hLp
    cases hao
    clear hcs hT1 hR1 B2 N2 H2
    go_wp2_with fail
    go_loopw [13] (fun iv wr => ∃ (i : Nat) (yb : Value) (zs : List (Sy.Lit × Value)), iv = .int .i64 i ∧ i ≤ n ∧ Hid (Cv w wr w.heap.size w1.heap.size w2.heap.size (w2.heap.size + 1) n (.slice (some ⟨g, off, none⟩) L.length cap) (1, S, 0) yb zs) ∧ Hid (zs.map (·.1) = bodyV n L i)) (fun iv _ => n - (intOf iv).toNat)
    case atStart => exact ⟨0, _, [], rfl, Nat.zero_le _, C0, rfl⟩
    case round =>
      obtain ⟨i, yb, zs, rfl, hi, HC, HZ⟩ := hrel
      have hzl : zs.length ≤ 4 := by
        have h1 := congrArg List.length HZ.out
        rw [List.length_map] at h1
        have h2 := bodyV_len n L i
        omega
      obtain ⟨_, aob, capb, rfl⟩ := own_len HC.out.row
      have cb : wr.cell? ⟨w.heap.size, 0, none⟩ = some (.slice (some ⟨g, off, none⟩) L.length cap) := HC.out.bbx.c 0
      have cn : wr.cell? ⟨w1.heap.size, 0, none⟩ = some (.int .i64 (n : Int)) := HC.out.nbx.c 0
      have c3 : wr.cell? ⟨w2.heap.size + 1, 3, none⟩ = some (.slice aob zs.length capb) := HC.out.rbx.c 3
      have f3 : wr.frozen? ⟨w2.heap.size + 1, 3, none⟩ = false := HC.out.rbx.f 3
      by_cases hlt : i < n
      · have hltI : (i : Int) < (n : Int) := by omega
        have hiL : i < L.length := by omega
        have hiLI : (i : Int) < (L.length : Int) := by omega
        have k0 : wr.cell? ⟨g, off + i, none⟩ = some (.bool L[i]) := by
          obtain ⟨ao', cap', hao, _, hcs⟩ := HHV.out wr HC.out.below
          obtain ⟨g', off', hg, hc⟩ := hcs hLp
          cases hao
          cases hg
          exact hc i hiL
        have HBS := hide (bodyV_succ n L i)
        have HG : Hid (L.getD i false = L[i]) := by show _ = _; simp [hiL]
        rw [HG.out] at HBS
        clear HG
        generalize L[i] = bl at *
        cases bl with
        | false =>
          go_wp2_with fail
          go_roundw
          case rel => exact ⟨i + 1, _, zs, by go_num, by omega, HC, by show _ = _; rw [HZ.out, HBS.out]; simp⟩
          case measure => simp [intOf]; omega
        | true =>
          have HVi : Hid (∀ W, Below wr.heap.size wr W → Calls Try.prog 13 #[.int .i64 (i : Int), .pointer (some ⟨w1.heap.size, 0, none⟩)] W fun e w' => ∃ S, e = .returned (.agg #[.int .i64 1, .string S, .int .i64 0]) ∧ Hid (vT n (i : Int) = (1, S, 0)) ∧ Hid (Below W.heap.size W w')) := fun W hW => v_one n hn1 hn4 (i : Int) w1.heap.size W (cell_below' cn hW)
          go_wp2_with fail
          refine wp_region_noPanic ?_
          go_region_law (first
              | (go_simp; go_at_call 13; refine Calls.mono (HVi.out _ (Below.refl _ _).drew) ?_; rintro e w3 ⟨S3, rfl, HS3, hb3⟩; have HB3 : Hid (Below wr.heap.size wr w3) := (Below.refl _ wr).drew.trans hb3.out; have m3 := cell_below' c3 HB3.out; have m3a : ∀ o, (w3.alloc o).cell? ⟨w2.heap.size + 1, 3, none⟩ = some (.slice aob zs.length capb) := fun o => cell_below' m3 (Lx.below_box _ o); have m3b : ∀ o o', ((w3.alloc o).alloc o').cell? ⟨w2.heap.size + 1, 3, none⟩ = some (.slice aob zs.length capb) := fun o o' => cell_below' m3 (Vl.below_box2 _ o o'); obtain ⟨g4, cap4, w4, hap, hst, HC4⟩ := Cv_push1 (HC.out.keep HB3.out) (by omega) (by omega) S3; clear hb3)
              | (refine Vl.step_append_run (by rfl) (.tmp 40) (.tmp 46) 30 30 (by rfl) _ _ (by rfl) (by rfl) (hap _) ?_))
          all_goals
            refine NoPanic.normal ?_
            have HZ4 := hide (bodyV_push (y := .slice (some ⟨w3.heap.size, 0, none⟩) 1 1) HZ.out HBS.out HS3.out)
            clear hap hst m3 m3a m3b HVi HC
            go_wp2_with fail
            go_roundw
            case rel => exact ⟨i + 1, _, _, by go_num, by omega, by simpa using HC4, HZ4⟩
            case measure => simp [intOf]; omega
      · have hltI : ¬ (i : Int) < (n : Int) := by omega
        have hin : i = n := by omega
        rw [hin] at HZ
        have HVa : Hid (∀ W, Below wr.heap.size wr W → Calls Try.prog 13 #[.int .i64 ng, .pointer (some ⟨w1.heap.size, 0, none⟩)] W fun e w' => ∃ S, e = .returned (.agg #[.int .i64 1, .string S, .int .i64 0]) ∧ Hid (vT n ng = (1, S, 0)) ∧ Hid (Below W.heap.size W w')) := fun W hW => v_one n hn1 hn4 ng w1.heap.size W (cell_below' cn hW)
        have HVb : Hid (∀ W, Below wr.heap.size wr W → Calls Try.prog 13 #[.int .i64 ls, .pointer (some ⟨w1.heap.size, 0, none⟩)] W fun e w' => ∃ S, e = .returned (.agg #[.int .i64 1, .string S, .int .i64 0]) ∧ Hid (vT n ls = (1, S, 0)) ∧ Hid (Below W.heap.size W w')) := fun W hW => v_one n hn1 hn4 ls w1.heap.size W (cell_below' cn hW)
        clear hin
        go_upto_region 14 with fail
        go_cut [63] from 49 to 64 (fun _ wc => ∃ yb zs, Hid (Cv w wc w.heap.size w1.heap.size w2.heap.size (w2.heap.size + 1) n (.slice (some ⟨g, off, none⟩) L.length cap) (1, S, 0) yb zs) ∧ Hid (zs.map (fun x : Sy.Lit × Value => x.1) = bodyE n L ng ls))
        case first =>
          rename_i b3 KK b2 JJ KK' b1 b0
          clear b3 b2 C0 HHV HV HS cb cn hltI hlt
          have hrbw : w.heap.size ≤ w2.heap.size + 1 := by omega
          have hzl' : zs.length ≤ 100 := by omega
          refine wp_region_noPanic ?_
          go_region_law (first
              | (have hpp := p1 HC.out hrbw hzl' S3 S5 HB3.out hb5a.out; obtain ⟨g6, cap6, w6, hap, hst, HC6⟩ := hpp; refine step_append_at (by with_reducible rfl) (by rfl) (.tmp 50) (.tmp 62) 30 30 (by rfl) _ _ (by rfl) (by rfl) (hap _) ?_)
              | (have hpp := p2 HC.out hrbw hzl' S3 S5 HB3.out hb5b.out; obtain ⟨g6, cap6, w6, hap, hst, HC6⟩ := hpp; refine step_append_at (by with_reducible rfl) (by rfl) (.tmp 50) (.tmp 62) 30 30 (by rfl) _ _ (by rfl) (by rfl) (hap _) ?_)
              | (have hpp := p3 HC.out hrbw hzl' S3 S5 HB3.out hb5b.out; obtain ⟨g6, cap6, w6, hap, hst, HC6⟩ := hpp; refine step_append_at (by with_reducible rfl) (by rfl) (.tmp 50) (.tmp 62) 30 30 (by rfl) _ _ (by rfl) (by rfl) (hap _) ?_)
              | (have HS3' := HS3; go_simp; go_at_call 13; (with_reducible refine Calls.mono (HVb.out w3 HB3.out) ?_); rintro e w5 ⟨S5, rfl, HS5, hb5b⟩; clear HS3'; have HB5 : Hid (Below wr.heap.size wr w5) := HB3.out.trans (hb5b.out.mono HB3.out.size); have m5 := cell_below' c3 HB5.out; have m5a : ∀ o, (w5.alloc o).cell? ⟨w2.heap.size + 1, 3, none⟩ = some (.slice aob zs.length capb) := fun o => cell_below' m5 (Lx.below_box _ o); have m5b : ∀ o o', ((w5.alloc o).alloc o').cell? ⟨w2.heap.size + 1, 3, none⟩ = some (.slice aob zs.length capb) := fun o o' => cell_below' m5 (Vl.below_box2 _ o o'); have m5c : ∀ o o' o'', (((w5.alloc o).alloc o').alloc o'').cell? ⟨w2.heap.size + 1, 3, none⟩ = some (.slice aob zs.length capb) := fun o o' o'' => cell_below' (m5b o o') (Lx.below_box _ o''))
              | (have HS3' := HS3; go_simp; go_at_call 13; (with_reducible refine Calls.mono (HVb.out (w3.alloc (.cells #[.int .i64 1, .string S3, .int .i64 0] 46)) (bel_a HB3.out _)) ?_); rintro e w5 ⟨S5, rfl, HS5, hb5a⟩; clear HS3'; have HB5 : Hid (Below wr.heap.size wr w5) := (bel_a HB3.out _).trans (hb5a.out.mono (bel_a HB3.out _).size); have m5 := cell_below' c3 HB5.out; have m5a : ∀ o, (w5.alloc o).cell? ⟨w2.heap.size + 1, 3, none⟩ = some (.slice aob zs.length capb) := fun o => cell_below' m5 (Lx.below_box _ o); have m5b : ∀ o o', ((w5.alloc o).alloc o').cell? ⟨w2.heap.size + 1, 3, none⟩ = some (.slice aob zs.length capb) := fun o o' => cell_below' m5 (Vl.below_box2 _ o o'); have m5c : ∀ o o' o'', (((w5.alloc o).alloc o').alloc o'').cell? ⟨w2.heap.size + 1, 3, none⟩ = some (.slice aob zs.length capb) := fun o o' o'' => cell_below' (m5b o o') (Lx.below_box _ o''))
              | (go_simp; go_at_call 13; (with_reducible refine Calls.mono (HVa.out wr.drew (Below.refl _ _).drew) ?_); rintro e w3 ⟨S3, rfl, HS3, hb3⟩; have HB3 : Hid (Below wr.heap.size wr w3) := (Below.refl _ wr).drew.trans hb3.out; have m3 := cell_below' c3 HB3.out; have m3a : ∀ o, (w3.alloc o).cell? ⟨w2.heap.size + 1, 3, none⟩ = some (.slice aob zs.length capb) := fun o => cell_below' m3 (Lx.below_box _ o); clear hb3))
          all_goals
            refine NoPanic.normal ?_
            have HZ6 := hide (new2_body HZ.out HS3.out HS5.out)
            clear hap hst m3 m3a m5 m5a m5b m5c HVa HVb HC
            go_wp2_with fail
            go_meet
            exact ⟨_, _, HC6, HZ6.out _ _⟩
        case rest =>
          obtain ⟨yb5, zs5, HC5, HZ5⟩ := hcut
          clear HVa HVb HC HZ c3 f3 cb cn
          obtain ⟨⟨d0, d1, d2, d3⟩, _, _, _, _⟩ := HC5.out.rbx.four
          have HR : Hid (isRul wc ((1, ⟨#[104]⟩, [vT n hd]), bodyE n L ng ls) (.agg #[.int .i64 1, .string ⟨#[104]⟩, .slice (some ⟨w2.heap.size, 0, none⟩) 1 1, yb5])) := by
            refine ⟨_, _, rfl, ?_, zs5, HZ5.out, Vl.own_zero HC5.out.row, HC5.out.tsz⟩
            show isTs wc [vT n hd] _
            rw [HS.out]
            exact HC5.out.hd
          have HSf := hide (safe_any HR.out (few_vars hn4 L hd ng ls ⟨#[104]⟩))
          have HM := hide (safeR_vars hn1 hn4 L hd ng ls ⟨#[104]⟩)
          have HI : Hid (∀ (W : World), Below wc.heap.size wc W → ∀ i : Int, Calls Try.prog 14 #[.int .i64 i, .pointer (some ⟨w1.heap.size, 0, none⟩), .pointer (some ⟨w.heap.size, 0, none⟩)] W fun e w' => e = .returned (.bool (L.getD (at4 n i) false)) ∧ w' = W) := fun W hW i =>
            in_any n hn1 hn4 i w1.heap.size w.heap.size L _ W (cell_below' (HC5.out.nbx.c 0) hW) (cell_below' (HC5.out.bbx.c 0) hW) (HHV.out W (HC5.out.below.trans (hW.mono HC5.out.below.size))) hnL
          generalize safeR ((1, ⟨#[104]⟩, [vT n hd]), bodyE n L ng ls) = sR at *
          have HI1 := hide (fun W hW => HI.out W hW hd)
          have HI2 := hide (fun W hW => HI.out W hW ng)
          have HI3 := hide (fun W hW => HI.out W hW ls)
          clear HI
          generalize L.getD (at4 n hd) false = b1 at *
          generalize L.getD (at4 n ng) false = b2 at *
          generalize L.getD (at4 n ls) false = b3 at *
          go_wp2_with fail
          refine Calls.mono HSf.out ?_
          rintro e w7 ⟨rfl, hb7⟩
          have HB7 := hide hb7
          have HB8 := hide (HC5.out.below.trans (hb7.mono HC5.out.below.size))
          clear hb7 HSf d0 d1 d2 d3
          go_wp2_with fail
          refine Calls.mono (HI1.out _ HB7.out) ?_
          rintro e w8 ⟨rfl, hw8⟩
          have hw8' := hw8.symm
          subst hw8'
          clear hw8
          cases b1
          · go_wp2_with fail
            go_ret
            exact ⟨by rw [HM.out]; rfl, HB8.out⟩
          · go_wp2_with fail
            refine Calls.mono (HI2.out _ HB7.out) ?_
            rintro e w8 ⟨rfl, hw8⟩
            have hw8' := hw8.symm
            subst hw8'
            clear hw8
            cases b2
            · go_wp2_with fail
              go_ret
              exact ⟨by rw [HM.out]; rfl, HB8.out⟩
            · go_wp2_with fail
              refine Calls.mono (HI3.out _ HB7.out) ?_
              rintro e w8 ⟨rfl, hw8⟩
              have hw8' := hw8.symm
              subst hw8'
              clear hw8
              go_wp2_with fail
              go_ret
              exact ⟨by rw [HM.out]; cases b3 <;> rfl, HB8.out⟩
end Go.Proofs.Ytienpejlfjhnmaa.Ck
