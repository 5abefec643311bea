/- The law of variables: its two closures. The law of variables: what it has in memory. A rule's head ahead of its body, in memory. The reference's Safe, in plain mathematics. -/
import Derived.Test.YtienpejlfjhnmaaPart13
import Derived.Deep.CutRange
import Derived.Lib.SlBytesConst
import Derived.Test.YtienpejlfjhnmaaPart14
import Derived.Laws.OwnMore
namespace Go.Proofs.Ytienpejlfjhnmaa.Ck
open Go.RowKit
open Lx (tx)
open Vl (Tm Ts Fr)
open Sy

/-- Which variable a number says, of n. -/
def at4 (n : Nat) (i : Int) : Nat := (i.tmod n).natAbs
theorem at4_lt {n : Nat} (h : 0 < n) (i : Int) : at4 n i < n := by
  unfold at4
  have h1 := Int.tmod_lt_of_pos i (show (0 : Int) < n by omega)
  have h2 : -(n : Int) < i.tmod n := by
    have h3 := Int.tmod_lt_of_pos (-i) (show (0 : Int) < n by omega)
    rw [Int.neg_tmod] at h3
    omega
  omega
def vT (n : Nat) (i : Int) : Tm := (1, tx [UInt8.ofNat (65 + at4 n i)], 0)

theorem conv_one (c : Nat) (hc : c ≤ 255) (W : World) (o : Obj) : (convert 47 9 (.slice (some ⟨W.heap.size + 1, 0, none⟩) 1 1)).run Try.prog ((W.alloc o).alloc (.cells #[.int .u8 (c : Int)] 5)) = .ok (.string (tx [UInt8.ofNat c])) ((W.alloc o).alloc (.cells #[.int .u8 (c : Int)] 5)) := by
  have h := run_convert_bytes_back (P := Try.prog) ((W.alloc o).alloc (.cells #[.int .u8 (c : Int)] 5)) 47 9 5 ⟨W.heap.size + 1, 0, none⟩ 1 [UInt8.ofNat c] Try.underlying47 Try.underlying5 Try.underlying9 (fun j hj => by
    have hj0 : j = 0 := by simpa using hj
    subst hj0
    have h2 := (Bx.new (W.alloc o) #[.int .u8 (c : Int)] 5).c 0
    rw [World.size_alloc] at h2
    rw [Addr.add_lit, Nat.zero_add, h2]
    have : (UInt8.ofNat c).toNat = c := by
      rw [UInt8.toNat_ofNat']
      omega
    simp only [List.getElem_cons_zero, this]
    rfl)
  exact h
def termZ : Obj := .cells #[.int .i64 0, .string ⟨#[]⟩, .int .i64 0] 46

set_option maxRecDepth 10000 in
set_option maxHeartbeats 2000000 in
theorem v_any (n : Nat) (hn : 0 < n) (hn4 : n ≤ 4) (i : Int) (nb : Nat) (w : World) (hc : w.cell? ⟨nb, 0, none⟩ = some (.int .i64 (n : Int))) :
    Calls Try.prog 13 #[.int .i64 i, .pointer (some ⟨nb, 0, none⟩)] w fun e w' => e = .returned (Vl.tv (vT n i)) ∧ Below w.heap.size w w' := by
  have hlt := at4_lt hn i
  have c0 := fun o => cell_below' hc (Lx.below_box w o)
  have hz : ((n : Int) == 0) = false := by simp; omega
  obtain ⟨k, hk⟩ : ∃ k, at4 n i = k := ⟨_, rfl⟩
  have HV : Hid (vT n i = (1, tx [UInt8.ofNat (65 + k)], 0)) := by show _ = _; rw [vT, hk]
  have hcv := conv_one (65 + k) (by omega) w (.cells #[.int .i64 0, .string ⟨#[]⟩, .int .i64 0] 46)
  have hk2 : ((65 + k : Nat) : Int) = 65 + (k : Int) := by omega
  rw [hk2] at hcv
  have hB : Hid (Bx (((w.alloc (.cells #[.int .i64 0, .string ⟨#[]⟩, .int .i64 0] 46)).alloc (.cells #[.int .u8 (65 + (k : Int))] 5))) w.heap.size 46 #[.int .i64 0, .string ⟨#[]⟩, .int .i64 0]) := (Bx.new w _ _).below (Lx.below_box _ _)
  have hW := hide (Vl.below_box2 w (.cells #[.int .i64 0, .string ⟨#[]⟩, .int .i64 0] 46) (.cells #[.int .u8 (65 + (k : Int))] 5))
  have hk4 : k < 4 := by omega
  obtain ⟨S, hS⟩ : ∃ S, Hid (tx [UInt8.ofNat (65 + k)] = S) := ⟨_, rfl⟩
  rw [hS.out] at HV hcv
  clear hk2 hlt hB hW
  by_cases hs : 0 ≤ i.tmod n
  · have hkI : i.tmod n = (k : Int) := by unfold at4 at hk; omega
    clear hs hk
    go_enter Try.func13, Try.ntmps13
    go_wp2_with fail
    refine bodyPost_ret (results_cell_row rfl _ _ w.heap.size 46 _ (0, 0) _ rfl ((Bx.new w #[.int .i64 1, .string S, .int .i64 0] 46).below (Lx.below_box _ _)) Try.underlying46 rfl sz53) rfl ?_
    rw [HV.out]
    exact ⟨rfl, Vl.below_box2 _ _ _⟩
  · have hkI : i.tmod n = -(k : Int) := by unfold at4 at hk; omega
    have hk0 : 0 < k := by omega
    clear hs hk
    go_enter Try.func13, Try.ntmps13
    go_wp2_with fail
    refine bodyPost_ret (results_cell_row rfl _ _ w.heap.size 46 _ (0, 0) _ rfl ((Bx.new w #[.int .i64 1, .string S, .int .i64 0] 46).below (Lx.below_box _ _)) Try.underlying46 rfl sz53) rfl ?_
    rw [HV.out]
    exact ⟨rfl, Vl.below_box2 _ _ _⟩

/-- A slice of bools that is read. -/
def Bls (w : World) (v : Value) (L : List Bool) : Prop := ∃ ao cap, v = .slice ao L.length cap ∧ L.length ≤ maxLen ∧ (0 < L.length → ∃ g off, ao = some ⟨g, off, none⟩ ∧ ∀ i (h : i < L.length), w.cell? ⟨g, off + i, none⟩ = some (.bool L[i]))
theorem Bls.below {w w' : World} {v : Value} {L : List Bool} (h : Bls w v L) (hb : Below w.heap.size w w') : Bls w' v L := by
  obtain ⟨ao, cap, rfl, h1, h2⟩ := h
  refine ⟨ao, cap, rfl, h1, fun hp => ?_⟩
  obtain ⟨g, off, rfl, hc⟩ := h2 hp
  exact ⟨g, off, rfl, fun i hi => cell_below' (hc i hi) hb⟩

set_option maxRecDepth 10000 in
set_option maxHeartbeats 2000000 in
theorem in_any (n : Nat) (hn : 0 < n) (hn4 : n ≤ 4) (i : Int) (nb bb : Nat) (L : List Bool) (v : Value) (w : World) (hc : w.cell? ⟨nb, 0, none⟩ = some (.int .i64 (n : Int))) (hb : w.cell? ⟨bb, 0, none⟩ = some v) (hv : Bls w v L) (hnL : n ≤ L.length) :
    Calls Try.prog 14 #[.int .i64 i, .pointer (some ⟨nb, 0, none⟩), .pointer (some ⟨bb, 0, none⟩)] w fun e w' => e = .returned (.bool (L.getD (at4 n i) false)) ∧ w' = w := by
  have hlt := at4_lt hn i
  have hz : ((n : Int) == 0) = false := by simp; omega
  obtain ⟨ao, cap, rfl, hml, hcs⟩ := hv
  obtain ⟨g, off, rfl, hcell⟩ := hcs (by omega)
  obtain ⟨k, hk⟩ : ∃ k, at4 n i = k := ⟨_, rfl⟩
  have hkL : k < L.length := by omega
  have k0 := hcell k hkL
  have HV : Hid (L.getD (at4 n i) false = L[k]) := by show _ = _; rw [hk, List.getD, List.getElem?_eq_getElem hkL]; rfl
  have hkI2 : (k : Int) < (L.length : Int) := by omega
  rw [HV.out]
  have hk4 : k < 4 := by omega
  by_cases hs : 0 ≤ i.tmod n
  · have hkI : i.tmod n = (k : Int) := by unfold at4 at hk; omega
    clear hs hk hlt hcs hcell HV
    generalize L[k] = b at *
    go_enter Try.func14, Try.ntmps14
    go_wp2_with fail
    go_ret
    exact ⟨rfl, rfl⟩
  · have hkI : i.tmod n = -(k : Int) := by unfold at4 at hk; omega
    have hk0 : 0 < k := by omega
    clear hs hk hlt hcs hcell HV
    generalize L[k] = b at *
    go_enter Try.func14, Try.ntmps14
    go_wp2_with fail
    go_ret
    exact ⟨rfl, rfl⟩
end Go.Proofs.Ytienpejlfjhnmaa.Ck
namespace Go.Proofs.Ytienpejlfjhnmaa.Ck
open Go.RowKit
open Lx (tx)
open Vl (Tm Ts Fr)
open Sy

/-- What the law has in memory: the bools, their number, the rule so far. -/
structure Cv (w W : World) (bb nb hb rb n : Nat) (v : Value) (hT : Tm) (yb : Value) (zs : List (Sy.Lit × Value)) : Prop where
  bbx : Bx W bb 44 #[v]
  nbx : Bx W nb 3 #[.int .i64 (n : Int)]
  rbx : Bx W rb 32 #[.int .i64 1, .string ⟨#[104]⟩, .slice (some ⟨hb, 0, none⟩) 1 1, yb]
  hd : isTs W [hT] (.slice (some ⟨hb, 0, none⟩) 1 1)
  row : W.ownsRow w.heap.size 29 3 yb zs.length (cellsLz zs)
  tsz : ∀ z ∈ zs, isTs W z.1.2.2 z.2
  below : Below w.heap.size w W
theorem Cv.keep {w W W' : World} {bb nb hb rb n : Nat} {v : Value} {hT : Tm} {yb : Value} {zs : List (Sy.Lit × Value)} (h : Cv w W bb nb hb rb n v hT yb zs) (hb' : Below W.heap.size W W') : Cv w W' bb nb hb rb n v hT yb zs :=
  ⟨h.bbx.below hb', h.nbx.below hb', h.rbx.below hb', isTs_below h.hd hb', Lx.own_below h.row hb', fun z hz => isTs_below (h.tsz z hz) hb', h.below.trans (hb'.mono h.below.size)⟩

theorem one_term (w : World) (t : Tm) : isTs (w.alloc (.cells #[.int .i64 t.1, .string t.2.1, .int .i64 t.2.2] 46)) [t] (.slice (some ⟨w.heap.size, 0, none⟩) 1 1) :=
  ⟨by simp [Vl.cellsT], .inr ⟨w.heap.size, 1, _, rfl, Nat.zero_le _, heap_alloc_new _ _, Nat.le_refl _, by decide, rfl, rfl⟩⟩

/-- A row pushed at the end of a row. -/
theorem push_rows (t e size bytes : Nat) (z : Value) (ht : Try.prog.underlying t = some (.slice e)) (hi : (Try.prog.info? e).map (fun i => (i.zero, i.size, i.bytes)) = some (some z, size, bytes)) (hzs : z.cells.size = size) (hs0 : 0 < size) (hby : bytes ≤ 1000)
    {W : World} {base n : Nat} {v : Value} {xs : List Value} (h : W.ownsRow base e size v n xs) (m : Nat) (hm0 : 0 < m) (hm : m ≤ 100) (cs : List Value) (hc : cs.length = m * size) (h1 : ∀ u ∈ cs, u.oneCell' = true) (hl : n ≤ 1000000) (hbase : base ≤ W.heap.size) :
    ∃ g cap w3, (∀ ty, (Builtin.append_ #[t, t] ty #[v, .slice (some ⟨W.heap.size, 0, none⟩) m m]).run Try.prog (W.alloc (.cells cs.toArray e)) = .ok (.slice (some ⟨g, 0, none⟩) (n + m) cap) w3) ∧
      Hid (w3.ownsRow base e size (.slice (some ⟨g, 0, none⟩) (n + m) cap) (n + m) (xs ++ cs)) ∧ Hid (Fr (fun k => v.ownBlock = some k) W w3) := by
  obtain ⟨i, hi, hz, hsize, hbyt⟩ := info_parts hi
  have ha : (W.alloc (.cells cs.toArray e)).ownsRow base e size v n xs := h.alloc _
  have H := fun ty => run_append_own_at (P := Try.prog) (W.alloc (.cells cs.toArray e)) base t ty e i z size bytes ht hi hz hsize hbyt hzs hs0 v n xs ha ⟨W.heap.size, 0, none⟩ m m cs (by omega) (fun j u hj => by
    rw [Addr.add_lit, Nat.zero_add, cell_of_row _ _ j _ _ _ (heap_alloc_new _ _)]
    simpa using hj) h1 (by simp only [maxLen]; omega) (by
      have : (n + m) * bytes ≤ 1000100 * 1000 := Nat.mul_le_mul (by omega) hby
      omega) (by simp; omega)
  obtain ⟨v', w', hr, g1, g2, _, g4⟩ := H 0
  have hF : Fr (fun k => v.ownBlock = some k) W w' := ((Fr.refl (fun k => v.ownBlock = some k) W).alloc (.cells cs.toArray e)).trans (Vl.Fr.of_grown (F := fun k => v.ownBlock = some k) g2 (fun k hk => hk)) (fun _ _ e => e)
  rcases Lx.own_shape g1 with ⟨_, h0⟩ | ⟨g', cap, rfl, _⟩
  · omega
  · exact ⟨g', cap, w', fun ty => hr, g1, hF⟩

theorem cellsLz_app (a b : List (Sy.Lit × Value)) : cellsLz (a ++ b) = cellsLz a ++ cellsLz b := by simp [cellsLz]
theorem cellsLz_len (a : List (Sy.Lit × Value)) : (cellsLz a).length = a.length * 3 := by
  induction a with
  | nil => rfl
  | cons x l ih => simp only [cellsLz, List.flatMap_cons, List.length_append, List.length_cons, List.length_nil] at ih ⊢; omega

/-- Literals more at the end of the rule's body: the append, and the store. -/
theorem Cv_push {w W : World} {bb nb hb rb n : Nat} {v : Value} {hT : Tm} {yb : Value} {zs : List (Sy.Lit × Value)} (h : Cv w W bb nb hb rb n v hT yb zs) (hw : w.heap.size ≤ rb) (hz : zs.length ≤ 100) (new : List (Sy.Lit × Value)) (hn0 : 0 < new.length) (hn1 : new.length ≤ 100) (hzt : ∀ z ∈ new, isTs W z.1.2.2 z.2) :
    ∃ g cap w3, (∀ ty, (Builtin.append_ #[30, 30] ty #[yb, .slice (some ⟨W.heap.size, 0, none⟩) new.length new.length]).run Try.prog (W.alloc (.cells (cellsLz new).toArray 29)) = .ok (.slice (some ⟨g, 0, none⟩) (zs.length + new.length) cap) w3) ∧
      (w3.cell? ⟨rb, 3, none⟩ = some yb ∧ w3.frozen? ⟨rb, 3, none⟩ = false) ∧
      Hid (Cv w (w3.setCell ⟨rb, 3, none⟩ (.slice (some ⟨g, 0, none⟩) (zs.length + new.length) cap)) bb nb hb rb n v hT (.slice (some ⟨g, 0, none⟩) (zs.length + new.length) cap) (zs ++ new)) := by
  obtain ⟨g, cap, w3, hap, HO3, HF3⟩ := push_rows 30 29 3 48 _ Try.underlying30 Sy.Try.info29 rfl (by decide) (by decide) h.row new.length hn0 hn1 (cellsLz new) (cellsLz_len _) (by
    intro u hu
    simp only [cellsLz, List.mem_flatMap] at hu
    obtain ⟨z, hz, hu⟩ := hu
    rcases List.mem_cons.1 hu with rfl | hu
    · rfl
    rcases List.mem_cons.1 hu with rfl | hu
    · rfl
    rw [List.mem_singleton.1 hu]
    exact isTs_one (hzt z hz)) (by omega) h.below.size
  have hnot : ∀ {b : Nat} {T : TypeId} {cs : Array Value}, Bx W b T cs → T ≠ 29 → ¬ yb.ownBlock = some b := fun {b T cs} hb hT hk => by
    rcases h.row.2 with ⟨rfl, _⟩ | ⟨g', cap', cur, rfl, _, hg, _⟩
    · simp [Value.ownBlock] at hk
    · simp [Value.ownBlock] at hk
      subst hk
      have := hb.symm.trans hg
      simp only [Option.some.injEq, Obj.cells.injEq] at this
      exact hT this.2.1
  have hrow : ∀ j, yb.ownBlock = some j → w.heap.size ≤ j := fun j hj => (h.row.lt j hj).1
  have rb3 := h.rbx.fr HF3.out (hnot h.rbx (by decide))
  have hs : Fr (fun k => k = rb) w3 (w3.setCell ⟨rb, 3, none⟩ (.slice (some ⟨g, 0, none⟩) (zs.length + new.length) cap)) := Vl.Fr.one w3 rb 3 _
  have hne : ∀ {b : Nat} {T : TypeId} {cs : Array Value}, Bx w3 b T cs → T ≠ 32 → ¬ b = rb := fun {b T cs} hb hT e => by
    subst e
    have := hb.symm.trans rb3
    simp only [Option.some.injEq, Obj.cells.injEq] at this
    exact hT this.2.1
  have bb3 := h.bbx.fr HF3.out (hnot h.bbx (by decide))
  have nb3 := h.nbx.fr HF3.out (hnot h.nbx (by decide))
  refine ⟨g, cap, w3, hap, ⟨rb3.c 3, rb3.f 3⟩, ⟨bb3.fr hs (hne bb3 (by decide)), nb3.fr hs (hne nb3 (by decide)), rb3.set 3 _, isTs_put (isTs_grow h.hd h.row (by decide) HF3.out) rb3 (by decide) 3 _, ?_, fun y hy => ?_, ?_⟩⟩
  · rw [List.length_append, cellsLz_app]
    exact own_put HO3.out rb3 (by decide) 3 _
  · rcases List.mem_append.1 hy with hy | hy
    · exact isTs_put (isTs_grow (h.tsz y hy) h.row (by decide) HF3.out) rb3 (by decide) 3 _
    · exact isTs_put (isTs_grow (hzt y hy) h.row (by decide) HF3.out) rb3 (by decide) 3 _
  · exact (h.below.trans (HF3.out.below hrow h.below.size)).setCell (p := ⟨rb, 3, none⟩) hw _

/-- The body's literals that the bools say. -/
def bodyV (n : Nat) (L : List Bool) (k : Nat) : List Sy.Lit := (List.range k).filterMap fun i => if L.getD i false = true then some (1, ⟨#[98]⟩, [vT n (i : Int)]) else none
theorem bodyV_succ (n : Nat) (L : List Bool) (k : Nat) : bodyV n L (k + 1) = bodyV n L k ++ (if L.getD k false = true then [(1, ⟨#[98]⟩, [vT n (k : Int)])] else []) := by
  unfold bodyV
  rw [List.range_succ, List.filterMap_append]
  congr 1
  simp only [List.filterMap_cons, List.filterMap_nil]
  split <;> simp_all
theorem bodyV_len (n : Nat) (L : List Bool) (k : Nat) : (bodyV n L k).length ≤ k := by
  unfold bodyV
  have := List.length_filterMap_le (fun i => if L.getD i false = true then some ((1, ⟨#[98]⟩, [vT n (i : Int)]) : Sy.Lit) else none) (List.range k)
  simpa using this

theorem run_min4 (l n : Nat) (hn : n = min l 4) (ty : TypeId) (w : World) : (Builtin.min_ #[3, 3] ty #[.int .i64 (l : Int), .int .i64 4]).run Try.prog w = .ok (.int .i64 (n : Int)) w := by
  have e : (n : Int) = if (4 : Int) < (l : Int) then 4 else (l : Int) := by split <;> omega
  rw [e]
  rfl
end Go.Proofs.Ytienpejlfjhnmaa.Ck
namespace Go.Proofs.Ytienpejlfjhnmaa.Ck
open Go.RowKit
open Lx (tx)
open Vl (Tm Ts Fr)
open Sy

theorem head_body {W : World} {hl : Sy.Lit} {ls : List Sy.Lit} {va vb : Value} (ha : isTs W hl.2.2 va) (hb : isLs W ls vb) (hn : ls.length ≤ 1000000) :
    ∃ ao cap w3, (∀ ty, (Builtin.append_ #[30, 30] ty #[.slice (some ⟨W.heap.size, 0, none⟩) 1 1, vb]).run Try.prog (W.alloc (.cells #[.int .i64 hl.1, .string hl.2.1, va] 29)) = .ok (.slice ao (ls.length + 1) cap) w3) ∧
      Hid (isLs w3 (hl :: ls) (.slice ao (ls.length + 1) cap)) ∧ Hid (Below W.heap.size W w3) := by
  obtain ⟨zs, rfl, h2, h3⟩ := hb
  have hlm : (zs.map (·.1)).length = zs.length := List.length_map _
  rw [hlm] at hn ⊢
  have hB := Lx.below_box W (.cells #[.int .i64 hl.1, .string hl.2.1, va] 29)
  have own1 : (W.alloc (.cells #[.int .i64 hl.1, .string hl.2.1, va] 29)).ownsRow W.heap.size 29 3 (.slice (some ⟨W.heap.size, 0, none⟩) 1 1) 1 [.int .i64 hl.1, .string hl.2.1, va] :=
    World.ownsRow_lit W #[.int .i64 hl.1, .string hl.2.1, va] 1 (Nat.le_refl _) (by decide) rfl
  obtain ⟨i, hi, hz, hsize, hbyt⟩ := info_parts Sy.Try.info29
  have h2' : (W.alloc (.cells #[.int .i64 hl.1, .string hl.2.1, va] 29)).ownsRow 0 29 3 vb zs.length (cellsLz zs) := h2.alloc _
  rcases Lx.own_shape h2 with ⟨rfl, h0⟩ | ⟨g, cap, rfl, hgc, hcm, hg, _⟩
  · have hz0 : zs = [] := List.length_eq_zero_iff.1 h0
    subst hz0
    refine ⟨some ⟨W.heap.size, 0, none⟩, 1, _, fun ty => run_append_owned_none _ W.heap.size 30 ty 29 i 3 Try.underlying30 hi _ 1 _ own1, ⟨[(hl, va)], rfl, Vl.own_zero own1, fun z hz => ?_⟩, hB⟩
    rw [List.mem_singleton.1 hz]
    exact isTs_below ha hB
  · have H := fun ty => run_append_own_at (P := Try.prog) (W.alloc (.cells #[.int .i64 hl.1, .string hl.2.1, va] 29)) W.heap.size 30 ty 29 i _ 3 48 Try.underlying30 hi hz hsize hbyt rfl (by decide) _ 1 _ own1 ⟨g, 0, none⟩ zs.length cap (cellsLz zs) (cellsLz_len zs) (h2'.cells rfl) (by
      intro u hu
      simp only [cellsLz, List.mem_flatMap] at hu
      obtain ⟨z, hz, hu⟩ := hu
      rcases List.mem_cons.1 hu with rfl | hu
      · rfl
      rcases List.mem_cons.1 hu with rfl | hu
      · rfl
      rw [List.mem_singleton.1 hu]
      exact isTs_one (h3 z hz)) (by simp only [maxLen]; omega) (by
        have : (1 + zs.length) * 48 ≤ 1000001 * 48 := Nat.mul_le_mul (by omega) (Nat.le_refl _)
        omega) hB.size
    obtain ⟨v', w', hr, g1, g2, _, g4⟩ := H 0
    have hF : Fr (fun k => (Value.slice (some ⟨W.heap.size, 0, none⟩) 1 1).ownBlock = some k) W w' := ((Fr.refl _ W).alloc (.cells #[.int .i64 hl.1, .string hl.2.1, va] 29)).trans (Vl.Fr.of_grown (F := fun k => (Value.slice (some ⟨W.heap.size, 0, none⟩) 1 1).ownBlock = some k) g2 (fun k hk => hk)) (fun _ _ e => e)
    have hBw : Below W.heap.size W w' := hF.below (fun j hj => by simp [Value.ownBlock] at hj; omega) (Nat.le_refl _)
    rw [Nat.add_comm 1 zs.length] at g1
    rcases Lx.own_shape g1 with ⟨_, h0⟩ | ⟨g', cap', rfl, _⟩
    · omega
    · refine ⟨some ⟨g', 0, none⟩, cap', w', fun ty => hr, ⟨(hl, va) :: zs, rfl, ?_, fun z hz => ?_⟩, hBw⟩
      · exact Vl.own_zero g1
      · rcases List.mem_cons.1 hz with rfl | hz
        · exact isTs_below ha hBw
        · exact isTs_below (h3 z hz) hBw
end Go.Proofs.Ytienpejlfjhnmaa.Ck
namespace Go.Proofs.Ytienpejlfjhnmaa.Ck
open Go.RowKit
open Lx (tx)
open Vl (Tm Ts Fr)
open Sy

/-- What the reference asks of a term, of a literal at its place, of a rule. -/
def okT (ls : List Sy.Lit) (t : Tm) : Bool := !decide (t.1 = 1) || bindsB ls t.2.1
def okL (ls : List Sy.Lit) (k : Nat) (l : Sy.Lit) : Bool := (!decide (k = 0) && decide (l.1 = 1)) || l.2.2.all (okT ls)
def refSafe (q : Rul) : Bool := okL q.2 0 q.1 && q.2.all (okL q.2 1)
theorem refSafe_false {q : Rul} {j : Nat} (hj : j < (q.1 :: q.2).length) (h : okL q.2 j (q.1 :: q.2)[j] = false) : refSafe q = false := by
  unfold refSafe
  cases j with
  | zero =>
    have h : okL q.2 0 q.1 = false := h
    rw [h]
    rfl
  | succ j =>
    have hj' : j < q.2.length := by simpa using hj
    have h' : okL q.2 1 q.2[j] = false := by simpa [okL] using h
    have : q.2.all (okL q.2 1) = false := List.all_eq_false.2 ⟨_, List.getElem_mem hj', by simp [h']⟩
    rw [this, Bool.and_false]
theorem refSafe_true {q : Rul} (h : ∀ j (hj : j < (q.1 :: q.2).length), okL q.2 j (q.1 :: q.2)[j] = true) : refSafe q = true := by
  unfold refSafe
  have h0 : okL q.2 0 q.1 = true := h 0 (by simp)
  rw [h0, Bool.true_and]
  refine List.all_eq_true.2 fun l hl => ?_
  obtain ⟨j, hj, rfl⟩ := List.getElem_of_mem hl
  have := h (j + 1) (by simpa using hj)
  simpa [okL] using this
theorem isRul_bel {w w' : World} {q : Rul} {y : Value} (h : isRul w q y) (hb : Below w.heap.size w w') : isRul w' q y := by
  obtain ⟨va, vb, rfl, h1, h2⟩ := h
  exact ⟨va, vb, rfl, isTs_below h1 hb, isLs_below h2 hb⟩
end Go.Proofs.Ytienpejlfjhnmaa.Ck
