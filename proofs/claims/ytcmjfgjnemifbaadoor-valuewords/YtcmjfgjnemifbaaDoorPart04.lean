/- The walk of the reference's Atom. The walk of Fact. The walks of a table's add and Id. -/
import Derived.Test.YtcmjfgjnemifbaaDoorPart03
namespace Go.Proofs.YtcmjfgjnemifbaaDoor
open Go.RowKit

/-- A slice of terms in memory. -/
def Ts (w : World) (v : Value) (L : List Tm) : Prop :=
  ∃ ao cap, v = .slice ao L.length cap ∧ L.length ≤ cap ∧ (0 < L.length → ∃ g off, ao = some ⟨g, off, none⟩ ∧ ∀ i (h : i < L.length), w.cell? ⟨g, off + i * 3, none⟩ = some (.int .i64 L[i].1) ∧ w.cell? ⟨g, off + i * 3 + 1, none⟩ = some (.string L[i].2.1) ∧ w.cell? ⟨g, off + i * 3 + 2, none⟩ = some (.int .i64 L[i].2.2))
theorem Ts.kept {w w' : World} {v : Value} {L : List Tm} (h : Ts w v L) {F : Nat → Prop} (hf : Fr F w w') (hn : ∀ a n c, v = .slice (some a) n c → ¬ F a.block) : Ts w' v L := by
  obtain ⟨ao, cap, rfl, h1, h2⟩ := h
  refine ⟨ao, cap, rfl, h1, fun hp => ?_⟩
  obtain ⟨g, off, rfl, hc⟩ := h2 hp
  refine ⟨g, off, rfl, fun i hi => ?_⟩
  have hF := hn _ _ _ rfl
  exact ⟨hf.cell (hc i hi).1 hF, hf.cell (hc i hi).2.1 hF, hf.cell (hc i hi).2.2 hF⟩
theorem Ts.below {w w' : World} {v : Value} {L : List Tm} (h : Ts w v L) (hb : Below w.heap.size w w') : Ts w' v L :=
  h.kept (F := fun _ => False) (Fr.of_below hb) (fun _ _ _ _ hf => hf)

def prtL (L : List Tm) : List (List UInt8) := L.map fun t => (prt t).data.toList
theorem join_snoc (xs : List (List UInt8)) (x sep : List UInt8) : Lib.join (xs ++ [x]) sep = if xs = [] then x else Lib.join xs sep ++ sep ++ x := by
  cases xs with
  | nil => simp [Lib.join_one]
  | cons y r =>
    rw [List.cons_append, Lib.join_cons, Lib.join_cons, if_neg (by simp)]
    simp [Lib.joinTail, List.append_assoc]
/-- The text of a name with terms. -/
def factL (name : ByteArray) (L : List Tm) : List UInt8 := if L = [] then name.data.toList else name.data.toList ++ [40] ++ Lib.join (prtL L) [44, 32] ++ [41]
def factS (name : ByteArray) (L : List Tm) : ByteArray := ⟨(factL name L).toArray⟩

theorem prtL_take (L : List Tm) (k : Nat) (h : k < L.length) : prtL (L.take (k + 1)) = prtL (L.take k) ++ [(prt L[k]).data.toList] := by
  unfold prtL
  rw [List.take_add_one, List.getElem?_eq_getElem h, List.map_append]
  rfl

set_option maxHeartbeats 2000000 in
theorem atom_any (name : ByteArray) (v : Value) (L : List Tm) (w : World) (h : Ts w v L) (hl : L.length ≤ 1000) (hname : name.size ≤ 1000000) (hp : ∀ t ∈ L, (prt t).size ≤ 1000) (hn : ∀ t ∈ L, t.1 = 3 → -2147483648 ≤ t.2.2 ∧ t.2.2 ≤ 2147483648) :
    Calls Tryd.prog 23 #[.string name, v] w fun e w' => e = .returned (.string (factS name L)) ∧ Below w.heap.size w w' := by
  obtain ⟨ao, cap, rfl, h1, h2⟩ := h
  by_cases hz : L = []
  · subst hz
    have e : factS name [] = name := bytes_ext (by simp [factS, factL])
    rw [e]
    clear h2
    go_enter Tryd.func23, Tryd.ntmps23
    go_wp2
    go_ret
    exact ⟨rfl, Below.refl _ _⟩
  · have hpos : 0 < L.length := List.length_pos_iff.2 hz
    obtain ⟨g, off, rfl, hc⟩ := h2 hpos
    have hz' : ((L.length : Int) == 0) = false := by rw [beq_eq_false_iff_ne]; omega
    have HC : Hid _ := hc
    clear h2 hc
    go_enter Tryd.func23, Tryd.ntmps23
    go_wp2
    go_loopw [5, 6] (fun s i wr => ∃ (sb : ByteArray) (k : Nat), s = .string sb ∧ i = .int .i64 k ∧ k ≤ L.length ∧ sb.size ≤ name.size + 1 + 1002 * k ∧ Hid (sb.data.toList = name.data.toList ++ [40] ++ Lib.join (prtL (L.take k)) [44, 32]) ∧ Below w.heap.size w wr) (fun _ i _ => L.length - (intOf i).toNat)
    case atStart => exact ⟨_, 0, rfl, rfl, Nat.zero_le _, by rw [size_list, bytes_app, List.length_append, ← size_list]; simp, by show _ = _; rw [bytes_app]; simp [prtL, Lib.join_nil], Below.refl _ _⟩
    case round =>
      obtain ⟨sb, k, rfl, rfl, hk, hsz, HS, hb⟩ := hrel
      by_cases hlt : k < L.length
      · have c := HC.out k hlt
        have c0 := (World.cell?_of_block (hb.block g (World.block_lt_of_cell? w _ c.1))).trans c.1
        have c1 := (World.cell?_of_block (hb.block g (World.block_lt_of_cell? w _ c.1))).trans c.2.1
        have c2 := (World.cell?_of_block (hb.block g (World.block_lt_of_cell? w _ c.1))).trans c.2.2
        have HP : Hid (∀ W, Calls Tryd.prog 16 #[.agg #[.int .i64 L[k].1, .string L[k].2.1, .int .i64 L[k].2.2]] W fun e w' => e = .returned (.string (prt L[k])) ∧ Below W.heap.size W w') := fun W => printRef_any L[k] W (hn _ (List.getElem_mem hlt))
        have hps := hp _ (List.getElem_mem hlt)
        have HT := prtL_take L k hlt
        have HT' : Hid _ := HT
        have hlt' : (k : Int) < (L.length : Int) := by omega
        generalize hP : prt L[k] = P at *
        generalize L[k] = t at *
        clear c HT
        by_cases k0 : k = 0
        · subst k0
          simp only [Nat.zero_mul, Nat.add_zero] at c0 c1 c2
          go_wp2_with (go_at_call 16; refine (HP.out _).mono ?_; rintro e w' ⟨rfl, hb2⟩)
          go_roundw
          case rel =>
            refine ⟨_, 1, rfl, rfl, by omega, by rw [size_list, bytes_app, List.length_append, ← size_list, ← size_list]; omega, ?_, hb.trans (hb2.mono hb.size)⟩
            show _ = _
            rw [bytes_app, HS.out, HT'.out, join_snoc]
            simp [prtL, Lib.join_nil]
          case measure => simp [intOf]; omega
        · have hk0 : (0 : Int) < (k : Int) := by omega
          go_wp2_with (go_at_call 16; refine (HP.out _).mono ?_; rintro e w' ⟨rfl, hb2⟩)
          go_roundw
          case rel =>
            refine ⟨_, k + 1, rfl, by go_num, by omega, by have e2 : (⟨#[44, 32]⟩ : ByteArray).size = 2 := rfl; rw [size_list, bytes_app, bytes_app, List.length_append, List.length_append, ← size_list, ← size_list, ← size_list, e2]; omega, ?_, hb.trans (hb2.mono hb.size)⟩
            show _ = _
            rw [bytes_app, bytes_app, HS.out, HT'.out, join_snoc, if_neg (by
              intro e
              have := congrArg List.length e
              rw [prtL, List.length_map, List.length_take] at this
              simp only [List.length_nil] at this
              omega)]
            simp [List.append_assoc]
          case measure => simp [intOf]; omega
      · have hke : k = L.length := by omega
        subst hke
        go_wp2
        go_ret
        refine ⟨ret_str (bytes_ext ?_), hb⟩
        rw [bytes_app, HS.out, List.take_of_length_le (Nat.le_refl _)]
        simp [factS, factL, hz]
end Go.Proofs.YtcmjfgjnemifbaaDoor
namespace Go.Proofs.YtcmjfgjnemifbaaDoor
open Go.RowKit

theorem Tryd.info9 : (Tryd.prog.info? 9).map (fun i => (i.zero, i.size, i.bytes)) = some (some (.string ⟨#[]⟩), 1, 16) := by kernel_rfl

/-- The row of texts, so many of them made. -/
def rowL (L : List Tm) (k : Nat) : List Value := (L.take k).map (fun t => .string (prt t)) ++ List.replicate (L.length - k) (.string ⟨#[]⟩)
theorem rowL_len (L : List Tm) (k : Nat) (h : k ≤ L.length) : (rowL L k).length = L.length := by simp [rowL]; omega
theorem rowL_set (L : List Tm) (k : Nat) (h : k < L.length) : (rowL L k).set k (.string (prt L[k])) = rowL L (k + 1) := by
  unfold rowL
  have hl : ((L.take k).map (fun t => Value.string (prt t))).length = k := by simp; omega
  rw [List.set_append_right _ _ (by omega), hl, Nat.sub_self]
  rw [show L.length - k = (L.length - (k + 1)) + 1 by omega, List.replicate_succ, List.set_cons_zero, List.take_add_one, List.getElem?_eq_getElem h, List.map_append, List.append_assoc]
  rfl
theorem made_row (L : List Tm) : madeCells (Value.string ⟨#[]⟩).cells L.length = (rowL L 0).toArray := by
  apply Array.ext'
  apply List.ext_getElem?
  intro j
  by_cases hj : j < L.length
  · simp [madeCells, rowL, hj, Value.cells, Nat.mod_one]
  · simp [madeCells, rowL, hj]

theorem make_row (L : List Tm) (hl : L.length ≤ 1000) (W : World) : (Instr.makeSlice 50 (.int .i64 (L.length : Int)) (.int .i64 (L.length : Int))).run Tryd.prog W = .ok (.slice (some ⟨W.heap.size, 0, none⟩) L.length L.length) (W.alloc (.cells (rowL L 0).toArray 9)) := by
  obtain ⟨i, hi, hz, hsize, hby⟩ := info_parts Tryd.info9
  have h := run_make (P := Tryd.prog) W 50 9 i (.string ⟨#[]⟩) Tryd.underlying50 hi hz .i64 .i64 (L.length : Int) (L.length : Int) (by omega) (by omega) (by rw [hby]; omega) (by omega)
  rw [hsize, Nat.mul_one] at h
  simp only [Int.toNat_natCast] at h
  rw [made_row] at h
  exact h

theorem tail_len (sep : List UInt8) (hs : sep.length = 2) : ∀ r : List (List UInt8), (∀ x ∈ r, x.length ≤ 1000) → (Lib.joinTail sep r).length ≤ 1002 * r.length
  | [], _ => by simp [Lib.joinTail]
  | x :: r, h => by
    have h1 := tail_len sep hs r (fun y hy => h y (by simp [hy]))
    have h2 := h x (by simp)
    simp [Lib.joinTail] at h1 ⊢
    omega
theorem join_len (L : List Tm) (hp : ∀ t ∈ L, (prt t).size ≤ 1000) : (Lib.join (prtL L) [44, 32]).length ≤ 1002 * L.length := by
  cases L with
  | nil => simp [prtL, Lib.join_nil]
  | cons t r =>
    rw [prtL, List.map_cons, Lib.join_cons, List.length_append]
    have h1 := tail_len [44, 32] rfl (r.map fun t => (prt t).data.toList) (fun x hx => by
      obtain ⟨u, hu, rfl⟩ := List.mem_map.1 hx
      have := hp u (by simp [hu])
      rw [size_list] at this
      exact this)
    have h2 := hp t (by simp)
    rw [size_list] at h2
    rw [List.length_map] at h1
    rw [List.length_cons]
    omega

theorem join_any (b : Nat) (L : List Tm) (W : World) (hl : L.length ≤ 1000) (hp : ∀ t ∈ L, (prt t).size ≤ 1000) (hb : W.heap[b]? = some (.cells (rowL L L.length).toArray 9 (0, 0))) :
    Calls Tryd.prog 29 #[.slice (some ⟨b, 0, none⟩) L.length L.length, .string ⟨#[44, 32]⟩] W fun e w' => e = .returned (.string ⟨(Lib.join (prtL L) [44, 32]).toArray⟩) ∧ Below W.heap.size W w' := by
  have e1 : (L.map prt).length = L.length := List.length_map _
  have e2 : (L.map prt).map (·.data.toList) = prtL L := by simp [prtL]
  have hj := join_len L hp
  have h := Tryd.strings_Join b 0 L.length (L.map prt) ⟨#[44, 32]⟩ W (fun j x hx => by
    rw [Nat.zero_add, cell_of_row W b j _ _ _ hb]
    have : j < L.length := by
      have := (List.getElem?_eq_some_iff.1 hx).1
      simpa using this
    rw [List.getElem?_map] at hx
    have e3 : rowL L L.length = L.map (fun t => .string (prt t)) := by simp [rowL]
    rw [e3, List.getElem?_toArray, List.getElem?_map]
    cases hL : L[j]? with
    | none => rw [hL] at hx; simp at hx
    | some u =>
      rw [hL] at hx
      simp only [Option.map_some, Option.some.injEq] at hx ⊢
      rw [hx]) (Array.getElem?_eq_some_iff.1 hb).1 (by omega) (by omega) (by rw [e2]; show (Lib.join (prtL L) [44, 32]).length ≤ _; omega)
  rw [e1, e2] at h
  exact h

set_option maxHeartbeats 2000000 in
theorem fact_any (name : ByteArray) (v : Value) (L : List Tm) (w : World) (h : Ts w v L) (hl : L.length ≤ 1000) (hname : name.size ≤ 1000000) (hp : ∀ t ∈ L, (prt t).size ≤ 1000) (hn : ∀ t ∈ L, t.1 = 3 → Fm w t.2.2) :
    Calls Tryd.prog 22 #[.agg #[.string name, v]] w fun e w' => e = .returned (.string (factS name L)) ∧ Below w.heap.size w w' := by
  obtain ⟨ao, cap, rfl, h1, h2⟩ := h
  by_cases hz : L = []
  · subst hz
    have e : factS name [] = name := bytes_ext (by simp [factS, factL])
    rw [e]
    clear h2
    go_enter Tryd.func22, Tryd.ntmps22
    go_wp2
    go_ret
    exact ⟨rfl, below_box _ _⟩
  · have hpos : 0 < L.length := List.length_pos_iff.2 hz
    obtain ⟨g, off, rfl, hc⟩ := h2 hpos
    have hz' : ((L.length : Int) == 0) = false := by rw [beq_eq_false_iff_ne]; omega
    have hmk := make_row L hl
    have HC : Hid _ := hc
    clear h2 hc
    go_enter Tryd.func22, Tryd.ntmps22
    go_wp2
    go_loopw [19] (fun i wr => ∃ (k : Nat), i = .int .i64 k ∧ k ≤ L.length ∧ Hid (wr.heap[w.heap.size]? = some (.cells #[.string name, .slice (some ⟨g, off, none⟩) L.length cap] 37 (0, 0)) ∧ wr.heap[w.heap.size + 1]? = some (.cells (rowL L k).toArray 9 (0, 0))) ∧ Below w.heap.size w wr ∧ w.heap.size + 2 ≤ wr.heap.size) (fun i _ => L.length - (intOf i).toNat)
    case atStart =>
      refine ⟨0, rfl, Nat.zero_le _, ⟨?_, ?_⟩, below_box2 _ _ _, by simp⟩
      · rw [(below_box _ _).block _ (by simp)]
        exact heap_alloc_new _ _
      · have := heap_alloc_new (w.alloc (.cells #[.string name, .slice (some ⟨g, off, none⟩) L.length cap] 37)) (.cells (rowL L 0).toArray 9)
        simpa using this
    case round =>
      obtain ⟨k, rfl, hk, HR, hb, hsz⟩ := hrel
      by_cases hlt : k < L.length
      · have c := HC.out k hlt
        have c0 := (World.cell?_of_block (hb.block g (World.block_lt_of_cell? w _ c.1))).trans c.1
        have c1 := (World.cell?_of_block (hb.block g (World.block_lt_of_cell? w _ c.1))).trans c.2.1
        have c2 := (World.cell?_of_block (hb.block g (World.block_lt_of_cell? w _ c.1))).trans c.2.2
        have hfm := hn _ (List.getElem_mem hlt)
        have HP : Hid (∀ o, Calls Tryd.prog 15 #[.agg #[.int .i64 L[k].1, .string L[k].2.1, .int .i64 L[k].2.2]] (wr.alloc o) fun e w' => e = .returned (.string (prt L[k])) ∧ w'.heap[w.heap.size]? = some (.cells #[.string name, .slice (some ⟨g, off, none⟩) L.length cap] 37 (0, 0)) ∧ w'.heap[w.heap.size + 1]? = some (.cells (rowL L k).toArray 9 (0, 0)) ∧ Below w.heap.size w w' ∧ w.heap.size + 2 ≤ w'.heap.size) := fun o => by
          have hbo : Below w.heap.size w (wr.alloc o) := hb.alloc hb.size o
          refine (print_any L[k] (wr.alloc o) (fun h3 => (hfm h3).below hbo)).mono ?_
          rintro e w' ⟨rfl, hb2⟩
          have hs2 := hb2.size
          simp at hs2
          exact ⟨rfl, by rw [hb2.block _ (by simp; omega), (below_box _ o).block _ (by omega)]; exact HR.out.1, by rw [hb2.block _ (by simp; omega), (below_box _ o).block _ (by omega)]; exact HR.out.2, hbo.trans (hb2.mono (by simp; omega)), by omega⟩
        have HT := rowL_set L k hlt
        have hlt' : (k : Int) < (L.length : Int) := by omega
        have hrl := rowL_len L k hk
        generalize prt L[k] = P at *
        generalize L[k] = t at *
        have HT' : Hid _ := HT
        clear c HT hfm
        go_wp2_with fail
        refine (HP.out _).mono ?_
        rintro e w' ⟨rfl, b1, b2, b3, b4⟩
        obtain ⟨x, hx⟩ : ∃ x, w'.cell? ⟨w.heap.size + 1, k, none⟩ = some x := by
          rw [cell_of_row w' _ k _ _ _ b2]
          exact ⟨_, Array.getElem?_eq_getElem (by simp [hrl]; omega)⟩
        have hfz : w'.frozen? ⟨w.heap.size + 1, k, none⟩ = false := by simp [World.frozen?, b2]
        have HY : Hid ((w'.setCell ⟨w.heap.size + 1, k, none⟩ (.string P)).heap[w.heap.size]? = some (.cells #[.string name, .slice (some ⟨g, off, none⟩) L.length cap] 37 (0, 0)) ∧ (w'.setCell ⟨w.heap.size + 1, k, none⟩ (.string P)).heap[w.heap.size + 1]? = some (.cells (rowL L (k + 1)).toArray 9 (0, 0))) := by
          refine ⟨?_, ?_⟩
          · rw [(Fr.one w' (w.heap.size + 1) k _).block _ (by omega) (by omega)]; exact b1
          · rw [heap_set b2, ← HT'.out]
            simp
        have HZ : Hid (Below w.heap.size w (w'.setCell ⟨w.heap.size + 1, k, none⟩ (.string P))) := b3.setCell (by simp) _
        clear b1 b2
        go_wp2
        go_roundw
        case rel => exact ⟨k + 1, by go_num, by omega, HY, HZ.out, by rw [setCell_size]; exact b4⟩
        case measure => simp [intOf]; omega
      · have hke : k = L.length := by omega
        subst hke
        have HJ : Hid (∀ n, Calls Tryd.prog 29 #[.slice (some ⟨w.heap.size + 1, 0, none⟩) L.length L.length, .string ⟨#[44, 32]⟩] (wr.drewN n) fun e w' => e = .returned (.string ⟨(Lib.join (prtL L) [44, 32]).toArray⟩) ∧ w'.cell? ⟨w.heap.size, 0, none⟩ = some (.string name) ∧ Below w.heap.size w w') := fun n => by
          refine (join_any (w.heap.size + 1) L (wr.drewN n) hl hp HR.out.2).mono ?_
          rintro e w' ⟨rfl, hb2⟩
          have hs2 : wr.heap.size ≤ w'.heap.size := hb2.size
          refine ⟨rfl, ?_, ?_⟩
          · have : w'.heap[w.heap.size]? = some (.cells #[.string name, .slice (some ⟨g, off, none⟩) L.length cap] 37 (0, 0)) := by
              rw [hb2.block _ (by show _ < wr.heap.size; omega)]
              exact HR.out.1
            rw [cell_of_row w' _ 0 _ _ _ this]
            rfl
          · exact Below.trans (b := wr.drewN n) ⟨hb.os, hb.tape, hb.output, hb.size, hb.block⟩ (hb2.mono hb.size)
        have hj := join_len L hp
        have cn : wr.cell? ⟨w.heap.size, 0, none⟩ = some (.string name) := by
          rw [cell_of_row wr _ 0 _ _ _ HR.out.1]
          rfl
        have HE : Hid (factS name L = ((name ++ ⟨#[40]⟩) ++ ⟨(Lib.join (prtL L) [44, 32]).toArray⟩) ++ ⟨#[41]⟩) := by
          show _ = _
          apply bytes_ext
          rw [bytes_app, bytes_app, bytes_app]
          simp [factS, factL, hz]
        obtain ⟨J, HJe⟩ : ∃ J, Hid (J = (⟨(Lib.join (prtL L) [44, 32]).toArray⟩ : ByteArray)) := ⟨_, (rfl : _ = _)⟩
        have hJ : J.size ≤ 1002000 := by
          rw [HJe.out, size_list]
          show (Lib.join (prtL L) [44, 32]).length ≤ _
          omega
        rw [← HJe.out] at HJ HE
        have HJ1 : Hid _ := HJ.out 1
        clear HJe hj HJ
        go_wp2_with fail
        go_region_held (fun w' => w'.cell? ⟨w.heap.size, 0, none⟩ = some (.string name)) (first | exact cn | exact m0)
          (first | (go_at_call 29; refine Calls.mono HJ1.out ?_; rintro e w2 ⟨rfl, m0, hb2⟩))
        all_goals go_wp2
        all_goals go_ret
        all_goals exact ⟨ret_str HE.out.symm, hb2⟩
end Go.Proofs.YtcmjfgjnemifbaaDoor
namespace Go.Proofs.YtcmjfgjnemifbaaDoor
open Go.RowKit

theorem Tryd.info23 : (Tryd.prog.info? 23).map (fun i => (i.zero, i.size, i.bytes)) = some (some (.agg #[.int .i64 0, .string ⟨#[]⟩, .int .i64 0]), 3, 32) := by kernel_rfl

/-- 'append' of one term onto a row of the table's own, as one run. -/
theorem run_append_tm (w : World) (vr : Value) (L : List Tm) (t : Tm) (g : Nat) (hO : w.ownsRow 0 23 3 vr L.length (cellsT L)) (hg : w.heap[g]? = some (.cells #[.int .i64 t.1, .string t.2.1, .int .i64 t.2.2] 23 (0, 0))) (hl : L.length ≤ 1000000) :
    ∃ g' cap w', (∀ ty, (Builtin.append_ #[29, 29] ty #[vr, .slice (some ⟨g, 0, none⟩) 1 1]).run Tryd.prog w = .ok (.slice (some ⟨g', 0, none⟩) (L.length + 1) cap) w') ∧ w'.ownsRow 0 23 3 (.slice (some ⟨g', 0, none⟩) (L.length + 1) cap) (L ++ [t]).length (cellsT (L ++ [t])) ∧ w.grownBy w' vr.ownBlock ∧ (vr.ownBlock = some g' ∨ g' = w.heap.size) := by
  obtain ⟨i, hi, hz, hsize, hby⟩ := info_parts Tryd.info23
  have H := fun ty => run_append_own_at (P := Tryd.prog) w 0 29 ty 23 i _ 3 32 Tryd.underlying29 hi hz hsize hby rfl (by decide) vr L.length (cellsT L) hO ⟨g, 0, none⟩ 1 1 (cellsT [t]) rfl (fun j u hj => by
    rw [Addr.add_lit, Nat.zero_add, cell_of_row w g j _ _ _ hg]
    simpa [cellsT] using hj) (cellsT_one [t]) (by simp only [maxLen]; omega) (by omega) (Nat.zero_le _)
  obtain ⟨v', w', hr, g1, g2, _, g4⟩ := H 0
  have e : cellsT (L ++ [t]) = cellsT L ++ cellsT [t] := cellsT_append _ _
  rw [← e] at g1
  rcases own_shape g1 with ⟨_, h0⟩ | ⟨g', cap, rfl, _⟩
  · omega
  · refine ⟨g', cap, w', fun ty => hr, by rw [List.length_append]; exact g1, g2, ?_⟩
    rcases g4 with h | h
    · exact .inl (by simpa [Value.ownBlock] using h.symm)
    · exact .inr (by simpa [Value.ownBlock] using h)

theorem setBlock_size (w : World) (m : Nat) (o : Obj) : (ChangeMaps.setBlock w m o).heap.size = w.heap.size := by simp [ChangeMaps.setBlock]
theorem setBlock_other (w : World) (m : Nat) (o : Obj) (k : Nat) (h : k ≠ m) : (ChangeMaps.setBlock w m o).heap[k]? = w.heap[k]? := by
  simp [ChangeMaps.setBlock, Ne.symm h]
theorem setBlock_self (w : World) (m : Nat) (o : Obj) (h : m < w.heap.size) : (ChangeMaps.setBlock w m o).heap[m]? = some o := by
  simp [ChangeMaps.setBlock, h]
theorem Fr.block1 (w : World) (m : Nat) (o : Obj) : Fr (fun k => k = m) w (ChangeMaps.setBlock w m o) :=
  ⟨rfl, rfl, rfl, by rw [setBlock_size]; exact Nat.le_refl _, fun k _ hk => setBlock_other w m o k hk⟩

/-- What the table is behind the append, the store and the map's update. -/
theorem add_key {u : World} {p m b : Nat} {vr : Value} {L : List Tm} {G : Nat → Prop} (t : Tm) (hp : u.heap[p]? = some (.cells #[vr, .map (some m)] 48 (0, 0))) (hrow : u.ownsRow 0 23 3 vr L.length (cellsT L))
    (hm : u.heap[m]? = some (.map (ents 0 L).toArray L.length)) (hGm : G m) (hGp : G p) (hrowIn : ∀ k, vr.ownBlock = some k → G k ∧ k ≠ p ∧ k ≠ m) (hlt : ∀ k, G k → k < u.heap.size)
    (hb : u.heap[b]? = some (.cells #[.int .i64 t.1, .string t.2.1, .int .i64 t.2.2] 23 (0, 0))) (hGb : ¬ G b) (hn : find L t 0 = none) (hl : L.length ≤ 1000000) :
    ∃ g cap w3 w5, (∀ ty, (Builtin.append_ #[29, 29] ty #[vr, .slice (some ⟨u.heap.size, 0, none⟩) 1 1]).run Tryd.prog (u.alloc (.cells #[.int .i64 t.1, .string t.2.1, .int .i64 t.2.2] 23)) = .ok (.slice (some ⟨g, 0, none⟩) (L.length + 1) cap) w3) ∧
      (∃ x, w3.cell? ⟨p, 0, none⟩ = some x) ∧ w3.cell? ⟨p, 1, none⟩ = some (.map (some m)) ∧ w3.frozen? ⟨p, 0, none⟩ = false ∧ w3.cell? ⟨b, 0, none⟩ = some (.int .i64 t.1) ∧ w3.cell? ⟨b, 1, none⟩ = some (.string t.2.1) ∧ w3.cell? ⟨b, 2, none⟩ = some (.int .i64 t.2.2) ∧ p ≠ b ∧
      (Instr.mapUpdate 46 (.map (some m)) (.agg #[.int .i64 t.1, .string t.2.1, .int .i64 t.2.2]) (.int .i64 ((L.length : Int) + 1))).run Tryd.prog (w3.setCell ⟨p, 0, none⟩ (.slice (some ⟨g, 0, none⟩) (L.length + 1) cap)).drew = .ok () w5 ∧
      w5.cell? ⟨p, 0, none⟩ = some (.slice (some ⟨g, 0, none⟩) (L.length + 1) cap) ∧
      Hid ((∃ vr' mv', Tb w5 p vr' mv' (L ++ [t]) (ext G u w5)) ∧ Fr G u w5) := by
  have hba : Below u.heap.size u (u.alloc (.cells #[.int .i64 t.1, .string t.2.1, .int .i64 t.2.2] 23)) := below_box _ _
  obtain ⟨g, cap, w3, hr, hO3, hg3, hat⟩ := run_append_tm (u.alloc (.cells #[.int .i64 t.1, .string t.2.1, .int .i64 t.2.2] 23)) vr L t u.heap.size (hrow.alloc _) (heap_alloc_new _ _) hl
  have hplt := hlt p hGp
  have hmlt := hlt m hGm
  have hblt : b < u.heap.size := (Array.getElem?_eq_some_iff.1 hb).1
  have hsa : (u.alloc (.cells #[.int .i64 t.1, .string t.2.1, .int .i64 t.2.2] 23)).heap.size = u.heap.size + 1 := by simp
  have hs3 := hg3.size
  have hpb : p ≠ b := fun e => hGb (e ▸ hGp)
  have keep : ∀ k o, u.heap[k]? = some o → k < u.heap.size → vr.ownBlock ≠ some k → w3.heap[k]? = some o := fun k o ho hk hne => by
    rw [hg3.block k (by omega) (fun e => hne e.symm), hba.block k hk]; exact ho
  have hp3 := keep p _ hp hplt (fun e => (hrowIn p e).2.1 rfl)
  have hm3 := keep m _ hm hmlt (fun e => (hrowIn m e).2.2 rfl)
  have hb3 := keep b _ hb hblt (fun e => hGb (hrowIn b e).1)
  have hpm : p ≠ m := fun e => by rw [e, hm] at hp; simp at hp
  have hgp : g ≠ p := by
    rcases hat with h | h
    · exact (hrowIn g h).2.1
    · omega
  have hgm : g ≠ m := by
    rcases hat with h | h
    · exact (hrowIn g h).2.2
    · omega
  have hone := (Fr.one w3 p 0 (.slice (some ⟨g, 0, none⟩) (L.length + 1) cap)).drew
  have hm4 : (w3.setCell ⟨p, 0, none⟩ (.slice (some ⟨g, 0, none⟩) (L.length + 1) cap)).drew.heap[m]? = some (.map (ents 0 L).toArray L.length) := by
    rw [hone.block m (by omega) (fun e => hpm e.symm)]; exact hm3
  have hss : (w3.setCell ⟨p, 0, none⟩ (.slice (some ⟨g, 0, none⟩) (L.length + 1) cap)).drew.heap.size = w3.heap.size := setCell_size _ _ _
  have hupd := run_update23 t L m _ hm4 hn
  have hblk := Fr.block1 (w3.setCell ⟨p, 0, none⟩ (.slice (some ⟨g, 0, none⟩) (L.length + 1) cap)).drew m (.map (ents 0 (L ++ [t])).toArray (L ++ [t]).length)
  have hp5 : (ChangeMaps.setBlock (w3.setCell ⟨p, 0, none⟩ (.slice (some ⟨g, 0, none⟩) (L.length + 1) cap)).drew m (.map (ents 0 (L ++ [t])).toArray (L ++ [t]).length)).heap[p]? = some (.cells #[.slice (some ⟨g, 0, none⟩) (L.length + 1) cap, .map (some m)] 48 (0, 0)) := by
    rw [setBlock_other _ _ _ _ hpm]
    show (w3.setCell ⟨p, 0, none⟩ (.slice (some ⟨g, 0, none⟩) (L.length + 1) cap)).heap[p]? = _
    rw [heap_set hp3]
    rfl
  have hF : Fr G u (ChangeMaps.setBlock (w3.setCell ⟨p, 0, none⟩ (.slice (some ⟨g, 0, none⟩) (L.length + 1) cap)).drew m (.map (ents 0 (L ++ [t])).toArray (L ++ [t]).length)) :=
    (((Fr.of_below (F := G) hba).trans (Fr.of_grown (F := G) hg3 (fun k hk => (hrowIn k hk).1)) (fun _ _ h => h)).trans hone (fun k _ e => e ▸ hGp)).trans hblk (fun k _ e => e ▸ hGm)
  refine ⟨g, cap, w3, _, hr, ⟨_, by rw [cell_of_row w3 p 0 _ _ _ hp3]; rfl⟩, by rw [cell_of_row w3 p 1 _ _ _ hp3]; rfl, by simp [World.frozen?, hp3], by rw [cell_of_row w3 b 0 _ _ _ hb3]; rfl, by rw [cell_of_row w3 b 1 _ _ _ hb3]; rfl, by rw [cell_of_row w3 b 2 _ _ _ hb3]; rfl, hpb, hupd, by rw [cell_of_row _ p 0 _ _ _ hp5]; rfl, ⟨_, _, hp5, ?_, .inr ⟨m, rfl, setBlock_self _ _ _ (by omega), Or.inl hGm, by simpa [Value.ownBlock] using hgm, by simp⟩, fun k hk => ?_, Or.inl hGp, ext_lt hlt hF.size⟩, hF⟩
  · refine own_kept (own_kept hO3 hone (fun k hk e => ?_)) hblk (fun k hk e => ?_)
    · simp [Value.ownBlock] at hk; omega
    · simp [Value.ownBlock] at hk; omega
  · simp [Value.ownBlock] at hk
    subst hk
    refine ⟨?_, hgp⟩
    rcases hat with h | h
    · exact Or.inl (hrowIn g h).1
    · refine Or.inr ⟨by omega, ?_⟩
      rw [setBlock_size, hss]
      exact (hO3.lt g rfl).2

theorem eqlSome (bm : Nat) (w : World) : (binOp .eql 46 (.map (some bm)) (.map none)).run Tryd.prog w = .ok (.bool false) w := by kernel_rfl
theorem eqlNil (w : World) : (binOp .eql 46 (.map none) (.map none)).run Tryd.prog w = .ok (.bool true) w := by kernel_rfl

theorem add_tail {w U : World} {p m : Nat} {vr mv : Value} {L : List Tm} {G G' : Nat → Prop} (t : Tm) (h : Tb w p vr mv L G) (hf : Fr G w U) (hG : ∀ k, G k → G' k) (hG2 : ∀ k, G' k → ext G w U k) (hp : U.heap[p]? = some (.cells #[vr, .map (some m)] 48 (0, 0))) (hrow : U.ownsRow 0 23 3 vr L.length (cellsT L))
    (hm : U.heap[m]? = some (.map (ents 0 L).toArray L.length)) (hGm : G' m) (hrm : ∀ k, vr.ownBlock = some k → k ≠ m) (hb : U.heap[w.heap.size]? = some (.cells #[.int .i64 t.1, .string t.2.1, .int .i64 t.2.2] 23 (0, 0))) (hGb : ¬ G' w.heap.size) (hn : find L t 0 = none) (hl : L.length ≤ 1000000) :
    U.cell? ⟨p, 0, none⟩ = some vr ∧ U.cell? ⟨w.heap.size, 0, none⟩ = some (.int .i64 t.1) ∧ U.cell? ⟨w.heap.size, 1, none⟩ = some (.string t.2.1) ∧ U.cell? ⟨w.heap.size, 2, none⟩ = some (.int .i64 t.2.2) ∧
    ∃ g cap w3 w5, (∀ ty, (Builtin.append_ #[29, 29] ty #[vr, .slice (some ⟨U.heap.size, 0, none⟩) 1 1]).run Tryd.prog (U.drew.alloc (.cells #[.int .i64 t.1, .string t.2.1, .int .i64 t.2.2] 23)) = .ok (.slice (some ⟨g, 0, none⟩) (L.length + 1) cap) w3) ∧
      (∃ x, w3.cell? ⟨p, 0, none⟩ = some x) ∧ w3.cell? ⟨p, 1, none⟩ = some (.map (some m)) ∧ w3.frozen? ⟨p, 0, none⟩ = false ∧ w3.cell? ⟨w.heap.size, 0, none⟩ = some (.int .i64 t.1) ∧ w3.cell? ⟨w.heap.size, 1, none⟩ = some (.string t.2.1) ∧ w3.cell? ⟨w.heap.size, 2, none⟩ = some (.int .i64 t.2.2) ∧
      (Instr.mapUpdate 46 (.map (some m)) (.agg #[.int .i64 t.1, .string t.2.1, .int .i64 t.2.2]) (.int .i64 ((L.length : Int) + 1))).run Tryd.prog (w3.setCell ⟨p, 0, none⟩ (.slice (some ⟨g, 0, none⟩) (L.length + 1) cap)).drew = .ok () w5 ∧
      w5.cell? ⟨p, 0, none⟩ = some (.slice (some ⟨g, 0, none⟩) (L.length + 1) cap) ∧
      Hid ((∃ vr' mv', Tb w5 p vr' mv' (L ++ [t]) (ext G w w5)) ∧ Fr G w w5) := by
  have hltU : ∀ k, G' k → k < U.heap.size := fun k hk => ext_lt h.lt hf.size k (hG2 k hk)
  obtain ⟨g, cap, w3, w5, h1, h2, h3, h4, h5, h6, h7, _, h8, h9, ⟨vr', mv', hT⟩, hF⟩ := add_key (u := U.drew) (b := w.heap.size) t hp hrow hm hGm (hG p h.self) (fun k hk => ⟨hG k (h.rowIn k hk).1, (h.rowIn k hk).2, hrm k hk⟩) hltU hb hGb hn hl
  have hF2 : Fr G w w5 := hf.drew.trans hF (fun k hk hk' => by
    rcases hG2 k hk' with h | h
    · exact h
    · omega)
  have hsU : U.heap.size ≤ w5.heap.size := hF.size
  refine ⟨by rw [cell_of_row U p 0 _ _ _ hp]; rfl, by rw [cell_of_row U _ 0 _ _ _ hb]; rfl, by rw [cell_of_row U _ 1 _ _ _ hb]; rfl, by rw [cell_of_row U _ 2 _ _ _ hb]; rfl, g, cap, w3, w5, h1, h2, h3, h4, h5, h6, h7, h8, h9, ⟨vr', mv', hT.more (fun k hk => ?_) (ext_lt h.lt hF2.size)⟩, hF2⟩
  have hsw : w.heap.size ≤ U.heap.size := hf.size
  rcases hk with hk | hk
  · rcases hG2 k hk with h | h
    · exact Or.inl h
    · exact Or.inr ⟨h.1, by omega⟩
  · have : U.heap.size ≤ k := hk.1
    exact Or.inr ⟨by omega, hk.2⟩

set_option maxHeartbeats 2000000 in
theorem add_any {p : Nat} {vr mv : Value} {L : List Tm} {G : Nat → Prop} (t : Tm) {w : World} (h : Tb w p vr mv L G) (hn : find L t 0 = none) (hs : t.2.1.size ≤ 281474976710656) (hl : L.length ≤ 1000000) :
    Calls Tryd.prog 28 #[.pointer (some ⟨p, 0, none⟩), .agg #[.int .i64 t.1, .string t.2.1, .int .i64 t.2.2]] w fun e w' => e = .returned (.int .i64 ((L.length : Int) + 1)) ∧ (∃ vr' mv', Tb w' p vr' mv' (L ++ [t]) (ext G w w')) ∧ Fr G w w' := by
  have hplt := h.lt p h.self
  have hpb : ¬ p = w.heap.size := by omega
  have hpb' : ¬ w.heap.size = p := by omega
  have hmm := @run_makeMap Tryd.prog
  have he1 := eqlSome
  have he2 := eqlNil
  have HB : ∀ w1, Below (w.heap.size + 1) (w.alloc (.cells #[.int .i64 t.1, .string t.2.1, .int .i64 t.2.2] 23)) w1 → w1.cell? ⟨w.heap.size, 0, none⟩ = some (.int .i64 t.1) ∧ w1.cell? ⟨w.heap.size, 1, none⟩ = some (.string t.2.1) ∧ w1.cell? ⟨w.heap.size, 2, none⟩ = some (.int .i64 t.2.2) ∧ w1.frozen? ⟨w.heap.size, 1, none⟩ = false ∧ w1.cell? ⟨p, 0, none⟩ = some vr ∧ w1.cell? ⟨p, 1, none⟩ = some mv ∧ w1.frozen? ⟨p, 1, none⟩ = false ∧ w1.frozen? ⟨p, 0, none⟩ = false := by
    intro w1 hb1
    have hx : w1.heap[w.heap.size]? = some (.cells #[.int .i64 t.1, .string t.2.1, .int .i64 t.2.2] 23 (0, 0)) := by rw [hb1.block _ (by omega)]; exact heap_alloc_new _ _
    have hp1 : w1.heap[p]? = some (.cells #[vr, mv] 48 (0, 0)) := by rw [hb1.block _ (by omega), (below_box w _).block p hplt]; exact h.heap
    exact ⟨by rw [cell_of_row w1 _ 0 _ _ _ hx]; rfl, by rw [cell_of_row w1 _ 1 _ _ _ hx]; rfl, by rw [cell_of_row w1 _ 2 _ _ _ hx]; rfl, by simp [World.frozen?, hx], by rw [cell_of_row w1 _ 0 _ _ _ hp1]; rfl, by rw [cell_of_row w1 _ 1 _ _ _ hp1]; rfl, by simp [World.frozen?, hp1], by simp [World.frozen?, hp1]⟩
  have HB' : Hid _ := HB
  rcases h.ids with ⟨rfl, rfl, rfl⟩ | ⟨m, rfl, hm, hGm, hvm, hL0⟩
  · have H : Hid (_) := h
    clear h HB
    go_enter Tryd.func28, Tryd.ntmps28
    go_wp2_with fail
    refine (clone_any _ _ hs).mono ?_
    rintro e w1 ⟨rfl, hb1⟩
    have hb1' : Hid (Below (w.heap.size + 1) (w.alloc (.cells #[.int .i64 t.1, .string t.2.1, .int .i64 t.2.2] 23)) w1) := by
      show Below _ _ _
      simpa using hb1
    clear hb1
    obtain ⟨d0, d1, d2, d3, d4, d5, d6, d7⟩ := HB'.out _ hb1'.out
    have f1 : ∀ o, ((w1.setCell ⟨w.heap.size, 1, none⟩ (.string t.2.1)).alloc o).cell? ⟨p, 1, none⟩ = some (.map none) := fun o => by
      have hx : (w1.setCell ⟨w.heap.size, 1, none⟩ (.string t.2.1)).cell? ⟨p, 1, none⟩ = some (.map none) := (Fr.one w1 w.heap.size 1 (.string t.2.1)).cell d5 hpb
      exact (World.cell?_of_block ((below_box _ o).block p (World.block_lt_of_cell? _ _ hx))).trans hx
    have f2 : ∀ o, ((w1.setCell ⟨w.heap.size, 1, none⟩ (.string t.2.1)).alloc o).frozen? ⟨p, 1, none⟩ = false := fun o => by
      have hx : (w1.setCell ⟨w.heap.size, 1, none⟩ (.string t.2.1)).cell? ⟨p, 1, none⟩ = some (.map none) := (Fr.one w1 w.heap.size 1 (.string t.2.1)).cell d5 hpb
      rw [Fr.frozen (F := fun _ => False) (Fr.of_below (below_box _ o)) hx (fun h => h), Fr.frozen (Fr.one w1 w.heap.size 1 (.string t.2.1)) d5 hpb]
      exact d6
    have HF1 : Hid (Fr G w w1) := (Fr.of_below (F := G) (below_box w _)).trans (G := fun _ => False) (Fr.of_below (by simpa using hb1'.out)) (fun _ _ h => h.elim)
    have hb0 := hb1'.out
    have hs1 : w.heap.size + 1 ≤ w1.heap.size := by have := hb0.size; simpa using this
    have hX : (w1.setCell ⟨w.heap.size, 1, none⟩ (.string t.2.1)).heap.size = w1.heap.size := setCell_size _ _ _
    have hXa : ((w1.setCell ⟨w.heap.size, 1, none⟩ (.string t.2.1)).alloc (.map #[] 0)).heap.size = w1.heap.size + 1 := by simp
    have hpX : ((w1.setCell ⟨w.heap.size, 1, none⟩ (.string t.2.1)).alloc (.map #[] 0)).heap[p]? = some (.cells #[.slice none 0 0, .map none] 48 (0, 0)) := by
      rw [(below_box _ _).block p (by omega), setCell_self d1, hb0.block p (by omega), (below_box w _).block p hplt]
      exact H.out.heap
    have hfU : Fr G w (((w1.setCell ⟨w.heap.size, 1, none⟩ (.string t.2.1)).alloc (.map #[] 0)).setCell ⟨p, 1, none⟩ (.map (some w1.heap.size))) :=
      ((HF1.out.setCell (p := ⟨w.heap.size, 1, none⟩) (fun hh => absurd hh (Nat.lt_irrefl _)) _).alloc _).setCell (p := ⟨p, 1, none⟩) (fun _ => H.out.self) _
    have HU := add_tail (U := ((w1.setCell ⟨w.heap.size, 1, none⟩ (.string t.2.1)).alloc (.map #[] 0)).setCell ⟨p, 1, none⟩ (.map (some w1.heap.size))) (m := w1.heap.size) (G' := fun k => G k ∨ k = w1.heap.size) t H.out hfU (fun k hk => Or.inl hk) (fun k hk => by
        rcases hk with hk | hk
        · exact Or.inl hk
        · exact Or.inr ⟨by omega, by rw [setCell_size, hXa]; omega⟩) (by rw [heap_set hpX]; rfl) ⟨by simp [cellsT], .inl ⟨rfl, rfl⟩⟩ (by
        rw [(Fr.one _ p 1 _).block _ (by omega) (by omega), ← hX]
        exact heap_alloc_new _ _) (Or.inr rfl) (fun k hk => by simp [Value.ownBlock] at hk) (by
        rw [(Fr.one _ p 1 _).block _ (by omega) hpb', (below_box _ _).block _ (by omega), setCell_self d1, hb0.block _ (by omega)]
        exact heap_alloc_new _ _) (fun hk => by
        rcases hk with hk | hk
        · have := H.out.lt _ hk; omega
        · omega) hn hl
    clear hb0 hX hXa hpX hfU
    go_wp2_with fail
    generalize ((w1.setCell ⟨w.heap.size, 1, none⟩ (.string t.2.1)).alloc (.map #[] 0)).setCell ⟨p, 1, none⟩ (.map (some w1.heap.size)) = U at *
    obtain ⟨u0, u1, u2, u3, g, cap, w3, w5, hap, ⟨x, hx⟩, k1, kf, b0, b1, b2, hupd, k5, HX⟩ := HU
    clear f1 f2 d0 d1 d2 d3 d4 d5 d6 d7 HB' hb1'
    have ua0 : ∀ ob, (U.alloc ob).cell? ⟨p, 0, none⟩ = _ := fun ob => (World.cell?_of_block ((below_box _ ob).block p (World.block_lt_of_cell? _ _ u0))).trans u0
    go_region_law (refine step_append_run rfl (.tmp 22) (.tmp 24) 29 29 rfl (.slice none 0 0) (.slice (some ⟨U.heap.size, 0, none⟩) 1 1) (by simp [Act.eval]) (by simp [Act.eval]) (hap _) ?_)
    all_goals simp only [List.length_nil, Nat.zero_add, Int.ofNat_zero, Int.zero_add] at hupd k5
    all_goals go_wp2_with fail
    all_goals go_region
    all_goals go_wp2
    all_goals go_ret
    all_goals exact ⟨rfl, HX.out.1, HX.out.2⟩
  · have H : Hid (_) := h
    have hsh := h.shape
    clear h HB
    go_enter Tryd.func28, Tryd.ntmps28
    go_wp2_with fail
    refine (clone_any _ _ hs).mono ?_
    rintro e w1 ⟨rfl, hb1⟩
    have hb1' : Hid (Below (w.heap.size + 1) (w.alloc (.cells #[.int .i64 t.1, .string t.2.1, .int .i64 t.2.2] 23)) w1) := by
      show Below _ _ _
      simpa using hb1
    clear hb1
    obtain ⟨d0, d1, d2, d3, d4, d5, d6, d7⟩ := HB'.out _ hb1'.out
    have HF1 : Hid (Fr G w w1) := (Fr.of_below (F := G) (below_box w _)).trans (G := fun _ => False) (Fr.of_below (by simpa using hb1'.out)) (fun _ _ h => h.elim)
    have hb0 := hb1'.out
    have hs1 : w.heap.size + 1 ≤ w1.heap.size := by have := hb0.size; simpa using this
    have kp : ∀ k, k < w.heap.size → (w1.setCell ⟨w.heap.size, 1, none⟩ (.string t.2.1)).heap[k]? = w.heap[k]? := fun k hk => by
      rw [setCell_self d1, hb0.block k (by omega), (below_box w _).block k hk]
    have hfU : Fr G w (w1.setCell ⟨w.heap.size, 1, none⟩ (.string t.2.1)) := HF1.out.setCell (p := ⟨w.heap.size, 1, none⟩) (fun hh => absurd hh (Nat.lt_irrefl _)) _
    have hmlt := H.out.lt m hGm
    have HU := add_tail (U := w1.setCell ⟨w.heap.size, 1, none⟩ (.string t.2.1)) (m := m) (G' := G) t H.out hfU (fun k hk => hk) (fun k hk => Or.inl hk) ((kp p hplt).trans H.out.heap)
      (own_kept (F := fun k => w.heap.size ≤ k) H.out.row ⟨hfU.os, hfU.tape, hfU.output, hfU.size, fun k hk _ => kp k hk⟩ (fun k hk hle => by have := H.out.lt k (H.out.rowIn k hk).1; omega)) ((kp m hmlt).trans hm) hGm (fun k hk e => hvm (e ▸ hk)) (by
        rw [setCell_self d1, hb0.block _ (by omega)]
        exact heap_alloc_new _ _) (fun hk => by have := H.out.lt _ hk; omega) hn hl
    have u1' : (w1.setCell ⟨w.heap.size, 1, none⟩ (.string t.2.1)).cell? ⟨p, 1, none⟩ = some (.map (some m)) := by
      rw [World.cell?_of_block (setCell_self d1 p)]
      exact d5
    clear hb0 hfU kp
    go_wp2_with fail
    generalize w1.setCell ⟨w.heap.size, 1, none⟩ (.string t.2.1) = U at *
    obtain ⟨u0, u1, u2, u3, g, cap, w3, w5, hap, ⟨x, hx⟩, k1, kf, b0, b1, b2, hupd, k5, HX⟩ := HU
    clear d0 d1 d2 d3 d4 d5 d6 d7 HB' hb1'
    rcases hsh with ⟨rfl, hz⟩ | ⟨gr, capr, rfl, _⟩
    · omega
    · have ua0 : ∀ ob, (U.alloc ob).cell? ⟨p, 0, none⟩ = _ := fun ob => (World.cell?_of_block ((below_box _ ob).block p (World.block_lt_of_cell? _ _ u0))).trans u0
      go_region_law (refine step_append_run rfl (.tmp 22) (.tmp 24) 29 29 rfl (.slice (some ⟨gr, 0, none⟩) L.length capr) (.slice (some ⟨U.heap.size, 0, none⟩) 1 1) (by simp [Act.eval]) (by simp [Act.eval]) (hap _) ?_)
      all_goals go_wp2_with fail
      all_goals go_region
      all_goals go_wp2
      all_goals go_ret
      all_goals exact ⟨rfl, HX.out.1, HX.out.2⟩

end Go.Proofs.YtcmjfgjnemifbaaDoor
