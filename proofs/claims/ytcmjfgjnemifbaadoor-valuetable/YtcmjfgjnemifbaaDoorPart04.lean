/- The walk of the reference's Atom. What terms that came in read as. The walk of Fact. -/
import Derived.Test.YtcmjfgjnemifbaaDoorPart03
import Derived.Deep.Slices
import Derived.Deep.Strs
import Derived.Lib.SmallJoins
namespace Go.Proofs.YtcmjfgjnemifbaaDoor
open Go.RowKit

/-- A slice of terms in memory. -/
def Ts (w : World) (v : Value) (L : List Tm) : Prop :=
  ∃ ao cap, v = .slice ao L.length cap ∧ L.length ≤ cap ∧ (0 < L.length → ∃ g off, ao = some ⟨g, off, none⟩ ∧ ∀ i (h : i < L.length), w.cell? ⟨g, off + i * 3, none⟩ = some (.int .i64 L[i].1) ∧ w.cell? ⟨g, off + i * 3 + 1, none⟩ = some (.string L[i].2.1) ∧ w.cell? ⟨g, off + i * 3 + 2, none⟩ = some (.int .i64 L[i].2.2))
theorem Ts.kept {w w' : World} {v : Value} {L : List Tm} (h : Ts w v L) {F : Nat → Prop} (hf : Fr F w w') (hn : ∀ a n c, v = .slice (some a) n c → ¬ F a.block) : Ts w' v L := by
  obtain ⟨ao, cap, rfl, h1, h2⟩ := h
  refine ⟨ao, cap, rfl, h1, fun hp => ?_⟩
  obtain ⟨g, off, rfl, hc⟩ := h2 hp
  refine ⟨g, off, rfl, fun i hi => ?_⟩
  have hF := hn _ _ _ rfl
  exact ⟨hf.cell (hc i hi).1 hF, hf.cell (hc i hi).2.1 hF, hf.cell (hc i hi).2.2 hF⟩
theorem Ts.below {w w' : World} {v : Value} {L : List Tm} (h : Ts w v L) (hb : Below w.heap.size w w') : Ts w' v L :=
  h.kept (F := fun _ => False) (Fr.of_below hb) (fun _ _ _ _ hf => hf)

def prtL (L : List Tm) : List (List UInt8) := L.map fun t => (prt t).data.toList
theorem join_snoc (xs : List (List UInt8)) (x sep : List UInt8) : Lib.join (xs ++ [x]) sep = if xs = [] then x else Lib.join xs sep ++ sep ++ x := by
  cases xs with
  | nil => simp [Lib.join_one]
  | cons y r =>
    rw [List.cons_append, Lib.join_cons, Lib.join_cons, if_neg (by simp)]
    simp [Lib.joinTail, List.append_assoc]
/-- The text of a name with terms. -/
def factL (name : ByteArray) (L : List Tm) : List UInt8 := if L = [] then name.data.toList else name.data.toList ++ [40] ++ Lib.join (prtL L) [44, 32] ++ [41]
def factS (name : ByteArray) (L : List Tm) : ByteArray := ⟨(factL name L).toArray⟩

theorem prtL_take (L : List Tm) (k : Nat) (h : k < L.length) : prtL (L.take (k + 1)) = prtL (L.take k) ++ [(prt L[k]).data.toList] := by
  unfold prtL
  rw [List.take_add_one, List.getElem?_eq_getElem h, List.map_append]
  rfl

set_option maxHeartbeats 2000000 in
theorem atom_any (name : ByteArray) (v : Value) (L : List Tm) (w : World) (h : Ts w v L) (hl : L.length ≤ 1000) (hname : name.size ≤ 1000000) (hp : ∀ t ∈ L, (prt t).size ≤ 1000) (hn : ∀ t ∈ L, t.1 = 3 → -2147483648 ≤ t.2.2 ∧ t.2.2 ≤ 2147483648) :
    Calls Tryd.prog 23 #[.string name, v] w fun e w' => e = .returned (.string (factS name L)) ∧ Below w.heap.size w w' := by
  obtain ⟨ao, cap, rfl, h1, h2⟩ := h
  by_cases hz : L = []
  · subst hz
    have e : factS name [] = name := bytes_ext (by simp [factS, factL])
    rw [e]
    clear h2
    go_enter Tryd.func23, Tryd.ntmps23
    go_wp2
    go_ret
    exact ⟨rfl, Below.refl _ _⟩
  · have hpos : 0 < L.length := List.length_pos_iff.2 hz
    obtain ⟨g, off, rfl, hc⟩ := h2 hpos
    have hz' : ((L.length : Int) == 0) = false := by rw [beq_eq_false_iff_ne]; omega
    have HC : Hid _ := hc
    clear h2 hc
    go_enter Tryd.func23, Tryd.ntmps23
    go_wp2
    go_loopw [5, 6] (fun s i wr => ∃ (sb : ByteArray) (k : Nat), s = .string sb ∧ i = .int .i64 k ∧ k ≤ L.length ∧ sb.size ≤ name.size + 1 + 1002 * k ∧ Hid (sb.data.toList = name.data.toList ++ [40] ++ Lib.join (prtL (L.take k)) [44, 32]) ∧ Below w.heap.size w wr) (fun _ i _ => L.length - (intOf i).toNat)
    case atStart => exact ⟨_, 0, rfl, rfl, Nat.zero_le _, by rw [size_list, bytes_app, List.length_append, ← size_list]; simp, by show _ = _; rw [bytes_app]; simp [prtL, Lib.join_nil], Below.refl _ _⟩
    case round =>
      obtain ⟨sb, k, rfl, rfl, hk, hsz, HS, hb⟩ := hrel
      by_cases hlt : k < L.length
      · have c := HC.out k hlt
        have c0 := (World.cell?_of_block (hb.block g (World.block_lt_of_cell? w _ c.1))).trans c.1
        have c1 := (World.cell?_of_block (hb.block g (World.block_lt_of_cell? w _ c.1))).trans c.2.1
        have c2 := (World.cell?_of_block (hb.block g (World.block_lt_of_cell? w _ c.1))).trans c.2.2
        have HP : Hid (∀ W, Calls Tryd.prog 16 #[.agg #[.int .i64 L[k].1, .string L[k].2.1, .int .i64 L[k].2.2]] W fun e w' => e = .returned (.string (prt L[k])) ∧ Below W.heap.size W w') := fun W => printRef_any L[k] W (hn _ (List.getElem_mem hlt))
        have hps := hp _ (List.getElem_mem hlt)
        have HT := prtL_take L k hlt
        have HT' : Hid _ := HT
        have hlt' : (k : Int) < (L.length : Int) := by omega
        generalize hP : prt L[k] = P at *
        generalize L[k] = t at *
        clear c HT
        by_cases k0 : k = 0
        · subst k0
          simp only [Nat.zero_mul, Nat.add_zero] at c0 c1 c2
          go_wp2_with (go_at_call 16; refine (HP.out _).mono ?_; rintro e w' ⟨rfl, hb2⟩)
          go_roundw
          case rel =>
            refine ⟨_, 1, rfl, rfl, by omega, by rw [size_list, bytes_app, List.length_append, ← size_list, ← size_list]; omega, ?_, hb.trans (hb2.mono hb.size)⟩
            show _ = _
            rw [bytes_app, HS.out, HT'.out, join_snoc]
            simp [prtL, Lib.join_nil]
          case measure => simp [intOf]; omega
        · have hk0 : (0 : Int) < (k : Int) := by omega
          go_wp2_with (go_at_call 16; refine (HP.out _).mono ?_; rintro e w' ⟨rfl, hb2⟩)
          go_roundw
          case rel =>
            refine ⟨_, k + 1, rfl, by go_num, by omega, by have e2 : (⟨#[44, 32]⟩ : ByteArray).size = 2 := rfl; rw [size_list, bytes_app, bytes_app, List.length_append, List.length_append, ← size_list, ← size_list, ← size_list, e2]; omega, ?_, hb.trans (hb2.mono hb.size)⟩
            show _ = _
            rw [bytes_app, bytes_app, HS.out, HT'.out, join_snoc, if_neg (by
              intro e
              have := congrArg List.length e
              rw [prtL, List.length_map, List.length_take] at this
              simp only [List.length_nil] at this
              omega)]
            simp [List.append_assoc]
          case measure => simp [intOf]; omega
      · have hke : k = L.length := by omega
        subst hke
        go_wp2
        go_ret
        refine ⟨ret_str (bytes_ext ?_), hb⟩
        rw [bytes_app, HS.out, List.take_of_length_le (Nat.le_refl _)]
        simp [factS, factL, hz]
end Go.Proofs.YtcmjfgjnemifbaaDoor
namespace Go.Proofs.YtcmjfgjnemifbaaDoor
open Go.ChangeShapes Go.WideShapes Go.ChangeAt Go.RowKit Go.Joins

theorem three_cells {w : World} {base : Nat} {a : Addr} {cs : List Value} (h : w.cells? base a 3 = some cs) :
    ∃ c0 c1 c2, cs = [c0, c1, c2] ∧ w.cell? (a.add 0) = some c0 ∧ w.cell? (a.add 1) = some c1 ∧ w.cell? (a.add 2) = some c2 := by
  unfold World.cells? at h
  split at h
  · rw [show List.range 3 = [0, 1, 2] from rfl] at h
    simp only [List.mapM_cons, List.mapM_nil, Option.bind_eq_bind, Option.pure_def] at h
    cases h0 : w.cell? (a.add 0) <;> rw [h0] at h <;> simp at h
    cases h1 : w.cell? (a.add 1) <;> rw [h1] at h <;> simp at h
    cases h2 : w.cell? (a.add 2) <;> rw [h2] at h <;> simp at h
    exact ⟨_, _, _, h.symm, rfl, rfl, rfl⟩
  · cases h

/-- The cells of a term that is read. -/
theorem tm_cells {H : Type} {enc : TypeId × Value → H} {w : World} {fuel : Nat} {c0 c1 c2 : Value} {y : DataW H × List MemPlace} (h : DataW.trod enc Tryd.prog w 0 (fun _ => true) true fuel 23 [c0, c1, c2] = some y) :
    ∃ t : Tm, c0 = .int .i64 t.1 ∧ c1 = .string t.2.1 ∧ c2 = .int .i64 t.2.2 := by
  obtain ⟨y0, y1, y2, n, _, _, h0, h1, h2⟩ := Deep.trod_struct3 Tryd.underlying23 h
  rw [show Tryd.prog.cellsOf 3 = 1 from by kernel_rfl] at h0
  rw [show Tryd.prog.cellsOf 9 = 1 from by kernel_rfl] at h1
  rw [show Tryd.prog.cellsOf 2 = 1 from by kernel_rfl] at h2
  simp only [List.drop_zero, List.take_succ_cons, List.take_zero, List.drop_succ_cons] at h0 h1 h2
  obtain ⟨z0, e0, _, _⟩ := DataW.trod_int Tryd.underlying3 h0
  obtain ⟨s1, e1, _, _⟩ := DataW.trod_string Tryd.underlying9 h1
  obtain ⟨z2, e2, _, _⟩ := DataW.trod_int Tryd.underlying2 h2
  simp at e0 e1 e2
  exact ⟨(z0, s1, z2), e0, e1, e2⟩

/-- A term handed in by value. -/
theorem tm_told {H : Type} {enc : TypeId × Value → H} {w : World} {r : Reach} {b0 : Nat} {v : Value} {d : DataW H} {p : List MemPlace} (hv : Value.okWide Tryd.prog w r b0 23 v) (h : DataW.Trod enc Tryd.prog w 0 (fun _ => true) true 23 v d p) :
    ∃ t : Tm, v = .agg #[.int .i64 t.1, .string t.2.1, .int .i64 t.2.2] := by
  obtain ⟨cs, rfl, hsz⟩ := okWide_struct Tryd.underlying23 hv
  have hC : Tryd.prog.cellsOf 23 = 3 := by kernel_rfl
  obtain ⟨c0, c1, c2, rfl⟩ := array3 (hsz.trans hC)
  obtain ⟨fuel, hf⟩ := h
  obtain ⟨t, rfl, rfl, rfl⟩ := tm_cells (show DataW.trod enc Tryd.prog w 0 (fun _ => true) true fuel 23 [c0, c1, c2] = _ from hf)
  exact ⟨t, rfl⟩

/-- A slice of terms that is read. -/
theorem tms_told {H : Type} {enc : TypeId × Value → H} {w : World} {fuel : Nat} {ao : Option Addr} {len cap : Nat} {y : DataW H × List MemPlace} (h : DataW.trod enc Tryd.prog w 0 (fun _ => true) true fuel 29 [.slice ao len cap] = some y) :
    ∃ L : List Tm, L.length = len ∧ Ts w (.slice ao len cap) L ∧ len ≤ maxLen := by
  rcases Deep.open_slice Tryd.underlying29 h with ⟨hcs, _⟩ | ⟨a, len', cap', m, n, D, Pl, hcs, _, hl, hm, hmm, _, hel⟩
  · simp at hcs
    obtain ⟨rfl, rfl, rfl⟩ := hcs
    exact ⟨[], rfl, ⟨_, _, rfl, Nat.le_refl _, fun h => by simp at h⟩, by simp [maxLen]⟩
  · simp at hcs
    obtain ⟨rfl, rfl, rfl⟩ := hcs
    simp at hmm
    have hel' : ∀ i, i < len → ∃ t : Tm, w.cell? ((a.add (i * 3)).add 0) = some (.int .i64 t.1) ∧ w.cell? ((a.add (i * 3)).add 1) = some (.string t.2.1) ∧ w.cell? ((a.add (i * 3)).add 2) = some (.int .i64 t.2.2) := by
      intro i hi
      obtain ⟨cs', hc, ht⟩ := hel i (by omega)
      rw [show Tryd.prog.cellsOf 23 = 3 from by kernel_rfl] at hc
      obtain ⟨c0, c1, c2, rfl, k0, k1, k2⟩ := three_cells hc
      obtain ⟨t, rfl, rfl, rfl⟩ := tm_cells ht
      exact ⟨t, k0, k1, k2⟩
    obtain ⟨f, hf⟩ := Deep.choose_lt hel'
    have hL : ((List.range len).map f).length = len := by simp
    refine ⟨(List.range len).map f, hL, ⟨_, cap, by rw [hL], by omega, fun hp => ?_⟩, by omega⟩
    rw [hL] at hp
    have h00 := (hf 0 hp).1
    obtain ⟨b, off, spot⟩ := a
    have hspot : spot = none := by
      have := World.cell?_spot h00
      simpa [Addr.add] using this
    subst hspot
    refine ⟨b, off, rfl, fun j hj => ?_⟩
    rw [hL] at hj
    obtain ⟨g0, g1, g2⟩ := hf j hj
    rw [Addr.add_lit, Addr.add_lit] at g0 g1 g2
    simp only [List.getElem_map, List.getElem_range]
    exact ⟨by simpa using g0, g1, g2⟩
/-- A fact handed in by value. -/
theorem fact_told {H : Type} {enc : TypeId × Value → H} {w : World} {r : Reach} {b0 : Nat} {v : Value} {d : DataW H} {p : List MemPlace} (hv : Value.okWide Tryd.prog w r b0 37 v) (h : DataW.Trod enc Tryd.prog w 0 (fun _ => true) true 37 v d p) :
    ∃ (name : ByteArray) (u : Value) (L : List Tm), v = .agg #[.string name, u] ∧ Ts w u L ∧ L.length ≤ maxLen := by
  obtain ⟨v0, v1, y0, y1, n, rfl, _, _, h0, h1⟩ := open_agg2 Tryd.underlying37 (by kernel_rfl) (by kernel_rfl) hv h
  obtain ⟨s0, e0, _, _⟩ := DataW.trod_string Tryd.underlying9 h0
  simp at e0
  subst e0
  obtain ⟨ao, len, cap, rfl⟩ : ∃ ao len cap, v1 = .slice ao len cap := by
    rcases Deep.open_slice Tryd.underlying29 h1 with ⟨hcs, _⟩ | ⟨a, len', cap', m, n, D, Pl, hcs, _⟩
    · simp at hcs
      exact ⟨_, _, _, hcs⟩
    · simp at hcs
      exact ⟨_, _, _, hcs⟩
  obtain ⟨L, hL, hT, hm⟩ := tms_told h1
  exact ⟨s0, _, L, rfl, hT, by omega⟩
end Go.Proofs.YtcmjfgjnemifbaaDoor
namespace Go.Proofs.YtcmjfgjnemifbaaDoor
open Go.RowKit

theorem Tryd.info9 : (Tryd.prog.info? 9).map (fun i => (i.zero, i.size, i.bytes)) = some (some (.string ⟨#[]⟩), 1, 16) := by kernel_rfl

/-- The row of texts, so many of them made. -/
def rowL (L : List Tm) (k : Nat) : List Value := (L.take k).map (fun t => .string (prt t)) ++ List.replicate (L.length - k) (.string ⟨#[]⟩)
theorem rowL_len (L : List Tm) (k : Nat) (h : k ≤ L.length) : (rowL L k).length = L.length := by simp [rowL]; omega
theorem rowL_set (L : List Tm) (k : Nat) (h : k < L.length) : (rowL L k).set k (.string (prt L[k])) = rowL L (k + 1) := by
  unfold rowL
  have hl : ((L.take k).map (fun t => Value.string (prt t))).length = k := by simp; omega
  rw [List.set_append_right _ _ (by omega), hl, Nat.sub_self]
  rw [show L.length - k = (L.length - (k + 1)) + 1 by omega, List.replicate_succ, List.set_cons_zero, List.take_add_one, List.getElem?_eq_getElem h, List.map_append, List.append_assoc]
  rfl
theorem made_row (L : List Tm) : madeCells (Value.string ⟨#[]⟩).cells L.length = (rowL L 0).toArray := by
  apply Array.ext'
  apply List.ext_getElem?
  intro j
  by_cases hj : j < L.length
  · simp [madeCells, rowL, hj, Value.cells, Nat.mod_one]
  · simp [madeCells, rowL, hj]

theorem make_row (L : List Tm) (hl : L.length ≤ 1000) (W : World) : (Instr.makeSlice 50 (.int .i64 (L.length : Int)) (.int .i64 (L.length : Int))).run Tryd.prog W = .ok (.slice (some ⟨W.heap.size, 0, none⟩) L.length L.length) (W.alloc (.cells (rowL L 0).toArray 9)) := by
  obtain ⟨i, hi, hz, hsize, hby⟩ := info_parts Tryd.info9
  have h := run_make (P := Tryd.prog) W 50 9 i (.string ⟨#[]⟩) Tryd.underlying50 hi hz .i64 .i64 (L.length : Int) (L.length : Int) (by omega) (by omega) (by rw [hby]; omega) (by omega)
  rw [hsize, Nat.mul_one] at h
  simp only [Int.toNat_natCast] at h
  rw [made_row] at h
  exact h

theorem tail_len (sep : List UInt8) (hs : sep.length = 2) : ∀ r : List (List UInt8), (∀ x ∈ r, x.length ≤ 1000) → (Lib.joinTail sep r).length ≤ 1002 * r.length
  | [], _ => by simp [Lib.joinTail]
  | x :: r, h => by
    have h1 := tail_len sep hs r (fun y hy => h y (by simp [hy]))
    have h2 := h x (by simp)
    simp [Lib.joinTail] at h1 ⊢
    omega
theorem join_len (L : List Tm) (hp : ∀ t ∈ L, (prt t).size ≤ 1000) : (Lib.join (prtL L) [44, 32]).length ≤ 1002 * L.length := by
  cases L with
  | nil => simp [prtL, Lib.join_nil]
  | cons t r =>
    rw [prtL, List.map_cons, Lib.join_cons, List.length_append]
    have h1 := tail_len [44, 32] rfl (r.map fun t => (prt t).data.toList) (fun x hx => by
      obtain ⟨u, hu, rfl⟩ := List.mem_map.1 hx
      have := hp u (by simp [hu])
      rw [size_list] at this
      exact this)
    have h2 := hp t (by simp)
    rw [size_list] at h2
    rw [List.length_map] at h1
    rw [List.length_cons]
    omega

theorem join_any (b : Nat) (L : List Tm) (W : World) (hl : L.length ≤ 1000) (hp : ∀ t ∈ L, (prt t).size ≤ 1000) (hb : W.heap[b]? = some (.cells (rowL L L.length).toArray 9 (0, 0))) :
    Calls Tryd.prog 29 #[.slice (some ⟨b, 0, none⟩) L.length L.length, .string ⟨#[44, 32]⟩] W fun e w' => e = .returned (.string ⟨(Lib.join (prtL L) [44, 32]).toArray⟩) ∧ Below W.heap.size W w' := by
  have e1 : (L.map prt).length = L.length := List.length_map _
  have e2 : (L.map prt).map (·.data.toList) = prtL L := by simp [prtL]
  have hj := join_len L hp
  have h := Tryd.strings_Join b 0 L.length (L.map prt) ⟨#[44, 32]⟩ W (fun j x hx => by
    rw [Nat.zero_add, cell_of_row W b j _ _ _ hb]
    have : j < L.length := by
      have := (List.getElem?_eq_some_iff.1 hx).1
      simpa using this
    rw [List.getElem?_map] at hx
    have e3 : rowL L L.length = L.map (fun t => .string (prt t)) := by simp [rowL]
    rw [e3, List.getElem?_toArray, List.getElem?_map]
    cases hL : L[j]? with
    | none => rw [hL] at hx; simp at hx
    | some u =>
      rw [hL] at hx
      simp only [Option.map_some, Option.some.injEq] at hx ⊢
      rw [hx]) (Array.getElem?_eq_some_iff.1 hb).1 (by omega) (by omega) (by rw [e2]; show (Lib.join (prtL L) [44, 32]).length ≤ _; omega)
  rw [e1, e2] at h
  exact h

set_option maxHeartbeats 2000000 in
theorem fact_any (name : ByteArray) (v : Value) (L : List Tm) (w : World) (h : Ts w v L) (hl : L.length ≤ 1000) (hname : name.size ≤ 1000000) (hp : ∀ t ∈ L, (prt t).size ≤ 1000) (hn : ∀ t ∈ L, t.1 = 3 → Fm w t.2.2) :
    Calls Tryd.prog 22 #[.agg #[.string name, v]] w fun e w' => e = .returned (.string (factS name L)) ∧ Below w.heap.size w w' := by
  obtain ⟨ao, cap, rfl, h1, h2⟩ := h
  by_cases hz : L = []
  · subst hz
    have e : factS name [] = name := bytes_ext (by simp [factS, factL])
    rw [e]
    clear h2
    go_enter Tryd.func22, Tryd.ntmps22
    go_wp2
    go_ret
    exact ⟨rfl, below_box _ _⟩
  · have hpos : 0 < L.length := List.length_pos_iff.2 hz
    obtain ⟨g, off, rfl, hc⟩ := h2 hpos
    have hz' : ((L.length : Int) == 0) = false := by rw [beq_eq_false_iff_ne]; omega
    have hmk := make_row L hl
    have HC : Hid _ := hc
    clear h2 hc
    go_enter Tryd.func22, Tryd.ntmps22
    go_wp2
    go_loopw [19] (fun i wr => ∃ (k : Nat), i = .int .i64 k ∧ k ≤ L.length ∧ Hid (wr.heap[w.heap.size]? = some (.cells #[.string name, .slice (some ⟨g, off, none⟩) L.length cap] 37 (0, 0)) ∧ wr.heap[w.heap.size + 1]? = some (.cells (rowL L k).toArray 9 (0, 0))) ∧ Below w.heap.size w wr ∧ w.heap.size + 2 ≤ wr.heap.size) (fun i _ => L.length - (intOf i).toNat)
    case atStart =>
      refine ⟨0, rfl, Nat.zero_le _, ⟨?_, ?_⟩, below_box2 _ _ _, by simp⟩
      · rw [(below_box _ _).block _ (by simp)]
        exact heap_alloc_new _ _
      · have := heap_alloc_new (w.alloc (.cells #[.string name, .slice (some ⟨g, off, none⟩) L.length cap] 37)) (.cells (rowL L 0).toArray 9)
        simpa using this
    case round =>
      obtain ⟨k, rfl, hk, HR, hb, hsz⟩ := hrel
      by_cases hlt : k < L.length
      · have c := HC.out k hlt
        have c0 := (World.cell?_of_block (hb.block g (World.block_lt_of_cell? w _ c.1))).trans c.1
        have c1 := (World.cell?_of_block (hb.block g (World.block_lt_of_cell? w _ c.1))).trans c.2.1
        have c2 := (World.cell?_of_block (hb.block g (World.block_lt_of_cell? w _ c.1))).trans c.2.2
        have hfm := hn _ (List.getElem_mem hlt)
        have HP : Hid (∀ o, Calls Tryd.prog 15 #[.agg #[.int .i64 L[k].1, .string L[k].2.1, .int .i64 L[k].2.2]] (wr.alloc o) fun e w' => e = .returned (.string (prt L[k])) ∧ w'.heap[w.heap.size]? = some (.cells #[.string name, .slice (some ⟨g, off, none⟩) L.length cap] 37 (0, 0)) ∧ w'.heap[w.heap.size + 1]? = some (.cells (rowL L k).toArray 9 (0, 0)) ∧ Below w.heap.size w w' ∧ w.heap.size + 2 ≤ w'.heap.size) := fun o => by
          have hbo : Below w.heap.size w (wr.alloc o) := hb.alloc hb.size o
          refine (print_any L[k] (wr.alloc o) (fun h3 => (hfm h3).below hbo)).mono ?_
          rintro e w' ⟨rfl, hb2⟩
          have hs2 := hb2.size
          simp at hs2
          exact ⟨rfl, by rw [hb2.block _ (by simp; omega), (below_box _ o).block _ (by omega)]; exact HR.out.1, by rw [hb2.block _ (by simp; omega), (below_box _ o).block _ (by omega)]; exact HR.out.2, hbo.trans (hb2.mono (by simp; omega)), by omega⟩
        have HT := rowL_set L k hlt
        have hlt' : (k : Int) < (L.length : Int) := by omega
        have hrl := rowL_len L k hk
        generalize prt L[k] = P at *
        generalize L[k] = t at *
        have HT' : Hid _ := HT
        clear c HT hfm
        go_wp2_with fail
        refine (HP.out _).mono ?_
        rintro e w' ⟨rfl, b1, b2, b3, b4⟩
        obtain ⟨x, hx⟩ : ∃ x, w'.cell? ⟨w.heap.size + 1, k, none⟩ = some x := by
          rw [cell_of_row w' _ k _ _ _ b2]
          exact ⟨_, Array.getElem?_eq_getElem (by simp [hrl]; omega)⟩
        have hfz : w'.frozen? ⟨w.heap.size + 1, k, none⟩ = false := by simp [World.frozen?, b2]
        have HY : Hid ((w'.setCell ⟨w.heap.size + 1, k, none⟩ (.string P)).heap[w.heap.size]? = some (.cells #[.string name, .slice (some ⟨g, off, none⟩) L.length cap] 37 (0, 0)) ∧ (w'.setCell ⟨w.heap.size + 1, k, none⟩ (.string P)).heap[w.heap.size + 1]? = some (.cells (rowL L (k + 1)).toArray 9 (0, 0))) := by
          refine ⟨?_, ?_⟩
          · rw [(Fr.one w' (w.heap.size + 1) k _).block _ (by omega) (by omega)]; exact b1
          · rw [heap_set b2, ← HT'.out]
            simp
        have HZ : Hid (Below w.heap.size w (w'.setCell ⟨w.heap.size + 1, k, none⟩ (.string P))) := b3.setCell (by simp) _
        clear b1 b2
        go_wp2
        go_roundw
        case rel => exact ⟨k + 1, by go_num, by omega, HY, HZ.out, by rw [setCell_size]; exact b4⟩
        case measure => simp [intOf]; omega
      · have hke : k = L.length := by omega
        subst hke
        have HJ : Hid (∀ n, Calls Tryd.prog 29 #[.slice (some ⟨w.heap.size + 1, 0, none⟩) L.length L.length, .string ⟨#[44, 32]⟩] (wr.drewN n) fun e w' => e = .returned (.string ⟨(Lib.join (prtL L) [44, 32]).toArray⟩) ∧ w'.cell? ⟨w.heap.size, 0, none⟩ = some (.string name) ∧ Below w.heap.size w w') := fun n => by
          refine (join_any (w.heap.size + 1) L (wr.drewN n) hl hp HR.out.2).mono ?_
          rintro e w' ⟨rfl, hb2⟩
          have hs2 : wr.heap.size ≤ w'.heap.size := hb2.size
          refine ⟨rfl, ?_, ?_⟩
          · have : w'.heap[w.heap.size]? = some (.cells #[.string name, .slice (some ⟨g, off, none⟩) L.length cap] 37 (0, 0)) := by
              rw [hb2.block _ (by show _ < wr.heap.size; omega)]
              exact HR.out.1
            rw [cell_of_row w' _ 0 _ _ _ this]
            rfl
          · exact Below.trans (b := wr.drewN n) ⟨hb.os, hb.tape, hb.output, hb.size, hb.block⟩ (hb2.mono hb.size)
        have hj := join_len L hp
        have cn : wr.cell? ⟨w.heap.size, 0, none⟩ = some (.string name) := by
          rw [cell_of_row wr _ 0 _ _ _ HR.out.1]
          rfl
        have HE : Hid (factS name L = ((name ++ ⟨#[40]⟩) ++ ⟨(Lib.join (prtL L) [44, 32]).toArray⟩) ++ ⟨#[41]⟩) := by
          show _ = _
          apply bytes_ext
          rw [bytes_app, bytes_app, bytes_app]
          simp [factS, factL, hz]
        obtain ⟨J, HJe⟩ : ∃ J, Hid (J = (⟨(Lib.join (prtL L) [44, 32]).toArray⟩ : ByteArray)) := ⟨_, (rfl : _ = _)⟩
        have hJ : J.size ≤ 1002000 := by
          rw [HJe.out, size_list]
          show (Lib.join (prtL L) [44, 32]).length ≤ _
          omega
        rw [← HJe.out] at HJ HE
        have HJ1 : Hid _ := HJ.out 1
        clear HJe hj HJ
        go_wp2_with fail
        go_region_held (fun w' => w'.cell? ⟨w.heap.size, 0, none⟩ = some (.string name)) (first | exact cn | exact m0)
          (first | (go_at_call 29; refine Calls.mono HJ1.out ?_; rintro e w2 ⟨rfl, m0, hb2⟩))
        all_goals go_wp2
        all_goals go_ret
        all_goals exact ⟨ret_str HE.out.symm, hb2⟩
end Go.Proofs.YtcmjfgjnemifbaaDoor
