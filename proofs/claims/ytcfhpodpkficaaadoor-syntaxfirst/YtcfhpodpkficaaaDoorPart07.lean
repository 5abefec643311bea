/- The walk of Print. The walks of only and Fact. The law's first steps: one rule, one fact, one that is none. What the row's listed variables give the walks: the tables of signs and of the powers of ten. The law of many rules, in plain mathematics: its text, its words, what is read of them. -/
import Derived.Test.YtcfhpodpkficaaaDoorPart06
import Derived.Test.YtcfhpodpkficaaaDoorTie
import Derived.Test.YtcfhpodpkficaaaDoorCards
import Derived.ProofKit
import Derived.LaidMore
import Derived.OpenShut
import Derived.ShutString
import Derived.ChangeOld
import Derived.Below
import Derived.Stop.Joined
import Derived.Test.YtcfhpodpkficaaaDoorPart04
namespace Go.Proofs.YtcfhpodpkficaaaDoor.Sy
open Go.RowKit
open Lx (Wd tx)
open Vl (Tm Fr prt factS Fm Pow10)

structure OkR (q : Rul) : Prop where
  head : OkL q.1
  body : ∀ l ∈ q.2, OkL l
  few : q.2.length ≤ 6
def litT (l : Lit) : List UInt8 := (litS l).data.toList
def ruleL (q : Rul) : List UInt8 := if q.2 = [] then litT q.1 ++ [46] else litT q.1 ++ [32, 58, 45, 32] ++ Lib.join (q.2.map litT) [44, 32] ++ [46]
def ruleS (q : Rul) : ByteArray := ⟨(ruleL q).toArray⟩
theorem lit_small {l : Lit} (h : OkL l) : (litS l).size ≤ 5001 := by
  have hf := fact_small l h
  unfold litS
  split
  · rename_i h3
    have h2 := h.two h3
    have e0 : l.2.2.getD 0 (0, ⟨#[]⟩, 0) = l.2.2[0]'(by omega) := by simp [List.getD, List.getElem?_eq_getElem (show 0 < l.2.2.length by omega)]
    have e1 : l.2.2.getD 1 (0, ⟨#[]⟩, 0) = l.2.2[1]'(by omega) := by simp [List.getD, List.getElem?_eq_getElem (show 1 < l.2.2.length by omega)]
    rw [e0, e1]
    have p0 := prt_small (h.terms _ (List.getElem_mem (show 0 < l.2.2.length by omega)))
    have p1 := prt_small (h.terms _ (List.getElem_mem (show 1 < l.2.2.length by omega)))
    have ps := sign_small l.1
    have hb : (ByteArray.mk #[32]).size = 1 := rfl
    simp only [ByteArray.size_append, hb]
    omega
  · split
    · have hb : (ByteArray.mk #[33]).size = 1 := rfl
      rw [ByteArray.size_append, hb]
      omega
    · omega
theorem tail_len2 : ∀ r : List (List UInt8), (∀ x ∈ r, x.length ≤ 5001) → (Lib.joinTail [44, 32] r).length ≤ 5003 * r.length
  | [], _ => by simp [Lib.joinTail]
  | x :: r, h => by
    have h1 := tail_len2 r (fun y hy => h y (by simp [hy]))
    have hx := h x (by simp)
    simp [Lib.joinTail] at h1 ⊢
    omega
theorem join_len2 (ls : List Lit) (h : ∀ l ∈ ls, OkL l) : (Lib.join (ls.map litT) [44, 32]).length ≤ 5003 * ls.length := by
  cases ls with
  | nil => simp [Lib.join_nil]
  | cons l r =>
    rw [List.map_cons, Lib.join_cons, List.length_append]
    have h1 := tail_len2 (r.map litT) (fun x hx => by
      obtain ⟨y, hy, rfl⟩ := List.mem_map.1 hx
      have := lit_small (h y (by simp [hy]))
      rw [Vl.size_list] at this
      exact this)
    have h2 := lit_small (h l (by simp))
    rw [Vl.size_list] at h2
    have h3 : (litT l).length ≤ 5001 := h2
    rw [List.length_map] at h1
    rw [List.length_cons]
    omega
def rowS (ls : List Lit) (k : Nat) : List Value := (ls.take k).map (fun l => .string (litS l)) ++ List.replicate (ls.length - k) (.string ⟨#[]⟩)
theorem rowS_len (ls : List Lit) (k : Nat) (h : k ≤ ls.length) : (rowS ls k).length = ls.length := by simp [rowS]; omega
theorem rowS_set (ls : List Lit) (k : Nat) (h : k < ls.length) : (rowS ls k).set k (.string (litS ls[k])) = rowS ls (k + 1) := by
  unfold rowS
  have hl : ((ls.take k).map (fun l => Value.string (litS l))).length = k := by simp; omega
  rw [List.set_append_right _ _ (by omega), hl, Nat.sub_self, List.take_succ_eq_append_getElem h, List.map_append]
  obtain ⟨m, hm⟩ : ∃ m, ls.length - k = m + 1 := ⟨ls.length - k - 1, by omega⟩
  have hm2 : ls.length - (k + 1) = m := by omega
  rw [hm, hm2, List.replicate_succ]
  simp

theorem made_rowS (ls : List Lit) : madeCells (Value.string ⟨#[]⟩).cells ls.length = (rowS ls 0).toArray := by
  apply Array.ext'
  apply List.ext_getElem?
  intro j
  by_cases hj : j < ls.length
  · simp [madeCells, rowS, hj, Value.cells, Nat.mod_one]
  · simp [madeCells, rowS, hj]
theorem make_rowS (ls : List Lit) (hl : ls.length ≤ 1000) (W : World) : (Instr.makeSlice 51 (.int .i64 (ls.length : Int)) (.int .i64 (ls.length : Int))).run Tryd.prog W = .ok (.slice (some ⟨W.heap.size, 0, none⟩) ls.length ls.length) (W.alloc (.cells (rowS ls 0).toArray 9)) := by
  obtain ⟨i, hi, hz, hsize, hby⟩ := info_parts Vl.Tryd.info9
  have h := run_make (P := Tryd.prog) W 51 9 i (.string ⟨#[]⟩) Tryd.underlying51 hi hz .i64 .i64 (ls.length : Int) (ls.length : Int) (by omega) (by omega) (by rw [hby]; omega) (by omega)
  rw [hsize, Nat.mul_one] at h
  simp only [Int.toNat_natCast] at h
  rw [made_rowS] at h
  exact h

theorem joinS_any (b : Nat) (ls : List Lit) (W : World) (hl : ls.length ≤ 1000) (hp : ∀ l ∈ ls, OkL l) (hb : Bx W b 9 (rowS ls ls.length).toArray) :
    Calls Tryd.prog 15 #[.slice (some ⟨b, 0, none⟩) ls.length ls.length, .string ⟨#[44, 32]⟩] W fun e w' => e = .returned (.string ⟨(Lib.join (ls.map litT) [44, 32]).toArray⟩) ∧ Below W.heap.size W w' := by
  have e1 : (ls.map litS).length = ls.length := List.length_map _
  have e2 : (ls.map litS).map (·.data.toList) = ls.map litT := by simp [litT]
  have hj := join_len2 ls hp
  have h := Tryd.strings_Join b 0 ls.length (ls.map litS) ⟨#[44, 32]⟩ W (fun j x hx => by
    rw [Nat.zero_add, hb.c]
    rw [List.getElem?_map] at hx
    have e3 : rowS ls ls.length = ls.map (fun l => .string (litS l)) := by simp [rowS]
    rw [e3, List.getElem?_toArray, List.getElem?_map]
    cases hL : ls[j]? with
    | none => rw [hL] at hx; simp at hx
    | some u =>
      rw [hL] at hx
      simp only [Option.map_some, Option.some.injEq] at hx ⊢
      rw [hx]) hb.lt (by omega) (by omega) (by rw [e2]; show (Lib.join (ls.map litT) [44, 32]).length ≤ _; omega)
  rw [e1, e2] at h
  exact h

/-- A body's row, cell by cell. -/
theorem isLs_cells {w : World} {ls : List Lit} {ao : Option Addr} {n cap : Nat} (h : isLs w ls (.slice ao n cap)) : n = ls.length ∧ (0 < ls.length → ∃ g, ao = some ⟨g, 0, none⟩ ∧ ∀ i (hi : i < ls.length), ∃ va, isTs w ls[i].2.2 va ∧ w.cell? ⟨g, i * 3, none⟩ = some (.int .i64 ls[i].1) ∧ w.cell? ⟨g, i * 3 + 1, none⟩ = some (.string ls[i].2.1) ∧ w.cell? ⟨g, i * 3 + 2, none⟩ = some va) := by
  obtain ⟨zs, rfl, h2, h3⟩ := h
  have hlm : (zs.map (·.1)).length = zs.length := List.length_map _
  refine ⟨by rw [hlm]; exact (own_len h2).1, fun hp => ?_⟩
  rcases Lx.own_shape h2 with ⟨e, h0⟩ | ⟨g, cap', e, _⟩
  · omega
  · simp only [Value.slice.injEq] at e
    obtain ⟨rfl, rfl, rfl⟩ := e
    refine ⟨g, rfl, fun i hi0 => ?_⟩
    have hi : i < zs.length := by omega
    refine ⟨zs[i].2, ?_⟩
    have e : zs = zs.take i ++ zs[i] :: zs.drop (i + 1) := by simp
    have hl : (cellsLz (zs.take i)).length = i * 3 := by
      have : ∀ q : List (Lit × Value), (cellsLz q).length = q.length * 3 := fun q => by
        induction q with
        | nil => rfl
        | cons z q ih => simp [cellsLz] at ih ⊢; omega
      rw [this]; simp; omega
    have e2 : cellsLz zs = cellsLz (zs.take i) ++ (.int .i64 zs[i].1.1 :: .string zs[i].1.2.1 :: zs[i].2 :: cellsLz (zs.drop (i + 1))) := by
      conv => lhs; rw [e]
      unfold cellsLz
      rw [List.flatMap_append, List.flatMap_cons]
      rfl
    have hc : ∀ j, j < 3 → w.cell? ⟨g, i * 3 + j, none⟩ = [.int .i64 zs[i].1.1, .string zs[i].1.2.1, zs[i].2][j]? := fun j hj => by
      rw [h2.cellAt _ (by omega), e2, List.getElem?_append_right (by omega), hl, Nat.add_sub_cancel_left]
      match j, hj with
      | 0, _ => rfl
      | 1, _ => rfl
      | 2, _ => rfl
    have hz := h3 zs[i] (List.getElem_mem _)
    simp only [List.getElem_map]
    exact ⟨hz, hc 0 (by decide), hc 1 (by decide), hc 2 (by decide)⟩

set_option maxRecDepth 10000 in
set_option maxHeartbeats 4000000 in
theorem print_rule {w : World} {q : Rul} {y : Value} (h : isRul w q y) (hq : OkR q) (hT : Tb w) (hp : Pow10 w) :
    Calls Tryd.prog 8 #[y] w fun e w' => e = .returned (.string (ruleS q)) ∧ Below w.heap.size w w' := by
  obtain ⟨va, vb, rfl, hva, hvb⟩ := h
  obtain ⟨_, aoa, capa, rfl⟩ := own_len hva
  obtain ⟨aob, capb, rfl⟩ := isLs_shape hvb
  have HH : Hid (∀ o, Calls Tryd.prog 14 #[.agg #[.int .i64 q.1.1, .string q.1.2.1, .slice aoa q.1.2.2.length capa]] (w.alloc o) fun e w' => e = .returned (.string (litS q.1)) ∧ Below (w.alloc o).heap.size (w.alloc o) w') := fun o =>
    literalText_any (isTs_below hva (Lx.below_box w o)) hq.head (hT.below (Lx.below_box w o)) (hp.below (Lx.below_box w o))
  have hh := lit_small hq.head
  have hfew := hq.few
  by_cases hz : q.2 = []
  · have e : ruleS q = litS q.1 ++ ⟨#[46]⟩ := Vl.bytes_ext (by rw [Vl.bytes_app]; simp [ruleS, ruleL, hz, litT])
    have hz' : q.2.length = 0 := by rw [hz]; rfl
    rw [e]
    clear e hva hvb hT hp
    rw [hz']
    generalize litS q.1 = P at *
    go_enter Tryd.func8, Tryd.ntmps8
    go_wp2_with fail
    refine Calls.mono (HH.out _) ?_
    rintro e w1 ⟨rfl, hb1⟩
    have hB1 : Bx w1 w.heap.size 39 #[.int .i64 q.1.1, .string q.1.2.1, .slice aoa q.1.2.2.length capa, .slice aob 0 capb] := (Bx.new w _ _).below hb1
    have HB1 := hide ((Lx.below_box w _).trans (hb1.mono (by simp)))
    have c3 := hB1.four.1.2.2.2
    clear hB1 hb1 HH
    go_wp2_with fail
    go_ret
    exact ⟨rfl, HB1.out⟩
  · have hpos : 0 < q.2.length := List.length_pos_iff.2 hz
    have hg0 : ((q.2.length : Int) == 0) = false := by simp; omega
    obtain ⟨g, rfl, hc⟩ := (isLs_cells hvb).2 hpos
    have HC := hide hc
    have hmk := make_rowS q.2 (by omega)
    have HQ := hide hq
    have HP := hide hp
    have HT := hide hT
    have e : ruleS q = litS q.1 ++ ⟨#[32, 58, 45, 32]⟩ ++ ⟨(Lib.join (q.2.map litT) [44, 32]).toArray⟩ ++ ⟨#[46]⟩ := Vl.bytes_ext (by rw [Vl.bytes_app, Vl.bytes_app, Vl.bytes_app]; simp [ruleS, ruleL, hz, litT])
    rw [e]
    clear e hva hvb hT hp hc
    generalize litS q.1 = P at *
    go_enter Tryd.func8, Tryd.ntmps8
    go_wp2_with fail
    refine Calls.mono (HH.out _) ?_
    rintro e w1 ⟨rfl, hb1⟩
    have hB1 : Bx w1 w.heap.size 39 #[.int .i64 q.1.1, .string q.1.2.1, .slice aoa q.1.2.2.length capa, .slice (some ⟨g, 0, none⟩) q.2.length capb] := (Bx.new w _ _).below hb1
    have HB1 := hide ((Lx.below_box w _).trans (hb1.mono (by simp)))
    have c3 := hB1.four.1.2.2.2
    have c3' := fun o => (hB1.below (Lx.below_box w1 o)).four.1.2.2.2
    clear hB1 hb1 HH
    go_wp2_with fail
    clear c3 c3' hmk
    go_loopw [23] (fun i wr => ∃ k : Nat, i = .int .i64 k ∧ k ≤ q.2.length ∧ Hid (Bx wr w1.heap.size 9 (rowS q.2 k).toArray) ∧ Hid (Below w.heap.size w wr) ∧ w1.heap.size < wr.heap.size) (fun i _ => q.2.length - (intOf i).toNat)
    case atStart => exact ⟨0, rfl, Nat.zero_le _, Bx.new w1 _ _, HB1.out.alloc HB1.out.size _, by simp⟩
    case round =>
      obtain ⟨k, rfl, hk, HR, HW, hsz⟩ := hrel
      have hs1 := HB1.out.size
      by_cases hlt : k < q.2.length
      · have hlt' : (k : Int) < (q.2.length : Int) := by omega
        obtain ⟨va, hva, d0, d1, d2⟩ := HC.out k hlt
        obtain ⟨_, ao2, cap2, rfl⟩ := own_len hva
        have k0 := (World.cell?_of_block (HW.out.block g (World.block_lt_of_cell? w _ d0))).trans d0
        have k1 := (World.cell?_of_block (HW.out.block g (World.block_lt_of_cell? w _ d1))).trans d1
        have k2 := (World.cell?_of_block (HW.out.block g (World.block_lt_of_cell? w _ d2))).trans d2
        have HLt : Hid (∀ o, Calls Tryd.prog 14 #[.agg #[.int .i64 q.2[k].1, .string q.2[k].2.1, .slice ao2 q.2[k].2.2.length cap2]] (wr.alloc o) fun e w' => e = .returned (.string (litS q.2[k])) ∧ Below (wr.alloc o).heap.size (wr.alloc o) w') := fun o =>
          have hb := HW.out.alloc HW.out.size o
          literalText_any (isTs_below hva hb) (HQ.out.body _ (List.getElem_mem _)) (HT.out.below hb) (HP.out.below hb)
        have HS := hide (rowS_set q.2 k hlt)
        have hrl := rowS_len q.2 k hk
        clear d0 d1 d2 hva HC
        generalize litS q.2[k] = PL at *
        generalize q.2[k] = l at *
        go_wp2_with fail
        refine Calls.mono (HLt.out _) ?_
        rintro e w2 ⟨rfl, hb2⟩
        have hB2 : Bx w2 w1.heap.size 9 (rowS q.2 k).toArray := (HR.out.below (Lx.below_box wr _)).below hb2
        have hW2 : Below w.heap.size w w2 := (HW.out.alloc HW.out.size _).trans (hb2.mono (by have := HW.out.size; simp; omega))
        have hs2 := hb2.size
        simp at hs2
        obtain ⟨x, hx⟩ : ∃ x, w2.cell? ⟨w1.heap.size, k, none⟩ = some x := by
          rw [hB2.c]
          exact ⟨_, Array.getElem?_eq_getElem (by simp [hrl]; omega)⟩
        have hfz := hB2.f k
        have HB3 : Hid (Bx (w2.setCell ⟨w1.heap.size, k, none⟩ (.string PL)) w1.heap.size 9 (rowS q.2 (k + 1)).toArray) := by
          have := hB2.set k (.string PL)
          show Bx _ _ _ _
          rw [← HS.out]
          simpa using this
        have HW3 : Hid (Below w.heap.size w (w2.setCell ⟨w1.heap.size, k, none⟩ (.string PL))) := hW2.setCell (by show _ ≤ w1.heap.size; omega) _
        clear hB2 hW2 hb2 HLt HS HR HW
        go_wp2_with fail
        go_roundw
        case rel => exact ⟨k + 1, by go_num, by omega, HB3, HW3, by rw [Vl.setCell_size]; omega⟩
        case measure => simp [intOf]; omega
      · have hke : k = q.2.length := by omega
        subst hke
        have HJ := hide (joinS_any w1.heap.size q.2 wr (by omega) HQ.out.body HR.out)
        have hj := join_len2 q.2 HQ.out.body
        obtain ⟨J, HJe⟩ : ∃ J, Hid ((⟨(Lib.join (q.2.map litT) [44, 32]).toArray⟩ : ByteArray) = J) := ⟨_, rfl⟩
        have hJ : J.size ≤ 100000 := by
          rw [← HJe.out, Vl.size_list]
          show (Lib.join (q.2.map litT) [44, 32]).length ≤ _
          omega
        rw [HJe.out] at HJ
        clear hj
        go_wp2_with fail
        refine Calls.mono HJ.out ?_
        rintro e w2 ⟨rfl, hb2⟩
        have HB2 := hide (HW.out.trans (hb2.mono HW.out.size))
        clear HJ hb2
        go_wp2_with fail
        go_ret
        rw [HJe.out]
        exact ⟨rfl, HB2.out⟩
end Go.Proofs.YtcfhpodpkficaaaDoor.Sy
namespace Go.Proofs.YtcfhpodpkficaaaDoor.Sy
open Go.RowKit
open Lx (Wd tx cellsW bs)
open Vl (Tm Fr)

theorem sz38 : (Tryd.prog.info? 31).map (·.size) = some 2 := by kernel_rfl
theorem Bx.two {w : World} {b : Nat} {T : TypeId} {x y : Value} (h : Bx w b T #[x, y]) : (w.cell? ⟨b, 0, none⟩ = some x ∧ w.cell? ⟨b, 1, none⟩ = some y) ∧ w.frozen? ⟨b, 0, none⟩ = false ∧ w.frozen? ⟨b, 1, none⟩ = false :=
  ⟨⟨h.c 0, h.c 1⟩, h.f 0, h.f 1⟩

/-- What only gives. -/
def On (R : Except Bool Lit) (r : Nat) (w : World) (e : Ending) (w' : World) : Prop :=
  (match R with
  | .error c => e = .returned (.tuple #[litz, .int .i64 (if c = true then 8 else 4)])
  | .ok l => ∃ y, e = .returned (.tuple #[y, .int .i64 0]) ∧ isLit w' l y) ∧ Fr (fun k => k = r) w w'

set_option maxRecDepth 10000 in
set_option maxHeartbeats 4000000 in
theorem only_any (f : FuncId) (g : Wd → Option Tm) (hf : TermF f g) (he : Go.Proofs.Enters Tryd.prog f) {w : World} {r : Nat} {v : Value} {L : List Wd} {a : Nat} (h : Rd w r v L a) (hL : ∀ x ∈ L, OkF x) :
    Calls Tryd.prog 12 #[.pointer (some ⟨r, 0, none⟩), .func (.func f) #[.pointer (some ⟨r, 0, none⟩)] #[]] w fun e w' => On (onlyL g (L.drop a)) r w e w' := by
  have HA : Hid (∀ o, Calls Tryd.prog 17 #[.pointer (some ⟨r, 0, none⟩), .func (.func f) #[.pointer (some ⟨r, 0, none⟩)] #[]] (w.alloc o) fun e w' => Out isLit litz (atomL g (L.drop a)) r v L a (w.alloc o) e w') := fun o => atom_any f g hf he (h.below (Lx.below_box w o)) hL
  have H := hide h
  have hrlt := h.lt
  clear h hL hf he
  obtain ⟨R, hR⟩ : ∃ R, Hid (atomL g (L.drop a) = R) := ⟨_, rfl⟩
  rw [hR.out] at HA
  go_enter Tryd.func12, Tryd.ntmps12
  go_wp2_with fail
  refine Calls.mono (HA.out _) ?_
  intro e w1 ho
  cases R with
  | error c =>
    obtain ⟨rfl, hf1⟩ := ho
    have HE : Hid (onlyL g (L.drop a) = .error c) := by show _ = _; rw [onlyL, hR.out]
    have hB1 := hide fun o => ((Bx.new w #[.int .i64 0, .string ⟨#[]⟩, .slice none 0 0] 36).fr hf1 (by omega)).below (Lx.below_box w1 o)
    have F1 := hide fun o => (((Gg.refl H.out).alloc (.cells #[.int .i64 0, .string ⟨#[]⟩, .slice none 0 0] 36)).fr.trans hf1 (fun _ _ e => e)).alloc o
    have c0 := fun o => (hB1.out o).three.1.1
    have c1 := fun o => (hB1.out o).three.1.2.1
    have c2 := fun o => (hB1.out o).three.1.2.2
    have f0 := fun o => (hB1.out o).three.2.1
    have f1 := fun o => (hB1.out o).three.2.2.1
    have f2 := fun o => (hB1.out o).three.2.2.2
    clear HA hf1
    simp only [litz]
    cases c
    all_goals simp only [Bool.false_eq_true, if_false, if_true]
    all_goals go_wp2_with fail
    all_goals refine bodyPost_ret (ret_cell rfl _ _ w.heap.size 36 _ rfl ((((hB1.out _).set 0 _).set 1 _).set 2 _) Tryd.underlying36 sz33) rfl ?_
    all_goals (rw [HE.out]; exact ⟨rfl, fr3 (F1.out _) _ (Nat.le_refl _) _ _ _⟩)
  | ok p =>
    obtain ⟨l, rest⟩ := p
    obtain ⟨y, a1, rfl, ⟨va, rfl, hva⟩, hr1, hd1, hlt1, hf1⟩ := ho
    subst hd1
    obtain ⟨_, aoa, capa, rfl⟩ := own_len hva
    have hs1 := hf1.size
    simp at hs1
    have HE : Hid (onlyL g (L.drop a) = if takeR [46] (L.drop a1) = [] then .ok l else .error false) := by show _ = _; rw [onlyL, hR.out]
    have G1 := hide fun o => (((Gg.refl H.out).alloc (.cells #[.int .i64 0, .string ⟨#[]⟩, .slice none 0 0] 36)).then hr1 hf1).alloc o
    have hB1 := hide fun o => ((Bx.new w #[.int .i64 0, .string ⟨#[]⟩, .slice none 0 0] 36).fr hf1 (by omega)).below (Lx.below_box w1 o)
    have V1 := hide fun o => isTs_below hva (Lx.below_box w1 o)
    have HT2 := hide fun o => take_any [46] (by decide) (G1.out o).rd
    clear HA hf1 hr1 hva hR
    go_wp2_with fail
    refine Calls.mono (HT2.out _) ?_
    rintro e w2 ⟨rfl, a2, hr2, hd2, ha2, hf2⟩
    have G2 := hide ((G1.out _).then hr2 hf2)
    have hB2 := hide ((hB1.out _).fr hf2 (by omega))
    have hS2 := hide ((Bx.new w1 #[.int .i64 l.1, .string l.2.1, .slice aoa l.2.2.length capa] 36).fr hf2 (by omega))
    have V2 := hide (isTs_kept (G1.out _).rd hf2 (V1.out _))
    have HD := hide (done_any G2.out.rd)
    rw [← hd2] at HE
    have hle2 := hr2.le
    clear HT2 hr2 hf2 G1 hB1 V1 hd2
    go_wp2_with fail
    refine Calls.mono HD.out ?_
    rintro e w3 ⟨rfl, n, rfl⟩
    have G3 := hide (G2.out.below (below_drewN w2 n))
    have hB3 := hide (hB2.out.below (below_drewN w2 n))
    have hS3 := hide (hS2.out.below (below_drewN w2 n))
    have V3 := hide (isTs_below V2.out (below_drewN w2 n))
    obtain ⟨⟨c0, c1, c2⟩, f0, f1, f2⟩ := hB2.out.three
    obtain ⟨⟨d0, d1, d2⟩, _, _, _⟩ := hS2.out.three
    clear G2 hB2 hS2 V2 HD
    by_cases hd : a2 = L.length
    · rw [show decide (a2 = L.length) = true by simpa using hd]
      have HE' : Hid (onlyL g (L.drop a) = .ok l) := by show _ = _; rw [HE.out, if_pos (drop_end L a2 (by omega))]
      clear HE
      go_wp2_with fail
      refine bodyPost_ret (ret_cell rfl _ _ w.heap.size 36 _ rfl (((hB3.out.set 0 _).set 1 _).set 2 _) Tryd.underlying36 sz33) rfl ?_
      rw [HE'.out]
      exact ⟨⟨_, rfl, ⟨_, rfl, isTs_put3 V3.out hB3.out (by decide) _ _ _⟩⟩, fr3 G3.out.fr _ (Nat.le_refl _) _ _ _⟩
    · rw [show decide (a2 = L.length) = false by simpa using hd]
      have HE' : Hid (onlyL g (L.drop a) = .error false) := by
        show _ = _
        rw [HE.out, if_neg (by
          intro e0
          have := congrArg List.length e0
          rw [List.length_drop] at this
          simp at this
          omega)]
      clear HE
      go_wp2_with fail
      refine bodyPost_ret (ret_cell rfl _ _ w.heap.size 36 _ rfl (((hB3.out.set 0 _).set 1 _).set 2 _) Tryd.underlying36 sz33) rfl ?_
      rw [HE'.out]
      exact ⟨rfl, fr3 G3.out.fr _ (Nat.le_refl _) _ _ _⟩

/-- What Fact gives of words. -/
def Fa (R : Except Bool Lit) (w : World) (e : Ending) (w' : World) : Prop :=
  (match R with
  | .error c => e = .returned (.tuple #[.agg #[.string ⟨#[]⟩, .slice none 0 0], .int .i64 (if c = true then 8 else 4)])
  | .ok l => ∃ va, e = .returned (.tuple #[.agg #[.string l.2.1, va], .int .i64 0]) ∧ isTs w' l.2.2 va) ∧ Below w.heap.size w w'

set_option maxRecDepth 10000 in
set_option maxHeartbeats 4000000 in
theorem fact_of (s : ByteArray) (w : World) (hs : s.size ≤ 4000) (HW : ∀ o, Calls Tryd.prog 16 #[.string s] (w.alloc o) fun e w' => Ws s (w.alloc o) e w') :
    Calls Tryd.prog 7 #[.string s] w fun e w' => Fa (onlyL constW (wordsL (bs s))) w e w' := by
  have HO := hide fun o => open_of s (w.alloc o) hs (HW o)
  have HL := hide (words_ok (bs s)).1
  have hmf := mk_func
  clear HW
  obtain ⟨L, hL⟩ : ∃ L, wordsL (bs s) = L := ⟨_, rfl⟩
  rw [hL] at HO HL ⊢
  clear hL
  obtain ⟨R, hR⟩ : ∃ R, Hid (onlyL constW L = R) := ⟨_, rfl⟩
  rw [hR.out]
  go_enter Tryd.func7, Tryd.ntmps7
  go_wp2_with fail
  refine Calls.mono (HO.out _) ?_
  rintro e w1 ⟨r, v, rfl, hr1, hb1, hrw⟩
  have hs1 := hb1.size
  simp at hs1 hrw
  have hB1 := hide ((Bx.new w #[.string ⟨#[]⟩, .slice none 0 0] 31).below hb1)
  have HB1 := hide ((Lx.below_box w _).trans (hb1.mono (by simp)))
  have HC := hide (only_any 13 constW constant_f enters36 hr1 HL.out)
  rw [List.drop_zero, hR.out] at HC
  have hrl := hr1.lt
  clear HO hr1 hb1 HL
  clear hR
  go_wp2_with fail
  refine Calls.mono HC.out ?_
  rintro e w2 ⟨ho, hf2⟩
  have hB2 := hide fun o => (hB1.out.fr hf2 (by omega)).below (Lx.below_box w2 o)
  have HB2 := hide fun o => HB1.out.trans ((hf2.alloc o).below (fun k hk => by omega) HB1.out.size)
  have c0 := fun o => (hB2.out o).two.1.1
  have c1 := fun o => (hB2.out o).two.1.2
  have f0 := fun o => (hB2.out o).two.2.1
  have f1 := fun o => (hB2.out o).two.2.2
  clear HC hf2 hB1 HB1
  cases R with
  | error c =>
    have ho' : e = .returned (.tuple #[.agg #[.int .i64 0, .string ⟨#[]⟩, .slice none 0 0], .int .i64 (if c = true then 8 else 4)]) := ho
    subst ho'
    cases c
    all_goals simp only [Bool.false_eq_true, if_false, if_true]
    all_goals go_wp2_with fail
    all_goals refine bodyPost_ret (ret_cell rfl _ _ w.heap.size 31 _ rfl (((hB2.out _).set 0 _).set 1 _) Tryd.underlying31 sz38) rfl ?_
    all_goals exact ⟨rfl, ((HB2.out _).setCell (by simp) _).setCell (by simp) _⟩
  | ok l =>
    obtain ⟨y, rfl, ⟨va, rfl, hva⟩⟩ := ho
    obtain ⟨_, aoa, capa, rfl⟩ := own_len hva
    have V2 := hide fun o => isTs_below hva (Lx.below_box w2 o)
    clear hva
    go_wp2_with fail
    refine bodyPost_ret (ret_cell rfl _ _ w.heap.size 31 _ rfl (((hB2.out _).set 0 _).set 1 _) Tryd.underlying31 sz38) rfl ?_
    exact ⟨⟨_, rfl, isTs_put (isTs_put (V2.out _) (hB2.out _) (by decide) 0 _) ((hB2.out _).set 0 _) (by decide) 1 _⟩, ((HB2.out _).setCell (by simp) _).setCell (by simp) _⟩

end Go.Proofs.YtcfhpodpkficaaaDoor.Sy
namespace Go.Proofs.YtcfhpodpkficaaaDoor.Sy
open Go.RowKit
open Lx (Wd tx bs Sg scanL scanL_nil scanL_cons blankN sizeL kindL scanAt)
open Vl (Tm Fr Pow10)

theorem step_word (c : UInt8) (t : List UInt8) (a n k : Nat) (x r : List UInt8) (L : List Wd) (h1 : blankN c.toNat = false) (h2 : ¬ c.toNat = 37) (h3 : sizeL (c :: t) = n) (h4 : ¬ (n = 0 ∨ 16 < n)) (h5 : t.drop (n - 1) = r) (h6 : kindL (c :: t) = k) (h7 : (c :: t).take n = x) (h8 : scanL r (a + n) = some L) : scanL (c :: t) a = some ((k, x, a) :: L) := by
  rw [scanL_cons, if_neg (by rw [h1]; decide), if_neg h2, h3, if_neg h4, h5, h6, h7, h8]
  rfl
theorem step_blank (c : UInt8) (t : List UInt8) (a : Nat) (L : List Wd) (h1 : blankN c.toNat = true) (h8 : scanL t (a + 1) = some L) : scanL (c :: t) a = some L := by
  rw [scanL_cons, if_pos h1, h8]

theorem beg1 : scanL [112, 40, 88, 41, 32, 58, 45, 32, 113, 40, 88, 44, 32, 51, 41, 44, 32, 33, 114, 40, 88, 41, 44, 32, 88, 32, 33, 61, 32, 97, 46] 0 = some [(1, [112], 0), (4, [40], 1), (2, [88], 2), (4, [41], 3), (4, [58, 45], 5), (1, [113], 8), (4, [40], 9), (2, [88], 10), (4, [44], 11), (3, [51], 13), (4, [41], 14), (4, [44], 15), (4, [33], 17), (1, [114], 18), (4, [40], 19), (2, [88], 20), (4, [41], 21), (4, [44], 22), (2, [88], 24), (4, [33, 61], 26), (1, [97], 29), (4, [46], 30)] := by
  have s30 := step_word 46 [] 30 1 4 [46] _ _ (by decide) (by decide) (by decide) (by decide) rfl (by decide) rfl (scanL_nil 31)
  have s29 := step_word 97 [46] 29 1 1 [97] _ _ (by decide) (by decide) (by decide) (by decide) rfl (by decide) rfl s30
  have s28 := step_blank 32 [97, 46] 28 _ (by decide) s29
  have s26 := step_word 33 [61, 32, 97, 46] 26 2 4 [33, 61] _ _ (by decide) (by decide) (by decide) (by decide) rfl (by decide) rfl s28
  have s25 := step_blank 32 [33, 61, 32, 97, 46] 25 _ (by decide) s26
  have s24 := step_word 88 [32, 33, 61, 32, 97, 46] 24 1 2 [88] _ _ (by decide) (by decide) (by decide) (by decide) rfl (by decide) rfl s25
  have s23 := step_blank 32 [88, 32, 33, 61, 32, 97, 46] 23 _ (by decide) s24
  have s22 := step_word 44 [32, 88, 32, 33, 61, 32, 97, 46] 22 1 4 [44] _ _ (by decide) (by decide) (by decide) (by decide) rfl (by decide) rfl s23
  have s21 := step_word 41 [44, 32, 88, 32, 33, 61, 32, 97, 46] 21 1 4 [41] _ _ (by decide) (by decide) (by decide) (by decide) rfl (by decide) rfl s22
  have s20 := step_word 88 [41, 44, 32, 88, 32, 33, 61, 32, 97, 46] 20 1 2 [88] _ _ (by decide) (by decide) (by decide) (by decide) rfl (by decide) rfl s21
  have s19 := step_word 40 [88, 41, 44, 32, 88, 32, 33, 61, 32, 97, 46] 19 1 4 [40] _ _ (by decide) (by decide) (by decide) (by decide) rfl (by decide) rfl s20
  have s18 := step_word 114 [40, 88, 41, 44, 32, 88, 32, 33, 61, 32, 97, 46] 18 1 1 [114] _ _ (by decide) (by decide) (by decide) (by decide) rfl (by decide) rfl s19
  have s17 := step_word 33 [114, 40, 88, 41, 44, 32, 88, 32, 33, 61, 32, 97, 46] 17 1 4 [33] _ _ (by decide) (by decide) (by decide) (by decide) rfl (by decide) rfl s18
  have s16 := step_blank 32 [33, 114, 40, 88, 41, 44, 32, 88, 32, 33, 61, 32, 97, 46] 16 _ (by decide) s17
  have s15 := step_word 44 [32, 33, 114, 40, 88, 41, 44, 32, 88, 32, 33, 61, 32, 97, 46] 15 1 4 [44] _ _ (by decide) (by decide) (by decide) (by decide) rfl (by decide) rfl s16
  have s14 := step_word 41 [44, 32, 33, 114, 40, 88, 41, 44, 32, 88, 32, 33, 61, 32, 97, 46] 14 1 4 [41] _ _ (by decide) (by decide) (by decide) (by decide) rfl (by decide) rfl s15
  have s13 := step_word 51 [41, 44, 32, 33, 114, 40, 88, 41, 44, 32, 88, 32, 33, 61, 32, 97, 46] 13 1 3 [51] _ _ (by decide) (by decide) (by decide) (by decide) rfl (by decide) rfl s14
  have s12 := step_blank 32 [51, 41, 44, 32, 33, 114, 40, 88, 41, 44, 32, 88, 32, 33, 61, 32, 97, 46] 12 _ (by decide) s13
  have s11 := step_word 44 [32, 51, 41, 44, 32, 33, 114, 40, 88, 41, 44, 32, 88, 32, 33, 61, 32, 97, 46] 11 1 4 [44] _ _ (by decide) (by decide) (by decide) (by decide) rfl (by decide) rfl s12
  have s10 := step_word 88 [44, 32, 51, 41, 44, 32, 33, 114, 40, 88, 41, 44, 32, 88, 32, 33, 61, 32, 97, 46] 10 1 2 [88] _ _ (by decide) (by decide) (by decide) (by decide) rfl (by decide) rfl s11
  have s9 := step_word 40 [88, 44, 32, 51, 41, 44, 32, 33, 114, 40, 88, 41, 44, 32, 88, 32, 33, 61, 32, 97, 46] 9 1 4 [40] _ _ (by decide) (by decide) (by decide) (by decide) rfl (by decide) rfl s10
  have s8 := step_word 113 [40, 88, 44, 32, 51, 41, 44, 32, 33, 114, 40, 88, 41, 44, 32, 88, 32, 33, 61, 32, 97, 46] 8 1 1 [113] _ _ (by decide) (by decide) (by decide) (by decide) rfl (by decide) rfl s9
  have s7 := step_blank 32 [113, 40, 88, 44, 32, 51, 41, 44, 32, 33, 114, 40, 88, 41, 44, 32, 88, 32, 33, 61, 32, 97, 46] 7 _ (by decide) s8
  have s5 := step_word 58 [45, 32, 113, 40, 88, 44, 32, 51, 41, 44, 32, 33, 114, 40, 88, 41, 44, 32, 88, 32, 33, 61, 32, 97, 46] 5 2 4 [58, 45] _ _ (by decide) (by decide) (by decide) (by decide) rfl (by decide) rfl s7
  have s4 := step_blank 32 [58, 45, 32, 113, 40, 88, 44, 32, 51, 41, 44, 32, 33, 114, 40, 88, 41, 44, 32, 88, 32, 33, 61, 32, 97, 46] 4 _ (by decide) s5
  have s3 := step_word 41 [32, 58, 45, 32, 113, 40, 88, 44, 32, 51, 41, 44, 32, 33, 114, 40, 88, 41, 44, 32, 88, 32, 33, 61, 32, 97, 46] 3 1 4 [41] _ _ (by decide) (by decide) (by decide) (by decide) rfl (by decide) rfl s4
  have s2 := step_word 88 [41, 32, 58, 45, 32, 113, 40, 88, 44, 32, 51, 41, 44, 32, 33, 114, 40, 88, 41, 44, 32, 88, 32, 33, 61, 32, 97, 46] 2 1 2 [88] _ _ (by decide) (by decide) (by decide) (by decide) rfl (by decide) rfl s3
  have s1 := step_word 40 [88, 41, 32, 58, 45, 32, 113, 40, 88, 44, 32, 51, 41, 44, 32, 33, 114, 40, 88, 41, 44, 32, 88, 32, 33, 61, 32, 97, 46] 1 1 4 [40] _ _ (by decide) (by decide) (by decide) (by decide) rfl (by decide) rfl s2
  have s0 := step_word 112 [40, 88, 41, 32, 58, 45, 32, 113, 40, 88, 44, 32, 51, 41, 44, 32, 33, 114, 40, 88, 41, 44, 32, 88, 32, 33, 61, 32, 97, 46] 0 1 1 [112] _ _ (by decide) (by decide) (by decide) (by decide) rfl (by decide) rfl s1
  exact s0

theorem beg2 : scanL [113, 40, 97, 44, 32, 45, 51, 41, 46] 0 = some [(1, [113], 0), (4, [40], 1), (1, [97], 2), (4, [44], 3), (3, [45, 51], 5), (4, [41], 7), (4, [46], 8)] := by
  have s8 := step_word 46 [] 8 1 4 [46] _ _ (by decide) (by decide) (by decide) (by decide) rfl (by decide) rfl (scanL_nil 9)
  have s7 := step_word 41 [46] 7 1 4 [41] _ _ (by decide) (by decide) (by decide) (by decide) rfl (by decide) rfl s8
  have s5 := step_word 45 [51, 41, 46] 5 2 3 [45, 51] _ _ (by decide) (by decide) (by decide) (by decide) rfl (by decide) rfl s7
  have s4 := step_blank 32 [45, 51, 41, 46] 4 _ (by decide) s5
  have s3 := step_word 44 [32, 45, 51, 41, 46] 3 1 4 [44] _ _ (by decide) (by decide) (by decide) (by decide) rfl (by decide) rfl s4
  have s2 := step_word 97 [44, 32, 45, 51, 41, 46] 2 1 1 [97] _ _ (by decide) (by decide) (by decide) (by decide) rfl (by decide) rfl s3
  have s1 := step_word 40 [97, 44, 32, 45, 51, 41, 46] 1 1 4 [40] _ _ (by decide) (by decide) (by decide) (by decide) rfl (by decide) rfl s2
  have s0 := step_word 113 [40, 97, 44, 32, 45, 51, 41, 46] 0 1 1 [113] _ _ (by decide) (by decide) (by decide) (by decide) rfl (by decide) rfl s1
  exact s0

theorem beg3 : scanL [113, 40, 88, 41] 0 = some [(1, [113], 0), (4, [40], 1), (2, [88], 2), (4, [41], 3)] := by
  have s3 := step_word 41 [] 3 1 4 [41] _ _ (by decide) (by decide) (by decide) (by decide) rfl (by decide) rfl (scanL_nil 4)
  have s2 := step_word 88 [41] 2 1 2 [88] _ _ (by decide) (by decide) (by decide) (by decide) rfl (by decide) rfl s3
  have s1 := step_word 40 [88, 41] 1 1 4 [40] _ _ (by decide) (by decide) (by decide) (by decide) rfl (by decide) rfl s2
  have s0 := step_word 113 [40, 88, 41] 0 1 1 [113] _ _ (by decide) (by decide) (by decide) (by decide) rfl (by decide) rfl s1
  exact s0


def ruleB : Rul := ((1, tx [112], [(1, tx [88], 0)]), [(1, tx [113], [(1, tx [88], 0), (3, ⟨#[]⟩, 3)]), (2, tx [114], [(1, tx [88], 0)]), (4, ⟨#[]⟩, [(1, tx [88], 0), (2, tx [97], 0)])])
def factB : Lit := (1, tx [113], [(2, tx [97], 0), (3, ⟨#[]⟩, -3)])
theorem parse1 : progL 30 [(1, [112], 0), (4, [40], 1), (2, [88], 2), (4, [41], 3), (4, [58, 45], 5), (1, [113], 8), (4, [40], 9), (2, [88], 10), (4, [44], 11), (3, [51], 13), (4, [41], 14), (4, [44], 15), (4, [33], 17), (1, [114], 18), (4, [40], 19), (2, [88], 20), (4, [41], 21), (4, [44], 22), (2, [88], 24), (4, [33, 61], 26), (1, [97], 29), (4, [46], 30)] = .ok [ruleB] := by kernel_rfl
theorem parse2 : onlyL constW [(1, [113], 0), (4, [40], 1), (1, [97], 2), (4, [44], 3), (3, [45, 51], 5), (4, [41], 7), (4, [46], 8)] = .ok factB := by kernel_rfl
theorem parse3 : onlyL constW [(1, [113], 0), (4, [40], 1), (2, [88], 2), (4, [41], 3)] = .error false := by kernel_rfl
theorem itoa3 : Lib.itoa 3 = [51] := by
  rw [show (3 : Int) = ((3 : Nat) : Int) by rfl, Lib.itoa_nonneg, Lib.decDigits_one (by omega)]
  rfl
theorem text1 : ruleS ruleB = ⟨#[112, 40, 88, 41, 32, 58, 45, 32, 113, 40, 88, 44, 32, 51, 41, 44, 32, 33, 114, 40, 88, 41, 44, 32, 88, 32, 33, 61, 32, 97, 46]⟩ := by
  apply Vl.bytes_ext
  show ruleL ruleB = [112, 40, 88, 41, 32, 58, 45, 32, 113, 40, 88, 44, 32, 51, 41, 44, 32, 33, 114, 40, 88, 41, 44, 32, 88, 32, 33, 61, 32, 97, 46]
  simp [ruleL, ruleB, litT, litS, Vl.factS, Vl.factL, Vl.prtL, Vl.prt, itoa3, signS, Lib.join_cons, Lib.joinTail, tx]
theorem okT_var (x : List UInt8) (h : x.length ≤ 16) : OkT (1, tx x, 0) := ⟨fun h => absurd h (show ¬ (1 : Int) = 3 by decide), h⟩
theorem okB : OkR ruleB := by
  have v1 : OkT (1, tx [88], 0) := okT_var _ (by decide)
  have v2 : OkT (3, ⟨#[]⟩, 3) := ⟨fun _ => by decide, by decide⟩
  have v3 : OkT (2, tx [97], 0) := ⟨fun h => absurd h (by decide), by decide⟩
  refine ⟨⟨by decide, by decide, ?_, by decide, fun h => absurd h (by decide)⟩, ?_, by decide⟩
  · intro t ht
    obtain rfl : t = (1, tx [88], 0) := by simpa [ruleB] using ht
    exact v1
  · intro l hl
    simp only [ruleB, List.mem_cons, List.not_mem_nil, or_false] at hl
    rcases hl with rfl | rfl | rfl
    · refine ⟨by decide, by decide, ?_, by decide, fun h => absurd h (by decide)⟩
      intro t ht
      simp only [List.mem_cons, List.not_mem_nil, or_false] at ht
      rcases ht with rfl | rfl
      · exact v1
      · exact v2
    · refine ⟨by decide, by decide, ?_, by decide, fun h => absurd h (by decide)⟩
      intro t ht
      simp only [List.mem_cons, List.not_mem_nil, or_false] at ht
      rw [ht]
      exact v1
    · refine ⟨by decide, by decide, ?_, by decide, fun _ => rfl⟩
      intro t ht
      simp only [List.mem_cons, List.not_mem_nil, or_false] at ht
      rcases ht with rfl | rfl
      · exact v1
      · exact v3

/-- The tables that the walks ask for. -/
structure Tabs (w : World) : Prop where
  lex : Sg w
  syn : Tb w
  pow : Pow10 w
theorem Tabs.below {w w' : World} (h : Tabs w) (hb : Below w.heap.size w w') : Tabs w' := ⟨h.lex.below hb, h.syn.below hb, h.pow.below hb⟩

/-- A row of one rule. -/
theorem one_rule {w : World} {q : Rul} {y : Value} (h : isRs w [q] y) : ∃ g cap va vb, y = .slice (some ⟨g, 0, none⟩) 1 cap ∧ isTs w q.1.2.2 va ∧ isLs w q.2 vb ∧ w.cell? ⟨g, 0, none⟩ = some (.int .i64 q.1.1) ∧ w.cell? ⟨g, 1, none⟩ = some (.string q.1.2.1) ∧ w.cell? ⟨g, 2, none⟩ = some va ∧ w.cell? ⟨g, 3, none⟩ = some vb := by
  obtain ⟨zs, h1, h2, h3⟩ := h
  match zs, h1 with
  | [z], h1 =>
    obtain rfl : z.1 = q := by simpa using h1
    have hz := h3 z (by simp)
    rcases Lx.own_shape h2 with ⟨e, h0⟩ | ⟨g, cap', e, _⟩
    · simp at h0
    · subst e
      refine ⟨g, cap', z.2.1, z.2.2, rfl, hz.1, hz.2, ?_, ?_, ?_, ?_⟩
      · exact (h2.cellAt 0 (by simp)).trans rfl
      · exact (h2.cellAt 1 (by simp)).trans rfl
      · exact (h2.cellAt 2 (by simp)).trans rfl
      · exact (h2.cellAt 3 (by simp)).trans rfl

theorem cell_below {w w' : World} {p : Addr} {x : Value} (h : w.cell? p = some x) (hb : Below w.heap.size w w') : w'.cell? p = some x :=
  (World.cell?_of_block (hb.block p.block (World.block_lt_of_cell? w p h))).trans h

set_option maxRecDepth 10000 in
set_option maxHeartbeats 4000000 in
theorem begun_any (w : World) (h : Tabs w) : Calls Tryd.prog 5 #[] w fun e w' => e = .returned (.bool true) ∧ Below w.heap.size w w' := by
  have H := hide h
  have h1 : wordsL (bs ⟨#[112, 40, 88, 41, 32, 58, 45, 32, 113, 40, 88, 44, 32, 51, 41, 44, 32, 33, 114, 40, 88, 41, 44, 32, 88, 32, 33, 61, 32, 97, 46]⟩) = [(1, [112], 0), (4, [40], 1), (2, [88], 2), (4, [41], 3), (4, [58, 45], 5), (1, [113], 8), (4, [40], 9), (2, [88], 10), (4, [44], 11), (3, [51], 13), (4, [41], 14), (4, [44], 15), (4, [33], 17), (1, [114], 18), (4, [40], 19), (2, [88], 20), (4, [41], 21), (4, [44], 22), (2, [88], 24), (4, [33, 61], 26), (1, [97], 29), (4, [46], 30)] := by
    rw [wordsL, show scanAt (bs ⟨#[112, 40, 88, 41, 32, 58, 45, 32, 113, 40, 88, 44, 32, 51, 41, 44, 32, 33, 114, 40, 88, 41, 44, 32, 88, 32, 33, 61, 32, 97, 46]⟩) 0 = some [(1, [112], 0), (4, [40], 1), (2, [88], 2), (4, [41], 3), (4, [58, 45], 5), (1, [113], 8), (4, [40], 9), (2, [88], 10), (4, [44], 11), (3, [51], 13), (4, [41], 14), (4, [44], 15), (4, [33], 17), (1, [114], 18), (4, [40], 19), (2, [88], 20), (4, [41], 21), (4, [44], 22), (2, [88], 24), (4, [33, 61], 26), (1, [97], 29), (4, [46], 30)] from beg1]
  have h2 : wordsL (bs ⟨#[113, 40, 97, 44, 32, 45, 51, 41, 46]⟩) = [(1, [113], 0), (4, [40], 1), (1, [97], 2), (4, [44], 3), (3, [45, 51], 5), (4, [41], 7), (4, [46], 8)] := by
    rw [wordsL, show scanAt (bs ⟨#[113, 40, 97, 44, 32, 45, 51, 41, 46]⟩) 0 = some [(1, [113], 0), (4, [40], 1), (1, [97], 2), (4, [44], 3), (3, [45, 51], 5), (4, [41], 7), (4, [46], 8)] from beg2]
  have h3 : wordsL (bs ⟨#[113, 40, 88, 41]⟩) = [(1, [113], 0), (4, [40], 1), (2, [88], 2), (4, [41], 3)] := by
    rw [wordsL, show scanAt (bs ⟨#[113, 40, 88, 41]⟩) 0 = some [(1, [113], 0), (4, [40], 1), (2, [88], 2), (4, [41], 3)] from beg3]
  have HP := hide (program_of ⟨#[112, 40, 88, 41, 32, 58, 45, 32, 113, 40, 88, 44, 32, 51, 41, 44, 32, 33, 114, 40, 88, 41, 44, 32, 88, 32, 33, 61, 32, 97, 46]⟩ w (by decide) h.syn (words_good _ w h.lex (by decide) beg1))
  rw [h1, parse1] at HP
  have HF1 : Hid (∀ W, Below w.heap.size w W → Calls Tryd.prog 7 #[.string ⟨#[113, 40, 97, 44, 32, 45, 51, 41, 46]⟩] W fun e w' => Fa (.ok factB) W e w') := fun W hb => by
    have := fact_of ⟨#[113, 40, 97, 44, 32, 45, 51, 41, 46]⟩ W (by decide) (fun o => words_good _ _ ((H.out.below hb).below (Lx.below_box W o)).lex (by decide) beg2)
    rw [h2, parse2] at this
    exact this
  have HF2 : Hid (∀ W, Below w.heap.size w W → Calls Tryd.prog 7 #[.string ⟨#[113, 40, 88, 41]⟩] W fun e w' => Fa (.error false) W e w') := fun W hb => by
    have := fact_of ⟨#[113, 40, 88, 41]⟩ W (by decide) (fun o => words_good _ _ ((H.out.below hb).below (Lx.below_box W o)).lex (by decide) beg3)
    rw [h3, parse3] at this
    exact this
  clear h h1 h2 h3
  go_enter Tryd.func5, Tryd.ntmps5
  go_wp2_with fail
  refine Calls.mono HP.out ?_
  rintro e w1 ⟨⟨y, rfl, hy⟩, hb1⟩
  obtain ⟨g, cap, va, vb, rfl, hva, hvb, k0, k1, k2, k3⟩ := one_rule hy
  have HV := hide (And.intro hva hvb)
  have HK := hide (And.intro k0 (And.intro k1 (And.intro k2 k3)))
  have HB1 := hide hb1
  obtain ⟨_, aoa, capa, rfl⟩ := own_len hva
  obtain ⟨aob, capb, rfl⟩ := isLs_shape hvb
  clear HP hy hb1 hva hvb k0 k1 k2 k3
  go_wp2_with fail
  refine Calls.mono (HF1.out w1 HB1.out) ?_
  rintro e w2 ⟨⟨vf, rfl, hvf⟩, hb2⟩
  obtain ⟨_, aof, capf, rfl⟩ := own_len hvf
  have HB2 := hide (HB1.out.trans (hb2.mono HB1.out.size))
  have HB12 := hide hb2
  have hts := ts_of hvf
  obtain ⟨ao', cap', e1, _, hcf⟩ := hts
  obtain ⟨gf, off, rfl, hcf2⟩ := hcf (by decide)
  have kf := hide (hcf2 1 (by decide)).2.2
  simp only [Value.slice.injEq] at e1
  obtain ⟨rfl, _, rfl⟩ := e1
  have HF2' : Hid (∀ o, Calls Tryd.prog 7 #[.string ⟨#[113, 40, 88, 41]⟩] (w2.alloc o) fun e w' => Fa (.error false) (w2.alloc o) e w') := fun o => HF2.out _ (HB2.out.alloc HB2.out.size o)
  clear HF1 HF2 hvf hb2 hcf hcf2
  go_wp2_with fail
  refine Calls.mono (HF2'.out _) ?_
  rintro e w3 ⟨rfl, hb3⟩
  have B13 : Hid (∀ o, Below w1.heap.size w1 (w3.alloc o)) := fun o => ((HB12.out.alloc HB12.out.size _).trans (hb3.mono (by have := HB12.out.size; simp; omega))).alloc (by have := HB12.out.size; have := hb3.size; simp at this; omega) o
  have hf3 := fun o => ((Bx.new w2 #[.string factB.2.1, .slice (some ⟨gf, off, none⟩) factB.2.2.length capf] 31).below hb3).below (Lx.below_box w3 o)
  have kf3 := fun o => cell_below (cell_below (cell_below kf.out (Lx.below_box w2 _)) hb3) (Lx.below_box w3 o)
  have d0 := fun o => (hf3 o).two.1.1
  have d1 := fun o => (hf3 o).two.1.2
  have k0 := fun o => cell_below HK.out.1 (B13.out o)
  have k1 := fun o => cell_below HK.out.2.1 (B13.out o)
  have k2 := fun o => cell_below HK.out.2.2.1 (B13.out o)
  have k3 := fun o => cell_below HK.out.2.2.2 (B13.out o)
  have HPr : Hid (∀ o, Calls Tryd.prog 8 #[.agg #[.int .i64 ruleB.1.1, .string ruleB.1.2.1, .slice aoa ruleB.1.2.2.length capa, .slice aob ruleB.2.length capb]] (w3.alloc o) fun e w' => e = .returned (.string ⟨#[112, 40, 88, 41, 32, 58, 45, 32, 113, 40, 88, 44, 32, 51, 41, 44, 32, 33, 114, 40, 88, 41, 44, 32, 88, 32, 33, 61, 32, 97, 46]⟩) ∧ Below (w3.alloc o).heap.size (w3.alloc o) w') := fun o => by
    have hB := HB1.out.trans ((B13.out o).mono HB1.out.size)
    have := print_rule (w := w3.alloc o) (q := ruleB) ⟨_, _, rfl, isTs_below HV.out.1 (B13.out o), isLs_below HV.out.2 (B13.out o)⟩ okB (H.out.below hB).syn (H.out.below hB).pow
    rw [text1] at this
    exact this
  clear HV HK kf HF2' hb3 HB12
  go_wp2_with fail
  refine Calls.mono (HPr.out _) ?_
  rintro e w4 ⟨rfl, hb4⟩
  have x1 : w4.cell? ⟨w2.heap.size, 1, none⟩ = some (.slice (some ⟨gf, off, none⟩) 2 capf) := cell_below (d1 _) hb4
  have x2 : w4.cell? ⟨gf, off + 3 + 2, none⟩ = some (.int .i64 (-3)) := cell_below (kf3 _) hb4
  have HB4 := hide (((HB1.out.trans ((B13.out _).mono HB1.out.size))).trans (hb4.mono (Nat.le_trans HB1.out.size (B13.out _).size)))
  clear d0 d1 k0 k1 k2 k3 kf3 hf3 HPr hb4 B13 HB1 HB2
  go_wp2_with fail
  go_ret
  exact ⟨rfl, HB4.out⟩

end Go.Proofs.YtcfhpodpkficaaaDoor.Sy
namespace Go.Proofs.YtcfhpodpkficaaaDoor
open Go.ChangeShapes Go.WideShapes Go.ChangeAt Go.RowKit

theorem own : ownKnob Tryd.prog.godebug = none := by kernel_rfl
theorem laidOut : laidOutB Tryd.prog = true := by kernel_rfl
def laid7 : List (String × DataW Unit) := [("math/bits.deBruijn32tab", Rows.laid_math_bits_deBruijn32tab), ("math/bits.deBruijn64tab", Rows.laid_math_bits_deBruijn64tab), ("internal/strconv.uint64pow10", Rows.laid_internal_strconv_uint64pow10), ("strconv.ErrRange", Rows.laid_strconv_ErrRange), ("strconv.ErrSyntax", Rows.laid_strconv_ErrSyntax), ("delphi/lex.signs", Rows.laid_delphi_lex_signs), ("delphi/syntax.signs", Rows.laid_delphi_syntax_signs)]

theorem door_met (os : Os) (args : Array Value) : laidMetH Tryd.prog laid7 ((World.doorLaid Tryd.prog 400 os).forCall (fun _ _ => 0) ⟨#[], args, []⟩).memory :=
  laidMetH_of_parts3 (fuel := 8) (laidMet_of_run' 8 (by kernel_rfl) (by kernel_rfl)) (by kernel_rfl) (by kernel_rfl)

theorem gSg : Tryd.prog.globalNamed "delphi/lex.signs" = some 2 := by kernel_rfl
theorem tSg : (Tryd.prog.globals[2]?).map (·.type) = some 116 := by kernel_rfl
theorem gTb : Tryd.prog.globalNamed "delphi/syntax.signs" = some 0 := by kernel_rfl
theorem tTb : (Tryd.prog.globals[0]?).map (·.type) = some 87 := by kernel_rfl
theorem gPw : Tryd.prog.globalNamed "internal/strconv.uint64pow10" = some 5 := by kernel_rfl
theorem tPw : (Tryd.prog.globals[5]?).map (·.type) = some 131 := by kernel_rfl

def prs : List (List UInt8 × Int) := [([61], 3), ([33, 61], 4), ([60], 5), ([60, 61], 6)]

theorem of_laid {W : World} (h : laidMetH Tryd.prog laid7 W) : Sy.Tabs W := by
  rw [MakeChecks.laidMetH_plain _ _ _ (by kernel_rfl)] at h
  obtain ⟨ps, ⟨g0, t0, cs0, f0, p0, q0, _, _, _, _, ⟨g1, t1, cs1, f1, p1, q1, _, _, _, _, ⟨g2, t2, cs2, f2, p2, q2, hg2, ht2, hv2, hd2, ⟨g3, t3, cs3, f3, p3, q3, _, _, _, _, ⟨g4, t4, cs4, f4, p4, q4, _, _, _, _, ⟨g5, t5, cs5, f5, p5, q5, hg5, ht5, hv5, hd5, ⟨g6, t6, cs6, f6, p6, q6, hg6, ht6, hv6, hd6, _, _⟩, _⟩, _⟩, _⟩, _⟩, _⟩, _⟩, _⟩ := h
  refine ⟨?_, ?_, ?_⟩
  · obtain rfl := Option.some.inj (gSg.symm.trans hg5)
    obtain rfl := Option.some.inj (tSg.symm.trans ht5)
    obtain ⟨xs, m1, rfl, hx1, hlen, hn3, hel⟩ := DataW.trod_array Tryd.underlying116 hd5
    intro i hi
    have c9 : Tryd.prog.cellsOf 9 = 1 := by kernel_rfl
    have h0 := hel i hi
    rw [List.getElem?_eq_getElem (by omega), c9, Nat.mul_one] at h0
    obtain ⟨k, e1, e2, _⟩ := DataW.trod_string Tryd.underlying9 h0
    simp only [Prod.mk.injEq] at hx1
    have hx := hx1.1
    have hL : Rows.laid_delphi_lex_signs = (DataW.agg (Lx.signsL.map fun x => DataW.lit (.string x)) : DataW Unit) := rfl
    rw [hL, DataW.agg.injEq] at hx
    have hxi := congrArg (fun l => l[i]?) hx
    have ht : Lx.signsL[i]? = some (Lx.signsL.getD i []) := by
      rw [List.getD, List.getElem?_eq_getElem (show i < Lx.signsL.length from hi)]
      rfl
    simp only [List.getElem?_map, ht, List.getElem?_eq_getElem (show i < xs.length by omega), Option.map_some, Option.some.injEq] at hxi
    have hk : k = Lx.sg i := by
      rw [e2] at hxi
      simp only [DataW.lit.injEq, Lit.string.injEq] at hxi
      unfold Lx.sg
      rw [hxi]
    subst hk
    have hc := World.var?_cell hg5 hv5 i
    rw [hc, ← Array.getElem?_toList]
    have h1 := congrArg (fun l => l[0]?) e1
    simpa using h1
  · obtain rfl := Option.some.inj (gTb.symm.trans hg6)
    obtain rfl := Option.some.inj (tTb.symm.trans ht6)
    obtain ⟨xs, m1, rfl, hx1, hlen, hn3, hel⟩ := DataW.trod_array Tryd.underlying87 hd6
    have c86 : Tryd.prog.cellsOf 86 = 2 := by kernel_rfl
    have c9 : Tryd.prog.cellsOf 9 = 1 := by kernel_rfl
    have c3 : Tryd.prog.cellsOf 3 = 1 := by kernel_rfl
    simp only [Prod.mk.injEq] at hx1
    have hx := hx1.1
    have hL : Rows.laid_delphi_syntax_signs = (DataW.agg (prs.map fun x => DataW.agg [DataW.lit (.string x.1), DataW.lit (.int .i64 x.2)]) : DataW Unit) := rfl
    rw [hL, DataW.agg.injEq] at hx
    have key : ∀ e (he : e < 4), cs6.toList[e * 2]? = some (.string ⟨(prs[e]'he).1.toArray⟩) ∧ cs6.toList[e * 2 + 1]? = some (.int .i64 (prs[e]'he).2) := fun e he => by
      have h0 := hel e he
      rw [List.getElem?_eq_getElem (by omega), c86] at h0
      obtain ⟨y0, y1, n, e1, _, d0, d1⟩ := trod_struct2 Tryd.underlying86 h0
      have d0' : DataW.trod _ _ _ _ _ _ n 9 ((((cs6.toList.drop (e * 2)).take 2).drop 0).take (Tryd.prog.cellsOf 9)) = some y0 := d0
      have d1' : DataW.trod _ _ _ _ _ _ n 3 ((((cs6.toList.drop (e * 2)).take 2).drop 1).take (Tryd.prog.cellsOf 3)) = some y1 := d1
      obtain ⟨s, a1, a2, _⟩ := DataW.trod_string Tryd.underlying9 d0'
      obtain ⟨k, b1, b2, _⟩ := DataW.trod_int Tryd.underlying3 d1'
      have hxi := congrArg (fun l => l[e]?) hx
      simp only [List.getElem?_map, List.getElem?_eq_getElem (show e < prs.length from he), List.getElem?_eq_getElem (show e < xs.length by omega), Option.map_some, Option.some.injEq] at hxi
      rw [e1, a2, b2] at hxi
      simp only [DataW.agg.injEq, List.cons.injEq, DataW.lit.injEq, Lit.string.injEq, Lit.int.injEq] at hxi
      have hs : s = ⟨(prs[e]'he).1.toArray⟩ := Vl.bytes_ext hxi.1.symm
      have hk : k = (prs[e]'he).2 := hxi.2.1.2.symm
      rw [c9] at a1
      rw [c3] at b1
      have q0 := congrArg (fun l => l[0]?) a1
      have q1 := congrArg (fun l => l[0]?) b1
      simp only [List.getElem?_take, List.getElem?_drop] at q0 q1
      simp at q0 q1
      rw [← hs, ← hk]
      exact ⟨by rw [Array.getElem?_toList]; exact q0, by rw [Array.getElem?_toList]; exact q1⟩
    intro i hi
    rw [World.var?_cell hg6 hv6 i, ← Array.getElem?_toList]
    have k0 := key 0 (by decide)
    have k1 := key 1 (by decide)
    have k2 := key 2 (by decide)
    have k3 := key 3 (by decide)
    match i, hi with
    | 0, _ => exact k0.1
    | 1, _ => exact k0.2
    | 2, _ => exact k1.1
    | 3, _ => exact k1.2
    | 4, _ => exact k2.1
    | 5, _ => exact k2.2
    | 6, _ => exact k3.1
    | 7, _ => exact k3.2
  · obtain rfl := Option.some.inj (gPw.symm.trans hg2)
    obtain rfl := Option.some.inj (tPw.symm.trans ht2)
    have eL : (Rows.laid_internal_strconv_uint64pow10 : DataW Unit) = Lib.tabData .u64 Lib.pow10Tab := by rfl
    unfold Vl.Pow10 Lib.TabIs
    rw [hv2]
    have hd3 := hd2
    rw [eL] at hd3
    rw [← Lib.cells_of_tab Tryd.underlying131 Tryd.underlying106 (by kernel_rfl) (by kernel_rfl) hd3]
end Go.Proofs.YtcfhpodpkficaaaDoor
namespace Go.Proofs.YtcfhpodpkficaaaDoor.Sy
open Lx (Wd tx scanL scanAt kindN kindL sizeL nameN varN smallN digitN runP blankN signL)
open Vl (Tm)

/-- A word without its place. -/
def z (x : Wd) : Wd := (x.1, x.2.1, 0)
/-- The words of a text, without their places. -/
def K (S : List UInt8) : Option (List Wd) := (scanL S 0).map (List.map z)
theorem K_at (n : Nat) : ∀ (S : List UInt8) (a b : Nat), S.length ≤ n → (scanL S a).map (List.map z) = (scanL S b).map (List.map z) := by
  induction n with
  | zero =>
    intro S a b hl
    obtain rfl : S = [] := by cases S; rfl; simp at hl
    rw [Lx.scanL_nil, Lx.scanL_nil]
  | succ n ih =>
    intro S a b hl
    match S with
    | [] => rw [Lx.scanL_nil, Lx.scanL_nil]
    | c :: t =>
      simp only [List.length_cons] at hl
      rw [Lx.scanL_cons, Lx.scanL_cons]
      by_cases hb : blankN c.toNat = true
      · rw [if_pos hb, if_pos hb]
        exact ih t _ _ (by omega)
      · rw [if_neg hb, if_neg hb]
        by_cases hn : c.toNat = 37
        · rw [if_pos hn, if_pos hn]
          exact ih _ _ _ (by rw [List.length_drop]; omega)
        · rw [if_neg hn, if_neg hn]
          by_cases hs : sizeL (c :: t) = 0 ∨ 16 < sizeL (c :: t)
          · rw [if_pos hs, if_pos hs]
          · rw [if_neg hs, if_neg hs]
            have h := ih (t.drop (sizeL (c :: t) - 1)) (a + sizeL (c :: t)) (b + sizeL (c :: t)) (by rw [List.length_drop]; omega)
            revert h
            cases scanL (t.drop (sizeL (c :: t) - 1)) (a + sizeL (c :: t)) <;> cases scanL (t.drop (sizeL (c :: t) - 1)) (b + sizeL (c :: t)) <;> intro h
            · rfl
            · cases h
            · cases h
            · have h' := Option.some.inj h
              simp only [Option.map_some, List.map_cons, Option.some.injEq]
              rw [h']
              rfl
theorem K_nil : K [] = some [] := by rw [K, Lx.scanL_nil]; rfl
theorem K_blank (c : UInt8) (t : List UInt8) (h : blankN c.toNat = true) : K (c :: t) = K t := by
  rw [K, Lx.scanL_cons, if_pos h]
  exact K_at _ t _ _ (Nat.le_refl _)
theorem K_word (c : UInt8) (t : List UInt8) (n k : Nat) (x : List UInt8) (h1 : blankN c.toNat = false) (h2 : ¬ c.toNat = 37) (h3 : sizeL (c :: t) = n) (h4 : ¬ (n = 0 ∨ 16 < n)) (h6 : kindL (c :: t) = k) (h7 : (c :: t).take n = x) : K (c :: t) = (K (t.drop (n - 1))).map (fun r => (k, x, 0) :: r) := by
  have e := K_at _ (t.drop (n - 1)) (0 + n) 0 (Nat.le_refl _)
  rw [K, Lx.scanL_cons, if_neg (by rw [h1]; decide), if_neg h2, h3, if_neg h4, h6, h7, K, ← e]
  cases scanL (t.drop (n - 1)) (0 + n) <;> rfl
/-- A name of one letter. -/
theorem K_name (c : UInt8) (t : List UInt8) (h : smallN c.toNat = true) (ht : t = [] ∨ nameN (t.getD 0 0).toNat = false) : K (c :: t) = (K t).map (fun r => (1, [c], 0) :: r) := by
  have hr : runP nameN t = 0 := by
    rcases ht with rfl | ht
    · rfl
    · cases t with
      | nil => rfl
      | cons d r =>
        have : nameN d.toNat = false := by simpa using ht
        simp [runP, this]
  have hk : kindL (c :: t) = 1 := by simp [kindL, kindN, h]
  have hs : sizeL (c :: t) = 1 := by
    have hn : nameN c.toNat = true := by simp [nameN, h]
    simp [sizeL, hk, runP, hn, hr]
  have hb : blankN c.toNat = false := by
    have := h
    simp [smallN] at this
    simp [blankN]
    omega
  have h37 : ¬ c.toNat = 37 := by
    have := h
    simp [smallN] at this
    omega
  exact K_word c t 1 1 [c] hb h37 hs (by omega) hk rfl
theorem K_40 (t : List UInt8) : K (40 :: t) = (K t).map (fun r => (4, [40], 0) :: r) := K_word 40 t 1 4 [40] (by decide) (by decide) rfl (by omega) rfl rfl
theorem K_41 (t : List UInt8) : K (41 :: t) = (K t).map (fun r => (4, [41], 0) :: r) := K_word 41 t 1 4 [41] (by decide) (by decide) rfl (by omega) rfl rfl
theorem K_44 (t : List UInt8) : K (44 :: t) = (K t).map (fun r => (4, [44], 0) :: r) := K_word 44 t 1 4 [44] (by decide) (by decide) rfl (by omega) rfl rfl
theorem K_46 (t : List UInt8) : K (46 :: t) = (K t).map (fun r => (4, [46], 0) :: r) := K_word 46 t 1 4 [46] (by decide) (by decide) rfl (by omega) rfl rfl
theorem K_if (t : List UInt8) : K (58 :: 45 :: t) = (K t).map (fun r => (4, [58, 45], 0) :: r) := K_word 58 (45 :: t) 2 4 [58, 45] (by decide) (by decide) rfl (by omega) rfl rfl

end Go.Proofs.YtcfhpodpkficaaaDoor.Sy
