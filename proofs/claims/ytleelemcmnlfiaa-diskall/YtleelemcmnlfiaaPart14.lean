/- What a change comes to, on the disk and on the document's: one verdict for both. The walk of a disk's Names. The walk of the law's Same: a disk and the document's tell the same. -/
import Derived.Test.YtleelemcmnlfiaaPart12
import Derived.Test.YtleelemcmnlfiaaPart13
import Derived.Test.YtleelemcmnlfiaaPart07
import Derived.Test.YtleelemcmnlfiaaPart06
import Derived.Test.YtleelemcmnlfiaaPart10
import Derived.Test.YtleelemcmnlfiaaPart08
import Derived.Deep.QuietTactic
import Derived.BigQuiet
namespace Go.Proofs.Ytleelemcmnlfiaa
open Go.RowKit

/-- The error's number, and the change. -/
def verdict (s : St) (kd : Nat) (nm t : ByteArray) (sz : Int) (b : List UInt8) : Int × Option Ch :=
  match kd with
  | 0 => if okN nm = false then (3, none) else if s.room < (used s.now : Int) + b.length then (2, none) else if look nm s.now = none ∧ 64 ≤ s.now.length then (2, none) else (0, some (.app nm b))
  | 1 => match look nm s.now with
    | none => (14, none)
    | some f => if sz < 0 ∨ (f.bs.length : Int) < sz then (1, none) else (0, some (.cut nm sz.toNat))
  | 2 => match look nm s.now with
    | none => (14, none)
    | some _ => (0, some (.rem nm))
  | _ => match look nm s.now with
    | none => (14, none)
    | some _ => if okN t = false then (3, none) else (0, some (.mov nm t))
def St.after (s : St) : Option Ch → St
  | none => s
  | some c => s.push c
theorem St.after_room (s : St) (o : Option Ch) : (s.after o).room = s.room := by cases o <;> rfl

/-- What a call leaves of the document's disk. -/
def RLeft (w w' : World) (q : Nat) (s : St) (R : Nat → Prop) : Prop := RD w' q s (ext R w w') ∧ Fr (fun k => k = q) w w'
theorem RD.left {w w' : World} {q : Nat} {s : St} {R : Nat → Prop} (h : RD w q s R) (hb : Below w.heap.size w w') : RLeft w w' q s R := by
  refine ⟨?_, Fr.of_below hb⟩
  have h2 := h.below hb
  obtain ⟨vl, vn, vw, zl, zn, ys, h2⟩ := h2
  obtain ⟨_, _, _, _, _, _, h0⟩ := h
  have hlt : ∀ k, ext R w w' k → k < w'.heap.size := ext_lt h0.fl.lt hb.size
  refine ⟨vl, vn, vw, zl, zn, ys, h2.heap, h2.fl.mono (fun _ hk => Or.inl hk) hlt, h2.fn.mono (fun _ hk => Or.inl hk) hlt, h2.wt.mono (fun _ hk => Or.inl hk), fun hk => ?_, h2.e1, h2.e2, h2.e3⟩
  rcases hk with hk | hk
  · exact h0.nq hk
  · have := h0.plt
    omega
def DLeft (w w' : World) (p : Nat) (s : St) (F : Nat → Prop) : Prop := Dk w' p s (ext F w w') ∧ Fr F w w'
theorem Dk.left {w w' : World} {p : Nat} {s : St} {F : Nat → Prop} (h : Dk w p s F) (hb : Below w.heap.size w w') : DLeft w w' p s F :=
  ⟨(h.below hb).mono (fun _ hk => Or.inl hk) (ext_lt h.lt hb.size), Fr.of_below hb⟩

theorem rDo_verdict (q : Nat) (s : St) (R : Nat → Prop) (kd : Nat) (nm t : ByteArray) (sz : Int) (dv : Value) (b : List UInt8) (w : World) (h : RD w q s R) (hg : s.good) (hS : Sl w dv b) (hn : nm.size ≤ 1000000000) (htn : t.size ≤ 1000000000) (hm : s.mass + b.length + 2 ≤ 50000000) (hkd : kd ≤ 3) :
    Calls Try.prog 23 #[.pointer (some ⟨q, 0, none⟩), .agg #[.int .i64 (kd : Int), .string nm, .string t, .int .i64 sz, dv]] w fun e w' => e = .returned (.int .i64 (verdict s kd nm t sz b).1) ∧ Hid (RLeft w w' q (s.after (verdict s kd nm t sz b).2) R) := by
  have err : ∀ {c : Int} {f : FuncId} {args : Array Value}, (Calls Try.prog f args w fun e w' => e = .returned (.int .i64 c) ∧ Below w.heap.size w w') → Calls Try.prog f args w fun e w' => e = .returned (.int .i64 c) ∧ Hid (RLeft w w' q s R) := fun hc => hc.mono fun _ _ ⟨he, hb⟩ => ⟨he, h.left hb⟩
  match kd, hkd with
  | 0, _ =>
    simp only [verdict]
    by_cases hok : okN nm = false
    · rw [if_pos hok]
      cases hl : look nm s.now with
      | none => exact err (rDo_app_form_miss q s R nm t sz dv b w h hg hS hn htn hm hok hl)
      | some f => exact err (rDo_app_form_hit q s R nm t sz dv b f w h hg hS hn htn hm hok hl)
    · rw [if_neg hok]
      have hok' : okN nm = true := by simpa using hok
      by_cases hr : s.room < (used s.now : Int) + b.length
      · rw [if_pos hr]
        cases hl : look nm s.now with
        | none => exact err (rDo_app_room_miss q s R nm t sz dv b w h hg hS hn htn hm hok' hr hl)
        | some f => exact err (rDo_app_room_hit q s R nm t sz dv b f w h hg hS hn htn hm hok' hr hl)
      · rw [if_neg hr]
        cases hl : look nm s.now with
        | none =>
          by_cases h64 : 64 ≤ s.now.length
          · rw [if_pos ⟨rfl, h64⟩]
            exact err (rDo_app_many q s R nm t sz dv b w h hg hS hn htn hm hok' (by omega) hl h64)
          · rw [if_neg (fun hh => h64 hh.2)]
            exact (rDo_app_miss q s R nm t sz dv b w h hg hS hn htn hm hok' (by omega) hl (by omega)).mono fun _ _ ⟨he, h1, h2⟩ => ⟨he, h1, h2⟩
        | some f =>
          rw [if_neg (fun hh => by simp at hh)]
          exact (rDo_app_hit q s R nm t sz dv b f w h hg hS hn hm hok' (by omega) hl).mono fun _ _ ⟨he, h1, h2⟩ => ⟨he, h1, h2⟩
  | 1, _ =>
    simp only [verdict]
    cases hl : look nm s.now with
    | none => exact err (rDo_cut_none q s R nm t sz dv b w h hg hS hn htn hm hl)
    | some f =>
      simp only
      by_cases hlo : sz < 0
      · rw [if_pos (Or.inl hlo)]
        exact err (rDo_cut_low q s R nm t sz dv b f w h hg hS hn htn hm hl hlo)
      · by_cases hhi : (f.bs.length : Int) < sz
        · rw [if_pos (Or.inr hhi)]
          exact err (rDo_cut_high q s R nm t sz dv b f w h hg hS hn htn hm hl hlo hhi)
        · rw [if_neg (by omega)]
          obtain ⟨k, rfl⟩ : ∃ k : Nat, sz = (k : Int) := ⟨sz.toNat, by omega⟩
          rw [Int.toNat_natCast]
          exact (rDo_cut_ok q s R nm t k dv b f w h hg hS hn htn hm hl (by omega)).mono fun _ _ ⟨he, h1, h2⟩ => ⟨he, h1, h2⟩
  | 2, _ =>
    simp only [verdict]
    cases hl : look nm s.now with
    | none => exact err (rDo_rem_none q s R nm t sz dv b w h hg hS hn htn hm hl)
    | some f => exact (rDo_rem_ok q s R nm t sz dv b f w h hg hS hn htn hm hl).mono fun _ _ ⟨he, h1, h2⟩ => ⟨he, h1, h2⟩
  | 3, _ =>
    simp only [verdict]
    cases hl : look nm s.now with
    | none => exact err (rDo_mov_none q s R nm t sz dv b w h hg hS hn htn hm hl)
    | some f =>
      simp only
      by_cases hok : okN t = false
      · rw [if_pos hok]
        exact err (rDo_mov_form q s R nm t sz dv b f w h hg hS hn htn hm hok hl)
      · rw [if_neg hok]
        exact (rDo_mov_ok q s R nm t sz dv b f w h hg hS hn htn hm (by simpa using hok) hl).mono fun _ _ ⟨he, h1, h2⟩ => ⟨he, h1, h2⟩

theorem dApp_verdict (p : Nat) (s : St) (F : Nat → Prop) (nm t : ByteArray) (sz : Int) (dv : Value) (b : List UInt8) (w : World) (h : Dk w p s F) (hS : Sl w dv b) (hm : s.mass + b.length + 2 ≤ 50000000) :
    Calls Try.prog 13 #[.pointer (some ⟨p, 0, none⟩), .string nm, dv] w fun e w' => e = .returned (.int .i64 (verdict s 0 nm t sz b).1) ∧ Hid (DLeft w w' p (s.after (verdict s 0 nm t sz b).2) F) := by
  obtain ⟨ao, cap, rfl, _, _⟩ := hS.shape
  simp only [verdict]
  by_cases hok : okN nm = false
  · rw [if_pos hok]
    exact (append_form p nm ao b.length cap w hok).mono fun _ _ ⟨he, hw⟩ => ⟨he, by subst hw; exact h.left (Below.refl _ _)⟩
  · rw [if_neg hok]
    have hok' : okN nm = true := by simpa using hok
    by_cases hr : s.room < (used s.now : Int) + b.length
    · rw [if_pos hr]
      exact (append_room p s F nm ao b.length cap w h hok' hr (by omega) (by omega)).mono fun _ _ ⟨he, hb⟩ => ⟨he, h.left hb⟩
    · rw [if_neg hr]
      cases hl : look nm s.now with
      | none =>
        by_cases h64 : 64 ≤ s.now.length
        · rw [if_pos ⟨rfl, h64⟩]
          exact (append_many p s F nm ao b.length cap w h hok' (by omega) hl h64 (by omega)).mono fun _ _ ⟨he, hb⟩ => ⟨he, h.left hb⟩
        · rw [if_neg (fun hh => h64 hh.2)]
          exact (append_ok p s F nm _ b w h hS hok' (by omega) (Or.inr (by omega)) (by omega)).mono fun _ _ ⟨he, h1, h2⟩ => ⟨he, h1, h2⟩
      | some f =>
        rw [if_neg (fun hh => by simp at hh)]
        exact (append_ok p s F nm _ b w h hS hok' (by omega) (Or.inl (by rw [hl]; rfl)) (by omega)).mono fun _ _ ⟨he, h1, h2⟩ => ⟨he, h1, h2⟩

theorem dCut_verdict (p : Nat) (s : St) (F : Nat → Prop) (nm t : ByteArray) (sz : Int) (b : List UInt8) (w : World) (h : Dk w p s F) (hm : s.mass + b.length + 2 ≤ 50000000) :
    Calls Try.prog 14 #[.pointer (some ⟨p, 0, none⟩), .string nm, .int .i64 sz] w fun e w' => e = .returned (.int .i64 (verdict s 1 nm t sz b).1) ∧ Hid (DLeft w w' p (s.after (verdict s 1 nm t sz b).2) F) := by
  simp only [verdict]
  cases hl : look nm s.now with
  | none => exact (cut_none p s F nm sz w h hl (by omega)).mono fun _ _ ⟨he, hb⟩ => ⟨he, h.left hb⟩
  | some f =>
    simp only
    by_cases hk : sz < 0 ∨ (f.bs.length : Int) < sz
    · rw [if_pos hk]
      exact (cut_range p s F nm sz f w h hl hk (by omega)).mono fun _ _ ⟨he, hb⟩ => ⟨he, h.left hb⟩
    · rw [if_neg hk]
      obtain ⟨k, rfl⟩ : ∃ k : Nat, sz = (k : Int) := ⟨sz.toNat, by omega⟩
      rw [Int.toNat_natCast]
      exact (cut_ok p s F nm k f w h hl (by omega) (by omega)).mono fun _ _ ⟨he, h1, h2⟩ => ⟨he, h1, h2⟩
theorem dRem_verdict (p : Nat) (s : St) (F : Nat → Prop) (nm t : ByteArray) (sz : Int) (b : List UInt8) (w : World) (h : Dk w p s F) (hm : s.mass + b.length + 2 ≤ 50000000) :
    Calls Try.prog 15 #[.pointer (some ⟨p, 0, none⟩), .string nm] w fun e w' => e = .returned (.int .i64 (verdict s 2 nm t sz b).1) ∧ Hid (DLeft w w' p (s.after (verdict s 2 nm t sz b).2) F) := by
  simp only [verdict]
  cases hl : look nm s.now with
  | none => exact (remove_none p s F nm w h hl (by omega)).mono fun _ _ ⟨he, hb⟩ => ⟨he, h.left hb⟩
  | some f => exact (remove_some p s F nm w h (by rw [hl]; rfl) (by omega)).mono fun _ _ ⟨he, h1, h2⟩ => ⟨he, h1, h2⟩
theorem dMov_verdict (p : Nat) (s : St) (F : Nat → Prop) (nm t : ByteArray) (sz : Int) (b : List UInt8) (w : World) (h : Dk w p s F) (hm : s.mass + b.length + 2 ≤ 50000000) :
    Calls Try.prog 16 #[.pointer (some ⟨p, 0, none⟩), .string nm, .string t] w fun e w' => e = .returned (.int .i64 (verdict s 3 nm t sz b).1) ∧ Hid (DLeft w w' p (s.after (verdict s 3 nm t sz b).2) F) := by
  simp only [verdict]
  cases hl : look nm s.now with
  | none => exact (move_none p s F nm t w h hl (by omega)).mono fun _ _ ⟨he, hb⟩ => ⟨he, h.left hb⟩
  | some f =>
    simp only
    by_cases hok : okN t = false
    · rw [if_pos hok]
      exact (move_form p s F nm t w h (by rw [hl]; rfl) hok (by omega)).mono fun _ _ ⟨he, hb⟩ => ⟨he, h.left hb⟩
    · rw [if_neg hok]
      exact (move_some p s F nm t w h (by rw [hl]; rfl) (by simpa using hok) (by omega)).mono fun _ _ ⟨he, h1, h2⟩ => ⟨he, h1, h2⟩
end Go.Proofs.Ytleelemcmnlfiaa
namespace Go.Proofs.Ytleelemcmnlfiaa
open Go.RowKit

theorem Try.info9 : (Try.prog.info? 9).map (fun i => (i.zero, i.size, i.bytes)) = some (some (.string ⟨#[]⟩), 1, 16) := by kernel_rfl

set_option maxHeartbeats 2000000 in
set_option maxRecDepth 20000 in
theorem names_any (p : Nat) (s : St) (F : Nat → Prop) (w : World) (h : Dk w p s F) (hm : s.mass ≤ 1000000000) :
    Calls Try.prog 26 #[.pointer (some ⟨p, 0, none⟩)] w fun e w' => ∃ v', e = .returned v' ∧ w'.ownsRow w.heap.size 9 1 v' s.now.length (s.now.map fun f => .string f.name) ∧ Below w.heap.size w w' := by
  obtain ⟨I, hI, hz0, hz1, hz2⟩ := info_parts Try.info9
  obtain ⟨hgood, hFlt, vl, vn, vw, zl, zn, ws, Fa, Fn, Fw, hC, g1, g2, g3, g4⟩ := h
  have hnm := St.now_mass hgood
  have hum := used_mass s.now
  have hzn : zn.length = s.now.length := by rw [← g2, List.length_map]
  have hzl : zn.length ≤ 1000000000 := by omega
  obtain ⟨w0, hmk, hO0, hg0⟩ := run_make_full (P := Try.prog) w w.heap.size 52 9 I _ 1 Try.underlying52 hI hz0 hz1 .i64 .i64 zn.length (by rw [hz2]; omega) (by unfold maxLen; omega) (Nat.le_refl _)
  have hb0 : Below w.heap.size w w0 := (Below.refl _ _).grown hg0 (Nat.le_refl _) (by simp)
  have hlt0 : w.heap.size < w0.heap.size := (hO0.lt _ rfl).2
  have hrep : (madeCells (Value.string ⟨#[]⟩).cells (zn.length * 1)).toList = List.replicate zn.length (Value.string ⟨#[]⟩) := by
    rw [Nat.mul_one]
    exact toList_madeCells_one _ _
  rw [hrep] at hO0
  have c2 := hC.cells.2.2.1
  have HF : Hid (_) := hC.fn
  have HO0 : Hid (_) := hO0
  have HB0 : Hid (_) := hb0
  obtain ⟨ao, N, cap, rfl⟩ := own_slice hC.fn.row
  have hN : N = zn.length := by
    rcases hC.fn.shape with ⟨e, e2⟩ | ⟨_, _, e, _⟩ <;> (simp only [Value.slice.injEq] at e; omega)
  subst hN
  have HE : Hid (s.now.map (fun f => Value.string f.name) = zn.map fun z => .string z.name) := by
    show _ = _
    rw [← g2, List.map_map]
    rfl
  have HZ : Hid (zn.length = s.now.length) := hzn
  have c20 := below_cell hb0 c2
  clear hC hgood g1 g2 g3 g4 hum hnm hzn hO0 hg0 hb0 hI hz0 hz1 hz2 hrep hm
  go_enter Try.func26, Try.ntmps26
  go_wp2
  go_loopw [19] (fun vi wr => ∃ k : Nat, k ≤ zn.length ∧ vi = .int .i64 k ∧ Hid (wr.ownsRow w.heap.size 9 1 (.slice (some ⟨w.heap.size, 0, none⟩) zn.length zn.length) zn.length (((zn.take k).map fun z => .string z.name) ++ List.replicate (zn.length - k) (Value.string ⟨#[]⟩)) ∧ Below w.heap.size w wr ∧ w.heap.size < wr.heap.size)) (fun vi _ => zn.length - (intOf vi).toNat)
  case atStart => exact ⟨0, Nat.zero_le _, rfl, by have h := HO0.out; simp only [List.take_zero, List.map_nil, List.nil_append, Nat.sub_zero]; exact h, HB0.out, hlt0⟩
  case round =>
    obtain ⟨k, hk, rfl, HK⟩ := hrel
    by_cases hlt : k < zn.length
    · have hlt' : (k : Int) < (zn.length : Int) := by omega
      obtain ⟨g, rfl⟩ : ∃ g, ao = some ⟨g, 0, none⟩ := by
        rcases HF.out.shape with ⟨_, e⟩ | ⟨g, cap', e, _⟩
        · omega
        · simp at e; exact ⟨g, e.1⟩
      obtain ⟨c0, c1⟩ := (HF.out.below HK.out.2.1).cell k hlt
      obtain ⟨aod, Ld, capd, hd⟩ := own_slice ((HF.out.below HK.out.2.1).data zn[k] (List.getElem_mem hlt))
      rw [hd] at c1
      have hst : ∀ ob : Obj, Hid (((wr.alloc ob).setCell ⟨w.heap.size, k, none⟩ (.string zn[k].name)).ownsRow w.heap.size 9 1 (.slice (some ⟨w.heap.size, 0, none⟩) zn.length zn.length) zn.length (((zn.take (k + 1)).map fun z => .string z.name) ++ List.replicate (zn.length - (k + 1)) (Value.string ⟨#[]⟩)) ∧ Below w.heap.size w ((wr.alloc ob).setCell ⟨w.heap.size, k, none⟩ (.string zn[k].name)) ∧ w.heap.size < ((wr.alloc ob).setCell ⟨w.heap.size, k, none⟩ (.string zn[k].name)).heap.size) := fun ob => by
        obtain ⟨x1, x2, x3⟩ := HK.out
        have h1 := ((x1.alloc ob).stored k (.string zn[k].name)).1
        have e : ((((zn.take k).map fun z => Value.string z.name) ++ List.replicate (zn.length - k) (Value.string ⟨#[]⟩)).set k (.string zn[k].name)) = ((zn.take (k + 1)).map fun z => .string z.name) ++ List.replicate (zn.length - (k + 1)) (Value.string ⟨#[]⟩) := by
          have hl : ((zn.take k).map fun z => Value.string z.name).length = k := by simp; omega
          rw [List.set_append_right _ _ (by omega), hl, Nat.sub_self, show zn.length - k = (zn.length - (k + 1)) + 1 by omega, List.replicate_succ, List.set_cons_zero, take_succ_snoc zn k zn[k] (List.getElem?_eq_getElem hlt), List.map_append, List.append_assoc]
          rfl
        rw [e] at h1
        exact ⟨h1, ((x2.alloc x2.size ob).setCell (Nat.le_refl _) _), by rw [setCell_size]; simp; omega⟩
      have HST : Hid (_) := hst
      have hcw : ∀ ob, ∃ u, (wr.alloc ob).cell? ⟨w.heap.size, k, none⟩ = some u := fun ob => by
        have h1 := (HK.out.1.alloc ob).cellAt k (by omega)
        rw [h1]
        exact ⟨_, List.getElem?_eq_getElem (by simp; omega)⟩
      obtain ⟨u, hu⟩ := hcw (.cells #[.string zn[k].name, .slice aod Ld capd] 72)
      have hfz := (HK.out.1.alloc (.cells #[.string zn[k].name, .slice aod Ld capd] 72)).frozenAt k
      have hne : w.heap.size ≠ wr.heap.size := by have := HK.out.2.2; omega
      clear hst hcw hd
      go_wp2
      go_roundw
      case rel => exact ⟨k + 1, by omega, by go_num, HST.out _⟩
      case measure => simp [intOf]; omega
    · have e : k = zn.length := by omega
      subst e
      go_wp2
      go_ret
      obtain ⟨x1, x2, x3⟩ := HK.out
      refine ⟨_, rfl, ?_, x2⟩
      rw [HE.out, ← HZ.out]
      simp only [List.take_length, Nat.sub_self, List.replicate_zero, List.append_nil] at x1
      exact x1
end Go.Proofs.Ytleelemcmnlfiaa
namespace Go.Proofs.Ytleelemcmnlfiaa
open Go.RowKit

set_option maxHeartbeats 4000000 in
set_option maxRecDepth 20000 in
theorem same_any (p q : Nat) (s : St) (F R : Nat → Prop) (w : World) (h : Dk w p s F) (hR : RD w q s R) (hm : s.mass ≤ 50000000) :
    Calls Try.prog 22 #[.pointer (some ⟨p, 0, none⟩), .pointer (some ⟨q, 0, none⟩)] w fun e w' => e = .returned (.bool true) ∧ Below w.heap.size w w' := by
  obtain ⟨vl, vn, vw, zl, zn, ys, hC⟩ := hR
  have hnm := St.now_mass h.good
  have hum := used_mass s.now
  obtain ⟨aon, capn, rfl, hao⟩ := hC.fn.shape
  obtain ⟨aow, capw, rfl, _⟩ := hC.wt.shape
  have hyl : ys.length = s.wait.length := by rw [← hC.e3, List.length_map]
  have hznl : zn.length = s.now.length := by rw [← hC.e2, List.length_map]
  obtain ⟨c0, c1, c2, c3, cz⟩ := hC.cells
  obtain ⟨U, HU⟩ : ∃ U : Nat, Hid (U = used s.now) := ⟨_, (rfl : _ = _)⟩
  have HUs : Hid (∀ u, Below w.heap.size w u → Calls Try.prog 27 #[.pointer (some ⟨p, 0, none⟩)] u fun e w' => e = .returned (.int .i64 (U : Nat)) ∧ Hid (Below w.heap.size w w')) := fun u hb => by
    refine (used_any p s F u (h.below hb) (by omega)).mono ?_
    rintro e w' ⟨rfl, hb'⟩
    exact ⟨by rw [HU.out], hb.trans (hb'.mono hb.size)⟩
  have HRs : Hid (∀ u, Below w.heap.size w u → Calls Try.prog 40 #[.pointer (some ⟨q, 0, none⟩)] u fun e w' => e = .returned (.int .i64 (U : Nat)) ∧ w' = u) := fun u hb => by
    have := rused_any q _ zn R u (below_cell hb c1) (hC.fn.below hb) (by rw [hC.e2]; omega)
    rw [hC.e2, ← HU.out] at this
    exact this
  have HWs : Hid (∀ u, Below w.heap.size w u → Calls Try.prog 28 #[.pointer (some ⟨p, 0, none⟩)] u fun e w' => e = .returned (.int .i64 (ys.length : Nat)) ∧ w' = u) := fun u hb => by
    have := waiting_any p s F u (h.below hb)
    rw [← hyl] at this
    exact this
  have HNs : Hid (∀ u, Below w.heap.size w u → Calls Try.prog 26 #[.pointer (some ⟨p, 0, none⟩)] u fun e w' => ∃ ao cap, e = .returned (.slice ao zn.length cap) ∧ Hid (Below w.heap.size w w' ∧ (∀ i (hi : i < zn.length), ∃ g, ao = some ⟨g, 0, none⟩ ∧ w'.cell? ⟨g, i, none⟩ = some (.string zn[i].name)) ∧ w.heap.size ≤ w'.heap.size)) := fun u hb => by
    refine (names_any p s F u (h.below hb) (by omega)).mono ?_
    rintro e w' ⟨v, rfl, hO, hb'⟩
    have hbw : Below w.heap.size w w' := hb.trans (hb'.mono hb.size)
    rcases own_shape hO with ⟨rfl, e0⟩ | ⟨g, cap, rfl, _⟩
    · exact ⟨none, 0, by rw [hznl, e0], hbw, fun i hi => by omega, hbw.size⟩
    · refine ⟨some ⟨g, 0, none⟩, cap, by rw [hznl], hbw, fun i hi => ⟨g, rfl, ?_⟩, hbw.size⟩
      rw [hO.cellAt i (by omega)]
      simp only [← hC.e2, List.map_map]
      rw [List.getElem?_map, List.getElem?_eq_getElem hi]
      rfl
  have HRd : Hid (∀ u, Below w.heap.size w u → ∀ i (hi : i < zn.length), Calls Try.prog 24 #[.pointer (some ⟨p, 0, none⟩), .string zn[i].name] u fun e w' => ∃ ao cap, e = .returned (.tuple #[.slice ao zn[i].bs.length cap, .bool true]) ∧ Hid (Below w.heap.size w w') ∧ Hid (Below u.heap.size u w' ∧ Sl w' (.slice ao zn[i].bs.length cap) zn[i].bs)) := fun u hb i hi => by
    have hl : look zn[i].name s.now = some zn[i].fl := by
      have hs : Srt (zn.map Ent.fl) := by rw [hC.e2]; exact St.now_srt h.good
      rw [← hC.e2]
      rcases splitE zn[i].name zn hs with ⟨ul, z, ur, hh⟩ | ⟨ul, ur, hh⟩
      · rw [hh.hit.lookE]
        have hzi : zn[i] ∈ zn := List.getElem_mem hi
        have hz : zn[i] = z := by
          have hm : zn[i] ∈ ul ++ z :: ur := by rw [← hh.1]; exact hzi
          rcases List.mem_append.1 hm with hm | hm
          · exact absurd rfl (nlt_ne (hh.2.2.1 _ hm))
          · rcases List.mem_cons.1 hm with hm | hm
            · exact hm
            · exact absurd rfl (nlt_ne (hh.2.2.2 _ hm))
        rw [hz]
      · have hm : zn[i] ∈ ul ++ ur := by rw [← hh.1]; exact List.getElem_mem hi
        rcases List.mem_append.1 hm with hm | hm
        · exact absurd rfl (nlt_ne (hh.2.1 _ hm))
        · exact absurd rfl (nlt_ne (hh.2.2 _ hm))
    refine (read_hit p s F zn[i].name zn[i].fl u (h.below hb) hl (by omega)).mono ?_
    rintro e w' ⟨v', rfl, hO, hb'⟩
    have hS := Sl.of_own hO
    obtain ⟨ao, cap, rfl, _, _⟩ := hS.shape
    exact ⟨ao, cap, rfl, hb.trans (hb'.mono hb.size), hb', hS⟩
  have HF : Hid (_) := hC.fn
  have hUU : ((U : Int) != (U : Int)) = false := by simp
  have hYY : ((ys.length : Int) != (ys.length : Int)) = false := by simp
  have hNN : ((zn.length : Int) != (zn.length : Int)) = false := by simp
  have hz1 : zn.length ≤ 50000000 := by omega
  clear hC h hnm hum hyl hznl hm c0 c3 cz
  go_enter Try.func22, Try.ntmps22
  go_wp2_with fail
  have hbd : Below w.heap.size w w.drew := (Below.refl _ _).drew
  go_region_held (fun u => u.cell? ⟨q, 2, none⟩ = some (.slice aow ys.length capw))
    (first | exact c2 | exact below_cell hb2.out c2)
    (first
      | (go_at_call 27; refine (HUs.out _ hbd).mono ?_; rintro e w2 ⟨rfl, hb2⟩)
      | (go_at_call 40; refine (HRs.out _ hb2.out).mono ?_; rintro e w' ⟨rfl, hw⟩; have hw' := hw.symm; subst hw')
      | (go_at_call 28; refine (HWs.out _ hb2.out).mono ?_; rintro e w' ⟨rfl, hw⟩; have hw' := hw.symm; subst hw'))
  clear HUs HRs HWs hUU hYY c2 hbd
  have c12 := below_cell hb2.out c1
  go_wp2_with (go_at_call 26; refine (HNs.out _ hb2.out).mono ?_; rintro e w3 ⟨aol, capl, rfl, HX3⟩; have c13 := below_cell (Hid.out HX3).1 c1)
  clear HNs c12
  go_loopw [6] (fun vi wr => ∃ k : Nat, k ≤ zn.length ∧ vi = .int .i64 k ∧ Hid (Below w3.heap.size w3 wr)) (fun vi _ => zn.length - (intOf vi).toNat)
  case atStart => exact ⟨0, Nat.zero_le _, rfl, Below.refl _ _⟩
  case round =>
    obtain ⟨k, hk, rfl, HK⟩ := hrel
    have hbw : Below w.heap.size w wr := HX3.out.1.trans (HK.out.mono HX3.out.2.2)
    by_cases hlt : k < zn.length
    · have hlt' : (k : Int) < (zn.length : Int) := by omega
      obtain ⟨gl, rfl, hgl⟩ := HX3.out.2.1 k hlt
      obtain ⟨g, rfl⟩ := hao (by omega)
      have n0 := below_cell HK.out hgl
      have hRe : Hid (_) := HRd.out wr hbw k hlt
      have hFk := HF.out.below hbw
      have hdat := HF.out.data zn[k] (List.getElem_mem hlt)
      obtain ⟨aod, capd, hd, _, _⟩ := hdat.sl.shape
      have HS : Hid (∀ w', Below w.heap.size w w' → w'.cell? ⟨q, 1, none⟩ = some (.slice (some ⟨g, 0, none⟩) zn.length capn) ∧ w'.cell? ⟨g, k * 2, none⟩ = some (.string zn[k].name) ∧ w'.cell? ⟨g, k * 2 + 1, none⟩ = some (.slice aod zn[k].bs.length capd) ∧ (convert 32 9 (.slice aod zn[k].bs.length capd)).run Try.prog w' = .ok (.string ⟨zn[k].bs.toArray⟩) w') := by
        intro w' hb
        have hc := (HF.out.below hb).cell k hlt
        have hs := hdat.sl.below hb
        rw [hd] at hs hc
        exact ⟨below_cell hb c1, hc.1, hc.2, str_of_sl (P := Try.prog) hs 32 5 9 Try.underlying32 Try.underlying5 Try.underlying9⟩
      obtain ⟨nm, HN⟩ : ∃ nm, Hid (nm = zn[k].name) := ⟨zn[k].name, (rfl : _ = zn[k].name)⟩
      obtain ⟨bs, HB⟩ : ∃ bs, Hid (bs = zn[k].bs) := ⟨zn[k].bs, (rfl : _ = zn[k].bs)⟩
      rw [← HN.out] at n0 hRe HS
      rw [← HB.out] at hRe HS
      have HKS : Hid (wr.heap.size = wr.heap.size) := (rfl : _ = _)
      have hnn : (nm.toList == nm.toList) = true := by simp
      clear hFk hdat hd hgl HRd
      go_wp2_with (go_at_call 24; refine Calls.mono hRe.out ?_; rintro e w5 ⟨aob, capb, rfl, hb5, HS5⟩)
      have n05 := below_cell HS5.out.1 n0
      obtain ⟨s1, s2, s3, s4⟩ := HS.out w5.drew hb5.out.drew
      have s5 := str_of_sl (P := Try.prog) (HS5.out.2.below (Below.refl _ w5).drew) 32 5 9 Try.underlying32 Try.underlying5 Try.underlying9
      have HK5 : Hid (Below w3.heap.size w3 w5.drew) := (HK.out.trans (HS5.out.1.mono HK.out.size)).drew
      clear hRe n0 HS
      generalize bs.length = L at *
      go_region_held (fun u => u.cell? ⟨gl, k, none⟩ = some (.string nm) ∧ u.cell? ⟨q, 1, none⟩ = some (.slice (some ⟨g, 0, none⟩) zn.length capn) ∧ u.cell? ⟨g, k * 2, none⟩ = some (.string nm) ∧ u.cell? ⟨g, k * 2 + 1, none⟩ = some (.slice aod L capd) ∧ (convert 32 9 (.slice aod L capd)).run Try.prog u = .ok (.string ⟨bs.toArray⟩) u ∧ (convert 32 9 (.slice aob L capb)).run Try.prog u = .ok (.string ⟨bs.toArray⟩) u)
        (first | exact ⟨n05, s1, s2, s3, s4, s5⟩)
        (fail)
      clear s1 s2 s3 s4 s5 n05
      go_wp2
      go_roundw
      case rel => exact ⟨k + 1, by omega, by go_num, HK5⟩
      case measure => simp [intOf]; omega
    · have e : k = zn.length := by omega
      subst e
      have HB : Hid (_) := hbw
      go_wp2
      go_ret
      exact ⟨rfl, HB.out⟩
end Go.Proofs.Ytleelemcmnlfiaa
