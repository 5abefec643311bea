/- The walks of a disk's Cut, and of a Cut and a Move that are refused. The walks of a folder's tear and clone. The walk of a disk's Sync. The walk of a folder's clone. -/
import Derived.Test.YtnbdkojdddplkaaDoorPart06
import Derived.Test.YtnbdkojdddplkaaDoorPart05
namespace Go.Proofs.YtnbdkojdddplkaaDoor.Dk
open Go.RowKit

set_option maxHeartbeats 1000000 in
theorem cut_none (p : Nat) (s : St) (F : Nat → Prop) (n : ByteArray) (k : Int) (w : World) (h : Dk w p s F) (hl : look n s.now = none) (hm : s.mass ≤ 1000000000) :
    Calls Tryd.prog 36 #[.pointer (some ⟨p, 0, none⟩), .string n, .int .i64 k] w fun e w' => e = .returned (.int .i64 14) ∧ Below w.heap.size w w' := by
  obtain ⟨hgood, hFlt, vl, vn, vw, zl, zn, ws, Fa, Fn, Fw, hC, g1, g2, g3, g4⟩ := h
  have hnm := St.now_mass hgood
  have hum := used_mass (zn.map Ent.fl)
  rw [List.length_map] at hum
  rw [← g2] at hl hnm
  rcases splitE n zn (by rw [g2]; exact St.now_srt hgood) with ⟨ul, z, ur, hh⟩ | ⟨ul, ur, hh⟩
  · rw [hh.hit.lookE] at hl
    simp at hl
  · have HF : Hid (_) := find_miss vn zn Fn n ul ur w hC.fn hh (by omega)
    have c2 := hC.cells.2.2.1
    obtain ⟨ao, N, cap, rfl⟩ := own_slice hC.fn.row
    clear hC hgood g1 g2 g3 g4 hh hl hum hnm
    go_enter Tryd.func36, Tryd.ntmps36
    go_wp2_with (go_at_call 58; refine Calls.mono HF.out ?_; rintro e w1 ⟨rfl, hb1⟩)
    go_ret
    exact ⟨rfl, hb1⟩

/-- What Cut meets where the file is there. -/
theorem Dk.there {w : World} {p : Nat} {s : St} {F : Nat → Prop} {n : ByteArray} {f : Fl} (h : Dk w p s F) (hl : look n s.now = some f) (hm : s.mass ≤ 1000000000) :
    ∃ (g N cap i : Nat) (aod : Option Addr) (capd : Nat), w.cell? ⟨p, 2, none⟩ = some (.slice (some ⟨g, 0, none⟩) N cap) ∧ (i : Int) < (N : Int) ∧ w.cell? ⟨g, i * 2 + 1, none⟩ = some (.slice aod f.bs.length capd) ∧ f.bs.length ≤ 1000000000 ∧
      Calls Tryd.prog 58 #[.slice (some ⟨g, 0, none⟩) N cap, .string n] w fun e w' => e = .returned (.tuple #[.int .i64 i, .bool true]) ∧ Below w.heap.size w w' := by
  obtain ⟨hgood, hFlt, vl, vn, vw, zl, zn, ws, Fa, Fn, Fw, hC, g1, g2, g3, g4⟩ := h
  have hnm := St.now_mass hgood
  have hum := used_mass (zn.map Ent.fl)
  rw [List.length_map] at hum
  rw [← g2] at hl hnm
  rcases splitE n zn (by rw [g2]; exact St.now_srt hgood) with ⟨ul, z, ur, hh⟩ | ⟨ul, ur, hh⟩
  · have hz := hh.hit.lookE
    rw [hl] at hz
    simp only [Option.some.injEq] at hz
    have hzb : z.bs = f.bs := by rw [hz]; rfl
    have HF := find_hit vn zn Fn n ul z ur w hC.fn hh (by omega)
    have c2 := hC.cells.2.2.1
    have hzm : z ∈ zn := by rw [hh.1]; simp
    have hdat := hC.fn.data z hzm
    have hzl : z.bs.length ≤ 1000000000 := by
      have : z.bs.length ≤ mass (zn.map Ent.fl) := by
        rw [hh.1, List.map_append, mass_append, List.map_cons, mass_cons]
        simp only [Ent.fl]
        omega
      omega
    have hmid : Fol w vn (ul ++ z :: ur) Fn := hh.1 ▸ hC.fn
    obtain ⟨g, N, cap, rfl, k1, k2, k3, k4, k5, k6⟩ := shape_mid hmid
    have hsl := Sl.of_own hdat
    obtain ⟨aod, capd, hd, _, _⟩ := hsl.shape
    rw [hd, hzb] at k6
    exact ⟨g, N, cap, ul.length, aod, capd, c2, by omega, k6, by rw [← hzb]; exact hzl, HF⟩
  · rw [hh.miss.lookE] at hl
    simp at hl

set_option maxHeartbeats 1000000 in
set_option maxRecDepth 20000 in
theorem cut_range (p : Nat) (s : St) (F : Nat → Prop) (n : ByteArray) (k : Int) (f : Fl) (w : World) (h : Dk w p s F) (hl : look n s.now = some f) (hk : k < 0 ∨ (f.bs.length : Int) < k) (hm : s.mass ≤ 1000000000) :
    Calls Tryd.prog 36 #[.pointer (some ⟨p, 0, none⟩), .string n, .int .i64 k] w fun e w' => e = .returned (.int .i64 1) ∧ Below w.heap.size w w' := by
  obtain ⟨g, N, cap, i, aod, capd, c2, hi, k6, hfl, HF'⟩ := h.there hl hm
  have HF : Hid (_) := HF'
  clear h hl HF'
  have hi0 : (0 : Int) ≤ (i : Int) := by omega
  generalize f.bs.length = L at *
  by_cases hk0 : k < 0
  · clear hk
    go_enter Tryd.func36, Tryd.ntmps36
    go_wp2_with (go_at_call 58; refine Calls.mono HF.out ?_; rintro e w1 ⟨rfl, hb1⟩; have c21 := below_cell hb1 c2; have k61 := below_cell hb1 k6)
    go_ret
    exact ⟨rfl, hb1⟩
  · have hkL : (L : Int) < k := by omega
    clear hk
    go_enter Tryd.func36, Tryd.ntmps36
    go_wp2_with (go_at_call 58; refine Calls.mono HF.out ?_; rintro e w1 ⟨rfl, hb1⟩; have c21 := below_cell hb1 c2; have k61 := below_cell hb1 k6)
    go_ret
    exact ⟨rfl, hb1⟩

set_option maxHeartbeats 1000000 in
set_option maxRecDepth 20000 in
theorem cut_ok (p : Nat) (s : St) (F : Nat → Prop) (n : ByteArray) (k : Nat) (f : Fl) (w : World) (h : Dk w p s F) (hl : look n s.now = some f) (hk : k ≤ f.bs.length) (hm : s.mass + 1 ≤ 1000000000) :
    Calls Tryd.prog 36 #[.pointer (some ⟨p, 0, none⟩), .string n, .int .i64 (k : Int)] w fun e w' => e = .returned (.int .i64 0) ∧ Dk w' p (s.push (.cut n k)) (ext F w w') ∧ Fr F w w' := by
  obtain ⟨g, N, cap, i, aod, capd, c2, hi, k6, hfl, HF'⟩ := h.there hl (by omega)
  have HF : Hid (_) := HF'
  have HD : Hid (∀ w1, Below w.heap.size w w1 → Calls Tryd.prog 47 #[.pointer (some ⟨p, 0, none⟩), .agg #[.int .i64 2, .string n, .slice none 0 0, .int .i64 (k : Int), .string ⟨#[]⟩]] w1 fun e w' => e = .returned (.tuple #[]) ∧ Hid (Dk w' p (s.push (.cut n k)) (ext F w w') ∧ Fr F w w')) :=
    fun w1 hb => ddo_bare p s F ⟨2, n, .slice none 0 0, (k : Int), ⟨#[]⟩⟩ (.cut n k) w w1 h hb (fun w' => ⟨2, n, none, 0, 0, (k : Int), ⟨#[]⟩, rfl, rfl, rfl, rfl⟩) (fun f' hf' => by rw [hl] at hf'; cases hf'; exact hk) (by simp only [Ch.mass]; omega)
  clear h hl HF'
  have hi0 : (0 : Int) ≤ (i : Int) := by omega
  have hk0 : ¬ (k : Int) < 0 := by omega
  have hkL : ¬ (f.bs.length : Int) < (k : Int) := by omega
  generalize f.bs.length = L at *
  clear hk
  go_enter Tryd.func36, Tryd.ntmps36
  go_wp2_with (first
    | (go_at_call 58; refine Calls.mono HF.out ?_; rintro e w1 ⟨rfl, hb1⟩; have c21 := below_cell hb1 c2; have k61 := below_cell hb1 k6)
    | (go_at_call 47; refine (HD.out w1 hb1).mono ?_; rintro e w3 ⟨rfl, HX⟩))
  go_ret
  exact ⟨rfl, HX.out.1, HX.out.2⟩

set_option maxHeartbeats 1000000 in
theorem move_none (p : Nat) (s : St) (F : Nat → Prop) (n t : ByteArray) (w : World) (h : Dk w p s F) (hl : look n s.now = none) (hm : s.mass ≤ 1000000000) :
    Calls Tryd.prog 61 #[.pointer (some ⟨p, 0, none⟩), .string n, .string t] w fun e w' => e = .returned (.int .i64 14) ∧ Below w.heap.size w w' := by
  obtain ⟨ao, N, cap, c2, hN, hhas, hsize⟩ := h.has hm
  have HH : Hid (_) := hhas n
  rw [hl] at HH
  simp only [Option.isSome_none] at HH
  clear h hhas hsize hN hl
  go_enter Tryd.func61, Tryd.ntmps61
  go_wp2_with (go_at_call 46; refine (HH.out w (Below.refl _ _)).mono ?_; rintro e w2 ⟨rfl, hb2⟩)
  go_ret
  exact ⟨rfl, hb2⟩

set_option maxHeartbeats 1000000 in
theorem move_form (p : Nat) (s : St) (F : Nat → Prop) (n t : ByteArray) (w : World) (h : Dk w p s F) (hl : (look n s.now).isSome = true) (ht : okN t = false) (hm : s.mass ≤ 1000000000) :
    Calls Tryd.prog 61 #[.pointer (some ⟨p, 0, none⟩), .string n, .string t] w fun e w' => e = .returned (.int .i64 3) ∧ Below w.heap.size w w' := by
  obtain ⟨ao, N, cap, c2, hN, hhas, hsize⟩ := h.has hm
  have HH : Hid (_) := hhas n
  rw [hl] at HH
  have HN : Hid (∀ w1, Calls Tryd.prog 44 #[.string t] w1 fun e w' => e = .returned (.bool false) ∧ w' = w1) := fun w1 => by
    have := name_any t w1
    rw [ht] at this
    exact this
  clear h hhas hsize hN hl ht
  go_enter Tryd.func61, Tryd.ntmps61
  go_wp2_with (first
    | (go_at_call 46; refine (HH.out w (Below.refl _ _)).mono ?_; rintro e w2 ⟨rfl, hb2⟩)
    | (go_at_call 44; refine (HN.out w2).mono ?_; rintro e w' ⟨rfl, hw⟩; have hw' := hw.symm; subst hw'))
  go_ret
  exact ⟨rfl, hb2⟩
end Go.Proofs.YtnbdkojdddplkaaDoor.Dk
namespace Go.Proofs.YtnbdkojdddplkaaDoor.Dk
open Go.RowKit

theorem elem32 : Tryd.prog.underlying 33 = some (.slice (Tryd.prog.elem 33)) := by kernel_rfl
theorem size32 (w : World) : (sizeOf (Tryd.prog.elem 33)).run Tryd.prog w = .ok 1 w := by kernel_rfl
/-- The front of a slice of bytes, its place kept. -/
theorem slice_front (ao : Option Addr) (L cap k : Nat) (hk : k ≤ L) (hc : L ≤ cap) (w' : World) : (Instr.slice 33 (.slice ao L cap) none (some (.int .i64 (k : Int))) none).run Tryd.prog w' = .ok (.slice ao k cap) w' ∧ (Instr.sliceAt 33 (.slice ao L cap) none (some (.int .i64 (k : Int))) none).run Tryd.prog w' = .ok (.slice ao k cap) w' := by
  have e : (Instr.slice 33 (.slice ao L cap) none (some (.int .i64 (k : Int))) none).run Tryd.prog w' = .ok (.slice ao k cap) w' := by
    rw [run_slice_h w' 33 ao L cap elem32 .i64 k (by omega) (by omega), size32]
    simp [Result.andThen, sliced]
    cases ao <;> simp [Addr.add]
  exact ⟨e, by rw [run_sliceAt_slice (P := Tryd.prog) w' 33 _ _ _ _ elem32]; exact e⟩

set_option maxHeartbeats 1000000 in
set_option maxRecDepth 20000 in
theorem tear_go (b o : Nat) (v : Value) (zs : List Ent) (F : Nat → Prop) (cv : Value) (n : ByteArray) (bs : List UInt8) (k : Nat) (w : World) (hc : w.cell? ⟨b, o, none⟩ = some v) (hfz : w.frozen? ⟨b, o, none⟩ = false) (hF : Fol w v zs F) (hbF : ¬ F b) (hs : Srt (zs.map Ent.fl))
    (hV : ChV w cv (.app n bs) (fun k => F k ∨ k = b)) (hm : mass (zs.map Ent.fl) + bs.length ≤ 1000000000) :
    Calls Tryd.prog 43 #[.pointer (some ⟨b, o, none⟩), cv, .int .i64 (k : Int)] w fun e w' => e = .returned (.tuple #[]) ∧ Chg w w' b o F (ap (zs.map Ent.fl) (.app n (bs.take k))) := by
  obtain ⟨kd, nm, ao, L, cap, sz, t, rfl, rfl, rfl, hS⟩ := hV
  have hbw := cell_lt hc
  have hL : L = bs.length := hS.sl.len
  have hcap : L ≤ cap ∧ cap ≤ 9223372036854775807 := by
    obtain ⟨_, _, e, h1, h2⟩ := hS.sl.shape
    simp only [Value.slice.injEq] at e
    obtain ⟨_, e2, rfl⟩ := e
    exact ⟨by omega, h2⟩
  have hb1 : Below w.heap.size w (w.alloc (.cells #[.int .i64 1, .string nm, .slice ao L cap, .int .i64 sz, .string t] 76)) := (Below.refl _ _).alloc (Nat.le_refl _) _
  obtain ⟨m, hmin, HM⟩ : ∃ m : Nat, min (k : Int) (L : Int) = (m : Int) ∧ Hid (m = min k L) := ⟨min k L, by omega, rfl⟩
  have hmin2 : (if (L : Int) < (k : Int) then (L : Int) else (k : Int)) = (m : Int) := by rw [← hmin]; split <;> omega
  have hmin3 : (if L < k then (L : Int) else (k : Int)) = (m : Int) := by rw [← hmin]; split <;> omega
  have hmL : m ≤ L := by have := HM.out; omega
  have hS' : SlA w (.slice ao m cap) (bs.take k) (fun k => F k ∨ k = b) := by
    refine ⟨?_, fun a n' c' e => hS.away a L cap (by simp only [Value.slice.injEq] at e; rw [e.1])⟩
    have h1 := hS.sl.take m (by omega)
    have e : bs.take m = bs.take k := by
      rw [HM.out, hL]
      rcases Nat.le_total k bs.length with h | h
      · rw [Nat.min_eq_left h]
      · rw [Nat.min_eq_right h, List.take_of_length_le (Nat.le_refl _), List.take_of_length_le h]
    rw [e] at h1
    exact h1
  have HA : Hid (∀ w1, Below w.heap.size w w1 → Calls Tryd.prog 62 #[.pointer (some ⟨b, o, none⟩), .string nm, .slice ao m cap] w1 fun e w' => e = .returned (.tuple #[]) ∧ Hid (Chg w w' b o F (ap (zs.map Ent.fl) (.app nm (bs.take k)))) ∧ Hid (∀ p u, w1.cell? p = some u → p.block ≠ b → ¬ F p.block → w'.cell? p = some u)) := by
    intro w1 hb
    refine (add_any b o v zs F nm _ (bs.take k) w1 (below_cell hb hc) ((below_frozen hb hc).trans hfz) (hF.below hb) hbF hs (hS'.kept (Fr.of_below hb)) (by rw [List.length_take]; omega)).mono ?_
    rintro e w' ⟨rfl, hX⟩
    refine ⟨rfl, hX.from hb hF.lt, fun p u hp hpb hpF => ?_⟩
    obtain ⟨v', _, _, _, hfr⟩ := hX
    exact hfr.cell (by rw [World.cell?_setCell_other _ _ _ _ (fun e => hpb (by rw [← e]))]; exact hp) hpF
  have hsl := fun w' => slice_front ao L cap m hmL hcap.1 w'
  have hmF : ¬ F w.heap.size := fun h => by have := hF.lt _ h; omega
  have hmb : w.heap.size ≠ b := fun e => by omega
  have HB : Hid (_) := hb1
  have hk0 : ¬ ((k : Int) < 0) := by omega
  clear hF hS hS' hs hm HM hb1 hc hfz hmL hL
  go_enter Tryd.func43, Tryd.ntmps43
  go_wp2_with fail
  go_region_held (fun w' => w'.cell? ⟨w.heap.size, 1, none⟩ = some (.string nm) ∧ w'.cell? ⟨w.heap.size, 2, none⟩ = some (.slice ao L cap) ∧ (Instr.slice 33 (.slice ao L cap) none (some (.int .i64 (m : Int))) none).run Tryd.prog w' = .ok (.slice ao m cap) w' ∧ (Instr.sliceAt 33 (.slice ao L cap) none (some (.int .i64 (m : Int))) none).run Tryd.prog w' = .ok (.slice ao m cap) w')
    (first | exact ⟨by simp, by simp, (hsl _).1, (hsl _).2⟩ | exact ⟨MM.out _ _ (by simp) hmb hmF, MM.out _ _ (by simp) hmb hmF, (hsl _).1, (hsl _).2⟩)
    (first | (go_at_call 62; refine (HA.out _ HB.out.drew).mono ?_; rintro e w6 ⟨rfl, HX, MM⟩))
  go_wp2
  go_end0
  exact ⟨rfl, HX.out⟩

theorem tear_any (b o : Nat) (v : Value) (zs : List Ent) (F : Nat → Prop) (cv : Value) (c : Ch) (k : Int) (w : World) (hc : w.cell? ⟨b, o, none⟩ = some v) (hfz : w.frozen? ⟨b, o, none⟩ = false) (hF : Fol w v zs F) (hbF : ¬ F b) (hs : Srt (zs.map Ent.fl))
    (hV : ChV w cv c (fun k => F k ∨ k = b)) (hm : mass (zs.map Ent.fl) + c.mass ≤ 1000000000) :
    Calls Tryd.prog 43 #[.pointer (some ⟨b, o, none⟩), cv, .int .i64 k] w fun e w' => e = .returned (.tuple #[]) ∧ Chg w w' b o F (torn (zs.map Ent.fl) c k) := by
  by_cases hk : k < 0
  · exact tear_not b o v zs F cv c k w hc hF hV (Or.inr hk)
  · cases c with
    | app n bs =>
      obtain ⟨q, rfl⟩ : ∃ q : Nat, k = (q : Int) := ⟨k.toNat, by omega⟩
      have e : torn (zs.map Ent.fl) (.app n bs) (q : Int) = ap (zs.map Ent.fl) (.app n (bs.take q)) := by
        simp only [torn, if_neg hk, Int.toNat_natCast]
      rw [e]
      exact tear_go b o v zs F cv n bs q w hc hfz hF hbF hs hV (by simp only [Ch.mass] at hm; omega)
    | cut n q => exact tear_not b o v zs F cv _ k w hc hF hV (Or.inl rfl)
    | rem n => exact tear_not b o v zs F cv _ k w hc hF hV (Or.inl rfl)
    | mov n q => exact tear_not b o v zs F cv _ k w hc hF hV (Or.inl rfl)
end Go.Proofs.YtnbdkojdddplkaaDoor.Dk
namespace Go.Proofs.YtnbdkojdddplkaaDoor.Dk
open Go.RowKit

/-- A disk some of whose waiting changes last already. -/
def Sy (w wr : World) (p : Nat) (s : St) (F : Nat → Prop) (aow : Option Addr) (capw : Nat) (ws : List (Cv × Ch)) (k : Nat) : Prop :=
  ∃ ao N cap vn zl zn Fa Fn Fw, DkC wr p s.room (.slice ao N cap) vn (.slice aow ws.length capw) zl zn ws Fa Fn Fw ∧ zl.map Ent.fl = run s.last (s.wait.take k) ∧ zn.map Ent.fl = s.now ∧ (∀ j, (Fa j ∨ Fn j ∨ Fw j ∨ j = p) → ext F w wr j) ∧ Fr F w wr

theorem Sy.below {w wr w' : World} {p : Nat} {s : St} {F : Nat → Prop} {aow : Option Addr} {capw : Nat} {ws : List (Cv × Ch)} {k : Nat} (h : Sy w wr p s F aow capw ws k) (hb : Below wr.heap.size wr w') : Sy w w' p s F aow capw ws k := by
  obtain ⟨ao, N, cap, vn, zl, zn, Fa, Fn, Fw, h1, h2, h3, h4, h5⟩ := h
  refine ⟨ao, N, cap, vn, zl, zn, Fa, Fn, Fw, h1.kept (G := fun _ => False) (Fr.of_below hb) (fun _ _ => id) (fun _ _ => id) (fun _ _ => id) id, h2, h3, fun j hj => ?_, h5.trans (Fr.of_below (F := F) hb) (fun _ _ h => h)⟩
  rcases h4 j hj with h | h
  · exact Or.inl h
  · exact Or.inr ⟨h.1, Nat.lt_of_lt_of_le h.2 hb.size⟩

theorem Sy.step {w : World} {p : Nat} {s : St} {F : Nat → Prop} {aow : Option Addr} {capw : Nat} {ws : List (Cv × Ch)} (g3 : ws.map Prod.snd = s.wait) (hg : s.good) (hm : s.mass ≤ 1000000000) (hpF : F p) (k : Nat) (hk : k < ws.length) (wr1 : World) (h1 : Sy w wr1 p s F aow capw ws k) :
    Calls Tryd.prog 42 #[.pointer (some ⟨p, 1, none⟩), ws[k].1.val] wr1 fun e w' => e = .returned (.tuple #[]) ∧ Sy w w' p s F aow capw ws (k + 1) := by
  obtain ⟨ao, N, cap, vn, zl, zn, Fa, Fn, Fw, hC, c2, c3, c4, c5⟩ := h1
  have hget : s.wait[k]? = some ws[k].2 := by rw [← g3, List.getElem?_map, List.getElem?_eq_getElem hk]; rfl
  have hsrt : Srt (run s.last (s.wait.take k)) := run_srt _ _ hg.srt
  have hms : mass (run s.last (s.wait.take k)) + (ws[k].2).mass ≤ s.mass := by
    have e1 := run_mass (s.wait.take k) s.last hg.srt
    have e2 := wmass_take s.wait (k + 1)
    rw [take_succ_snoc _ _ _ hget] at e2
    have e3 : wmass (s.wait.take k ++ [ws[k].2]) = wmass (s.wait.take k) + (ws[k].2).mass := by simp [wmass]
    unfold St.mass
    omega
  have hcv := hC.wt.away (G := fun j => Fa j ∨ j = p) (fun j hj hG => by
    rcases hG with hG | hG
    · exact hC.d2 j hG hj
    · exact hC.p3 (hG ▸ hj)) ws[k] (List.getElem_mem hk)
  have hcs := hC.cells
  refine (do_any p 1 _ zl Fa _ ws[k].2 wr1 hcs.2.1 (hcs.2.2.2.2 1) hC.fl hC.p1 (by rw [c2]; exact hsrt) hcv (by rw [c2]; exact okw_take k _ _ hg.ok _ hget) (by rw [c2]; omega)).mono ?_
  rintro e w' ⟨rfl, v', zs', q1, q2, q3⟩
  refine ⟨rfl, ?_⟩
  obtain ⟨ao', N', cap', rfl⟩ := own_slice q1.row
  have hs := q3.size
  rw [setCell_size] at hs
  have hs5 := c5.size
  refine ⟨ao', N', cap', vn, zs', zn, _, Fn, Fw, hC.last q1 q3, ?_, c3, fun j hj => ?_, ?_⟩
  · rw [q2, c2, take_succ_snoc _ _ _ hget, run_snoc]
  · have old : ext F w wr1 j → ext F w w' j := fun h => by
      rcases h with h | h
      · exact Or.inl h
      · exact Or.inr ⟨h.1, by omega⟩
    rcases hj with hj | hj | hj | hj
    · rcases hj with hj | hj
      · exact old (c4 j (Or.inl hj))
      · exact Or.inr ⟨by omega, hj.2⟩
    · exact old (c4 j (Or.inr (Or.inl hj)))
    · exact old (c4 j (Or.inr (Or.inr (Or.inl hj))))
    · exact old (c4 j (Or.inr (Or.inr (Or.inr hj))))
  · refine (c5.trans (Fr.one wr1 p 1 _) (fun j _ e => e ▸ hpF)).trans q3 (fun j hj hFa => ?_)
    rcases c4 j (Or.inl hFa) with h | h
    · exact h
    · omega

set_option maxHeartbeats 2000000 in
set_option maxRecDepth 20000 in
theorem sync_any (p : Nat) (s : St) (F : Nat → Prop) (w : World) (h : Dk w p s F) (hm : s.mass ≤ 1000000000) :
    Calls Tryd.prog 23 #[.pointer (some ⟨p, 0, none⟩)] w fun e w' => e = .returned (.tuple #[]) ∧ Dk w' p ⟨s.room, s.now, []⟩ (ext F w w') ∧ Fr F w w' := by
  obtain ⟨hgood, hFlt, vl, vn, vw, zl, zn, ws, Fa, Fn, Fw, hC, g1, g2, g3, g4⟩ := h
  have c3 := hC.cells.2.2.2.1
  have hpF : F p := g4 p (Or.inr (Or.inr (Or.inr rfl)))
  have hwl : ws.length = s.wait.length := by rw [← g3, List.length_map]
  have hwb : ws.length ≤ 1000000000 := by unfold St.mass at hm; omega
  obtain ⟨aow, capw, hvw⟩ : ∃ ao cap, vw = .slice ao ws.length cap := by
    rcases own_shape hC.wt.row with ⟨rfl, e⟩ | ⟨g, cap, rfl, hc, _⟩
    · exact ⟨none, 0, by rw [e]⟩
    · exact ⟨_, _, rfl⟩
  subst hvw
  obtain ⟨aol, Nl, capl, rfl⟩ := own_slice hC.fl.row
  have HS0 : Hid (Sy w w p s F aow capw ws 0) := ⟨aol, Nl, capl, vn, zl, zn, Fa, Fn, Fw, hC, g1, g2, fun j hj => Or.inl (g4 j hj), Fr.refl _ _⟩
  have HSt : Hid (_) := fun (k : Nat) (hk : k < ws.length) (wr1 : World) => Sy.step (w := w) (aow := aow) (capw := capw) g3 hgood hm hpF k hk wr1
  have HEnd : Hid (∀ wr, Sy w wr p s F aow capw ws ws.length → Dk (wr.setCell ⟨p, 3, none⟩ (.slice none 0 0)) p ⟨s.room, s.now, []⟩ (ext F w (wr.setCell ⟨p, 3, none⟩ (.slice none 0 0))) ∧ Fr F w (wr.setCell ⟨p, 3, none⟩ (.slice none 0 0))) := by
    rintro wr ⟨ao, N, cap, vn', zl', zn', Fa', Fn', Fw', q1, q2, q3, q4, q5⟩
    have hone := Fr.one wr p 3 (.slice none 0 0)
    refine ⟨⟨⟨St.now_srt hgood, trivial, hgood.r0, hgood.r1⟩, ext_lt hFlt (by rw [setCell_size]; exact q5.size), .slice ao N cap, vn', .slice none 0 0, zl', zn', [], Fa', Fn', fun _ => False, ⟨by rw [heap_set q1.heap]; rfl, q1.fl.kept hone (fun k hk e => q1.p1 (e ▸ hk)), q1.fn.kept hone (fun k hk e => q1.p2 (e ▸ hk)), Wt.nil _ _ (fun _ h => h.elim), q1.d1, fun _ _ => id, fun _ _ => id, q1.p1, q1.p2, id⟩, ?_, q3, rfl, fun k hk => ?_⟩, q5.trans hone (fun k _ e => e ▸ hpF)⟩
    · rw [q2, List.take_of_length_le (by omega)]
      rfl
    · have he : ext F w (wr.setCell ⟨p, 3, none⟩ (.slice none 0 0)) k = ext F w wr k := by unfold ext; rw [setCell_size]
      rw [he]
      rcases hk with hk | hk | hk | hk
      · exact q4 k (Or.inl hk)
      · exact q4 k (Or.inr (Or.inl hk))
      · exact hk.elim
      · exact q4 k (Or.inr (Or.inr (Or.inr hk)))
  clear hC hgood hFlt g1 g2 g3 g4 hwl hm hpF
  go_enter Tryd.func23, Tryd.ntmps23
  go_wp2_with fail
  go_loopw [11] (fun vi wr => ∃ k : Nat, k ≤ ws.length ∧ vi = .int .i64 k ∧ Hid (Sy w wr p s F aow capw ws k)) (fun vi _ => ws.length - (intOf vi).toNat)
  case atStart => exact ⟨0, Nat.zero_le _, rfl, HS0.out⟩
  case round =>
    obtain ⟨k, hk, rfl, HK⟩ := hrel
    by_cases hlt : k < ws.length
    · have hlt' : (k : Int) < (ws.length : Int) := by omega
      obtain ⟨hW2, hpl⟩ : (∃ Fw', Wt wr (.slice aow ws.length capw) ws Fw') ∧ p < wr.heap.size := by
        obtain ⟨_, _, _, _, _, _, _, _, Fw', q1, _⟩ := HK.out
        exact ⟨⟨Fw', q1.wt⟩, q1.plt⟩
      obtain ⟨Fw', hW2⟩ := hW2
      obtain ⟨g, rfl⟩ : ∃ g, aow = some ⟨g, 0, none⟩ := by
        rcases own_shape hW2.row with ⟨_, e⟩ | ⟨g, cap', e, _⟩
        · omega
        · simp at e; exact ⟨g, e.1⟩
      obtain ⟨m0, m1, m2, m3, m4⟩ := hW2.cell k hlt
      obtain ⟨aod, Ld, capd, hd⟩ := Cv.slice (hW2.away (G := fun _ => False) (fun _ _ => id) ws[k] (List.getElem_mem hlt))
      have hst := HSt.out k hlt (wr.alloc (.cells #[.int .i64 ws[k].1.kd, .string ws[k].1.nm, .slice aod Ld capd, .int .i64 ws[k].1.sz, .string ws[k].1.t] 76)).drew (HK.out.below ((Below.refl _ _).alloc (Nat.le_refl _) _).drew)
      simp only [Cv.val] at hst
      rw [hd] at hst m2
      have hst2 := hst.mono (R' := fun e w' => e = .returned (.tuple #[]) ∧ Hid (Sy w w' p s F (some ⟨g, 0, none⟩) capw ws (k + 1))) (fun _ _ h => h)
      have HS2 : Hid (_) := hst2
      generalize ws[k].1.kd = kd at *
      generalize ws[k].1.nm = nm at *
      generalize ws[k].1.sz = sz at *
      generalize ws[k].1.t = tt at *
      clear hst hst2 hW2 hd HEnd
      go_wp2_with fail
      go_region_with (go_at_call 42; refine Calls.mono HS2.out ?_; rintro e w' ⟨rfl, hX⟩)
      all_goals go_wp2
      all_goals go_roundw
      case rel => exact ⟨k + 1, by omega, by go_num, hX⟩
      case measure => simp [intOf]; omega
    · have hkM : k = ws.length := by omega
      subst hkM
      have hlt' : ¬ (ws.length : Int) < (ws.length : Int) := by omega
      obtain ⟨cp, cf⟩ : (∃ u, wr.cell? ⟨p, 3, none⟩ = some u) ∧ wr.frozen? ⟨p, 3, none⟩ = false := by
        obtain ⟨_, _, _, _, _, _, _, _, Fw', q1, _⟩ := HK.out
        exact ⟨⟨_, q1.cells.2.2.2.1⟩, q1.cells.2.2.2.2 3⟩
      obtain ⟨u, cp⟩ := cp
      have HE2 : Hid (_) := HEnd.out wr HK.out
      clear HEnd HSt
      go_wp2
      go_end0
      exact ⟨rfl, HE2.out.1, HE2.out.2⟩
end Go.Proofs.YtnbdkojdddplkaaDoor.Dk
namespace Go.Proofs.YtnbdkojdddplkaaDoor.Dk
open Go.RowKit

def blank : Ent := ⟨⟨#[]⟩, .slice none 0 0, []⟩
theorem made_blank (n : Nat) : (madeCells (Value.agg #[.string ⟨#[]⟩, .slice none 0 0]).cells (n * 2)).toList = cellsF (List.replicate n blank) := by
  apply List.ext_getElem?
  intro j
  have hc : (Value.agg #[.string ⟨#[]⟩, .slice none 0 0]).cells = #[.string ⟨#[]⟩, .slice none 0 0] := rfl
  by_cases hj : j < n * 2
  · obtain ⟨i, hi⟩ : ∃ i, j = i * 2 ∨ j = i * 2 + 1 := ⟨j / 2, by omega⟩
    have hi2 : i < (List.replicate n blank).length := by simp; omega
    have hg := cellsF_get (List.replicate n blank) i hi2
    simp only [List.getElem_replicate] at hg
    rcases hi with rfl | rfl
    · rw [hg.1, hc]
      simp [madeCells, hj, blank]
    · rw [hg.2, hc]
      simp [madeCells, hj, blank]
  · have h1 : (madeCells (Value.agg #[.string ⟨#[]⟩, .slice none 0 0]).cells (n * 2)).toList[j]? = none := List.getElem?_eq_none (by simp [madeCells]; omega)
    have h2 : (cellsF (List.replicate n blank))[j]? = none := List.getElem?_eq_none (by rw [cellsF_len, List.length_replicate]; omega)
    rw [h1, h2]

set_option maxHeartbeats 2000000 in
set_option maxRecDepth 20000 in
theorem fclone_any (v : Value) (zs : List Ent) (F : Nat → Prop) (w : World) (h : Fol w v zs F) (hm : mass (zs.map Ent.fl) ≤ 1000000000) :
    Calls Tryd.prog 41 #[v] w fun e w' => ∃ v' zs', e = .returned v' ∧ Fol w' v' zs' (ext (fun _ => False) w w') ∧ zs'.map Ent.fl = zs.map Ent.fl ∧ Below w.heap.size w w' := by
  obtain ⟨I, hI, hz0, hz1, hz2⟩ := info_parts Tryd.info99
  have hum := used_mass (zs.map Ent.fl)
  rw [List.length_map] at hum
  have hzl : zs.length ≤ 1000000000 := by omega
  have hdl : ∀ z ∈ zs, z.bs.length ≤ 1000000000 := fun z hz => by
    obtain ⟨l, r, rfl⟩ := List.append_of_mem hz
    rw [List.map_append, mass_append, List.map_cons, mass_cons] at hm
    simp only [Ent.fl] at hm
    omega
  obtain ⟨w0, hmk, hO0, hg0⟩ := run_make_full (P := Tryd.prog) w 0 58 99 I _ 2 Tryd.underlying58 hI hz0 hz1 .i64 .i64 zs.length (by rw [hz2]; omega) (by unfold maxLen; omega) (Nat.zero_le _)
  rw [made_blank] at hO0
  have hb0 : Below w.heap.size w w0 := (Below.refl _ _).grown hg0 (Nat.le_refl _) (by simp)
  have hlt0 : w.heap.size < w0.heap.size := (hO0.lt _ rfl).2
  have hF0 : Fol w0 (.slice (some ⟨w.heap.size, 0, none⟩) zs.length zs.length) (List.replicate zs.length blank) (ext (fun _ => False) w w0) := by
    refine ⟨by rw [List.length_replicate]; exact hO0, fun z hz => ?_, ?_, fun k hk => ?_, fun z hz k hk => ?_, ext_lt (fun _ h => h.elim) hb0.size⟩
    · rw [List.eq_of_mem_replicate hz]; exact World.ownsRow_nil _ _ _ _
    · exact List.pairwise_replicate.2 (Or.inr (fun k hk => by simp [blank, Value.ownBlock] at hk))
    · simp [Value.ownBlock] at hk; subst hk; exact Or.inr ⟨Nat.le_refl _, hlt0⟩
    · rw [List.eq_of_mem_replicate hz] at hk; simp [blank, Value.ownBlock] at hk
  have HF : Hid (_) := h
  have HF0 : Hid (_) := hF0
  have HD : Hid (_) := hdl
  have HB0 : Hid (_) := hb0
  obtain ⟨ao, N, cap, rfl⟩ := own_slice h.row
  have hN : N = zs.length := by
    rcases h.shape with ⟨e, e2⟩ | ⟨_, _, e, _⟩ <;> (simp only [Value.slice.injEq] at e; omega)
  subst hN
  clear h hF0 hO0 hg0 hb0 hdl hm hum hI hz0 hz1 hz2
  go_enter Tryd.func41, Tryd.ntmps41
  go_wp2
  go_loopw [11] (fun vi wr => ∃ (k : Nat) (zd : List Ent), k ≤ zs.length ∧ vi = .int .i64 k ∧ Hid (zd.length = k ∧ zd.map Ent.fl = (zs.take k).map Ent.fl ∧ Fol wr (.slice (some ⟨w.heap.size, 0, none⟩) zs.length zs.length) (zd ++ List.replicate (zs.length - k) blank) (ext (fun _ => False) w wr)) ∧ Hid (Below w.heap.size w wr ∧ w.heap.size < wr.heap.size)) (fun vi _ => zs.length - (intOf vi).toNat)
  case atStart => exact ⟨0, [], Nat.zero_le _, rfl, ⟨rfl, by simp, by simpa using HF0.out⟩, HB0.out, hlt0⟩
  case round =>
    obtain ⟨k, zd, hk, rfl, HK, HB⟩ := hrel
    by_cases hlt : k < zs.length
    · have hlt' : (k : Int) < (zs.length : Int) := by omega
      obtain ⟨g, rfl⟩ : ∃ g, ao = some ⟨g, 0, none⟩ := by
        rcases HF.out.shape with ⟨_, e⟩ | ⟨g, cap', e, _⟩
        · omega
        · simp at e; exact ⟨g, e.1⟩
      have hFr := HF.out.below HB.out.1
      obtain ⟨c0, c1⟩ := hFr.cell k hlt
      have hdat := hFr.data zs[k] (List.getElem_mem hlt)
      obtain ⟨aod, Ld, capd, hd⟩ := own_slice hdat
      rw [hd] at c1
      have hw1 : Below wr.heap.size wr (wr.alloc (.cells #[.string zs[k].name, .slice aod Ld capd] 99)).drew := ((Below.refl _ _).alloc (Nat.le_refl _) _).drew
      have hsl : Sl (wr.alloc (.cells #[.string zs[k].name, .slice aod Ld capd] 99)).drew (.slice aod Ld capd) zs[k].bs := by have h := (Sl.of_own hdat).below hw1; rw [hd] at h; exact h
      have hrep : List.replicate (zs.length - k) blank = blank :: List.replicate (zs.length - (k + 1)) blank := by
        rw [show zs.length - k = (zs.length - (k + 1)) + 1 by omega, List.replicate_succ]
      have HC : Hid (Calls Tryd.prog 34 #[.slice aod Ld capd] (wr.alloc (.cells #[.string zs[k].name, .slice aod Ld capd] 99)).drew fun e w2 => ∃ ao2 L2 cap2, e = .returned (.slice ao2 L2 cap2) ∧ w2.cell? ⟨wr.heap.size, 0, none⟩ = some (.string zs[k].name) ∧ w2.cell? ⟨wr.heap.size, 1, none⟩ = some (.slice aod Ld capd) ∧ (∃ u, w2.cell? ⟨w.heap.size, k * 2, none⟩ = some u) ∧ (∃ u, w2.cell? ⟨w.heap.size, k * 2 + 1, none⟩ = some u) ∧ w2.frozen? ⟨w.heap.size, k * 2, none⟩ = false ∧ w2.frozen? ⟨w.heap.size, k * 2 + 1, none⟩ = false ∧
          Hid (Fol ((w2.setCell ⟨w.heap.size, k * 2, none⟩ (.string zs[k].name)).setCell ⟨w.heap.size, k * 2 + 1, none⟩ (.slice ao2 L2 cap2)) (.slice (some ⟨w.heap.size, 0, none⟩) zs.length zs.length) ((zd ++ [⟨zs[k].name, .slice ao2 L2 cap2, zs[k].bs⟩]) ++ List.replicate (zs.length - (k + 1)) blank) (ext (fun _ => False) w ((w2.setCell ⟨w.heap.size, k * 2, none⟩ (.string zs[k].name)).setCell ⟨w.heap.size, k * 2 + 1, none⟩ (.slice ao2 L2 cap2))) ∧
            Below w.heap.size w ((w2.setCell ⟨w.heap.size, k * 2, none⟩ (.string zs[k].name)).setCell ⟨w.heap.size, k * 2 + 1, none⟩ (.slice ao2 L2 cap2)) ∧ w.heap.size < w2.heap.size)) := by
        refine (clone_any _ zs[k].bs _ hsl (by have := HD.out zs[k] (List.getElem_mem hlt); omega)).mono ?_
        rintro e w2 ⟨d', rfl, hO, hb⟩
        obtain ⟨ao2, L2, cap2, rfl⟩ := own_slice hO
        have hb2 : Below wr.heap.size wr w2 := hw1.trans (hb.mono (by have := hw1.size; omega))
        obtain ⟨k1, k2, k3⟩ := HK.out
        rw [hrep] at k3
        have hF2 : Fol w2 (.slice (some ⟨w.heap.size, 0, none⟩) zs.length zs.length) (zd ++ blank :: List.replicate (zs.length - (k + 1)) blank) (ext (fun _ => False) w w2) :=
          (k3.below hb2).mono (fun q hq => by rcases hq with hq | hq; exact Or.inl hq; exact Or.inr ⟨hq.1, by have := hb2.size; omega⟩) (ext_lt (fun _ h => h.elim) (by have := hb2.size; have := HB.out.2; omega))
        have hset := hF2.set zs[k].name (.slice ao2 L2 cap2) zs[k].bs (own_zero hO) (fun q hq => Or.inr ⟨by have := (hO.lt q hq).1; have := HB.out.2; have := hw1.size; omega, (hO.lt q hq).2⟩) (fun x hx q hq hq' => by
          have h1 := (hO.lt q hq').1
          have h2 := k3.lt q (k3.dataIn x (by rcases hx with hx | hx <;> simp [hx]) q hq)
          have h3 := hw1.size
          omega)
        rw [k1] at hset
        have hm0 : (wr.alloc (.cells #[.string zs[k].name, .slice aod Ld capd] 99)).drew.heap[wr.heap.size]? = some (.cells #[.string zs[k].name, .slice aod Ld capd] 99 (0, 0)) := heap_alloc_new wr _
        have hlk : wr.heap.size < (wr.alloc (.cells #[.string zs[k].name, .slice aod Ld capd] 99)).drew.heap.size := by show wr.heap.size < (wr.alloc _).heap.size; simp
        have hm2 : w2.heap[wr.heap.size]? = some (.cells #[.string zs[k].name, .slice aod Ld capd] 99 (0, 0)) := (hb.block _ hlk).trans hm0
        have hcell := hF2.cell k (by simp; omega)
        refine ⟨ao2, L2, cap2, rfl, by rw [cell_of_row w2 _ 0 _ _ _ hm2]; rfl, by rw [cell_of_row w2 _ 1 _ _ _ hm2]; rfl, ⟨_, hcell.1⟩, ⟨_, hcell.2⟩, hF2.frozen _, hF2.frozen _, ?_, ?_, by have := hb2.size; have := HB.out.2; omega⟩
        · have e : (zd ++ [(⟨zs[k].name, .slice ao2 L2 cap2, zs[k].bs⟩ : Ent)]) ++ List.replicate (zs.length - (k + 1)) blank = zd ++ ⟨zs[k].name, .slice ao2 L2 cap2, zs[k].bs⟩ :: List.replicate (zs.length - (k + 1)) blank := by simp
          rw [e]
          refine hset.mono (fun q hq => ?_) (ext_lt (fun _ h => h.elim) ?_)
          · rcases hq with hq | hq
            · exact Or.inl hq
            · exact Or.inr ⟨hq.1, by rw [setCell_size, setCell_size]; exact hq.2⟩
          · rw [setCell_size, setCell_size]; have := hb2.size; have := HB.out.2; omega
        · exact ((HB.out.1.trans (hb2.mono (by have := HB.out.2; omega))).setCell (Nat.le_refl _) _).setCell (Nat.le_refl _) _
      have hne : wr.heap.size ≠ w.heap.size := by have := HB.out.2; omega
      have hne2 : w.heap.size ≠ wr.heap.size := fun e => hne e.symm
      have HL : Hid (zd.length = k ∧ zd.map Ent.fl = (zs.take k).map Ent.fl) := ⟨HK.out.1, HK.out.2.1⟩
      clear hFr hdat hd hw1 hsl hrep HK HD
      obtain ⟨nm, HN⟩ : ∃ nm, Hid (nm = zs[k].name) := ⟨zs[k].name, (rfl : _ = _)⟩
      rw [← HN.out] at c0 HC
      go_wp2_with fail
      go_region_held (fun w' => w'.cell? ⟨wr.heap.size, 0, none⟩ = some (.string nm) ∧ w'.cell? ⟨wr.heap.size, 1, none⟩ = some (.slice aod Ld capd))
        (first | exact ⟨by simp, by simp⟩ | exact ⟨f0, f1⟩ | go_keep)
        (first | (go_at_call 34; refine Calls.mono HC.out ?_; rintro e w2 ⟨ao2, L2, cap2, rfl, f0, f1, ⟨u0, e0⟩, ⟨u1, e1⟩, z0, z1, HX⟩))
      have HF' : Hid ((zd ++ [(⟨nm, .slice ao2 L2 cap2, zs[k].bs⟩ : Ent)]).length = k + 1 ∧ (zd ++ [(⟨nm, .slice ao2 L2 cap2, zs[k].bs⟩ : Ent)]).map Ent.fl = (zs.take (k + 1)).map Ent.fl) := by
        refine ⟨by simp [HL.out.1], ?_⟩
        rw [take_succ_snoc zs k zs[k] (List.getElem?_eq_getElem hlt), List.map_append, List.map_append, HL.out.2, HN.out]
        rfl
      clear f0 f1 e0 e1 z0 z1 c0 c1 HC
      go_wp2
      go_roundw
      case rel => exact ⟨k + 1, _, by omega, by go_num, ⟨HF'.out.1, HF'.out.2, HX.out.1⟩, HX.out.2.1, by rw [setCell_size, setCell_size]; exact HX.out.2.2⟩
      case measure => simp [intOf]; omega
    · have e : k = zs.length := by omega
      subst e
      go_wp2
      go_ret
      obtain ⟨h1, h2, h3⟩ := HK.out
      refine ⟨_, zd, rfl, by simpa using h3, by rw [h2, List.take_length], HB.out.1⟩
end Go.Proofs.YtnbdkojdddplkaaDoor.Dk
