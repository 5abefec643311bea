/- The walks of a disk's Cut, and of a Cut and a Move that are refused. The document's files in memory: they are read alone, and made anew. The walks of its at, Used, without, with. The walks of the document's without and with. -/
import Derived.Test.YtleelemcmnlfiaaPart06
import Derived.Laws.Cover1
import Derived.BigQuiet
namespace Go.Proofs.Ytleelemcmnlfiaa
open Go.RowKit

set_option maxHeartbeats 1000000 in
theorem cut_none (p : Nat) (s : St) (F : Nat → Prop) (n : ByteArray) (k : Int) (w : World) (h : Dk w p s F) (hl : look n s.now = none) (hm : s.mass ≤ 1000000000) :
    Calls Try.prog 14 #[.pointer (some ⟨p, 0, none⟩), .string n, .int .i64 k] w fun e w' => e = .returned (.int .i64 14) ∧ Below w.heap.size w w' := by
  obtain ⟨hgood, hFlt, vl, vn, vw, zl, zn, ws, Fa, Fn, Fw, hC, g1, g2, g3, g4⟩ := h
  have hnm := St.now_mass hgood
  have hum := used_mass (zn.map Ent.fl)
  rw [List.length_map] at hum
  rw [← g2] at hl hnm
  rcases splitE n zn (by rw [g2]; exact St.now_srt hgood) with ⟨ul, z, ur, hh⟩ | ⟨ul, ur, hh⟩
  · rw [hh.hit.lookE] at hl
    simp at hl
  · have HF : Hid (_) := find_miss vn zn Fn n ul ur w hC.fn hh (by omega)
    have c2 := hC.cells.2.2.1
    obtain ⟨ao, N, cap, rfl⟩ := own_slice hC.fn.row
    clear hC hgood g1 g2 g3 g4 hh hl hum hnm
    go_enter Try.func14, Try.ntmps14
    go_wp2_with (go_at_call 35; refine Calls.mono HF.out ?_; rintro e w1 ⟨rfl, hb1⟩)
    go_ret
    exact ⟨rfl, hb1⟩

/-- What Cut meets where the file is there. -/
theorem Dk.there {w : World} {p : Nat} {s : St} {F : Nat → Prop} {n : ByteArray} {f : Fl} (h : Dk w p s F) (hl : look n s.now = some f) (hm : s.mass ≤ 1000000000) :
    ∃ (g N cap i : Nat) (aod : Option Addr) (capd : Nat), w.cell? ⟨p, 2, none⟩ = some (.slice (some ⟨g, 0, none⟩) N cap) ∧ (i : Int) < (N : Int) ∧ w.cell? ⟨g, i * 2 + 1, none⟩ = some (.slice aod f.bs.length capd) ∧ f.bs.length ≤ 1000000000 ∧
      Calls Try.prog 35 #[.slice (some ⟨g, 0, none⟩) N cap, .string n] w fun e w' => e = .returned (.tuple #[.int .i64 i, .bool true]) ∧ Below w.heap.size w w' := by
  obtain ⟨hgood, hFlt, vl, vn, vw, zl, zn, ws, Fa, Fn, Fw, hC, g1, g2, g3, g4⟩ := h
  have hnm := St.now_mass hgood
  have hum := used_mass (zn.map Ent.fl)
  rw [List.length_map] at hum
  rw [← g2] at hl hnm
  rcases splitE n zn (by rw [g2]; exact St.now_srt hgood) with ⟨ul, z, ur, hh⟩ | ⟨ul, ur, hh⟩
  · have hz := hh.hit.lookE
    rw [hl] at hz
    simp only [Option.some.injEq] at hz
    have hzb : z.bs = f.bs := by rw [hz]; rfl
    have HF := find_hit vn zn Fn n ul z ur w hC.fn hh (by omega)
    have c2 := hC.cells.2.2.1
    have hzm : z ∈ zn := by rw [hh.1]; simp
    have hdat := hC.fn.data z hzm
    have hzl : z.bs.length ≤ 1000000000 := by
      have : z.bs.length ≤ mass (zn.map Ent.fl) := by
        rw [hh.1, List.map_append, mass_append, List.map_cons, mass_cons]
        simp only [Ent.fl]
        omega
      omega
    have hmid : Fol w vn (ul ++ z :: ur) Fn := hh.1 ▸ hC.fn
    obtain ⟨g, N, cap, rfl, k1, k2, k3, k4, k5, k6⟩ := shape_mid hmid
    have hsl := Sl.of_own hdat
    obtain ⟨aod, capd, hd, _, _⟩ := hsl.shape
    rw [hd, hzb] at k6
    exact ⟨g, N, cap, ul.length, aod, capd, c2, by omega, k6, by rw [← hzb]; exact hzl, HF⟩
  · rw [hh.miss.lookE] at hl
    simp at hl

set_option maxHeartbeats 1000000 in
set_option maxRecDepth 20000 in
theorem cut_range (p : Nat) (s : St) (F : Nat → Prop) (n : ByteArray) (k : Int) (f : Fl) (w : World) (h : Dk w p s F) (hl : look n s.now = some f) (hk : k < 0 ∨ (f.bs.length : Int) < k) (hm : s.mass ≤ 1000000000) :
    Calls Try.prog 14 #[.pointer (some ⟨p, 0, none⟩), .string n, .int .i64 k] w fun e w' => e = .returned (.int .i64 1) ∧ Below w.heap.size w w' := by
  obtain ⟨g, N, cap, i, aod, capd, c2, hi, k6, hfl, HF'⟩ := h.there hl hm
  have HF : Hid (_) := HF'
  clear h hl HF'
  have hi0 : (0 : Int) ≤ (i : Int) := by omega
  generalize f.bs.length = L at *
  by_cases hk0 : k < 0
  · clear hk
    go_enter Try.func14, Try.ntmps14
    go_wp2_with (go_at_call 35; refine Calls.mono HF.out ?_; rintro e w1 ⟨rfl, hb1⟩; have c21 := below_cell hb1 c2; have k61 := below_cell hb1 k6)
    go_ret
    exact ⟨rfl, hb1⟩
  · have hkL : (L : Int) < k := by omega
    clear hk
    go_enter Try.func14, Try.ntmps14
    go_wp2_with (go_at_call 35; refine Calls.mono HF.out ?_; rintro e w1 ⟨rfl, hb1⟩; have c21 := below_cell hb1 c2; have k61 := below_cell hb1 k6)
    go_ret
    exact ⟨rfl, hb1⟩

set_option maxHeartbeats 1000000 in
set_option maxRecDepth 20000 in
theorem cut_ok (p : Nat) (s : St) (F : Nat → Prop) (n : ByteArray) (k : Nat) (f : Fl) (w : World) (h : Dk w p s F) (hl : look n s.now = some f) (hk : k ≤ f.bs.length) (hm : s.mass + 1 ≤ 1000000000) :
    Calls Try.prog 14 #[.pointer (some ⟨p, 0, none⟩), .string n, .int .i64 (k : Int)] w fun e w' => e = .returned (.int .i64 0) ∧ Dk w' p (s.push (.cut n k)) (ext F w w') ∧ Fr F w w' := by
  obtain ⟨g, N, cap, i, aod, capd, c2, hi, k6, hfl, HF'⟩ := h.there hl (by omega)
  have HF : Hid (_) := HF'
  have HD : Hid (∀ w1, Below w.heap.size w w1 → Calls Try.prog 33 #[.pointer (some ⟨p, 0, none⟩), .agg #[.int .i64 2, .string n, .slice none 0 0, .int .i64 (k : Int), .string ⟨#[]⟩]] w1 fun e w' => e = .returned (.tuple #[]) ∧ Hid (Dk w' p (s.push (.cut n k)) (ext F w w') ∧ Fr F w w')) :=
    fun w1 hb => ddo_bare p s F ⟨2, n, .slice none 0 0, (k : Int), ⟨#[]⟩⟩ (.cut n k) w w1 h hb (fun w' => ⟨2, n, none, 0, 0, (k : Int), ⟨#[]⟩, rfl, rfl, rfl, rfl⟩) (fun f' hf' => by rw [hl] at hf'; cases hf'; exact hk) (by simp only [Ch.mass]; omega)
  clear h hl HF'
  have hi0 : (0 : Int) ≤ (i : Int) := by omega
  have hk0 : ¬ (k : Int) < 0 := by omega
  have hkL : ¬ (f.bs.length : Int) < (k : Int) := by omega
  generalize f.bs.length = L at *
  clear hk
  go_enter Try.func14, Try.ntmps14
  go_wp2_with (first
    | (go_at_call 35; refine Calls.mono HF.out ?_; rintro e w1 ⟨rfl, hb1⟩; have c21 := below_cell hb1 c2; have k61 := below_cell hb1 k6)
    | (go_at_call 33; refine (HD.out w1 hb1).mono ?_; rintro e w3 ⟨rfl, HX⟩))
  go_ret
  exact ⟨rfl, HX.out.1, HX.out.2⟩

set_option maxHeartbeats 1000000 in
theorem move_none (p : Nat) (s : St) (F : Nat → Prop) (n t : ByteArray) (w : World) (h : Dk w p s F) (hl : look n s.now = none) (hm : s.mass ≤ 1000000000) :
    Calls Try.prog 16 #[.pointer (some ⟨p, 0, none⟩), .string n, .string t] w fun e w' => e = .returned (.int .i64 14) ∧ Below w.heap.size w w' := by
  obtain ⟨ao, N, cap, c2, hN, hhas, hsize⟩ := h.has hm
  have HH : Hid (_) := hhas n
  rw [hl] at HH
  simp only [Option.isSome_none] at HH
  clear h hhas hsize hN hl
  go_enter Try.func16, Try.ntmps16
  go_wp2_with (go_at_call 32; refine (HH.out w (Below.refl _ _)).mono ?_; rintro e w2 ⟨rfl, hb2⟩)
  go_ret
  exact ⟨rfl, hb2⟩

set_option maxHeartbeats 1000000 in
theorem move_form (p : Nat) (s : St) (F : Nat → Prop) (n t : ByteArray) (w : World) (h : Dk w p s F) (hl : (look n s.now).isSome = true) (ht : okN t = false) (hm : s.mass ≤ 1000000000) :
    Calls Try.prog 16 #[.pointer (some ⟨p, 0, none⟩), .string n, .string t] w fun e w' => e = .returned (.int .i64 3) ∧ Below w.heap.size w w' := by
  obtain ⟨ao, N, cap, c2, hN, hhas, hsize⟩ := h.has hm
  have HH : Hid (_) := hhas n
  rw [hl] at HH
  have HN : Hid (∀ w1, Calls Try.prog 30 #[.string t] w1 fun e w' => e = .returned (.bool false) ∧ w' = w1) := fun w1 => by
    have := name_any t w1
    rw [ht] at this
    exact this
  clear h hhas hsize hN hl ht
  go_enter Try.func16, Try.ntmps16
  go_wp2_with (first
    | (go_at_call 32; refine (HH.out w (Below.refl _ _)).mono ?_; rintro e w2 ⟨rfl, hb2⟩)
    | (go_at_call 30; refine (HN.out w2).mono ?_; rintro e w' ⟨rfl, hw⟩; have hw' := hw.symm; subst hw'))
  go_ret
  exact ⟨rfl, hb2⟩
end Go.Proofs.Ytleelemcmnlfiaa
namespace Go.Proofs.Ytleelemcmnlfiaa
open Go.RowKit

theorem name_eqb (a b : ByteArray) : (a.toList == b.toList) = decide (a = b) := by
  rw [toList_data, toList_data, Bool.eq_iff_iff]
  simp only [beq_iff_eq, decide_eq_true_eq]
  exact ⟨fun h => Go.WideShapes.bytes_inj h, fun h => by rw [h]⟩
theorem less_cmp : ∀ a b : List UInt8, Op.bytesLess a b = decide (Go.Lib.compareBytes a b < 0)
  | [], [] => rfl
  | [], _ :: _ => rfl
  | _ :: _, [] => rfl
  | x :: a, y :: b => by
    unfold Op.bytesLess Go.Lib.compareBytes
    by_cases h1 : x < y
    · simp [h1]
    · by_cases h2 : y < x
      · have h3 : x ≠ y := fun e => UInt8.lt_irrefl y (e ▸ h2)
        simp [h1, h2, h3]
      · have h3 : x = y := UInt8.le_antisymm (UInt8.not_lt.1 h2) (UInt8.not_lt.1 h1)
        simp [h3, less_cmp a b]
theorem name_less (a b : ByteArray) : Op.bytesLess a.toList b.toList = decide (nlt a b) := by
  rw [toList_data, toList_data, less_cmp]
  rfl

theorem Try.info77 : (Try.prog.info? 77).map (fun i => (i.zero, i.size, i.bytes)) = some (some (.agg #[.string ⟨#[]⟩, .slice none 0 0]), 2, 40) := by kernel_rfl

/-- The document's files in memory: all in R. -/
structure RF (w : World) (v : Value) (zs : List Ent) (R : Nat → Prop) : Prop where
  row : w.ownsRow 0 77 2 v zs.length (cellsF zs)
  data : ∀ z ∈ zs, SlA w z.dv z.bs (fun k => ¬ R k)
  rowIn : ∀ k, v.ownBlock = some k → R k
  lt : ∀ k, R k → k < w.heap.size
theorem RF.kept {w w' : World} {v : Value} {zs : List Ent} {R G : Nat → Prop} (h : RF w v zs R) (hf : Fr G w w') (hd : ∀ k, R k → ¬ G k) : RF w' v zs R :=
  ⟨own_kept h.row hf fun k hk => hd k (h.rowIn k hk), fun z hz => (h.data z hz).kept (hf.mono fun k _ hG hR => hd k hR hG), h.rowIn, fun k hk => Nat.lt_of_lt_of_le (h.lt k hk) hf.size⟩
theorem RF.below {w w' : World} {v : Value} {zs : List Ent} {R : Nat → Prop} (h : RF w v zs R) (hb : Below w.heap.size w w') : RF w' v zs R := h.kept (G := fun _ => False) (Fr.of_below hb) (fun _ _ => id)
theorem RF.mono {w : World} {v : Value} {zs : List Ent} {R S : Nat → Prop} (h : RF w v zs R) (hg : ∀ k, R k → S k) (hl : ∀ k, S k → k < w.heap.size) : RF w v zs S :=
  ⟨h.row, fun z hz => (h.data z hz).mono fun k hk hR => hk (hg k hR), fun k hk => hg k (h.rowIn k hk), hl⟩
theorem RF.nil (w : World) (R : Nat → Prop) (h : ∀ k, R k → k < w.heap.size) : RF w (.slice none 0 0) [] R := ⟨World.ownsRow_nil _ _ _ _, by simp, by simp [Value.ownBlock], h⟩
theorem RF.shape {w : World} {v : Value} {zs : List Ent} {R : Nat → Prop} (h : RF w v zs R) : ∃ ao cap, v = .slice ao zs.length cap ∧ (0 < zs.length → ∃ g, ao = some ⟨g, 0, none⟩) := by
  rcases own_shape h.row with ⟨rfl, e⟩ | ⟨g, cap, rfl, _⟩
  · exact ⟨none, 0, by rw [e], fun h => by omega⟩
  · exact ⟨_, _, rfl, fun _ => ⟨g, rfl⟩⟩
theorem RF.cell {w : World} {g cap n : Nat} {zs : List Ent} {R : Nat → Prop} (h : RF w (.slice (some ⟨g, 0, none⟩) n cap) zs R) (i : Nat) (hi : i < zs.length) :
    w.cell? ⟨g, i * 2, none⟩ = some (.string zs[i].name) ∧ w.cell? ⟨g, i * 2 + 1, none⟩ = some zs[i].dv := by
  rcases own_shape h.row with ⟨hn, _⟩ | ⟨g', cap', e, _⟩
  · simp at hn
  · have hr := h.row
    rw [e] at hr
    simp only [Value.slice.injEq, Option.some.injEq, Addr.mk.injEq, and_true] at e
    obtain ⟨rfl, rfl, rfl⟩ := e
    have hc := cellsF_get zs i hi
    exact ⟨by rw [hr.cellAt _ (by omega)]; exact hc.1, by rw [hr.cellAt _ (by omega)]; exact hc.2⟩

set_option maxHeartbeats 1000000 in
theorem at_any (v : Value) (zs : List Ent) (R : Nat → Prop) (n : ByteArray) (m : Nat) (x : Int) (w : World) (h : RF w v zs R) (hz : zs.length ≤ 1000000000) (hm : m ≤ zs.length) (hno : ∀ i (hi : i < zs.length), i < m → zs[i].name ≠ n)
    (hx : (x = (m : Int) ∧ ∃ hi : m < zs.length, zs[m].name = n) ∨ (x = -1 ∧ m = zs.length)) :
    Calls Try.prog 41 #[v, .string n] w fun e w' => e = .returned (.int .i64 x) ∧ w' = w := by
  obtain ⟨ao, cap, rfl, hao⟩ := h.shape
  have HF : Hid (_) := h
  have HN : Hid (_) := hno
  clear h hno
  go_enter Try.func41, Try.ntmps41
  go_wp2
  go_loopw [5] (fun vi wr => ∃ k : Nat, k ≤ m ∧ vi = .int .i64 k ∧ wr = w) (fun vi _ => zs.length - (intOf vi).toNat)
  case atStart => exact ⟨0, Nat.zero_le _, rfl, rfl⟩
  case round =>
    obtain ⟨k, hk, rfl, hw⟩ := hrel
    have hw' := hw.symm
    subst hw'
    by_cases hlt : k < zs.length
    · have hlt' : (k : Int) < (zs.length : Int) := by omega
      obtain ⟨g, rfl⟩ := hao (by omega)
      obtain ⟨c0, c1⟩ := HF.out.cell k hlt
      by_cases he : zs[k].name = n
      · have hkm : k = m := by
          by_cases hkm : k < m
          · exact absurd he (HN.out k hlt hkm)
          · omega
        subst hkm
        have hxk : x = (k : Int) := by
          rcases hx with ⟨h, _⟩ | ⟨_, h⟩
          · exact h
          · omega
        rw [he] at c0
        clear he hx
        go_wp2
        go_ret
        exact ⟨rfl, rfl⟩
      · have hkm : k ≠ m := by
          rintro rfl
          rcases hx with ⟨_, _, h⟩ | ⟨_, h⟩
          · exact he h
          · omega
        have heb : (zs[k].name.toList == n.toList) = false := by rw [name_eqb]; simpa using he
        generalize zs[k].name = nk at *
        clear hx
        go_wp2
        go_roundw
        case rel => exact ⟨k + 1, by omega, by go_num, trivial⟩
        case measure => simp [intOf]; omega
    · have hxk : x = -1 := by
        rcases hx with ⟨_, h, _⟩ | ⟨h, _⟩
        · omega
        · exact h
      have hlt' : ¬ (k : Int) < (zs.length : Int) := by omega
      clear hx
      go_wp2
      go_ret
      exact ⟨rfl, rfl⟩

theorem at_hit (v : Value) (zs : List Ent) (R : Nat → Prop) (n : ByteArray) (zl : List Ent) (z : Ent) (zr : List Ent) (w : World) (h : RF w v zs R) (hh : HitE n zs zl z zr) (hz : zs.length ≤ 1000000000) :
    Calls Try.prog 41 #[v, .string n] w fun e w' => e = .returned (.int .i64 (zl.length : Int)) ∧ w' = w := by
  obtain ⟨rfl, h1, h2, h3⟩ := hh
  refine at_any v _ R n zl.length _ w h hz (by simp) (fun i hi hil => ?_) (Or.inl ⟨rfl, by simp, by simp [h1]⟩)
  rw [List.getElem_append_left hil]
  exact nlt_ne (h2 _ (List.getElem_mem hil))
theorem at_miss (v : Value) (zs : List Ent) (R : Nat → Prop) (n : ByteArray) (zl zr : List Ent) (w : World) (h : RF w v zs R) (hh : MissE n zs zl zr) (hz : zs.length ≤ 1000000000) :
    Calls Try.prog 41 #[v, .string n] w fun e w' => e = .returned (.int .i64 (-1)) ∧ w' = w := by
  obtain ⟨rfl, h2, h3⟩ := hh
  refine at_any v _ R n (zl ++ zr).length _ w h hz (Nat.le_refl _) (fun i hi _ => ?_) (Or.inr ⟨rfl, rfl⟩)
  rcases List.mem_append.1 (List.getElem_mem hi) with hm | hm
  · exact nlt_ne (h2 _ hm)
  · exact (nlt_ne (h3 _ hm)).symm

set_option maxHeartbeats 1000000 in
theorem rused_any (q : Nat) (v : Value) (zs : List Ent) (R : Nat → Prop) (w : World) (hc : w.cell? ⟨q, 1, none⟩ = some v) (h : RF w v zs R) (hm : mass (zs.map Ent.fl) ≤ 1000000000) :
    Calls Try.prog 40 #[.pointer (some ⟨q, 0, none⟩)] w fun e w' => e = .returned (.int .i64 (used (zs.map Ent.fl))) ∧ w' = w := by
  obtain ⟨ao, cap, rfl, hao⟩ := h.shape
  have hum := used_mass (zs.map Ent.fl)
  rw [List.length_map] at hum
  have hzl : zs.length ≤ 1000000000 := by omega
  have HM : Hid (used (zs.map Ent.fl) ≤ 1000000000) := by show _ ≤ _; omega
  have HF : Hid (_) := h
  clear h hm hum
  go_enter Try.func40, Try.ntmps40
  go_wp2
  go_loopw [3, 4] (fun vt vi wr => ∃ (k t : Nat), k ≤ zs.length ∧ vi = .int .i64 k ∧ vt = .int .i64 t ∧ Hid (t = used ((zs.take k).map Ent.fl)) ∧ wr = w) (fun _ vi _ => zs.length - (intOf vi).toNat)
  case atStart => exact ⟨0, 0, Nat.zero_le _, rfl, rfl, rfl, rfl⟩
  case round =>
    obtain ⟨k, t, hk, rfl, rfl, HT, hw⟩ := hrel
    have hw' := hw.symm
    subst hw'
    by_cases hlt : k < zs.length
    · have hlt' : (k : Int) < (zs.length : Int) := by omega
      obtain ⟨g, rfl⟩ := hao (by omega)
      obtain ⟨c0, c1⟩ := HF.out.cell k hlt
      obtain ⟨aod, capd, hd, _, _⟩ := (HF.out.data zs[k] (List.getElem_mem hlt)).sl.shape
      rw [hd] at c1
      have HT' : Hid (t + zs[k].bs.length = used ((zs.take (k + 1)).map Ent.fl)) := by
        show _ = _
        rw [HT.out, take_succ_snoc zs k zs[k] (List.getElem?_eq_getElem hlt), List.map_append, used_append]
        simp [used, Ent.fl]
      have hle : t + zs[k].bs.length ≤ 1000000000 := by
        have h1 := HT'.out
        have h2 := HM.out
        have h3 := congrArg (fun l => used (l.map Ent.fl)) (List.take_append_drop (k + 1) zs)
        simp only [List.map_append, used_append] at h3
        omega
      generalize zs[k].bs.length = m at *
      clear hd
      go_wp2
      go_roundw
      case rel => exact ⟨k + 1, t + m, by omega, by go_num, by go_num, HT', trivial⟩
      case measure => simp [intOf]; omega
    · have e : k = zs.length := by omega
      subst e
      have HT2 : Hid (t = used (zs.map Ent.fl)) := by
        show _ = _
        rw [HT.out, List.take_length]
      go_wp2
      go_ret
      exact ⟨by rw [HT2.out]; rfl, rfl⟩

/-- 'append' of one file onto a row of the call's own. -/
theorem wpList_append_ent (w : World) {ops : Array Oper} {rest : List Oper} {o : Oper} {a : Act} {Q : Exit → Act → World → Prop} (hgd : o.guard = none) (s x : Operand)
    (ho : o.op = .call { callee := .builtin .append, args := #[s, x], argTypes := #[28, 28] }) (base : Nat) (v : Value) (zs : List Ent) (z : Ent) (g : Nat) (fr : Nat × Nat) (hs : a.eval s = v) (hown : w.ownsRow base 77 2 v zs.length (cellsF zs)) (hx : a.eval x = .slice (some ⟨g, 0, none⟩) 1 1)
    (hg : w.heap[g]? = some (.cells #[.string z.name, z.dv] 77 fr)) (hd : z.dv.oneCell' = true) (hl : zs.length ≤ 1000000000) (hbase : base ≤ w.heap.size)
    (h : ∀ v' w', w'.ownsRow base 77 2 v' (zs ++ [z]).length (cellsF (zs ++ [z])) → w.grownBy w' v.ownBlock → (v'.ownBlock = v.ownBlock ∨ v'.ownBlock = some w.heap.size) → wpList Try.prog ops Q rest (a.put o.dst v') w') :
    wpList Try.prog ops Q (o :: rest) a w := by
  obtain ⟨i, hi, hz0, hz1, hz2⟩ := info_parts Try.info77
  refine wpList_append_own_at w hgd s x 28 ho base 77 i _ 2 40 Try.underlying28 hi hz0 hz1 hz2 rfl (by decide) v zs.length (cellsF zs) hs hown ⟨g, 0, none⟩ 1 1 [.string z.name, z.dv] hx rfl (fun j u hj => ?_) ?_ (by simp only [maxLen]; omega) (by omega) hbase ?_
  · rw [Addr.add_lit, Nat.zero_add, cell_of_row w g j _ _ _ hg]
    simpa using hj
  · intro u hu
    simp at hu
    rcases hu with rfl | rfl
    · rfl
    · exact hd
  · intro v' w' g1 g2 _ g4
    refine h v' w' ?_ g2 g4
    have e : cellsF (zs ++ [z]) = cellsF zs ++ [.string z.name, z.dv] := by rw [cellsF_append, cellsF_cons]; rfl
    rw [e, List.length_append]
    exact g1
theorem SlA.one {w : World} {v : Value} {bs : List UInt8} {G : Nat → Prop} (h : SlA w v bs G) : v.oneCell' = true := by
  obtain ⟨ao, cap, rfl, _⟩ := h.sl.shape
  rfl

/-- A row of files that are known of, made by a call. -/
theorem RF.made {w w' : World} {v : Value} {zs : List Ent} {R : Nat → Prop} (ho : w'.ownsRow w.heap.size 77 2 v zs.length (cellsF zs)) (hb : Below w.heap.size w w') (hR : ∀ k, R k → k < w.heap.size) (hd : ∀ z ∈ zs, SlA w' z.dv z.bs (fun k => ¬ ext R w w' k)) : RF w' v zs (ext R w w') :=
  ⟨own_zero ho, hd, fun k hk => Or.inr (ho.lt k hk), ext_lt hR hb.size⟩
end Go.Proofs.Ytleelemcmnlfiaa
namespace Go.Proofs.Ytleelemcmnlfiaa
open Go.RowKit

theorem erase_step {α : Type} (zs : List α) (j k : Nat) (hk : k < zs.length) : (zs.take (k + 1)).eraseIdx j = if k = j then (zs.take k).eraseIdx j else (zs.take k).eraseIdx j ++ [zs[k]] := by
  have hl : (zs.take k).length = k := by simp; omega
  rw [take_succ_snoc zs k zs[k] (List.getElem?_eq_getElem hk), List.eraseIdx_append]
  split
  · rename_i h
    rw [if_neg (by omega)]
  · rename_i h
    rw [List.eraseIdx_of_length_le (l := zs.take k) (by omega)]
    split
    · rename_i e
      subst e
      simp [hl]
    · rw [List.eraseIdx_of_length_le (by simp; omega)]

set_option maxHeartbeats 2000000 in
set_option maxRecDepth 20000 in
theorem without_any (v : Value) (zs : List Ent) (R : Nat → Prop) (zl : List Ent) (z : Ent) (zr : List Ent) (w : World) (h : RF w v zs R) (hz : zs = zl ++ z :: zr) (hl : zs.length ≤ 1000000000) :
    Calls Try.prog 51 #[v, .int .i64 (zl.length : Int)] w fun e w' => ∃ v', e = .returned v' ∧ RF w' v' (zl ++ zr) (ext R w w') ∧ Below w.heap.size w w' := by
  obtain ⟨ao, cap, rfl, hao⟩ := h.shape
  have HF : Hid (_) := h
  have HE : Hid (zs.eraseIdx zl.length = zl ++ zr) := by
    show _ = _
    rw [hz, List.eraseIdx_append_of_length_le (Nat.le_refl _), Nat.sub_self]
    rfl
  generalize zl.length = j at *
  clear h hz
  go_enter Try.func51, Try.ntmps51
  go_wp2
  go_loopw [5, 6] (fun vo vi wr => ∃ (k : Nat), k ≤ zs.length ∧ vi = .int .i64 k ∧ Hid (wr.ownsRow w.heap.size 77 2 vo ((zs.take k).eraseIdx j).length (cellsF ((zs.take k).eraseIdx j)) ∧ Below w.heap.size w wr)) (fun _ vi _ => zs.length - (intOf vi).toNat)
  case atStart => exact ⟨0, Nat.zero_le _, rfl, by simp only [List.take_zero, List.eraseIdx_nil]; exact World.ownsRow_nil _ _ _ _, Below.refl _ _⟩
  case round =>
    obtain ⟨k, hk, rfl, HK⟩ := hrel
    by_cases hlt : k < zs.length
    · have hlt' : (k : Int) < (zs.length : Int) := by omega
      have hst := erase_step zs j k hlt
      by_cases hkj : k = j
      · subst hkj
        rw [if_pos rfl] at hst
        rw [← hst] at HK
        clear hst
        go_wp2
        go_roundw
        case rel => exact ⟨k + 1, by omega, by go_num, HK⟩
        case measure => simp [intOf]; omega
      · rw [if_neg hkj] at hst
        have hkj' : ((k : Int) != (j : Int)) = true := by rw [bne_iff_ne]; omega
        obtain ⟨g, rfl⟩ := hao (by omega)
        obtain ⟨c0, c1⟩ := (HF.out.below HK.out.2).cell k hlt
        have hone := (HF.out.data zs[k] (List.getElem_mem hlt)).one
        obtain ⟨aod, capd, hd, _, _⟩ := (HF.out.data zs[k] (List.getElem_mem hlt)).sl.shape
        obtain ⟨aoo, No, capo, rfl⟩ := own_slice HK.out.1
        have HO := (Hid.out HK).1
        have hb := (Hid.out HK).2
        obtain ⟨Z, HZ⟩ : ∃ Z, Hid (Z = (zs.take k).eraseIdx j) := ⟨_, (rfl : _ = _)⟩
        rw [← HZ.out] at HO hst
        have hZl : Z.length ≤ 1000000000 := by
          rw [HZ.out]
          have := List.length_eraseIdx_le (zs.take k) j
          have : (zs.take k).length ≤ zs.length := by simp; omega
          omega
        obtain ⟨zk, HZk⟩ : ∃ zk, Hid (zk = zs[k]) := ⟨zs[k], (rfl : zs[k] = zs[k])⟩
        rw [← HZk.out] at hst c0 c1 hone hd
        rw [hd] at c1
        have HST : Hid (_) := hst
        have HO2 : Hid ((wr.alloc (.cells #[.string zk.name, .slice aod zk.bs.length capd] 77)).ownsRow w.heap.size 77 2 (.slice aoo No capo) Z.length (cellsF Z)) := HO.alloc (.cells #[.string zk.name, .slice aod zk.bs.length capd] 77)
        have HH : Hid ((wr.alloc (.cells #[.string zk.name, .slice aod zk.bs.length capd] 77)).heap[wr.heap.size]? = some (.cells #[.string zk.name, zk.dv] 77 (0, 0))) := by
          show _ = _
          rw [hd]
          exact heap_alloc_new _ _
        have HB2 : Hid (_) := hb.alloc hb.size (.cells #[.string zk.name, .slice aod zk.bs.length capd] 77)
        have hsz : w.heap.size ≤ (wr.alloc (.cells #[.string zk.name, .slice aod zk.bs.length capd] 77)).heap.size := HB2.out.size
        have HSZ : Hid (_) := hsz
        clear hst HO hb HK hsz hao hkj
        go_wp2_with (at_builtin; refine wpList_append_ent _ rfl (.tmp 16) (.tmp 21) rfl w.heap.size _ Z zk wr.heap.size (0, 0) rfl HO2.out rfl HH.out hone hZl HSZ.out ?_)
        intro v' w' hO3 hg3 _
        have HX : Hid (w'.ownsRow w.heap.size 77 2 v' ((zs.take (k + 1)).eraseIdx j).length (cellsF ((zs.take (k + 1)).eraseIdx j)) ∧ Below w.heap.size w w') := by
          rw [HST.out]
          refine ⟨by rw [List.length_append]; exact hO3, HB2.out.grown hg3 HSZ.out (fun q hq => ?_)⟩
          exact (World.ownsRow.lt HO2.out q hq).1
        obtain ⟨ao', N', cap', rfl⟩ := own_slice hO3
        clear hO3 hg3
        go_wp2
        go_roundw
        case rel => exact ⟨k + 1, by omega, by go_num, HX⟩
        case measure => simp [intOf]; omega
    · have e : k = zs.length := by omega
      subst e
      go_wp2
      go_ret
      obtain ⟨h1, h2⟩ := HK.out
      rw [List.take_length, HE.out] at h1
      refine ⟨_, rfl, RF.made h1 h2 HF.out.lt (fun x hx => ?_), h2⟩
      have hx' : x ∈ zs := by
        rw [← HE.out] at hx
        exact List.mem_of_mem_eraseIdx hx
      exact ((HF.out.data x hx').kept (Fr.of_below h2)).mono (fun q hq hR => hq (Or.inl hR))

/-- What with has made so far. -/
def wOut (zl zr : List Ent) (f : Ent) (k : Nat) : List Ent := if k ≤ zl.length then zl.take k else zl ++ f :: zr.take (k - zl.length)
theorem wOut_low (zl zr : List Ent) (f : Ent) (k : Nat) (h : k < zl.length) : wOut zl zr f (k + 1) = wOut zl zr f k ++ [zl[k]] := by
  unfold wOut
  rw [if_pos (by omega), if_pos (by omega)]
  exact take_succ_snoc zl k zl[k] (List.getElem?_eq_getElem h)
theorem wOut_mid (zl zr : List Ent) (f : Ent) (h : 0 < zr.length) : wOut zl zr f (zl.length + 1) = (wOut zl zr f zl.length ++ [f]) ++ [zr[0]] := by
  unfold wOut
  rw [if_neg (by omega), if_pos (Nat.le_refl _), List.take_length, Nat.add_sub_cancel_left]
  cases zr with
  | nil => simp at h
  | cons x r => simp
theorem wOut_high (zl zr : List Ent) (f : Ent) (k : Nat) (h : zl.length < k) (h2 : k - zl.length < zr.length) : wOut zl zr f (k + 1) = wOut zl zr f k ++ [zr[k - zl.length]] := by
  unfold wOut
  rw [if_neg (by omega), if_neg (by omega), show k + 1 - zl.length = (k - zl.length) + 1 by omega, take_succ_snoc zr (k - zl.length) zr[k - zl.length] (List.getElem?_eq_getElem h2)]
  simp
theorem wOut_len (zl zr : List Ent) (f : Ent) (k : Nat) : (wOut zl zr f k).length ≤ k + 1 := by
  unfold wOut
  split
  · simp; omega
  · simp; omega

/-- One more file behind those that with has made: the new row, told ahead. -/
theorem push_ent {w wr : World} {vo : Value} {Z : List Ent} (z : Ent) (aod : Option Addr) (capd : Nat) (hd : z.dv = .slice aod z.bs.length capd) (HO : wr.ownsRow w.heap.size 77 2 vo Z.length (cellsF Z)) (hb : Below w.heap.size w wr) :
    Hid ((wr.alloc (.cells #[.string z.name, .slice aod z.bs.length capd] 77)).ownsRow w.heap.size 77 2 vo Z.length (cellsF Z)) ∧ Hid ((wr.alloc (.cells #[.string z.name, .slice aod z.bs.length capd] 77)).heap[wr.heap.size]? = some (.cells #[.string z.name, z.dv] 77 (0, 0))) ∧ Hid (w.heap.size ≤ (wr.alloc (.cells #[.string z.name, .slice aod z.bs.length capd] 77)).heap.size) ∧
    Hid (∀ v' w', w'.ownsRow w.heap.size 77 2 v' (Z ++ [z]).length (cellsF (Z ++ [z])) → (wr.alloc (.cells #[.string z.name, .slice aod z.bs.length capd] 77)).grownBy w' vo.ownBlock → Below w.heap.size w w') := by
  have hba := hb.alloc hb.size (.cells #[.string z.name, .slice aod z.bs.length capd] 77)
  refine ⟨HO.alloc _, ?_, hba.size, fun v' w' _ hg => hba.grown hg hba.size (fun q hq => (HO.lt q hq).1)⟩
  show _ = _
  rw [hd]
  exact heap_alloc_new _ _

set_option maxHeartbeats 4000000 in
set_option maxRecDepth 20000 in
theorem with_any (v : Value) (zs : List Ent) (R : Nat → Prop) (n : ByteArray) (dv : Value) (b : List UInt8) (zl zr : List Ent) (w : World) (h : RF w v zs R) (hm : MissE n zs zl zr) (hd : SlA w dv b (fun k => ¬ R k)) (hl : zs.length ≤ 100000000) :
    Calls Try.prog 52 #[v, .agg #[.string n, dv]] w fun e w' => ∃ v', e = .returned v' ∧ RF w' v' (zl ++ ⟨n, dv, b⟩ :: zr) (ext R w w') ∧ Below w.heap.size w w' := by
  obtain ⟨ao, cap, rfl, hao⟩ := h.shape
  obtain ⟨aof, capf, hdv, _, _⟩ := hd.sl.shape
  subst hdv
  have HF : Hid (_) := h
  have HD : Hid (_) := hd
  obtain ⟨hzs, hlo, hhi⟩ := hm
  obtain ⟨f, Hf⟩ : ∃ f : Ent, Hid (f = ⟨n, .slice aof b.length capf, b⟩) := ⟨_, (rfl : _ = _)⟩
  have HLen : Hid (zs.length = zl.length + zr.length) := by show _ = _; rw [hzs]; simp
  have HZS : Hid (zs = zl ++ zr) := hzs
  have HLo : Hid (∀ x ∈ zl, nlt x.name n) := hlo
  have HHi : Hid (∀ x ∈ zr, nlt n x.name) := hhi
  have HFin : Hid (∀ (v' : Value) (w' : World), w'.ownsRow w.heap.size 77 2 v' (zl ++ f :: zr).length (cellsF (zl ++ f :: zr)) → Below w.heap.size w w' → RF w' v' (zl ++ f :: zr) (ext R w w')) := by
    intro v' w' h1 h2
    refine RF.made h1 h2 HF.out.lt (fun x hx => ?_)
    have hx' : x = f ∨ x ∈ zs := by
      rw [hzs]
      simp at hx ⊢
      rcases hx with hx | hx | hx
      · exact Or.inr (Or.inl hx)
      · exact Or.inl hx
      · exact Or.inr (Or.inr hx)
    rcases hx' with rfl | hx'
    · rw [Hf.out]
      exact (hd.kept (Fr.of_below h2)).mono (fun q hq hR => hq (Or.inl hR))
    · exact ((HF.out.data x hx').kept (Fr.of_below h2)).mono (fun q hq hR => hq (Or.inl hR))
  clear hd hlo hhi hzs
  have hb1 : Below w.heap.size w (w.alloc (.cells #[.string n, .slice aof b.length capf] 77)) := (Below.refl _ _).alloc (Nat.le_refl _) _
  have hR1 := h.below hb1
  have q0 : (w.alloc (.cells #[.string n, .slice aof b.length capf] 77)).cell? ⟨w.heap.size, 0, none⟩ = some (.string n) := by rw [cell_of_row _ _ 0 _ _ _ (heap_alloc_new _ _)]; rfl
  have q1 : (w.alloc (.cells #[.string n, .slice aof b.length capf] 77)).cell? ⟨w.heap.size, 1, none⟩ = some (.slice aof b.length capf) := by rw [cell_of_row _ _ 1 _ _ _ (heap_alloc_new _ _)]; rfl
  clear h
  go_enter Try.func52, Try.ntmps52
  go_wp2
  generalize w.alloc (.cells #[.string n, .slice aof b.length capf] 77) = w1 at *
  have HF1 : Hid (_) := hR1
  have HB1 : Hid (_) := hb1
  clear hR1 hb1
  go_loopw [5, 6, 7] (fun vo vin vi wr => ∃ (k : Nat), k ≤ zs.length ∧ vi = .int .i64 k ∧ vin = .bool (decide (zl.length < k)) ∧ Hid (wr.ownsRow w1.heap.size 77 2 vo (wOut zl zr f k).length (cellsF (wOut zl zr f k)) ∧ Below w1.heap.size w1 wr)) (fun _ _ vi _ => zs.length - (intOf vi).toNat)
  case atStart => exact ⟨0, Nat.zero_le _, rfl, by simp, by simp only [wOut, Nat.zero_le, if_true, List.take_zero]; exact World.ownsRow_nil _ _ _ _, Below.refl _ _⟩
  case round =>
    obtain ⟨k, hk, rfl, rfl, HK⟩ := hrel
    have hZl : (wOut zl zr f k).length ≤ 1000000000 := by have := wOut_len zl zr f k; omega
    by_cases hlt : k < zs.length
    · have hlt' : (k : Int) < (zs.length : Int) := by omega
      obtain ⟨g, rfl⟩ := hao (by omega)
      obtain ⟨c0, c1⟩ := (HF1.out.below HK.out.2).cell k hlt
      have hone := (HF1.out.data zs[k] (List.getElem_mem hlt)).one
      obtain ⟨aod, capd, hd, _, _⟩ := (HF1.out.data zs[k] (List.getElem_mem hlt)).sl.shape
      have b0 := below_cell HK.out.2 q0
      have b1 := below_cell HK.out.2 q1
      obtain ⟨aoo, No, capo, rfl⟩ := own_slice HK.out.1
      rcases Nat.lt_trichotomy k zl.length with hkz | hkz | hkz
      · have hin : decide (zl.length < k) = false := by simp; omega
        have hgt : (Op.bytesLess zs[k].name.toList n.toList || zs[k].name.toList == n.toList) = true := by
          have e : zs[k] = zl[k] := by simp only [HZS.out]; exact List.getElem_append_left hkz
          rw [name_less, e, decide_eq_true (HLo.out zl[k] (List.getElem_mem hkz)), Bool.true_or]
        have hstep := wOut_low zl zr f k hkz
        have e : zl[k] = zs[k] := by simp only [HZS.out]; exact (List.getElem_append_left hkz).symm
        rw [e] at hstep
        have HST : Hid (_) := hstep
        obtain ⟨HO2, HH, HSZ, HNX⟩ := push_ent (w := w1) zs[k] aod capd hd HK.out.1 HK.out.2
        rw [hd] at c1
        rw [hin]
        generalize wOut zl zr f k = Z at *
        generalize zs[k] = zk at *
        clear hstep e HK hin
        go_wp2_with fail
        go_big_quiet (fail)
        go_wp2_with (at_builtin; refine wpList_append_ent _ rfl (.tmp 30) (.tmp 35) rfl w1.heap.size _ Z zk wr.heap.size (0, 0) rfl HO2.out rfl HH.out hone hZl HSZ.out ?_)
        intro v' w' hO3 hg3 _
        have HX : Hid (w'.ownsRow w1.heap.size 77 2 v' (wOut zl zr f (k + 1)).length (cellsF (wOut zl zr f (k + 1))) ∧ Below w1.heap.size w1 w') := by
          rw [HST.out]
          exact ⟨by rw [List.length_append]; exact hO3, HNX.out v' w' (by rw [List.length_append]; exact hO3) ⟨hg3.os, hg3.tape, hg3.output, hg3.size, hg3.block⟩⟩
        obtain ⟨ao', N', cap', rfl⟩ := own_slice hO3
        have hin' : false = decide (zl.length < k + 1) := by simp; omega
        clear hO3 hg3
        go_wp2
        go_roundw
        case rel => exact ⟨k + 1, by omega, by go_num, by rw [hin'], HX⟩
        case measure => simp [intOf]; omega
      · subst hkz
        have hzr : 0 < zr.length := by have := HLen.out; omega
        have hin : decide (zl.length < zl.length) = false := by simp
        have e : zs[zl.length] = zr[0] := by simp only [HZS.out]; rw [List.getElem_append_right (Nat.le_refl _)]; simp
        have hgt : (Op.bytesLess zs[zl.length].name.toList n.toList || zs[zl.length].name.toList == n.toList) = false := by
          have h1 := HHi.out zr[0] (List.getElem_mem hzr)
          rw [name_less, name_eqb, e, decide_eq_false (nlt_asymm h1), decide_eq_false (nlt_ne h1).symm]
          rfl
        have hstep := wOut_mid zl zr f hzr
        rw [← e] at hstep
        have HST : Hid (_) := hstep
        have hfd : f.dv = .slice aof f.bs.length capf := by rw [Hf.out]
        have hfn : f.name = n := by rw [Hf.out]
        have hfl : f.bs.length = b.length := by rw [Hf.out]
        obtain ⟨HO2, HH, HSZ, HNX⟩ := push_ent (w := w1) f aof capf hfd HK.out.1 HK.out.2
        rw [hfn, hfl] at HO2 HH HSZ HNX
        have hfone : f.dv.oneCell' = true := by rw [hfd]; rfl
        have HK2 : Hid (_) := HK.out.2
        have HFw : Hid (_) := hfn
        have HZk : Hid (_) := hd
        rw [hd] at c1
        rw [hin]
        obtain ⟨Z, HZ⟩ : ∃ Z, Hid (Z = wOut zl zr f zl.length) := ⟨_, (rfl : _ = _)⟩
        rw [← HZ.out] at HO2 hZl HST HNX
        obtain ⟨zk, HZE'⟩ : ∃ zk, zs[zl.length] = zk := ⟨_, rfl⟩
        have HZE : Hid (_) := HZE'
        rw [HZE'] at c0 c1 hone hgt HZk HST
        have hcg : True := trivial
        clear hstep e HK hin hfn hfl hfd hd HZE'
        go_wp2_with fail
        go_big_quiet (fail)
        go_wp2_with (at_builtin; refine wpList_append_ent _ rfl (.tmp 26) (.tmp 28) rfl w1.heap.size _ Z f wr.heap.size (0, 0) rfl HO2.out rfl (by rw [HFw.out]; exact HH.out) hfone hZl HSZ.out ?_)
        intro v' w2 hO3 hg3 _
        have hb3 := HNX.out v' w2 (by rw [List.length_append]; exact hO3) ⟨hg3.os, hg3.tape, hg3.output, hg3.size, hg3.block⟩
        have hO3' : w2.ownsRow w1.heap.size 77 2 v' (Z ++ [f]).length (cellsF (Z ++ [f])) := by rw [List.length_append]; exact hO3
        have hZl2 : (Z ++ [f]).length ≤ 1000000000 := by
          rw [HZ.out, List.length_append]
          have := wOut_len zl zr f zl.length
          simp
          omega
        obtain ⟨c02, c12⟩ := (HF1.out.below hb3).cell zl.length hlt
        obtain ⟨ao', N', cap', rfl⟩ := own_slice hO3
        obtain ⟨HO4, HH4, HSZ4, HNX4⟩ := push_ent (w := w1) zk aod capd HZk.out hO3' hb3
        rw [HZE.out] at c02 c12
        rw [HZk.out] at c12
        clear hO3 hO3' hg3 hb3 HO2 HH HSZ HNX hcg
        generalize Z ++ [f] = Z2 at *
        go_wp2_with (at_builtin; refine wpList_append_ent _ rfl (.tmp 30) (.tmp 35) rfl w1.heap.size _ Z2 zk w2.heap.size (0, 0) rfl HO4.out rfl HH4.out hone hZl2 HSZ4.out ?_)
        intro v4 w4 hO3 hg3 _
        have HX : Hid (w4.ownsRow w1.heap.size 77 2 v4 (wOut zl zr f (zl.length + 1)).length (cellsF (wOut zl zr f (zl.length + 1))) ∧ Below w1.heap.size w1 w4) := by
          rw [HST.out]
          exact ⟨by rw [List.length_append]; exact hO3, HNX4.out v4 w4 (by rw [List.length_append]; exact hO3) ⟨hg3.os, hg3.tape, hg3.output, hg3.size, hg3.block⟩⟩
        obtain ⟨ao5, N5, cap5, rfl⟩ := own_slice hO3
        have hin' : true = decide (zl.length < zl.length + 1) := by simp
        clear hO3 hg3
        go_wp2
        go_roundw
        case rel => exact ⟨zl.length + 1, by omega, by go_num, by rw [hin'], HX⟩
        case measure => simp [intOf]; omega
      · have hkr : k - zl.length < zr.length := by have := HLen.out; omega
        have hin : decide (zl.length < k) = true := by simp; omega
        have e : zr[k - zl.length] = zs[k] := by simp only [HZS.out]; rw [List.getElem_append_right (by omega)]
        have hstep := wOut_high zl zr f k hkz hkr
        rw [e] at hstep
        have HST : Hid (_) := hstep
        obtain ⟨HO2, HH, HSZ, HNX⟩ := push_ent (w := w1) zs[k] aod capd hd HK.out.1 HK.out.2
        rw [hd] at c1
        rw [hin]
        generalize wOut zl zr f k = Z at *
        generalize zs[k] = zk at *
        clear hstep e HK hin
        go_wp2_with fail
        go_big_quiet (fail)
        go_wp2_with (at_builtin; refine wpList_append_ent _ rfl (.tmp 30) (.tmp 35) rfl w1.heap.size _ Z zk wr.heap.size (0, 0) rfl HO2.out rfl HH.out hone hZl HSZ.out ?_)
        intro v' w' hO3 hg3 _
        have HX : Hid (w'.ownsRow w1.heap.size 77 2 v' (wOut zl zr f (k + 1)).length (cellsF (wOut zl zr f (k + 1))) ∧ Below w1.heap.size w1 w') := by
          rw [HST.out]
          exact ⟨by rw [List.length_append]; exact hO3, HNX.out v' w' (by rw [List.length_append]; exact hO3) ⟨hg3.os, hg3.tape, hg3.output, hg3.size, hg3.block⟩⟩
        obtain ⟨ao', N', cap', rfl⟩ := own_slice hO3
        have hin' : true = decide (zl.length < k + 1) := by simp; omega
        clear hO3 hg3
        go_wp2
        go_roundw
        case rel => exact ⟨k + 1, by omega, by go_num, by rw [hin'], HX⟩
        case measure => simp [intOf]; omega
    · have hkl : k = zl.length + zr.length := by have := HLen.out; omega
      have hlt' : ¬ (k : Int) < (zs.length : Int) := by omega
      have b0 := below_cell HK.out.2 q0
      have b1 := below_cell HK.out.2 q1
      obtain ⟨aoo, No, capo, rfl⟩ := own_slice HK.out.1
      by_cases hzr : zr.length = 0
      · have hin : decide (zl.length < k) = false := by simp; omega
        have hW : wOut zl zr f k ++ [f] = zl ++ f :: zr := by
          have : zr = [] := List.eq_nil_of_length_eq_zero hzr
          subst this
          unfold wOut
          rw [if_pos (by simp at hkl; omega), List.take_of_length_le (by simp at hkl; omega)]
        have HW : Hid (_) := hW
        have hfd : f.dv = .slice aof f.bs.length capf := by rw [Hf.out]
        have hfn : f.name = n := by rw [Hf.out]
        have hfl : f.bs.length = b.length := by rw [Hf.out]
        obtain ⟨HO2, HH, HSZ, HNX⟩ := push_ent (w := w1) f aof capf hfd HK.out.1 HK.out.2
        rw [hfn, hfl] at HO2 HH HSZ HNX
        have hfone : f.dv.oneCell' = true := by rw [hfd]; rfl
        have HFw : Hid (_) := hfn
        rw [hin]
        generalize wOut zl zr f k = Z at *
        clear hW HK hin hfn hfl hfd hkl hzr
        go_wp2_with (at_builtin; refine wpList_append_ent _ rfl (.tmp 39) (.tmp 41) rfl w1.heap.size _ Z f wr.heap.size (0, 0) rfl HO2.out rfl (by rw [HFw.out]; exact HH.out) hfone hZl HSZ.out ?_)
        intro v' w2 hO3 hg3 _
        have hb3 := HNX.out v' w2 (by rw [List.length_append]; exact hO3) ⟨hg3.os, hg3.tape, hg3.output, hg3.size, hg3.block⟩
        have hO3' : w2.ownsRow w1.heap.size 77 2 v' (Z ++ [f]).length (cellsF (Z ++ [f])) := by rw [List.length_append]; exact hO3
        rw [HW.out] at hO3'
        have hbw : Below w.heap.size w w2 := HB1.out.trans (hb3.mono HB1.out.size)
        have HX : Hid (_) := HFin.out v' w2 (own_base hO3' (fun q hq => Nat.le_trans HB1.out.size (hO3'.lt q hq).1)) hbw
        have HB : Hid (_) := hbw
        obtain ⟨ao', N', cap', rfl⟩ := own_slice hO3
        clear hO3 hO3' hg3 hb3 hbw
        go_wp2
        go_ret
        exact ⟨_, rfl, by rw [← Hf.out]; exact HX.out, HB.out⟩
      · have hin : decide (zl.length < k) = true := by simp; omega
        have hW : wOut zl zr f k = zl ++ f :: zr := by
          unfold wOut
          rw [if_neg (by omega), List.take_of_length_le (by omega)]
        have hO3 := HK.out.1
        rw [hW] at hO3
        have hbw : Below w.heap.size w wr := HB1.out.trans (HK.out.2.mono HB1.out.size)
        have HX : Hid (_) := HFin.out _ wr (own_base hO3 (fun q hq => Nat.le_trans HB1.out.size (hO3.lt q hq).1)) hbw
        have HB : Hid (_) := hbw
        rw [hin]
        clear hW hO3 hbw HK hin hkl hzr
        go_wp2
        go_ret
        exact ⟨_, rfl, by rw [← Hf.out]; exact HX.out, HB.out⟩
end Go.Proofs.Ytleelemcmnlfiaa
