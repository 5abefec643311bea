/- The walks of find, has, size: a name among files. -/
import Derived.Test.YtnbdkojdddplkaaDoorDkMem
import Derived.Test.YtnbdkojdddplkaaDoorRows
import Derived.WalkKit
import Derived.BigQuiet
namespace Go.Proofs.YtnbdkojdddplkaaDoor.Dk
open Go.RowKit

set_option maxHeartbeats 400000 in
theorem cmp_any (a b : ByteArray) (w : World) :
    Calls Tryd.prog 80 #[.string a, .string b] w fun e w' => e = .returned (.int .i64 (cmpN a b)) ∧ w' = w := by
  have hx : (callFunc 90 #[.string a, .string b]).run Tryd.prog w = .ok (.value (.int .i64 (cmpN a b))) w := by
    rw [run_callFunc_extern Tryd.func90 (by kernel_rfl) (by kernel_rfl) (by kernel_rfl) (e := Extern.BytealgCompare.compare) (by kernel_rfl), Lib.run_compareString]
    rfl
  have h53 : Calls Tryd.prog 87 #[.string a, .string b] w fun e w' => e = .returned (.int .i64 (cmpN a b)) ∧ w' = w := by
    go_enter Tryd.func87, Tryd.ntmps87
    go_wp2_with (simp only [hx])
    go_ret
    exact ⟨rfl, rfl⟩
  go_enter Tryd.func80, Tryd.ntmps80
  go_wp2_with (go_at_call 87; refine h53.mono ?_; rintro e w' ⟨rfl, hw⟩; have hw' := hw.symm; subst hw')
  go_ret
  exact ⟨rfl, rfl⟩

set_option maxHeartbeats 400000 in
theorem find1_any (a b : ByteArray) (d : Value) (w : World) :
    Calls Tryd.prog 79 #[.agg #[.string a, d], .string b] w fun e w' => e = .returned (.int .i64 (cmpN a b)) ∧ Below w.heap.size w w' := by
  go_enter Tryd.func79, Tryd.ntmps79
  go_wp2_with (go_at_call 80; refine (cmp_any a b _).mono ?_; rintro e w' ⟨rfl, hw⟩; have hw' := hw.symm; subst hw')
  go_ret
  exact ⟨rfl, (Below.refl _ _).alloc (Nat.le_refl _) _⟩

set_option maxHeartbeats 1000000 in
set_option maxRecDepth 20000 in
theorem bsf_any (v : Value) (zs : List Ent) (F : Nat → Prop) (n : ByteArray) (p : Nat) (w : World) (h : Fol w v zs F) (hp : p ≤ zs.length) (hlo : ∀ i (hi : i < zs.length), i < p → cmpN zs[i].name n < 0) (hhi : ∀ i (hi : i < zs.length), p ≤ i → ¬ cmpN zs[i].name n < 0) (hz : zs.length ≤ 1000000000) (b : Bool) (hb1 : ∀ h : p < zs.length, (cmpN zs[p].name n == 0) = b) (hb2 : ¬ p < zs.length → b = false) :
    Calls Tryd.prog 78 #[v, .string n, .func (.func 79) #[] #[]] w fun e w' => e = .returned (.tuple #[.int .i64 p, .bool b]) ∧ Below w.heap.size w w' := by
  have HB1 : Hid (∀ h : p < zs.length, (cmpN zs[p].name n == 0) = b) := hb1
  have HB2 : Hid (¬ p < zs.length → b = false) := hb2
  clear hb1 hb2
  have HL : Hid (∀ i (hi : i < zs.length), i < p → cmpN zs[i].name n < 0) := hlo
  have HH : Hid (∀ i (hi : i < zs.length), p ≤ i → ¬ cmpN zs[i].name n < 0) := hhi
  have HF : Hid (Fol w v zs F) := h
  have hsh : ∃ ao cap, v = .slice ao zs.length cap := by
    rcases h.shape with ⟨rfl, e⟩ | ⟨g, cap, rfl, _⟩
    · exact ⟨none, 0, by rw [e]⟩
    · exact ⟨_, _, rfl⟩
  obtain ⟨ao, cap, rfl⟩ := hsh
  clear hlo hhi h
  go_enter Tryd.func78, Tryd.ntmps78
  go_wp2
  go_loopw [9, 10] (fun vi vj wr => ∃ (i j : Nat), i ≤ p ∧ p ≤ j ∧ j ≤ zs.length ∧ vi = .int .i64 i ∧ vj = .int .i64 j ∧ Below w.heap.size w wr) (fun vi vj _ => (intOf vj).toNat - (intOf vi).toNat)
  case atStart => exact ⟨0, zs.length, Nat.zero_le _, hp, Nat.le_refl _, rfl, rfl, Below.refl _ _⟩
  case round =>
    obtain ⟨i, j, hi, hj, hjl, rfl, rfl, hb⟩ := hrel
    by_cases hlt : i < j
    · have hlt' : (i : Int) < (j : Int) := by omega
      obtain ⟨q, hq, hqi, hqj⟩ : ∃ q : Nat, ((i : Int) + (j : Int)) / 2 = (q : Int) ∧ i ≤ q ∧ q < j := ⟨(i + j) / 2, by omega, by omega, by omega⟩
      obtain ⟨g, rfl⟩ : ∃ g, ao = some ⟨g, 0, none⟩ := by
        rcases HF.out.shape with ⟨_, e⟩ | ⟨g, cap', e, _⟩
        · omega
        · simp at e; exact ⟨g, e.1⟩
      have hqz : q < zs.length := by omega
      obtain ⟨c0, c1⟩ := (HF.out.below hb).cell q hqz
      have hql : (q : Int) < (zs.length : Int) := by omega
      have hcmp : ∃ c : Int, Hid (c = cmpN zs[q].name n) := ⟨_, rfl⟩
      obtain ⟨c, HC⟩ := hcmp
      have hf1 : Hid (∀ w1 : World, Calls Tryd.prog 79 #[.agg #[.string zs[q].name, zs[q].dv], .string n] w1 fun e w' => e = .returned (.int .i64 c) ∧ Below w1.heap.size w1 w') := fun w1 => by
        rw [HC.out]; exact find1_any _ _ _ w1
      by_cases hqp : q < p
      · have hc : c < 0 := by rw [HC.out]; exact HL.out q hqz hqp
        go_wp2_with (go_at_call 79; refine (hf1.out _).mono ?_; rintro e w' ⟨rfl, hb'⟩)
        go_roundw
        case rel => exact ⟨q + 1, j, by omega, hj, hjl, by go_num, rfl, hb.trans (hb'.mono hb.size)⟩
        case measure => simp [intOf]; omega
      · have hc : ¬ c < 0 := by have := HH.out q hqz (by omega); rw [← HC.out] at this; omega
        go_wp2_with (go_at_call 79; refine (hf1.out _).mono ?_; rintro e w' ⟨rfl, hb'⟩)
        go_roundw
        case rel => exact ⟨i, q, hi, by omega, by omega, rfl, rfl, hb.trans (hb'.mono hb.size)⟩
        case measure => simp [intOf]; omega
    · have e : i = p := by omega
      subst e
      have hlt' : ¬ (i : Int) < (j : Int) := by omega
      by_cases hil : i < zs.length
      · obtain ⟨g, rfl⟩ : ∃ g, ao = some ⟨g, 0, none⟩ := by
          rcases HF.out.shape with ⟨_, e⟩ | ⟨g, cap', e, _⟩
          · omega
          · simp at e; exact ⟨g, e.1⟩
        obtain ⟨c0, c1⟩ := (HF.out.below hb).cell i hil
        have hil' : (i : Int) < (zs.length : Int) := by omega
        obtain ⟨c, HC⟩ : ∃ c : Int, Hid (c = cmpN zs[i].name n) := ⟨cmpN zs[i].name n, (rfl : cmpN zs[i].name n = cmpN zs[i].name n)⟩
        have HI : Hid (∀ w1 : World, Calls Tryd.prog 79 #[.agg #[.string zs[i].name, zs[i].dv], .string n] w1 fun e w' => e = .returned (.int .i64 c) ∧ Below w1.heap.size w1 w') := fun w1 => by rw [HC.out]; exact find1_any _ _ _ w1
        have hbc : (c == 0) = b := by rw [HC.out]; exact HB1.out hil
        go_wp2_with (go_at_call 79; refine (HI.out _).mono ?_; rintro e w' ⟨rfl, hb'⟩)
        go_ret2
        exact ⟨rfl, hb.trans (hb'.mono hb.size)⟩
      · have hil' : ¬ (i : Int) < (zs.length : Int) := by omega
        have hno := HB2.out hil
        subst hno
        go_wp2
        go_ret2
        exact ⟨rfl, hb⟩

/-- Where a name stands in a folder, or would. -/
def HitE (n : ByteArray) (zs zl : List Ent) (z : Ent) (zr : List Ent) : Prop := zs = zl ++ z :: zr ∧ z.name = n ∧ (∀ x ∈ zl, nlt x.name n) ∧ ∀ x ∈ zr, nlt n x.name
def MissE (n : ByteArray) (zs zl zr : List Ent) : Prop := zs = zl ++ zr ∧ (∀ x ∈ zl, nlt x.name n) ∧ ∀ x ∈ zr, nlt n x.name

theorem splitE (n : ByteArray) (zs : List Ent) (h : Srt (zs.map Ent.fl)) : (∃ zl z zr, HitE n zs zl z zr) ∨ ∃ zl zr, MissE n zs zl zr := by
  rcases split n _ h with ⟨l, f, r, e, hf, hl, hr⟩ | ⟨l, r, e, hl, hr⟩
  · obtain ⟨zl, z2, rfl, rfl, e2⟩ := List.map_eq_append_iff.1 e
    obtain ⟨z, zr, rfl, rfl, rfl⟩ := List.map_eq_cons_iff.1 e2
    exact Or.inl ⟨zl, z, zr, rfl, hf, fun x hx => hl x.fl (List.mem_map_of_mem hx), fun x hx => hr x.fl (List.mem_map_of_mem hx)⟩
  · obtain ⟨zl, zr, rfl, rfl, rfl⟩ := List.map_eq_append_iff.1 e
    exact Or.inr ⟨zl, zr, rfl, fun x hx => hl x.fl (List.mem_map_of_mem hx), fun x hx => hr x.fl (List.mem_map_of_mem hx)⟩
theorem HitE.hit {n : ByteArray} {zs zl : List Ent} {z : Ent} {zr : List Ent} (h : HitE n zs zl z zr) : Hit n (zs.map Ent.fl) (zl.map Ent.fl) z.fl (zr.map Ent.fl) := by
  obtain ⟨rfl, hf, hl, hr⟩ := h
  refine ⟨by simp, hf, fun x hx => ?_, fun x hx => ?_⟩
  · obtain ⟨y, hy, rfl⟩ := List.mem_map.1 hx
    exact hl y hy
  · obtain ⟨y, hy, rfl⟩ := List.mem_map.1 hx
    exact hr y hy
theorem MissE.miss {n : ByteArray} {zs zl zr : List Ent} (h : MissE n zs zl zr) : Miss n (zs.map Ent.fl) (zl.map Ent.fl) (zr.map Ent.fl) := by
  obtain ⟨rfl, hl, hr⟩ := h
  refine ⟨by simp, fun x hx => ?_, fun x hx => ?_⟩
  · obtain ⟨y, hy, rfl⟩ := List.mem_map.1 hx
    exact hl y hy
  · obtain ⟨y, hy, rfl⟩ := List.mem_map.1 hx
    exact hr y hy

theorem bsf_hit (v : Value) (zs : List Ent) (F : Nat → Prop) (n : ByteArray) (zl : List Ent) (z : Ent) (zr : List Ent) (w : World) (h : Fol w v zs F) (hh : HitE n zs zl z zr) (hz : zs.length ≤ 1000000000) :
    Calls Tryd.prog 78 #[v, .string n, .func (.func 79) #[] #[]] w fun e w' => e = .returned (.tuple #[.int .i64 zl.length, .bool true]) ∧ Below w.heap.size w w' := by
  obtain ⟨rfl, hn, hl, hr⟩ := hh
  refine bsf_any v _ F n zl.length w h (by simp) (fun i hi hip => ?_) (fun i hi hip => ?_) hz true (fun hi => ?_) (fun hi => ?_)
  · rw [List.getElem_append_left hip]
    exact hl _ (List.getElem_mem _)
  · rw [List.getElem_append_right hip]
    rcases Nat.eq_zero_or_pos (i - zl.length) with h0 | h0
    · simp only [h0, List.getElem_cons_zero]
      rw [hn]
      exact nlt_irrefl n
    · obtain ⟨j, hj⟩ : ∃ j, i - zl.length = j + 1 := ⟨i - zl.length - 1, by omega⟩
      simp only [hj, List.getElem_cons_succ]
      exact nlt_asymm (hr _ (List.getElem_mem _))
  · rw [List.getElem_append_right (Nat.le_refl _)]
    simp only [Nat.sub_self, List.getElem_cons_zero]
    rw [hn, cmpN_eq.2 rfl]
    rfl
  · simp at hi
theorem bsf_miss (v : Value) (zs : List Ent) (F : Nat → Prop) (n : ByteArray) (zl zr : List Ent) (w : World) (h : Fol w v zs F) (hh : MissE n zs zl zr) (hz : zs.length ≤ 1000000000) :
    Calls Tryd.prog 78 #[v, .string n, .func (.func 79) #[] #[]] w fun e w' => e = .returned (.tuple #[.int .i64 zl.length, .bool false]) ∧ Below w.heap.size w w' := by
  obtain ⟨rfl, hl, hr⟩ := hh
  refine bsf_any v _ F n zl.length w h (by simp) (fun i hi hip => ?_) (fun i hi hip => ?_) hz false (fun hi => ?_) (fun _ => rfl)
  · rw [List.getElem_append_left hip]
    exact hl _ (List.getElem_mem _)
  · rw [List.getElem_append_right hip]
    exact nlt_asymm (hr _ (List.getElem_mem _))
  · have hzr : zl.length - zl.length < zr.length := by simp at hi; omega
    rw [List.getElem_append_right (Nat.le_refl _)]
    have := hr _ (List.getElem_mem (l := zr) (n := zl.length - zl.length) hzr)
    have hne := (nlt_ne this).symm
    have : cmpN zr[zl.length - zl.length].name n ≠ 0 := fun h => hne (cmpN_eq.1 h)
    simpa using this

set_option maxHeartbeats 400000 in
theorem find_of (v : Value) (n : ByteArray) (p : Nat) (b : Bool) (w : World) (h : Calls Tryd.prog 78 #[v, .string n, .func (.func 79) #[] #[]] w fun e w' => e = .returned (.tuple #[.int .i64 p, .bool b]) ∧ Below w.heap.size w w') :
    Calls Tryd.prog 58 #[v, .string n] w fun e w' => e = .returned (.tuple #[.int .i64 p, .bool b]) ∧ Below w.heap.size w w' := by
  have HC : Hid (_) := h
  clear h
  go_enter Tryd.func58, Tryd.ntmps58
  go_wp2_with (go_at_call 78; refine Calls.mono HC.out ?_; rintro e w' ⟨rfl, hb'⟩)
  go_ret2
  exact ⟨rfl, hb'⟩
theorem find_hit (v : Value) (zs : List Ent) (F : Nat → Prop) (n : ByteArray) (zl : List Ent) (z : Ent) (zr : List Ent) (w : World) (h : Fol w v zs F) (hh : HitE n zs zl z zr) (hz : zs.length ≤ 1000000000) :
    Calls Tryd.prog 58 #[v, .string n] w fun e w' => e = .returned (.tuple #[.int .i64 zl.length, .bool true]) ∧ Below w.heap.size w w' :=
  find_of v n _ _ w (bsf_hit v zs F n zl z zr w h hh hz)
theorem find_miss (v : Value) (zs : List Ent) (F : Nat → Prop) (n : ByteArray) (zl zr : List Ent) (w : World) (h : Fol w v zs F) (hh : MissE n zs zl zr) (hz : zs.length ≤ 1000000000) :
    Calls Tryd.prog 58 #[v, .string n] w fun e w' => e = .returned (.tuple #[.int .i64 zl.length, .bool false]) ∧ Below w.heap.size w w' :=
  find_of v n _ _ w (bsf_miss v zs F n zl zr w h hh hz)
set_option maxHeartbeats 400000 in
theorem has_of (v : Value) (n : ByteArray) (p : Nat) (b : Bool) (w : World) (h : Calls Tryd.prog 58 #[v, .string n] w fun e w' => e = .returned (.tuple #[.int .i64 p, .bool b]) ∧ Below w.heap.size w w') :
    Calls Tryd.prog 46 #[v, .string n] w fun e w' => e = .returned (.bool b) ∧ Below w.heap.size w w' := by
  have HC : Hid (_) := h
  clear h
  go_enter Tryd.func46, Tryd.ntmps46
  go_wp2_with (go_at_call 58; refine Calls.mono HC.out ?_; rintro e w' ⟨rfl, hb'⟩)
  go_ret
  exact ⟨rfl, hb'⟩
theorem has_any (v : Value) (zs : List Ent) (F : Nat → Prop) (n : ByteArray) (w : World) (h : Fol w v zs F) (hs : Srt (zs.map Ent.fl)) (hz : zs.length ≤ 1000000000) :
    Calls Tryd.prog 46 #[v, .string n] w fun e w' => e = .returned (.bool (look n (zs.map Ent.fl)).isSome) ∧ Below w.heap.size w w' := by
  rcases splitE n zs hs with ⟨zl, z, zr, hh⟩ | ⟨zl, zr, hh⟩
  · rw [hh.hit.lookE]
    exact has_of v n _ _ w (find_hit v zs F n zl z zr w h hh hz)
  · rw [hh.miss.lookE]
    exact has_of v n _ _ w (find_miss v zs F n zl zr w h hh hz)

set_option maxHeartbeats 1000000 in
theorem size_any (v : Value) (zs : List Ent) (F : Nat → Prop) (w : World) (h : Fol w v zs F) (hm : mass (zs.map Ent.fl) ≤ 1000000000) :
    Calls Tryd.prog 45 #[v] w fun e w' => e = .returned (.int .i64 (used (zs.map Ent.fl))) ∧ Below w.heap.size w w' := by
  have hsh : ∃ ao cap, v = .slice ao zs.length cap := by
    rcases h.shape with ⟨rfl, e⟩ | ⟨g, cap, rfl, _⟩
    · exact ⟨none, 0, by rw [e]⟩
    · exact ⟨_, _, rfl⟩
  obtain ⟨ao, cap, rfl⟩ := hsh
  have hum := used_mass (zs.map Ent.fl)
  rw [List.length_map] at hum
  have hzl : zs.length ≤ 1000000000 := by omega
  have HM : Hid (used (zs.map Ent.fl) ≤ 1000000000) := by show _ ≤ _; omega
  have HF : Hid (Fol w (.slice ao zs.length cap) zs F) := h
  clear h hm hum
  go_enter Tryd.func45, Tryd.ntmps45
  go_wp2
  go_loopw [3, 8] (fun vt vi wr => ∃ (k t : Nat), k ≤ zs.length ∧ vi = .int .i64 k ∧ vt = .int .i64 t ∧ Hid (t = used ((zs.take k).map Ent.fl)) ∧ Below w.heap.size w wr) (fun _ vi _ => zs.length - (intOf vi).toNat)
  case atStart => exact ⟨0, 0, Nat.zero_le _, rfl, rfl, rfl, Below.refl _ _⟩
  case round =>
    obtain ⟨k, t, hk, rfl, rfl, HT, hb⟩ := hrel
    by_cases hlt : k < zs.length
    · have hlt' : (k : Int) < (zs.length : Int) := by omega
      obtain ⟨g, rfl⟩ : ∃ g, ao = some ⟨g, 0, none⟩ := by
        rcases HF.out.shape with ⟨_, e⟩ | ⟨g, cap', e, _⟩
        · omega
        · simp at e; exact ⟨g, e.1⟩
      obtain ⟨c0, c1⟩ := (HF.out.below hb).cell k hlt
      obtain ⟨aod, capd, hd, _, _⟩ := (Sl.of_own (HF.out.data zs[k] (List.getElem_mem hlt))).shape
      rw [hd] at c1
      have HT' : Hid (t + zs[k].bs.length = used ((zs.take (k + 1)).map Ent.fl)) := by
        show _ = _
        rw [HT.out, take_succ_snoc zs k zs[k] (List.getElem?_eq_getElem hlt), List.map_append, used_append]
        simp [used, Ent.fl]
      have hle : t + zs[k].bs.length ≤ 1000000000 := by
        have h1 := HT'.out
        have h2 := HM.out
        have h3 := congrArg (fun l => used (l.map Ent.fl)) (List.take_append_drop (k + 1) zs)
        simp only [List.map_append, used_append] at h3
        omega
      generalize zs[k].bs.length = m at *
      clear hd
      go_wp2
      go_roundw
      case rel => exact ⟨k + 1, t + m, by omega, by go_num, by go_num, HT', hb.alloc hb.size _⟩
      case measure => simp [intOf]; omega
    · have e : k = zs.length := by omega
      subst e
      go_wp2
      go_ret
      refine ⟨?_, hb⟩
      rw [HT.out, List.take_length]
      rfl
end Go.Proofs.YtnbdkojdddplkaaDoor.Dk
