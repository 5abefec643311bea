/- The walks of a folder's cut, remove and move. -/
import Derived.Test.YtnbdkojdddplkaaDoorDkAdd
namespace Go.Proofs.YtnbdkojdddplkaaDoor.Dk
open Go.RowKit

theorem below_cell {w w1 : World} {p : Addr} {u : Value} (hb : Below w.heap.size w w1) (hc : w.cell? p = some u) : w1.cell? p = some u := (Fr.of_below (F := fun _ => False) hb).cell hc id
theorem below_frozen {w w1 : World} {p : Addr} {u : Value} (hb : Below w.heap.size w w1) (hc : w.cell? p = some u) : w1.frozen? p = w.frozen? p := (Fr.of_below (F := fun _ => False) hb).frozen hc id
theorem own_cut {w : World} {d : Value} {bs : List UInt8} (h : w.ownsRow 0 5 1 d bs.length (cells8 bs)) (k : Nat) (hk : k ≤ bs.length) :
    (d = .slice none 0 0 ∧ k = 0 ∧ bs = []) ∨ ∃ g cap, d = .slice (some ⟨g, 0, none⟩) bs.length cap ∧ (k : Int) ≤ (cap : Int) ∧ w.ownsRow 0 5 1 (.slice (some ⟨g, 0, none⟩) k cap) (bs.take k).length (cells8 (bs.take k)) := by
  rcases h.2 with ⟨rfl, h0⟩ | ⟨g, cap, cur, rfl, hb, hg, hn, hm, hs, ht⟩
  · exact Or.inl ⟨rfl, by omega, List.eq_nil_of_length_eq_zero h0⟩
  · refine Or.inr ⟨g, cap, rfl, by omega, ?_⟩
    have hl : (bs.take k).length = k := by simp; omega
    rw [hl]
    refine ⟨by rw [cells8_len, hl, Nat.mul_one], Or.inr ⟨g, cap, cur, rfl, hb, hg, by omega, hm, hs, ?_⟩⟩
    rw [Nat.mul_one] at ht ⊢
    have := congrArg (List.take k) ht
    rw [List.take_take, Nat.min_eq_left hk] at this
    rw [this]
    simp [cells8, List.map_take]

set_option maxHeartbeats 1000000 in
set_option maxRecDepth 20000 in
theorem cut_hit (b o : Nat) (v : Value) (zs : List Ent) (F : Nat → Prop) (n : ByteArray) (k : Nat) (zl : List Ent) (z : Ent) (zr : List Ent) (w : World) (hc : w.cell? ⟨b, o, none⟩ = some v) (hF : Fol w v zs F) (hh : HitE n zs zl z zr) (hk : k ≤ z.bs.length) (hm : mass (zs.map Ent.fl) ≤ 1000000000) :
    Calls Tryd.prog 63 #[.pointer (some ⟨b, o, none⟩), .string n, .int .i64 k] w fun e w' => e = .returned (.tuple #[]) ∧ ∃ d', Fol w' v (zl ++ ⟨z.name, d', z.bs.take k⟩ :: zr) (ext F w w') ∧ Fr F w w' := by
  have hum := used_mass (zs.map Ent.fl)
  rw [List.length_map] at hum
  have HC : Hid (_) := find_hit v zs F n zl z zr w hF hh (by omega)
  obtain ⟨rfl, hn, hl, hr⟩ := hh
  have hzb : z.bs.length ≤ mass ((zl ++ z :: zr).map Ent.fl) := by
    rw [List.map_append, mass_append, List.map_cons, mass_cons]
    simp only [Ent.fl]
    omega
  have hk63 : z.bs.length ≤ 1000000000 := by omega
  have HF : Hid (_) := hF
  have hdat := hF.data z (by simp)
  have hput : ∀ (w1 : World) (d' : Value), Below w.heap.size w w1 → w1.ownsRow 0 5 1 d' (z.bs.take k).length (cells8 (z.bs.take k)) → d'.ownBlock = z.dv.ownBlock → ∀ g N cap, v = .slice (some ⟨g, 0, none⟩) N cap →
      Hid (Fol (w1.setCell ⟨g, zl.length * 2 + 1, none⟩ d') v (zl ++ ⟨z.name, d', z.bs.take k⟩ :: zr) (ext F w (w1.setCell ⟨g, zl.length * 2 + 1, none⟩ d')) ∧ Fr F w (w1.setCell ⟨g, zl.length * 2 + 1, none⟩ d')) ∧ w1.frozen? ⟨g, zl.length * 2 + 1, none⟩ = false := by
    intro w1 d' hb1 hO hat g N cap hv
    subst hv
    obtain ⟨hP1, hP2, hP3, hP4⟩ := (hF.below hb1).put (w2 := w1) d' (z.bs.take k) hO (grown_refl _ _) (Or.inl hat)
    exact ⟨⟨hP1.mono (ext_from hb1.size) (ext_lt hF.lt (Nat.le_trans hb1.size hP2.size)), (Fr.of_below hb1).trans hP2 (fun _ _ h => h)⟩, hP4⟩
  have HP : Hid (_) := hput
  clear hput
  obtain ⟨g, N, cap, rfl, hk1, hk2, hk3, hk4, hk5, hk6⟩ := shape_mid hF
  rcases own_cut hdat k hk with ⟨hd, h0, hbs⟩ | ⟨gd, capd, hd, hkc, hcut⟩
  · subst h0
    rw [hd] at hk6
    have HQ : Hid (∀ w1, Below w.heap.size w w1 → w1.ownsRow 0 5 1 (.slice none 0 0) (z.bs.take 0).length (cells8 (z.bs.take 0))) := fun w1 _ => by rw [List.take_zero]; exact World.ownsRow_nil _ _ _ _
    have HE : Hid ((Value.slice none 0 0).ownBlock = z.dv.ownBlock) := by show _ = _; rw [hd]
    clear hum hl hr hF hdat hd hbs
    go_enter Tryd.func63, Tryd.ntmps63
    go_wp2_with (go_at_call 58; refine Calls.mono HC.out ?_; rintro e w1 ⟨rfl, hb1⟩; have hcw := below_cell hb1 hc; have c1 := below_cell hb1 hk6; obtain ⟨HX, hfz1⟩ := HP.out w1 (.slice none 0 0) hb1 (HQ.out w1 hb1) HE.out g N cap rfl)
    go_end0
    exact ⟨rfl, _, HX.out.1, HX.out.2⟩
  · rw [hd] at hk6
    have HQ : Hid (∀ w1, Below w.heap.size w w1 → w1.ownsRow 0 5 1 (.slice (some ⟨gd, 0, none⟩) k capd) (z.bs.take k).length (cells8 (z.bs.take k))) := fun w1 hb => own_kept hcut (Fr.of_below (F := fun _ => False) hb) (fun _ _ => id)
    have HE : Hid ((Value.slice (some ⟨gd, 0, none⟩) k capd).ownBlock = z.dv.ownBlock) := by show _ = _; rw [hd]; rfl
    generalize hzL : z.bs.length = zL at *
    clear hum hl hr hF hdat hd hcut
    go_enter Tryd.func63, Tryd.ntmps63
    go_wp2_with (go_at_call 58; refine Calls.mono HC.out ?_; rintro e w1 ⟨rfl, hb1⟩; have hcw := below_cell hb1 hc; have c1 := below_cell hb1 hk6; obtain ⟨HX, hfz1⟩ := HP.out w1 (.slice (some ⟨gd, 0, none⟩) k capd) hb1 (HQ.out w1 hb1) HE.out g N cap rfl)
    go_end0
    exact ⟨rfl, _, HX.out.1, HX.out.2⟩

set_option maxHeartbeats 1000000 in
theorem cut_miss (b o : Nat) (v : Value) (zs : List Ent) (F : Nat → Prop) (n : ByteArray) (k : Nat) (zl zr : List Ent) (w : World) (hc : w.cell? ⟨b, o, none⟩ = some v) (hF : Fol w v zs F) (hh : MissE n zs zl zr) (hm : zs.length ≤ 1000000000) :
    Calls Tryd.prog 63 #[.pointer (some ⟨b, o, none⟩), .string n, .int .i64 k] w fun e w' => e = .returned (.tuple #[]) ∧ Below w.heap.size w w' := by
  have HC : Hid (_) := find_miss v zs F n zl zr w hF hh hm
  obtain ⟨ao, N, cap, rfl⟩ := own_slice hF.row
  clear hF hh
  go_enter Tryd.func63, Tryd.ntmps63
  go_wp2_with (go_at_call 58; refine Calls.mono HC.out ?_; rintro e w1 ⟨rfl, hb1⟩)
  go_end0
  exact ⟨rfl, hb1⟩

theorem cut_any (b o : Nat) (v : Value) (zs : List Ent) (F : Nat → Prop) (n : ByteArray) (k : Nat) (w : World) (hc : w.cell? ⟨b, o, none⟩ = some v) (hF : Fol w v zs F) (hs : Srt (zs.map Ent.fl)) (hk : Okc (zs.map Ent.fl) (.cut n k)) (hm : mass (zs.map Ent.fl) ≤ 1000000000) :
    Calls Tryd.prog 63 #[.pointer (some ⟨b, o, none⟩), .string n, .int .i64 k] w fun e w' => e = .returned (.tuple #[]) ∧ Chg w w' b o F (ap (zs.map Ent.fl) (.cut n k)) := by
  have hum := used_mass (zs.map Ent.fl)
  rw [List.length_map] at hum
  rcases splitE n zs hs with ⟨zl, z, zr, hh⟩ | ⟨zl, zr, hh⟩
  · refine (cut_hit b o v zs F n k zl z zr w hc hF hh (hk _ hh.hit.lookE) hm).mono ?_
    rintro e w' ⟨rfl, d', h1, h2⟩
    refine ⟨rfl, v, _, h1, ?_, Fr.of_self hc h2⟩
    simp only [ap]
    rw [hh.hit.lookE]
    simp only
    rw [hh.hit.insE, ← hh.2.1]
    simp [Ent.fl]
  · refine (cut_miss b o v zs F n k zl zr w hc hF hh (by omega)).mono ?_
    rintro e w' ⟨rfl, h1⟩
    refine ⟨rfl, v, zs, (hF.below h1).mono (fun _ h => Or.inl h) (ext_lt hF.lt h1.size), ?_, Fr.of_self hc (Fr.of_below h1)⟩
    simp only [ap]
    rw [hh.miss.lookE]

set_option maxHeartbeats 1000000 in
set_option maxRecDepth 20000 in
theorem remove_hit (b o : Nat) (v : Value) (zs : List Ent) (F : Nat → Prop) (n : ByteArray) (zl : List Ent) (z : Ent) (zr : List Ent) (w : World) (hc : w.cell? ⟨b, o, none⟩ = some v) (hfz : w.frozen? ⟨b, o, none⟩ = false) (hF : Fol w v zs F) (hbF : ¬ F b) (hh : HitE n zs zl z zr) (hm : zs.length ≤ 1000000000) :
    Calls Tryd.prog 64 #[.pointer (some ⟨b, o, none⟩), .string n] w fun e w' => e = .returned (.tuple #[]) ∧ ∃ v', Fol w' v' (zl ++ zr) F ∧ v'.ownBlock = v.ownBlock ∧ Fr (fun k => v.ownBlock = some k) (w.setCell ⟨b, o, none⟩ v') w' := by
  have HC : Hid (_) := find_hit v zs F n zl z zr w hF hh hm
  obtain ⟨rfl, hn, hl, hr⟩ := hh
  have HD : Hid (∀ w1, Below w.heap.size w w1 → Calls Tryd.prog 82 #[v, .int .i64 zl.length, .int .i64 ((zl.length : Int) + 1)] w1 fun e w2 => ∃ v', e = .returned v' ∧ Fol w2 v' (zl ++ zr) F ∧ v'.ownBlock = v.ownBlock ∧ Fr (fun k => v.ownBlock = some k) w w2) := by
    intro w1 hb1
    have hF1 := hF.below hb1
    refine (delete_any v _ zl.length _ w1 hF1.row (by simp) hm hF1.ones).mono ?_
    rintro e w2 ⟨v', rfl, hrow, hg, hat⟩
    exact ⟨v', rfl, hF1.deleted hrow hg hat, hat, (Fr.of_below hb1).trans (Fr.of_grown hg (fun k hk => hk)) (fun _ _ h => h)⟩
  have hbv : ¬ v.ownBlock = some b := fun e => hbF (hF.rowIn b e)
  have HV : Hid (¬ v.ownBlock = some b) := hbv
  have hzl : zl.length ≤ 1000000000 := by simp at hm; omega
  obtain ⟨ao, N, cap, rfl⟩ := own_slice hF.row
  have HF : Hid (_) := hF
  clear hl hr hF hm hbv
  go_enter Tryd.func64, Tryd.ntmps64
  go_wp2_with (go_at_call 58; refine Calls.mono HC.out ?_; rintro e w1 ⟨rfl, hb1⟩; have hcw := below_cell hb1 hc)
  (go_at_call 82; refine (HD.out w1 hb1).mono ?_; rintro e w2 ⟨v', rfl, hF2, hat2, hfr2⟩; obtain ⟨ao2, N2, cap2, rfl⟩ := own_slice hF2.row; have hcw2 := hfr2.cell hc HV.out; have hfz2 := (hfr2.frozen hc HV.out).trans hfz; have HF2 : Hid (_) := hF2; have HR2 : Hid (_) := hfr2; have HA2 : Hid (_) := hat2; clear hF2 hfr2 hat2)
  go_wp2
  go_end0
  refine ⟨rfl, .slice ao2 N2 cap2, HF2.out.kept (Fr.one w2 b o _) (fun k hk e => hbF (e ▸ hk)), HA2.out, HR2.out.set_both _ _⟩

set_option maxHeartbeats 1000000 in
theorem remove_miss (b o : Nat) (v : Value) (zs : List Ent) (F : Nat → Prop) (n : ByteArray) (zl zr : List Ent) (w : World) (hc : w.cell? ⟨b, o, none⟩ = some v) (hF : Fol w v zs F) (hh : MissE n zs zl zr) (hm : zs.length ≤ 1000000000) :
    Calls Tryd.prog 64 #[.pointer (some ⟨b, o, none⟩), .string n] w fun e w' => e = .returned (.tuple #[]) ∧ Below w.heap.size w w' := by
  have HC : Hid (_) := find_miss v zs F n zl zr w hF hh hm
  obtain ⟨ao, N, cap, rfl⟩ := own_slice hF.row
  clear hF hh
  go_enter Tryd.func64, Tryd.ntmps64
  go_wp2_with (go_at_call 58; refine Calls.mono HC.out ?_; rintro e w1 ⟨rfl, hb1⟩)
  go_end0
  exact ⟨rfl, hb1⟩

/-- A folder's remove: the name is not there any more, and the other files are as they were. -/
theorem remove_all (b o : Nat) (v : Value) (zs : List Ent) (F : Nat → Prop) (n : ByteArray) (w : World) (hc : w.cell? ⟨b, o, none⟩ = some v) (hfz : w.frozen? ⟨b, o, none⟩ = false) (hF : Fol w v zs F) (hbF : ¬ F b) (hs : Srt (zs.map Ent.fl)) (hm : zs.length ≤ 1000000000) :
    Calls Tryd.prog 64 #[.pointer (some ⟨b, o, none⟩), .string n] w fun e w' => e = .returned (.tuple #[]) ∧ ∃ v' zl zr, MissE n (zl ++ zr) zl zr ∧ (∀ x ∈ zl ++ zr, x ∈ zs) ∧ (zl ++ zr).length ≤ zs.length ∧ (zl ++ zr).map Ent.fl = del n (zs.map Ent.fl) ∧ Fol w' v' (zl ++ zr) F ∧ v'.ownBlock = v.ownBlock ∧ Fr (fun k => v.ownBlock = some k) (w.setCell ⟨b, o, none⟩ v') w' ∧ (∀ z ∈ zs, z.name = n → ∀ x ∈ zl ++ zr, Apart x z) := by
  rcases splitE n zs hs with ⟨zl, z, zr, hh⟩ | ⟨zl, zr, hh⟩
  · refine (remove_hit b o v zs F n zl z zr w hc hfz hF hbF hh hm).mono ?_
    rintro e w' ⟨rfl, v', h1, h2, h3⟩
    have hd := hh.hit.delE
    obtain ⟨rfl, hn, hl, hr⟩ := hh
    have hap := List.pairwise_append.1 hF.apart
    have hap2 := List.pairwise_cons.1 hap.2.1
    refine ⟨rfl, v', zl, zr, ⟨rfl, hl, hr⟩, fun x hx => ?_, by simp, by rw [hd]; simp, h1, h2, h3, fun y hy hyn x hx => ?_⟩
    · rcases List.mem_append.1 hx with hx | hx <;> simp [hx]
    · have hyz : y = z := by
        rcases List.mem_append.1 hy with hy | hy
        · exact absurd hyn (nlt_ne (hl y hy))
        · rcases List.mem_cons.1 hy with rfl | hy
          · rfl
          · exact absurd hyn (nlt_ne (hr y hy)).symm
      subst hyz
      rcases List.mem_append.1 hx with hx | hx
      · exact hap.2.2 x hx y (by simp)
      · exact (hap2.1 x hx).symm
  · refine (remove_miss b o v zs F n zl zr w hc hF hh hm).mono ?_
    rintro e w' ⟨rfl, h1⟩
    have hd := hh.miss.delE
    have hh' := hh
    obtain ⟨rfl, hl, hr⟩ := hh
    refine ⟨rfl, v, zl, zr, hh', fun _ h => h, Nat.le_refl _, hd.symm, hF.below h1, rfl, Fr.of_self hc (Fr.of_below h1), fun y hy hyn x hx => ?_⟩
    exfalso
    rcases List.mem_append.1 hy with hy | hy
    · exact absurd hyn (nlt_ne (hl y hy))
    · exact absurd hyn (nlt_ne (hr y hy)).symm
theorem remove_any (b o : Nat) (v : Value) (zs : List Ent) (F : Nat → Prop) (n : ByteArray) (w : World) (hc : w.cell? ⟨b, o, none⟩ = some v) (hfz : w.frozen? ⟨b, o, none⟩ = false) (hF : Fol w v zs F) (hbF : ¬ F b) (hs : Srt (zs.map Ent.fl)) (hm : zs.length ≤ 1000000000) :
    Calls Tryd.prog 64 #[.pointer (some ⟨b, o, none⟩), .string n] w fun e w' => e = .returned (.tuple #[]) ∧ Chg w w' b o F (ap (zs.map Ent.fl) (.rem n)) := by
  refine (remove_all b o v zs F n w hc hfz hF hbF hs hm).mono ?_
  rintro e w' ⟨rfl, v', zl, zr, h1, h2, h3, h4, h5, h6, h7, h8⟩
  exact ⟨rfl, v', _, h5.mono (fun _ h => Or.inl h) (ext_lt hF.lt (by have := h7.size; rwa [setCell_size] at this)), h4, h7.mono (fun k _ hk => hF.rowIn k hk)⟩
end Go.Proofs.YtnbdkojdddplkaaDoor.Dk
