/- The walks of bytes.Clone and of a folder's add. -/
import Derived.Test.YtnbdkojdddplkaaDoorDkFind
import Derived.Test.YtnbdkojdddplkaaDoorDkFolder
import Derived.Test.YtnbdkojdddplkaaDoorDkInsert3
import Derived.Test.YtnbdkojdddplkaaDoorDkDelete
namespace Go.Proofs.YtnbdkojdddplkaaDoor.Dk
open Go.RowKit

/- bytes.Clone -/
theorem Tryd.info5 : (Tryd.prog.info? 5).map (fun i => (i.zero, i.size, i.bytes)) = some (some (.int .u8 0), 1, 1) := by kernel_rfl

set_option maxHeartbeats 400000 in
theorem clone_nil (w : World) :
    Calls Tryd.prog 34 #[.slice none 0 0] w fun e w' => e = .returned (.slice none 0 0) ∧ w' = w := by
  have he := fun w => Lib.run_eql_slice_nil (P := Tryd.prog) w 33 5 none 0 0 0 0 Tryd.underlying33
  go_enter Tryd.func34, Tryd.ntmps34
  go_wp2
  go_ret
  exact ⟨rfl, rfl⟩

set_option maxHeartbeats 400000 in
theorem clone_some (a : Addr) (cap : Nat) (bs : List UInt8) (w : World) (h : Sl w (.slice (some a) bs.length cap) bs) (hl : bs.length ≤ 140737488355328) :
    Calls Tryd.prog 34 #[.slice (some a) bs.length cap] w fun e w' => ∃ v', e = .returned v' ∧ w'.ownsRow w.heap.size 5 1 v' bs.length (cells8 bs) ∧ Below w.heap.size w w' := by
  obtain ⟨i, hi, hz0, hz1, hz2⟩ := info_parts Tryd.info5
  have hnews : ∀ (o : Obj), ∀ j u, (cells8 bs)[j]? = some u → (w.alloc o).cell? (a.add j) = some u := by
    intro o j u hj
    have hjl : j < bs.length := by have := (List.getElem?_eq_some_iff.1 hj).1; simpa [cells8_len] using this
    obtain ⟨g, off, ha, hc⟩ := (h.alloc o).cell (by omega)
    simp only [Option.some.injEq] at ha
    subst ha
    rw [Addr.add_lit, hc j hjl, ← hj, cells8_at _ _ hjl]
  have he := fun w => Lib.run_eql_slice_nil (P := Tryd.prog) w 33 5 (some a) bs.length cap 0 0 Tryd.underlying33
  go_enter Tryd.func34, Tryd.ntmps34
  go_wp2_with (at_builtin; refine wpList_append_own_at _ rfl (.tmp 5) (.tmp 6) 33 rfl w.heap.size 5 i (.int .u8 0) 1 1 Tryd.underlying33 hi hz0 hz1 hz2 rfl (by decide) _ 0 [] rfl (World.ownsRow_made w #[] 0 (Nat.le_refl _) (by simp [maxLen]) rfl) a bs.length cap (cells8 bs) rfl (by rw [cells8_len, Nat.mul_one]) (hnews _) (cells8_one bs) (by simp only [maxLen]; omega) (by omega) (by simp) ?_)
  intro v' w1 hown hgrow _ hat
  clear hnews he
  have hfin : w1.ownsRow w.heap.size 5 1 v' bs.length (cells8 bs) ∧ Below w.heap.size w w1 :=
    ⟨by simpa using hown, ((Below.refl _ _).alloc (Nat.le_refl _) _).grown hgrow (by simp) (fun k hk => by simp [Value.ownBlock] at hk; omega)⟩
  clear hown hgrow hat
  go_wp2
  go_ret
  exact ⟨_, rfl, hfin⟩

/-- A copy: nil of nil, else a row of its own. -/
theorem clone_any (v : Value) (bs : List UInt8) (w : World) (h : Sl w v bs) (hl : bs.length ≤ 140737488355328) :
    Calls Tryd.prog 34 #[v] w fun e w' => ∃ v', e = .returned v' ∧ w'.ownsRow w.heap.size 5 1 v' bs.length (cells8 bs) ∧ Below w.heap.size w w' := by
  obtain ⟨ao, cap, rfl, h1, h2, h3, h4⟩ := id h
  cases ao with
  | none =>
    have hc := h3 rfl
    have e : bs = [] := List.eq_nil_of_length_eq_zero (by omega)
    subst e
    subst hc
    exact (clone_nil w).mono fun _ _ ⟨he, hw⟩ => ⟨_, he, by subst hw; exact World.ownsRow_nil _ _ _ _, by subst hw; exact Below.refl _ _⟩
  | some a => exact clone_some a cap bs w h hl

theorem sl_news {w : World} {a : Addr} {cap : Nat} {bs : List UInt8} (h : Sl w (.slice (some a) bs.length cap) bs) : ∀ j u, (cells8 bs)[j]? = some u → w.cell? (a.add j) = some u := by
  intro j u hj
  have hjl : j < bs.length := by have := (List.getElem?_eq_some_iff.1 hj).1; simpa [cells8_len] using this
  obtain ⟨g, off, ha, hc⟩ := h.cell (by omega)
  simp only [Option.some.injEq] at ha
  subst ha
  rw [Addr.add_lit, hc j hjl, ← hj, cells8_at _ _ hjl]

/-- 'append' of bytes onto a slice of the call's own, whatever slice the bytes come from. -/
theorem wpList_append_sl {P : Program} (w : World) {ops : Array Oper} {rest : List Oper} {o : Oper} {a : Act} {Q : Exit → Act → World → Prop} (hgd : o.guard = none) (s x : Operand) (t : TypeId)
    (ho : o.op = .call { callee := .builtin .append, args := #[s, x], argTypes := #[t, t] }) (base : Nat) (i : TypeInfo) (ht : P.underlying t = some (.slice 5)) (hi : P.info? 5 = some i) (hz : i.zero = some (.int .u8 0)) (hsize : i.size = 1) (hby : i.bytes = 1)
    (v vx : Value) (bs tx : List UInt8) (hs : a.eval s = v) (hown : w.ownsRow base 5 1 v bs.length (cells8 bs)) (hx : a.eval x = vx) (hS : Sl w vx tx) (hl : bs.length + tx.length ≤ 140737488355328) (hbase : base ≤ w.heap.size)
    (h : ∀ v' w', w'.ownsRow base 5 1 v' (bs ++ tx).length (cells8 (bs ++ tx)) → w.grownBy w' v.ownBlock → (v'.ownBlock = v.ownBlock ∨ v'.ownBlock = some w.heap.size) → wpList P ops Q rest (a.put o.dst v') w') :
    wpList P ops Q (o :: rest) a w := by
  obtain ⟨ao, cap, rfl, h1, h2, h3, h4⟩ := id hS
  cases ao with
  | some ad =>
    refine wpList_append_own_at w hgd s x t ho base 5 i (.int .u8 0) 1 1 ht hi hz hsize hby rfl (by decide) v bs.length (cells8 bs) hs hown ad tx.length cap (cells8 tx) hx (by rw [cells8_len, Nat.mul_one]) (sl_news hS) (cells8_one tx) (by simp only [maxLen]; omega) (by omega) hbase ?_
    intro v' w' g1 g2 _ g4
    exact h v' w' (by rw [List.length_append, cells8_append]; exact g1) g2 g4
  | none =>
    have hc := h3 rfl
    have e : tx = [] := List.eq_nil_of_length_eq_zero (by omega)
    subst e hc
    refine wpList_append_own_none hgd s x t ho base 5 i 1 ht hi v bs.length (cells8 bs) hs hown hx ?_
    exact h v w (by rw [List.append_nil]; exact hown) (grown_refl _ _) (Or.inl rfl)


/-- New cells read as their bytes. -/
theorem sl_new (w : World) (C : Array Value) (bs : List UInt8) (T : TypeId) (f : Nat × Nat) (hC : C.toList = cells8 bs) (hl : bs.length ≤ 1000) : Sl (w.alloc (.cells C T f)) (.slice (some ⟨w.heap.size, 0, none⟩) bs.length bs.length) bs :=
  ⟨_, _, rfl, Nat.le_refl _, by simp [maxLen]; omega, fun e => by simp at e, fun _ => ⟨_, _, rfl, fun j hj => by
    rw [cell_of_row _ _ _ _ _ _ (heap_alloc_new _ _), Nat.zero_add, ← cells8_at bs j hj, ← hC]; simp⟩⟩


set_option maxHeartbeats 1000000 in
set_option maxRecDepth 20000 in
theorem add_hit (b o : Nat) (v : Value) (zs : List Ent) (F : Nat → Prop) (n : ByteArray) (dv : Value) (data : List UInt8) (zl : List Ent) (z : Ent) (zr : List Ent) (w : World) (hc : w.cell? ⟨b, o, none⟩ = some v) (hF : Fol w v zs F) (hh : HitE n zs zl z zr)
    (hS : SlA w dv data (fun k => F k ∨ k = b)) (hm : mass (zs.map Ent.fl) + data.length ≤ 1000000000) :
    Calls Tryd.prog 62 #[.pointer (some ⟨b, o, none⟩), .string n, dv] w fun e w' => e = .returned (.tuple #[]) ∧ ∃ d', Fol w' v (zl ++ ⟨z.name, d', z.bs ++ data⟩ :: zr) (ext F w w') ∧ Fr F w w' := by
  obtain ⟨i, hi, hz0, hz1, hz2⟩ := info_parts Tryd.info5
  obtain ⟨aod, capd, rfl, _, _⟩ := hS.sl.shape
  have hum := used_mass (zs.map Ent.fl)
  rw [List.length_map] at hum
  have HC : Hid (_) := find_hit v zs F n zl z zr w hF hh (by omega)
  obtain ⟨rfl, hn, hl, hr⟩ := hh
  have hzb : z.bs.length ≤ mass ((zl ++ z :: zr).map Ent.fl) := by
    rw [List.map_append, mass_append, List.map_cons, mass_cons]
    simp only [Ent.fl]
    omega
  rcases hF.shape with ⟨_, e0⟩ | ⟨g, cap, rfl, hc1, hc2, hc3⟩
  · simp at e0
  have HF : Hid (_) := hF
  have HS : Hid (_) := hS
  have hlen : zl.length < (zl ++ z :: zr).length := by simp
  have hlen' : (zl.length : Int) < ((zl ++ z :: zr).length : Int) := by omega
  have hget : (zl ++ z :: zr)[zl.length] = z := by simp
  have hdat := hF.data z (by simp)
  obtain ⟨N, HN⟩ : ∃ N, Hid (N = (zl ++ z :: zr).length) := ⟨(zl ++ z :: zr).length, (rfl : _ = _)⟩
  rw [← HN.out] at hc hlen' HC HF hc1 hF ⊢
  have hc2' : cap ≤ 9223372036854775807 := hc2
  clear hum hl hr hS hF
  go_enter Tryd.func62, Tryd.ntmps62
  go_wp2_with (first
    | (go_at_call 58; refine Calls.mono HC.out ?_; rintro e w1 ⟨rfl, hb1⟩; have hcw := (Fr.of_below (F := fun _ => False) hb1).cell hc id; obtain ⟨c0, c1⟩ := (HF.out.below hb1).cell zl.length hlen; rw [hget] at c0 c1)
    | (at_builtin; refine wpList_append_sl _ rfl (.tmp 38) (.tmp 39) 33 rfl 0 i Tryd.underlying33 hi hz0 hz1 hz2 z.dv _ z.bs data rfl (own_kept hdat (Fr.of_below (F := fun _ => False) hb1) (fun _ _ => id)) rfl (HS.out.kept (Fr.of_below hb1)).sl (by omega) (Nat.zero_le _) ?_))
  intro d' w2 hO hg hat
  rw [← List.length_append] at hO
  obtain ⟨hP1, hP2, hP3, hP4⟩ := (HF.out.below hb1).put (w2 := w2) d' (z.bs ++ data) hO hg (by rcases hat with h | h; exact Or.inl h; exact Or.inr ⟨_, h, Nat.le_refl _⟩)
  have HP1 : Hid (_) := hP1
  have HP2 : Hid (_) := hP2
  obtain ⟨ao2, L2, cap2, rfl⟩ := own_slice hO
  clear hP1 hP2 hO hg hat HC c0 c1 hcw
  go_wp2
  go_end0
  refine ⟨rfl, .slice ao2 L2 cap2, ?_, ?_⟩
  · exact HP1.out.mono (ext_from hb1.size) (ext_lt (fun k hk => HF.out.lt k hk) (Nat.le_trans hb1.size HP2.out.size))
  · exact (Fr.of_below hb1).trans HP2.out (fun _ _ h => h)

theorem shape_mid {w : World} {v : Value} {zl : List Ent} {z : Ent} {zr : List Ent} {F : Nat → Prop} (h : Fol w v (zl ++ z :: zr) F) : ∃ g N cap, v = .slice (some ⟨g, 0, none⟩) N cap ∧ (zl.length : Int) < (N : Int) ∧ cap ≤ 9223372036854775807 ∧ N ≤ cap ∧ F g ∧ w.cell? ⟨g, zl.length * 2, none⟩ = some (.string z.name) ∧ w.cell? ⟨g, zl.length * 2 + 1, none⟩ = some z.dv := by
  rcases h.shape with ⟨_, e0⟩ | ⟨g, cap, e, hc1, hc2, hc3⟩
  · simp at e0
  · subst e
    have hc := h.cell zl.length (by simp)
    have hget : (zl ++ z :: zr)[zl.length]'(by simp) = z := by simp
    rw [hget] at hc
    exact ⟨g, _, cap, rfl, by simp; omega, hc2, hc1, h.rowIn g rfl, hc⟩

set_option maxHeartbeats 1000000 in
set_option maxRecDepth 20000 in
theorem add_miss (b o : Nat) (v : Value) (zs : List Ent) (F : Nat → Prop) (n : ByteArray) (dv : Value) (data : List UInt8) (zl zr : List Ent) (w : World) (hc : w.cell? ⟨b, o, none⟩ = some v) (hfz : w.frozen? ⟨b, o, none⟩ = false) (hF : Fol w v zs F) (hbF : ¬ F b) (hh : MissE n zs zl zr)
    (hS : SlA w dv data (fun k => F k ∨ k = b)) (hm : mass (zs.map Ent.fl) + data.length ≤ 1000000000) :
    Calls Tryd.prog 62 #[.pointer (some ⟨b, o, none⟩), .string n, dv] w fun e w' => e = .returned (.tuple #[]) ∧ ∃ v' d', Fol w' v' (zl ++ ⟨n, d', data⟩ :: zr) (ext F w w') ∧ Fr F (w.setCell ⟨b, o, none⟩ v') w' := by
  obtain ⟨i, hi, hz0, hz1, hz2⟩ := info_parts Tryd.info5
  obtain ⟨aod, capd, rfl, _, _⟩ := hS.sl.shape
  have hum := used_mass (zs.map Ent.fl)
  rw [List.length_map] at hum
  have hbw : b < w.heap.size := cell_lt hc
  have HC : Hid (_) := find_miss v zs F n zl zr w hF hh (by omega)
  obtain ⟨rfl, hl, hr⟩ := hh
  have HI : Hid (∀ w1, Below w.heap.size w w1 → Calls Tryd.prog 81 #[v, .int .i64 zl.length, .slice (some ⟨w1.heap.size, 0, none⟩) 1 1] (w1.alloc (.cells #[.string n, .slice none 0 0] 99)) fun e w2 => ∃ v', e = .returned v' ∧ Fol w2 v' (zl ++ ⟨n, .slice none 0 0, []⟩ :: zr) (ext F w w2) ∧ Fr F w w2) := by
    intro w1 hb1
    have hF1 := (hF.below hb1).below ((Below.refl _ _).alloc (Nat.le_refl _) (.cells #[.string n, .slice none 0 0] 99))
    have hne : v.ownBlock ≠ some w1.heap.size := fun e => by have := hF.lt _ (hF.rowIn _ e); have := hb1.size; omega
    refine (insert_any v _ zl.length w1.heap.size _ (.string n) (.slice none 0 0) _ hF1.row (by simp) (by omega) (heap_alloc_new _ _) hne rfl rfl hF1.ones).mono ?_
    rintro e w2 ⟨v', rfl, hrow, hg, hat⟩
    refine ⟨v', rfl, ?_, ?_⟩
    · refine (hF1.inserted n (.slice none 0 0) [] hrow hg (by rcases hat with h | h; exact Or.inl h; exact Or.inr ⟨_, h, Nat.le_refl _⟩) (World.ownsRow_nil _ _ _ _) (by simp [Value.ownBlock]) (fun x _ k _ h => by simp [Value.ownBlock] at h)).mono (ext_from (by have := hb1.size; simp; omega)) ?_
      exact ext_lt hF.lt (by have h1 := hg.size; have h2 := hb1.size; rw [World.size_alloc] at h1; omega)
    · exact ((Fr.of_below (F := F) hb1).alloc _).trans (Fr.of_grown (F := F) hg (fun k hk => hF.rowIn k hk)) (fun _ _ h => h)
  have HF : Hid (_) := hF
  have HS : Hid (_) := hS
  have hshape : ∃ ao N cap, v = .slice ao N cap := by
    rcases hF.shape with ⟨rfl, _⟩ | ⟨g, cap, rfl, _⟩
    · exact ⟨_, _, _, rfl⟩
    · exact ⟨_, _, _, rfl⟩
  obtain ⟨ao, N, cap, rfl⟩ := hshape
  have hdl : data.length ≤ 1000000000 := by omega
  clear hum hl hr hS hF hm
  go_enter Tryd.func62, Tryd.ntmps62
  go_wp2_with (go_at_call 58; refine Calls.mono HC.out ?_; rintro e w1 ⟨rfl, hb1⟩; have hcw := (Fr.of_below (F := fun _ => False) hb1).cell hc id)
  (go_at_call 81; refine (HI.out w1 hb1).mono ?_; rintro e w2 ⟨v', rfl, hF2, hfr2⟩; obtain ⟨g2, N2, cap2, rfl, hk1, hk2, hk3, hk4, hk5, hk6⟩ := shape_mid hF2; have hcw2 := hfr2.cell hc hbF; have hfz2 := (hfr2.frozen hc hbF).trans hfz; have hgb : ¬ (g2 = b) := (fun e => by rcases hk4 with h | h; exact hbF (e ▸ h); omega); have HF2 : Hid (_) := hF2; have HR2 : Hid (_) := hfr2; have HS3 : Hid (SlA (w2.setCell ⟨b, o, none⟩ (.slice (some ⟨g2, 0, none⟩) N2 cap2)) (.slice aod data.length capd) data (fun k => F k ∨ k = b)) := HS.out.kept (Fr.setCell (p := ⟨b, o, none⟩) (hfr2.mono (G := fun k => F k ∨ k = b) (fun _ _ h => Or.inl h)) (fun _ => Or.inr rfl) _); clear hF2 hfr2 hk4)
  go_wp2_with (at_builtin; refine wpList_append_sl _ rfl (.tmp 38) (.tmp 39) 33 rfl 0 i Tryd.underlying33 hi hz0 hz1 hz2 (.slice none 0 0) _ [] data rfl (World.ownsRow_nil _ _ _ _) rfl HS3.out.sl (by simp; omega) (Nat.zero_le _) ?_)
  intro d' w4 hO hg hat
  have hF3 : Fol (w2.setCell ⟨b, o, none⟩ (.slice (some ⟨g2, 0, none⟩) N2 cap2)) (.slice (some ⟨g2, 0, none⟩) N2 cap2) (zl ++ ⟨n, .slice none 0 0, []⟩ :: zr) (ext F w w2) := by
    refine HF2.out.kept (Fr.one w2 b o _) (fun k hk e => ?_)
    rcases hk with hk | hk
    · exact hbF (e ▸ hk)
    · omega
  obtain ⟨hP1, hP2, hP3, hP4⟩ := hF3.put (w2 := w4) d' data (by simpa using hO) hg (by rcases hat with h | h; exact Or.inl h; exact Or.inr ⟨_, h, by rw [setCell_size]; exact Nat.le_refl _⟩)
  have HP1 : Hid (_) := hP1
  have HP2 : Hid (_) := hP2
  obtain ⟨ao4, L4, cap4, rfl⟩ := own_slice hO
  clear hP1 hP2 hO hg hat HC hcw hF3 hcw2 hfz2 hk5 hk6
  go_wp2
  go_end0
  have hs2 := HR2.out.size
  have hs3 : (w2.setCell ⟨b, o, none⟩ (.slice (some ⟨g2, 0, none⟩) N2 cap2)).heap.size = w2.heap.size := setCell_size _ _ _
  have hs4 := HP2.out.size
  refine ⟨rfl, .slice (some ⟨g2, 0, none⟩) N2 cap2, ⟨.slice ao4 L4 cap4, HP1.out.mono (fun k hk => ?_) (ext_lt HF.out.lt (by omega))⟩, ?_⟩
  · rcases hk with (hk | hk) | hk
    · exact Or.inl hk
    · exact Or.inr ⟨hk.1, by omega⟩
    · exact Or.inr ⟨by omega, hk.2⟩
  · refine (HR2.out.set_both ⟨b, o, none⟩ _).trans HP2.out (fun k hk hE => ?_)
    rcases hE with h | h
    · exact h
    · rw [setCell_size] at hk
      omega

/-- A folder's add. -/
theorem add_any (b o : Nat) (v : Value) (zs : List Ent) (F : Nat → Prop) (n : ByteArray) (dv : Value) (data : List UInt8) (w : World) (hc : w.cell? ⟨b, o, none⟩ = some v) (hfz : w.frozen? ⟨b, o, none⟩ = false) (hF : Fol w v zs F) (hbF : ¬ F b) (hs : Srt (zs.map Ent.fl))
    (hS : SlA w dv data (fun k => F k ∨ k = b)) (hm : mass (zs.map Ent.fl) + data.length ≤ 1000000000) :
    Calls Tryd.prog 62 #[.pointer (some ⟨b, o, none⟩), .string n, dv] w fun e w' => e = .returned (.tuple #[]) ∧ Chg w w' b o F (ap (zs.map Ent.fl) (.app n data)) := by
  rcases splitE n zs hs with ⟨zl, z, zr, hh⟩ | ⟨zl, zr, hh⟩
  · refine (add_hit b o v zs F n dv data zl z zr w hc hF hh hS hm).mono ?_
    rintro e w' ⟨rfl, d', h1, h2⟩
    refine ⟨rfl, v, _, h1, ?_, Fr.of_self hc h2⟩
    simp only [ap]
    rw [hh.hit.lookE, hh.hit.insE, ← hh.2.1]
    simp [Ent.fl]
  · refine (add_miss b o v zs F n dv data zl zr w hc hfz hF hbF hh hS hm).mono ?_
    rintro e w' ⟨rfl, v', d', h1, h2⟩
    refine ⟨rfl, v', _, h1, ?_, h2⟩
    simp only [ap]
    rw [hh.miss.lookE, hh.miss.delE, hh.miss.insE]
    simp [Ent.fl]
end Go.Proofs.YtnbdkojdddplkaaDoor.Dk
