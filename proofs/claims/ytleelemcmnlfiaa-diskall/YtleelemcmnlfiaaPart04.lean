/- The walks of bytes.Clone and of a folder's add. The walks of a folder's cut, remove and move. The walk of a folder's move. -/
import Derived.Test.YtleelemcmnlfiaaPart01
import Derived.Test.YtleelemcmnlfiaaPart02
import Derived.Test.YtleelemcmnlfiaaPart03
import Derived.Deep.RegionHeld
namespace Go.Proofs.Ytleelemcmnlfiaa
open Go.RowKit

/- bytes.Clone -/
theorem Try.info5 : (Try.prog.info? 5).map (fun i => (i.zero, i.size, i.bytes)) = some (some (.int .u8 0), 1, 1) := by kernel_rfl

set_option maxHeartbeats 400000 in
theorem clone_nil (w : World) :
    Calls Try.prog 34 #[.slice none 0 0] w fun e w' => e = .returned (.slice none 0 0) ∧ w' = w := by
  have he := fun w => Lib.run_eql_slice_nil (P := Try.prog) w 32 5 none 0 0 0 0 Try.underlying32
  go_enter Try.func34, Try.ntmps34
  go_wp2
  go_ret
  exact ⟨rfl, rfl⟩

set_option maxHeartbeats 400000 in
theorem clone_some (a : Addr) (cap : Nat) (bs : List UInt8) (w : World) (h : Sl w (.slice (some a) bs.length cap) bs) (hl : bs.length ≤ 140737488355328) :
    Calls Try.prog 34 #[.slice (some a) bs.length cap] w fun e w' => ∃ v', e = .returned v' ∧ w'.ownsRow w.heap.size 5 1 v' bs.length (cells8 bs) ∧ Below w.heap.size w w' := by
  obtain ⟨i, hi, hz0, hz1, hz2⟩ := info_parts Try.info5
  have hnews : ∀ (o : Obj), ∀ j u, (cells8 bs)[j]? = some u → (w.alloc o).cell? (a.add j) = some u := by
    intro o j u hj
    have hjl : j < bs.length := by have := (List.getElem?_eq_some_iff.1 hj).1; simpa [cells8_len] using this
    obtain ⟨g, off, ha, hc⟩ := (h.alloc o).cell (by omega)
    simp only [Option.some.injEq] at ha
    subst ha
    rw [Addr.add_lit, hc j hjl, ← hj, cells8_at _ _ hjl]
  have he := fun w => Lib.run_eql_slice_nil (P := Try.prog) w 32 5 (some a) bs.length cap 0 0 Try.underlying32
  go_enter Try.func34, Try.ntmps34
  go_wp2_with (at_builtin; refine wpList_append_own_at _ rfl (.tmp 5) (.tmp 6) 32 rfl w.heap.size 5 i (.int .u8 0) 1 1 Try.underlying32 hi hz0 hz1 hz2 rfl (by decide) _ 0 [] rfl (World.ownsRow_made w #[] 0 (Nat.le_refl _) (by simp [maxLen]) rfl) a bs.length cap (cells8 bs) rfl (by rw [cells8_len, Nat.mul_one]) (hnews _) (cells8_one bs) (by simp only [maxLen]; omega) (by omega) (by simp) ?_)
  intro v' w1 hown hgrow _ hat
  clear hnews he
  have hfin : w1.ownsRow w.heap.size 5 1 v' bs.length (cells8 bs) ∧ Below w.heap.size w w1 :=
    ⟨by simpa using hown, ((Below.refl _ _).alloc (Nat.le_refl _) _).grown hgrow (by simp) (fun k hk => by simp [Value.ownBlock] at hk; omega)⟩
  clear hown hgrow hat
  go_wp2
  go_ret
  exact ⟨_, rfl, hfin⟩

/-- A copy: nil of nil, else a row of its own. -/
theorem clone_any (v : Value) (bs : List UInt8) (w : World) (h : Sl w v bs) (hl : bs.length ≤ 140737488355328) :
    Calls Try.prog 34 #[v] w fun e w' => ∃ v', e = .returned v' ∧ w'.ownsRow w.heap.size 5 1 v' bs.length (cells8 bs) ∧ Below w.heap.size w w' := by
  obtain ⟨ao, cap, rfl, h1, h2, h3, h4⟩ := id h
  cases ao with
  | none =>
    have hc := h3 rfl
    have e : bs = [] := List.eq_nil_of_length_eq_zero (by omega)
    subst e
    subst hc
    exact (clone_nil w).mono fun _ _ ⟨he, hw⟩ => ⟨_, he, by subst hw; exact World.ownsRow_nil _ _ _ _, by subst hw; exact Below.refl _ _⟩
  | some a => exact clone_some a cap bs w h hl

theorem sl_news {w : World} {a : Addr} {cap : Nat} {bs : List UInt8} (h : Sl w (.slice (some a) bs.length cap) bs) : ∀ j u, (cells8 bs)[j]? = some u → w.cell? (a.add j) = some u := by
  intro j u hj
  have hjl : j < bs.length := by have := (List.getElem?_eq_some_iff.1 hj).1; simpa [cells8_len] using this
  obtain ⟨g, off, ha, hc⟩ := h.cell (by omega)
  simp only [Option.some.injEq] at ha
  subst ha
  rw [Addr.add_lit, hc j hjl, ← hj, cells8_at _ _ hjl]

/-- 'append' of bytes onto a slice of the call's own, whatever slice the bytes come from. -/
theorem wpList_append_sl {P : Program} (w : World) {ops : Array Oper} {rest : List Oper} {o : Oper} {a : Act} {Q : Exit → Act → World → Prop} (hgd : o.guard = none) (s x : Operand) (t : TypeId)
    (ho : o.op = .call { callee := .builtin .append, args := #[s, x], argTypes := #[t, t] }) (base : Nat) (i : TypeInfo) (ht : P.underlying t = some (.slice 5)) (hi : P.info? 5 = some i) (hz : i.zero = some (.int .u8 0)) (hsize : i.size = 1) (hby : i.bytes = 1)
    (v vx : Value) (bs tx : List UInt8) (hs : a.eval s = v) (hown : w.ownsRow base 5 1 v bs.length (cells8 bs)) (hx : a.eval x = vx) (hS : Sl w vx tx) (hl : bs.length + tx.length ≤ 140737488355328) (hbase : base ≤ w.heap.size)
    (h : ∀ v' w', w'.ownsRow base 5 1 v' (bs ++ tx).length (cells8 (bs ++ tx)) → w.grownBy w' v.ownBlock → (v'.ownBlock = v.ownBlock ∨ v'.ownBlock = some w.heap.size) → wpList P ops Q rest (a.put o.dst v') w') :
    wpList P ops Q (o :: rest) a w := by
  obtain ⟨ao, cap, rfl, h1, h2, h3, h4⟩ := id hS
  cases ao with
  | some ad =>
    refine wpList_append_own_at w hgd s x t ho base 5 i (.int .u8 0) 1 1 ht hi hz hsize hby rfl (by decide) v bs.length (cells8 bs) hs hown ad tx.length cap (cells8 tx) hx (by rw [cells8_len, Nat.mul_one]) (sl_news hS) (cells8_one tx) (by simp only [maxLen]; omega) (by omega) hbase ?_
    intro v' w' g1 g2 _ g4
    exact h v' w' (by rw [List.length_append, cells8_append]; exact g1) g2 g4
  | none =>
    have hc := h3 rfl
    have e : tx = [] := List.eq_nil_of_length_eq_zero (by omega)
    subst e hc
    refine wpList_append_own_none hgd s x t ho base 5 i 1 ht hi v bs.length (cells8 bs) hs hown hx ?_
    exact h v w (by rw [List.append_nil]; exact hown) (grown_refl _ _) (Or.inl rfl)


/-- New cells read as their bytes. -/
theorem sl_new (w : World) (C : Array Value) (bs : List UInt8) (T : TypeId) (f : Nat × Nat) (hC : C.toList = cells8 bs) (hl : bs.length ≤ 1000) : Sl (w.alloc (.cells C T f)) (.slice (some ⟨w.heap.size, 0, none⟩) bs.length bs.length) bs :=
  ⟨_, _, rfl, Nat.le_refl _, by simp [maxLen]; omega, fun e => by simp at e, fun _ => ⟨_, _, rfl, fun j hj => by
    rw [cell_of_row _ _ _ _ _ _ (heap_alloc_new _ _), Nat.zero_add, ← cells8_at bs j hj, ← hC]; simp⟩⟩


set_option maxHeartbeats 1000000 in
set_option maxRecDepth 20000 in
theorem add_hit (b o : Nat) (v : Value) (zs : List Ent) (F : Nat → Prop) (n : ByteArray) (dv : Value) (data : List UInt8) (zl : List Ent) (z : Ent) (zr : List Ent) (w : World) (hc : w.cell? ⟨b, o, none⟩ = some v) (hF : Fol w v zs F) (hh : HitE n zs zl z zr)
    (hS : SlA w dv data (fun k => F k ∨ k = b)) (hm : mass (zs.map Ent.fl) + data.length ≤ 1000000000) :
    Calls Try.prog 47 #[.pointer (some ⟨b, o, none⟩), .string n, dv] w fun e w' => e = .returned (.tuple #[]) ∧ ∃ d', Fol w' v (zl ++ ⟨z.name, d', z.bs ++ data⟩ :: zr) (ext F w w') ∧ Fr F w w' := by
  obtain ⟨i, hi, hz0, hz1, hz2⟩ := info_parts Try.info5
  obtain ⟨aod, capd, rfl, _, _⟩ := hS.sl.shape
  have hum := used_mass (zs.map Ent.fl)
  rw [List.length_map] at hum
  have HC : Hid (_) := find_hit v zs F n zl z zr w hF hh (by omega)
  obtain ⟨rfl, hn, hl, hr⟩ := hh
  have hzb : z.bs.length ≤ mass ((zl ++ z :: zr).map Ent.fl) := by
    rw [List.map_append, mass_append, List.map_cons, mass_cons]
    simp only [Ent.fl]
    omega
  rcases hF.shape with ⟨_, e0⟩ | ⟨g, cap, rfl, hc1, hc2, hc3⟩
  · simp at e0
  have HF : Hid (_) := hF
  have HS : Hid (_) := hS
  have hlen : zl.length < (zl ++ z :: zr).length := by simp
  have hlen' : (zl.length : Int) < ((zl ++ z :: zr).length : Int) := by omega
  have hget : (zl ++ z :: zr)[zl.length] = z := by simp
  have hdat := hF.data z (by simp)
  obtain ⟨N, HN⟩ : ∃ N, Hid (N = (zl ++ z :: zr).length) := ⟨(zl ++ z :: zr).length, (rfl : _ = _)⟩
  rw [← HN.out] at hc hlen' HC HF hc1 hF ⊢
  have hc2' : cap ≤ 9223372036854775807 := hc2
  clear hum hl hr hS hF
  go_enter Try.func47, Try.ntmps47
  go_wp2_with (first
    | (go_at_call 35; refine Calls.mono HC.out ?_; rintro e w1 ⟨rfl, hb1⟩; have hcw := (Fr.of_below (F := fun _ => False) hb1).cell hc id; obtain ⟨c0, c1⟩ := (HF.out.below hb1).cell zl.length hlen; rw [hget] at c0 c1)
    | (at_builtin; refine wpList_append_sl _ rfl (.tmp 38) (.tmp 39) 32 rfl 0 i Try.underlying32 hi hz0 hz1 hz2 z.dv _ z.bs data rfl (own_kept hdat (Fr.of_below (F := fun _ => False) hb1) (fun _ _ => id)) rfl (HS.out.kept (Fr.of_below hb1)).sl (by omega) (Nat.zero_le _) ?_))
  intro d' w2 hO hg hat
  rw [← List.length_append] at hO
  obtain ⟨hP1, hP2, hP3, hP4⟩ := (HF.out.below hb1).put (w2 := w2) d' (z.bs ++ data) hO hg (by rcases hat with h | h; exact Or.inl h; exact Or.inr ⟨_, h, Nat.le_refl _⟩)
  have HP1 : Hid (_) := hP1
  have HP2 : Hid (_) := hP2
  obtain ⟨ao2, L2, cap2, rfl⟩ := own_slice hO
  clear hP1 hP2 hO hg hat HC c0 c1 hcw
  go_wp2
  go_end0
  refine ⟨rfl, .slice ao2 L2 cap2, ?_, ?_⟩
  · exact HP1.out.mono (ext_from hb1.size) (ext_lt (fun k hk => HF.out.lt k hk) (Nat.le_trans hb1.size HP2.out.size))
  · exact (Fr.of_below hb1).trans HP2.out (fun _ _ h => h)

theorem shape_mid {w : World} {v : Value} {zl : List Ent} {z : Ent} {zr : List Ent} {F : Nat → Prop} (h : Fol w v (zl ++ z :: zr) F) : ∃ g N cap, v = .slice (some ⟨g, 0, none⟩) N cap ∧ (zl.length : Int) < (N : Int) ∧ cap ≤ 9223372036854775807 ∧ N ≤ cap ∧ F g ∧ w.cell? ⟨g, zl.length * 2, none⟩ = some (.string z.name) ∧ w.cell? ⟨g, zl.length * 2 + 1, none⟩ = some z.dv := by
  rcases h.shape with ⟨_, e0⟩ | ⟨g, cap, e, hc1, hc2, hc3⟩
  · simp at e0
  · subst e
    have hc := h.cell zl.length (by simp)
    have hget : (zl ++ z :: zr)[zl.length]'(by simp) = z := by simp
    rw [hget] at hc
    exact ⟨g, _, cap, rfl, by simp; omega, hc2, hc1, h.rowIn g rfl, hc⟩

set_option maxHeartbeats 1000000 in
set_option maxRecDepth 20000 in
theorem add_miss (b o : Nat) (v : Value) (zs : List Ent) (F : Nat → Prop) (n : ByteArray) (dv : Value) (data : List UInt8) (zl zr : List Ent) (w : World) (hc : w.cell? ⟨b, o, none⟩ = some v) (hfz : w.frozen? ⟨b, o, none⟩ = false) (hF : Fol w v zs F) (hbF : ¬ F b) (hh : MissE n zs zl zr)
    (hS : SlA w dv data (fun k => F k ∨ k = b)) (hm : mass (zs.map Ent.fl) + data.length ≤ 1000000000) :
    Calls Try.prog 47 #[.pointer (some ⟨b, o, none⟩), .string n, dv] w fun e w' => e = .returned (.tuple #[]) ∧ ∃ v' d', Fol w' v' (zl ++ ⟨n, d', data⟩ :: zr) (ext F w w') ∧ Fr F (w.setCell ⟨b, o, none⟩ v') w' := by
  obtain ⟨i, hi, hz0, hz1, hz2⟩ := info_parts Try.info5
  obtain ⟨aod, capd, rfl, _, _⟩ := hS.sl.shape
  have hum := used_mass (zs.map Ent.fl)
  rw [List.length_map] at hum
  have hbw : b < w.heap.size := cell_lt hc
  have HC : Hid (_) := find_miss v zs F n zl zr w hF hh (by omega)
  obtain ⟨rfl, hl, hr⟩ := hh
  have HI : Hid (∀ w1, Below w.heap.size w w1 → Calls Try.prog 54 #[v, .int .i64 zl.length, .slice (some ⟨w1.heap.size, 0, none⟩) 1 1] (w1.alloc (.cells #[.string n, .slice none 0 0] 72)) fun e w2 => ∃ v', e = .returned v' ∧ Fol w2 v' (zl ++ ⟨n, .slice none 0 0, []⟩ :: zr) (ext F w w2) ∧ Fr F w w2) := by
    intro w1 hb1
    have hF1 := (hF.below hb1).below ((Below.refl _ _).alloc (Nat.le_refl _) (.cells #[.string n, .slice none 0 0] 72))
    have hne : v.ownBlock ≠ some w1.heap.size := fun e => by have := hF.lt _ (hF.rowIn _ e); have := hb1.size; omega
    refine (insert_any v _ zl.length w1.heap.size _ (.string n) (.slice none 0 0) _ hF1.row (by simp) (by omega) (heap_alloc_new _ _) hne rfl rfl hF1.ones).mono ?_
    rintro e w2 ⟨v', rfl, hrow, hg, hat⟩
    refine ⟨v', rfl, ?_, ?_⟩
    · refine (hF1.inserted n (.slice none 0 0) [] hrow hg (by rcases hat with h | h; exact Or.inl h; exact Or.inr ⟨_, h, Nat.le_refl _⟩) (World.ownsRow_nil _ _ _ _) (by simp [Value.ownBlock]) (fun x _ k _ h => by simp [Value.ownBlock] at h)).mono (ext_from (by have := hb1.size; simp; omega)) ?_
      exact ext_lt hF.lt (by have h1 := hg.size; have h2 := hb1.size; rw [World.size_alloc] at h1; omega)
    · exact ((Fr.of_below (F := F) hb1).alloc _).trans (Fr.of_grown (F := F) hg (fun k hk => hF.rowIn k hk)) (fun _ _ h => h)
  have HF : Hid (_) := hF
  have HS : Hid (_) := hS
  have hshape : ∃ ao N cap, v = .slice ao N cap := by
    rcases hF.shape with ⟨rfl, _⟩ | ⟨g, cap, rfl, _⟩
    · exact ⟨_, _, _, rfl⟩
    · exact ⟨_, _, _, rfl⟩
  obtain ⟨ao, N, cap, rfl⟩ := hshape
  have hdl : data.length ≤ 1000000000 := by omega
  clear hum hl hr hS hF hm
  go_enter Try.func47, Try.ntmps47
  go_wp2_with (go_at_call 35; refine Calls.mono HC.out ?_; rintro e w1 ⟨rfl, hb1⟩; have hcw := (Fr.of_below (F := fun _ => False) hb1).cell hc id)
  (go_at_call 54; refine (HI.out w1 hb1).mono ?_; rintro e w2 ⟨v', rfl, hF2, hfr2⟩; obtain ⟨g2, N2, cap2, rfl, hk1, hk2, hk3, hk4, hk5, hk6⟩ := shape_mid hF2; have hcw2 := hfr2.cell hc hbF; have hfz2 := (hfr2.frozen hc hbF).trans hfz; have hgb : ¬ (g2 = b) := (fun e => by rcases hk4 with h | h; exact hbF (e ▸ h); omega); have HF2 : Hid (_) := hF2; have HR2 : Hid (_) := hfr2; have HS3 : Hid (SlA (w2.setCell ⟨b, o, none⟩ (.slice (some ⟨g2, 0, none⟩) N2 cap2)) (.slice aod data.length capd) data (fun k => F k ∨ k = b)) := HS.out.kept (Fr.setCell (p := ⟨b, o, none⟩) (hfr2.mono (G := fun k => F k ∨ k = b) (fun _ _ h => Or.inl h)) (fun _ => Or.inr rfl) _); clear hF2 hfr2 hk4)
  go_wp2_with (at_builtin; refine wpList_append_sl _ rfl (.tmp 38) (.tmp 39) 32 rfl 0 i Try.underlying32 hi hz0 hz1 hz2 (.slice none 0 0) _ [] data rfl (World.ownsRow_nil _ _ _ _) rfl HS3.out.sl (by simp; omega) (Nat.zero_le _) ?_)
  intro d' w4 hO hg hat
  have hF3 : Fol (w2.setCell ⟨b, o, none⟩ (.slice (some ⟨g2, 0, none⟩) N2 cap2)) (.slice (some ⟨g2, 0, none⟩) N2 cap2) (zl ++ ⟨n, .slice none 0 0, []⟩ :: zr) (ext F w w2) := by
    refine HF2.out.kept (Fr.one w2 b o _) (fun k hk e => ?_)
    rcases hk with hk | hk
    · exact hbF (e ▸ hk)
    · omega
  obtain ⟨hP1, hP2, hP3, hP4⟩ := hF3.put (w2 := w4) d' data (by simpa using hO) hg (by rcases hat with h | h; exact Or.inl h; exact Or.inr ⟨_, h, by rw [setCell_size]; exact Nat.le_refl _⟩)
  have HP1 : Hid (_) := hP1
  have HP2 : Hid (_) := hP2
  obtain ⟨ao4, L4, cap4, rfl⟩ := own_slice hO
  clear hP1 hP2 hO hg hat HC hcw hF3 hcw2 hfz2 hk5 hk6
  go_wp2
  go_end0
  have hs2 := HR2.out.size
  have hs3 : (w2.setCell ⟨b, o, none⟩ (.slice (some ⟨g2, 0, none⟩) N2 cap2)).heap.size = w2.heap.size := setCell_size _ _ _
  have hs4 := HP2.out.size
  refine ⟨rfl, .slice (some ⟨g2, 0, none⟩) N2 cap2, ⟨.slice ao4 L4 cap4, HP1.out.mono (fun k hk => ?_) (ext_lt HF.out.lt (by omega))⟩, ?_⟩
  · rcases hk with (hk | hk) | hk
    · exact Or.inl hk
    · exact Or.inr ⟨hk.1, by omega⟩
    · exact Or.inr ⟨by omega, hk.2⟩
  · refine (HR2.out.set_both ⟨b, o, none⟩ _).trans HP2.out (fun k hk hE => ?_)
    rcases hE with h | h
    · exact h
    · rw [setCell_size] at hk
      omega

/-- A folder's add. -/
theorem add_any (b o : Nat) (v : Value) (zs : List Ent) (F : Nat → Prop) (n : ByteArray) (dv : Value) (data : List UInt8) (w : World) (hc : w.cell? ⟨b, o, none⟩ = some v) (hfz : w.frozen? ⟨b, o, none⟩ = false) (hF : Fol w v zs F) (hbF : ¬ F b) (hs : Srt (zs.map Ent.fl))
    (hS : SlA w dv data (fun k => F k ∨ k = b)) (hm : mass (zs.map Ent.fl) + data.length ≤ 1000000000) :
    Calls Try.prog 47 #[.pointer (some ⟨b, o, none⟩), .string n, dv] w fun e w' => e = .returned (.tuple #[]) ∧ Chg w w' b o F (ap (zs.map Ent.fl) (.app n data)) := by
  rcases splitE n zs hs with ⟨zl, z, zr, hh⟩ | ⟨zl, zr, hh⟩
  · refine (add_hit b o v zs F n dv data zl z zr w hc hF hh hS hm).mono ?_
    rintro e w' ⟨rfl, d', h1, h2⟩
    refine ⟨rfl, v, _, h1, ?_, Fr.of_self hc h2⟩
    simp only [ap]
    rw [hh.hit.lookE, hh.hit.insE, ← hh.2.1]
    simp [Ent.fl]
  · refine (add_miss b o v zs F n dv data zl zr w hc hfz hF hbF hh hS hm).mono ?_
    rintro e w' ⟨rfl, v', d', h1, h2⟩
    refine ⟨rfl, v', _, h1, ?_, h2⟩
    simp only [ap]
    rw [hh.miss.lookE, hh.miss.delE, hh.miss.insE]
    simp [Ent.fl]
end Go.Proofs.Ytleelemcmnlfiaa
namespace Go.Proofs.Ytleelemcmnlfiaa
open Go.RowKit

theorem below_cell {w w1 : World} {p : Addr} {u : Value} (hb : Below w.heap.size w w1) (hc : w.cell? p = some u) : w1.cell? p = some u := (Fr.of_below (F := fun _ => False) hb).cell hc id
theorem below_frozen {w w1 : World} {p : Addr} {u : Value} (hb : Below w.heap.size w w1) (hc : w.cell? p = some u) : w1.frozen? p = w.frozen? p := (Fr.of_below (F := fun _ => False) hb).frozen hc id
theorem own_cut {w : World} {d : Value} {bs : List UInt8} (h : w.ownsRow 0 5 1 d bs.length (cells8 bs)) (k : Nat) (hk : k ≤ bs.length) :
    (d = .slice none 0 0 ∧ k = 0 ∧ bs = []) ∨ ∃ g cap, d = .slice (some ⟨g, 0, none⟩) bs.length cap ∧ (k : Int) ≤ (cap : Int) ∧ w.ownsRow 0 5 1 (.slice (some ⟨g, 0, none⟩) k cap) (bs.take k).length (cells8 (bs.take k)) := by
  rcases h.2 with ⟨rfl, h0⟩ | ⟨g, cap, cur, rfl, hb, hg, hn, hm, hs, ht⟩
  · exact Or.inl ⟨rfl, by omega, List.eq_nil_of_length_eq_zero h0⟩
  · refine Or.inr ⟨g, cap, rfl, by omega, ?_⟩
    have hl : (bs.take k).length = k := by simp; omega
    rw [hl]
    refine ⟨by rw [cells8_len, hl, Nat.mul_one], Or.inr ⟨g, cap, cur, rfl, hb, hg, by omega, hm, hs, ?_⟩⟩
    rw [Nat.mul_one] at ht ⊢
    have := congrArg (List.take k) ht
    rw [List.take_take, Nat.min_eq_left hk] at this
    rw [this]
    simp [cells8, List.map_take]

set_option maxHeartbeats 1000000 in
set_option maxRecDepth 20000 in
theorem cut_hit (b o : Nat) (v : Value) (zs : List Ent) (F : Nat → Prop) (n : ByteArray) (k : Nat) (zl : List Ent) (z : Ent) (zr : List Ent) (w : World) (hc : w.cell? ⟨b, o, none⟩ = some v) (hF : Fol w v zs F) (hh : HitE n zs zl z zr) (hk : k ≤ z.bs.length) (hm : mass (zs.map Ent.fl) ≤ 1000000000) :
    Calls Try.prog 48 #[.pointer (some ⟨b, o, none⟩), .string n, .int .i64 k] w fun e w' => e = .returned (.tuple #[]) ∧ ∃ d', Fol w' v (zl ++ ⟨z.name, d', z.bs.take k⟩ :: zr) (ext F w w') ∧ Fr F w w' := by
  have hum := used_mass (zs.map Ent.fl)
  rw [List.length_map] at hum
  have HC : Hid (_) := find_hit v zs F n zl z zr w hF hh (by omega)
  obtain ⟨rfl, hn, hl, hr⟩ := hh
  have hzb : z.bs.length ≤ mass ((zl ++ z :: zr).map Ent.fl) := by
    rw [List.map_append, mass_append, List.map_cons, mass_cons]
    simp only [Ent.fl]
    omega
  have hk63 : z.bs.length ≤ 1000000000 := by omega
  have HF : Hid (_) := hF
  have hdat := hF.data z (by simp)
  have hput : ∀ (w1 : World) (d' : Value), Below w.heap.size w w1 → w1.ownsRow 0 5 1 d' (z.bs.take k).length (cells8 (z.bs.take k)) → d'.ownBlock = z.dv.ownBlock → ∀ g N cap, v = .slice (some ⟨g, 0, none⟩) N cap →
      Hid (Fol (w1.setCell ⟨g, zl.length * 2 + 1, none⟩ d') v (zl ++ ⟨z.name, d', z.bs.take k⟩ :: zr) (ext F w (w1.setCell ⟨g, zl.length * 2 + 1, none⟩ d')) ∧ Fr F w (w1.setCell ⟨g, zl.length * 2 + 1, none⟩ d')) ∧ w1.frozen? ⟨g, zl.length * 2 + 1, none⟩ = false := by
    intro w1 d' hb1 hO hat g N cap hv
    subst hv
    obtain ⟨hP1, hP2, hP3, hP4⟩ := (hF.below hb1).put (w2 := w1) d' (z.bs.take k) hO (grown_refl _ _) (Or.inl hat)
    exact ⟨⟨hP1.mono (ext_from hb1.size) (ext_lt hF.lt (Nat.le_trans hb1.size hP2.size)), (Fr.of_below hb1).trans hP2 (fun _ _ h => h)⟩, hP4⟩
  have HP : Hid (_) := hput
  clear hput
  obtain ⟨g, N, cap, rfl, hk1, hk2, hk3, hk4, hk5, hk6⟩ := shape_mid hF
  rcases own_cut hdat k hk with ⟨hd, h0, hbs⟩ | ⟨gd, capd, hd, hkc, hcut⟩
  · subst h0
    rw [hd] at hk6
    have HQ : Hid (∀ w1, Below w.heap.size w w1 → w1.ownsRow 0 5 1 (.slice none 0 0) (z.bs.take 0).length (cells8 (z.bs.take 0))) := fun w1 _ => by rw [List.take_zero]; exact World.ownsRow_nil _ _ _ _
    have HE : Hid ((Value.slice none 0 0).ownBlock = z.dv.ownBlock) := by show _ = _; rw [hd]
    clear hum hl hr hF hdat hd hbs
    go_enter Try.func48, Try.ntmps48
    go_wp2_with (go_at_call 35; refine Calls.mono HC.out ?_; rintro e w1 ⟨rfl, hb1⟩; have hcw := below_cell hb1 hc; have c1 := below_cell hb1 hk6; obtain ⟨HX, hfz1⟩ := HP.out w1 (.slice none 0 0) hb1 (HQ.out w1 hb1) HE.out g N cap rfl)
    go_end0
    exact ⟨rfl, _, HX.out.1, HX.out.2⟩
  · rw [hd] at hk6
    have HQ : Hid (∀ w1, Below w.heap.size w w1 → w1.ownsRow 0 5 1 (.slice (some ⟨gd, 0, none⟩) k capd) (z.bs.take k).length (cells8 (z.bs.take k))) := fun w1 hb => own_kept hcut (Fr.of_below (F := fun _ => False) hb) (fun _ _ => id)
    have HE : Hid ((Value.slice (some ⟨gd, 0, none⟩) k capd).ownBlock = z.dv.ownBlock) := by show _ = _; rw [hd]; rfl
    generalize hzL : z.bs.length = zL at *
    clear hum hl hr hF hdat hd hcut
    go_enter Try.func48, Try.ntmps48
    go_wp2_with (go_at_call 35; refine Calls.mono HC.out ?_; rintro e w1 ⟨rfl, hb1⟩; have hcw := below_cell hb1 hc; have c1 := below_cell hb1 hk6; obtain ⟨HX, hfz1⟩ := HP.out w1 (.slice (some ⟨gd, 0, none⟩) k capd) hb1 (HQ.out w1 hb1) HE.out g N cap rfl)
    go_end0
    exact ⟨rfl, _, HX.out.1, HX.out.2⟩

set_option maxHeartbeats 1000000 in
theorem cut_miss (b o : Nat) (v : Value) (zs : List Ent) (F : Nat → Prop) (n : ByteArray) (k : Nat) (zl zr : List Ent) (w : World) (hc : w.cell? ⟨b, o, none⟩ = some v) (hF : Fol w v zs F) (hh : MissE n zs zl zr) (hm : zs.length ≤ 1000000000) :
    Calls Try.prog 48 #[.pointer (some ⟨b, o, none⟩), .string n, .int .i64 k] w fun e w' => e = .returned (.tuple #[]) ∧ Below w.heap.size w w' := by
  have HC : Hid (_) := find_miss v zs F n zl zr w hF hh hm
  obtain ⟨ao, N, cap, rfl⟩ := own_slice hF.row
  clear hF hh
  go_enter Try.func48, Try.ntmps48
  go_wp2_with (go_at_call 35; refine Calls.mono HC.out ?_; rintro e w1 ⟨rfl, hb1⟩)
  go_end0
  exact ⟨rfl, hb1⟩

theorem cut_any (b o : Nat) (v : Value) (zs : List Ent) (F : Nat → Prop) (n : ByteArray) (k : Nat) (w : World) (hc : w.cell? ⟨b, o, none⟩ = some v) (hF : Fol w v zs F) (hs : Srt (zs.map Ent.fl)) (hk : Okc (zs.map Ent.fl) (.cut n k)) (hm : mass (zs.map Ent.fl) ≤ 1000000000) :
    Calls Try.prog 48 #[.pointer (some ⟨b, o, none⟩), .string n, .int .i64 k] w fun e w' => e = .returned (.tuple #[]) ∧ Chg w w' b o F (ap (zs.map Ent.fl) (.cut n k)) := by
  have hum := used_mass (zs.map Ent.fl)
  rw [List.length_map] at hum
  rcases splitE n zs hs with ⟨zl, z, zr, hh⟩ | ⟨zl, zr, hh⟩
  · refine (cut_hit b o v zs F n k zl z zr w hc hF hh (hk _ hh.hit.lookE) hm).mono ?_
    rintro e w' ⟨rfl, d', h1, h2⟩
    refine ⟨rfl, v, _, h1, ?_, Fr.of_self hc h2⟩
    simp only [ap]
    rw [hh.hit.lookE]
    simp only
    rw [hh.hit.insE, ← hh.2.1]
    simp [Ent.fl]
  · refine (cut_miss b o v zs F n k zl zr w hc hF hh (by omega)).mono ?_
    rintro e w' ⟨rfl, h1⟩
    refine ⟨rfl, v, zs, (hF.below h1).mono (fun _ h => Or.inl h) (ext_lt hF.lt h1.size), ?_, Fr.of_self hc (Fr.of_below h1)⟩
    simp only [ap]
    rw [hh.miss.lookE]

set_option maxHeartbeats 1000000 in
set_option maxRecDepth 20000 in
theorem remove_hit (b o : Nat) (v : Value) (zs : List Ent) (F : Nat → Prop) (n : ByteArray) (zl : List Ent) (z : Ent) (zr : List Ent) (w : World) (hc : w.cell? ⟨b, o, none⟩ = some v) (hfz : w.frozen? ⟨b, o, none⟩ = false) (hF : Fol w v zs F) (hbF : ¬ F b) (hh : HitE n zs zl z zr) (hm : zs.length ≤ 1000000000) :
    Calls Try.prog 49 #[.pointer (some ⟨b, o, none⟩), .string n] w fun e w' => e = .returned (.tuple #[]) ∧ ∃ v', Fol w' v' (zl ++ zr) F ∧ v'.ownBlock = v.ownBlock ∧ Fr (fun k => v.ownBlock = some k) (w.setCell ⟨b, o, none⟩ v') w' := by
  have HC : Hid (_) := find_hit v zs F n zl z zr w hF hh hm
  obtain ⟨rfl, hn, hl, hr⟩ := hh
  have HD : Hid (∀ w1, Below w.heap.size w w1 → Calls Try.prog 55 #[v, .int .i64 zl.length, .int .i64 ((zl.length : Int) + 1)] w1 fun e w2 => ∃ v', e = .returned v' ∧ Fol w2 v' (zl ++ zr) F ∧ v'.ownBlock = v.ownBlock ∧ Fr (fun k => v.ownBlock = some k) w w2) := by
    intro w1 hb1
    have hF1 := hF.below hb1
    refine (delete_any v _ zl.length _ w1 hF1.row (by simp) hm hF1.ones).mono ?_
    rintro e w2 ⟨v', rfl, hrow, hg, hat⟩
    exact ⟨v', rfl, hF1.deleted hrow hg hat, hat, (Fr.of_below hb1).trans (Fr.of_grown hg (fun k hk => hk)) (fun _ _ h => h)⟩
  have hbv : ¬ v.ownBlock = some b := fun e => hbF (hF.rowIn b e)
  have HV : Hid (¬ v.ownBlock = some b) := hbv
  have hzl : zl.length ≤ 1000000000 := by simp at hm; omega
  obtain ⟨ao, N, cap, rfl⟩ := own_slice hF.row
  have HF : Hid (_) := hF
  clear hl hr hF hm hbv
  go_enter Try.func49, Try.ntmps49
  go_wp2_with (go_at_call 35; refine Calls.mono HC.out ?_; rintro e w1 ⟨rfl, hb1⟩; have hcw := below_cell hb1 hc)
  (go_at_call 55; refine (HD.out w1 hb1).mono ?_; rintro e w2 ⟨v', rfl, hF2, hat2, hfr2⟩; obtain ⟨ao2, N2, cap2, rfl⟩ := own_slice hF2.row; have hcw2 := hfr2.cell hc HV.out; have hfz2 := (hfr2.frozen hc HV.out).trans hfz; have HF2 : Hid (_) := hF2; have HR2 : Hid (_) := hfr2; have HA2 : Hid (_) := hat2; clear hF2 hfr2 hat2)
  go_wp2
  go_end0
  refine ⟨rfl, .slice ao2 N2 cap2, HF2.out.kept (Fr.one w2 b o _) (fun k hk e => hbF (e ▸ hk)), HA2.out, HR2.out.set_both _ _⟩

set_option maxHeartbeats 1000000 in
theorem remove_miss (b o : Nat) (v : Value) (zs : List Ent) (F : Nat → Prop) (n : ByteArray) (zl zr : List Ent) (w : World) (hc : w.cell? ⟨b, o, none⟩ = some v) (hF : Fol w v zs F) (hh : MissE n zs zl zr) (hm : zs.length ≤ 1000000000) :
    Calls Try.prog 49 #[.pointer (some ⟨b, o, none⟩), .string n] w fun e w' => e = .returned (.tuple #[]) ∧ Below w.heap.size w w' := by
  have HC : Hid (_) := find_miss v zs F n zl zr w hF hh hm
  obtain ⟨ao, N, cap, rfl⟩ := own_slice hF.row
  clear hF hh
  go_enter Try.func49, Try.ntmps49
  go_wp2_with (go_at_call 35; refine Calls.mono HC.out ?_; rintro e w1 ⟨rfl, hb1⟩)
  go_end0
  exact ⟨rfl, hb1⟩

/-- A folder's remove: the name is not there any more, and the other files are as they were. -/
theorem remove_all (b o : Nat) (v : Value) (zs : List Ent) (F : Nat → Prop) (n : ByteArray) (w : World) (hc : w.cell? ⟨b, o, none⟩ = some v) (hfz : w.frozen? ⟨b, o, none⟩ = false) (hF : Fol w v zs F) (hbF : ¬ F b) (hs : Srt (zs.map Ent.fl)) (hm : zs.length ≤ 1000000000) :
    Calls Try.prog 49 #[.pointer (some ⟨b, o, none⟩), .string n] w fun e w' => e = .returned (.tuple #[]) ∧ ∃ v' zl zr, MissE n (zl ++ zr) zl zr ∧ (∀ x ∈ zl ++ zr, x ∈ zs) ∧ (zl ++ zr).length ≤ zs.length ∧ (zl ++ zr).map Ent.fl = del n (zs.map Ent.fl) ∧ Fol w' v' (zl ++ zr) F ∧ v'.ownBlock = v.ownBlock ∧ Fr (fun k => v.ownBlock = some k) (w.setCell ⟨b, o, none⟩ v') w' ∧ (∀ z ∈ zs, z.name = n → ∀ x ∈ zl ++ zr, Apart x z) := by
  rcases splitE n zs hs with ⟨zl, z, zr, hh⟩ | ⟨zl, zr, hh⟩
  · refine (remove_hit b o v zs F n zl z zr w hc hfz hF hbF hh hm).mono ?_
    rintro e w' ⟨rfl, v', h1, h2, h3⟩
    have hd := hh.hit.delE
    obtain ⟨rfl, hn, hl, hr⟩ := hh
    have hap := List.pairwise_append.1 hF.apart
    have hap2 := List.pairwise_cons.1 hap.2.1
    refine ⟨rfl, v', zl, zr, ⟨rfl, hl, hr⟩, fun x hx => ?_, by simp, by rw [hd]; simp, h1, h2, h3, fun y hy hyn x hx => ?_⟩
    · rcases List.mem_append.1 hx with hx | hx <;> simp [hx]
    · have hyz : y = z := by
        rcases List.mem_append.1 hy with hy | hy
        · exact absurd hyn (nlt_ne (hl y hy))
        · rcases List.mem_cons.1 hy with rfl | hy
          · rfl
          · exact absurd hyn (nlt_ne (hr y hy)).symm
      subst hyz
      rcases List.mem_append.1 hx with hx | hx
      · exact hap.2.2 x hx y (by simp)
      · exact (hap2.1 x hx).symm
  · refine (remove_miss b o v zs F n zl zr w hc hF hh hm).mono ?_
    rintro e w' ⟨rfl, h1⟩
    have hd := hh.miss.delE
    have hh' := hh
    obtain ⟨rfl, hl, hr⟩ := hh
    refine ⟨rfl, v, zl, zr, hh', fun _ h => h, Nat.le_refl _, hd.symm, hF.below h1, rfl, Fr.of_self hc (Fr.of_below h1), fun y hy hyn x hx => ?_⟩
    exfalso
    rcases List.mem_append.1 hy with hy | hy
    · exact absurd hyn (nlt_ne (hl y hy))
    · exact absurd hyn (nlt_ne (hr y hy)).symm
theorem remove_any (b o : Nat) (v : Value) (zs : List Ent) (F : Nat → Prop) (n : ByteArray) (w : World) (hc : w.cell? ⟨b, o, none⟩ = some v) (hfz : w.frozen? ⟨b, o, none⟩ = false) (hF : Fol w v zs F) (hbF : ¬ F b) (hs : Srt (zs.map Ent.fl)) (hm : zs.length ≤ 1000000000) :
    Calls Try.prog 49 #[.pointer (some ⟨b, o, none⟩), .string n] w fun e w' => e = .returned (.tuple #[]) ∧ Chg w w' b o F (ap (zs.map Ent.fl) (.rem n)) := by
  refine (remove_all b o v zs F n w hc hfz hF hbF hs hm).mono ?_
  rintro e w' ⟨rfl, v', zl, zr, h1, h2, h3, h4, h5, h6, h7, h8⟩
  exact ⟨rfl, v', _, h5.mono (fun _ h => Or.inl h) (ext_lt hF.lt (by have := h7.size; rwa [setCell_size] at this)), h4, h7.mono (fun k _ hk => hF.rowIn k hk)⟩
end Go.Proofs.Ytleelemcmnlfiaa
namespace Go.Proofs.Ytleelemcmnlfiaa
open Go.RowKit

theorem toList_data (a : ByteArray) : a.toList = a.data.toList := ByteArray.toList_eq a
theorem names_ne {a b : ByteArray} (h : a ≠ b) : (a.toList == b.toList) = false := by
  rw [beq_eq_false_iff_ne]
  intro e
  rw [toList_data, toList_data] at e
  obtain ⟨⟨la⟩⟩ := a
  obtain ⟨⟨lb⟩⟩ := b
  simp at e
  exact h (by rw [e])
theorem names_eq (a b : ByteArray) : (a.toList == b.toList) = decide (a = b) := by
  by_cases h : a = b
  · subst h; simp
  · rw [names_ne h]; simp [h]

set_option maxHeartbeats 1000000 in
theorem move_miss (b o : Nat) (v : Value) (zs : List Ent) (F : Nat → Prop) (n t : ByteArray) (zl zr : List Ent) (w : World) (hc : w.cell? ⟨b, o, none⟩ = some v) (hF : Fol w v zs F) (hh : MissE n zs zl zr) (hm : zs.length ≤ 1000000000) :
    Calls Try.prog 50 #[.pointer (some ⟨b, o, none⟩), .string n, .string t] w fun e w' => e = .returned (.tuple #[]) ∧ Below w.heap.size w w' := by
  have HC : Hid (_) := find_miss v zs F n zl zr w hF hh hm
  obtain ⟨ao, N, cap, rfl⟩ := own_slice hF.row
  clear hF hh
  go_enter Try.func50, Try.ntmps50
  go_wp2_with (go_at_call 35; refine Calls.mono HC.out ?_; rintro e w1 ⟨rfl, hb1⟩)
  exact bodyPost_ret (results_none rfl _ _ _) rfl ⟨rfl, hb1⟩

set_option maxHeartbeats 1000000 in
theorem move_same (b o : Nat) (v : Value) (zs : List Ent) (F : Nat → Prop) (n : ByteArray) (zl : List Ent) (z : Ent) (zr : List Ent) (w : World) (hc : w.cell? ⟨b, o, none⟩ = some v) (hF : Fol w v zs F) (hh : HitE n zs zl z zr) (hm : zs.length ≤ 1000000000) :
    Calls Try.prog 50 #[.pointer (some ⟨b, o, none⟩), .string n, .string n] w fun e w' => e = .returned (.tuple #[]) ∧ Below w.heap.size w w' := by
  have HC : Hid (_) := find_hit v zs F n zl z zr w hF hh hm
  obtain ⟨ao, N, cap, rfl⟩ := own_slice hF.row
  clear hF hh
  go_enter Try.func50, Try.ntmps50
  go_wp2_with (go_at_call 35; refine Calls.mono HC.out ?_; rintro e w1 ⟨rfl, hb1⟩)
  exact bodyPost_ret (results_none rfl _ _ _) rfl ⟨rfl, hb1⟩

set_option maxHeartbeats 2000000 in
set_option maxRecDepth 20000 in
theorem move_go (b o : Nat) (v : Value) (zs : List Ent) (F : Nat → Prop) (n t : ByteArray) (zl : List Ent) (z : Ent) (zr : List Ent) (w : World) (hc : w.cell? ⟨b, o, none⟩ = some v) (hfz : w.frozen? ⟨b, o, none⟩ = false) (hF : Fol w v zs F) (hbF : ¬ F b) (hs : Srt (zs.map Ent.fl)) (hh : HitE n zs zl z zr) (hnt : n ≠ t) (hm : zs.length ≤ 1000000000) :
    Calls Try.prog 50 #[.pointer (some ⟨b, o, none⟩), .string n, .string t] w fun e w' => e = .returned (.tuple #[]) ∧ Chg w w' b o F (ins ⟨t, z.bs⟩ (del t (del n (zs.map Ent.fl)))) := by
  have HC : Hid (_) := find_hit v zs F n zl z zr w hF hh hm
  have hbw : b < w.heap.size := cell_lt hc
  have hzm : z ∈ zs := by rw [hh.1]; simp
  have hzn := hh.2.1
  have hdat := hF.data z hzm
  have hnt' : (n.toList == t.toList) = false := names_ne hnt
  have hmid : Fol w v (zl ++ z :: zr) F := hh.1 ▸ hF
  obtain ⟨g, N, cap, rfl, hk1, hk2, hk3, hk4, hk5, hk6⟩ := shape_mid hmid
  obtain ⟨aod, Ld, capd, hd⟩ := own_slice hdat
  rw [hd] at hk6
  have HF : Hid (_) := hF
  have HD : Hid (w.ownsRow 0 5 1 z.dv z.bs.length (cells8 z.bs)) := hdat
  have Hd : Hid (z.dv = .slice aod Ld capd) := hd
  have HM : Hid (zs.length ≤ 1000000000) := hm
  have HS : Hid (Srt (zs.map Ent.fl)) := hs
  have hgd : ¬ F b := hbF
  -- the two removals and the search
  have HR : Hid (∀ w2, Below w.heap.size w w2 → Calls Try.prog 49 #[.pointer (some ⟨b, o, none⟩), .string n] w2 fun e w3 => e = .returned (.tuple #[]) ∧ ∃ v3 zs3, Hid ((∀ x ∈ zs3, x ∈ zs) ∧ zs3.length ≤ zs.length ∧ zs3.map Ent.fl = del n (zs.map Ent.fl) ∧ Fol w3 v3 zs3 F ∧ v3.ownBlock = some g ∧ Fr (fun k => some g = some k) (w2.setCell ⟨b, o, none⟩ v3) w3 ∧ (∀ x ∈ zs3, Apart x z))) := by
    intro w2 hb
    have hF2 := hF.below hb
    refine (remove_all b o _ zs F n w2 (below_cell hb hc) ((below_frozen hb hc).trans hfz) hF2 hbF hs hm).mono ?_
    rintro e w3 ⟨rfl, v3, ul, ur, h1, h2, h3, h4, h5, h6, h7, h8⟩
    exact ⟨rfl, v3, ul ++ ur, h2, h3, h4, h5, h6, h7, fun x hx => h8 z hzm hzn x hx⟩
  have HR2 : Hid (∀ w2, Below w.heap.size w w2 → ∀ w3 v3 zs3, Hid ((∀ x ∈ zs3, x ∈ zs) ∧ zs3.length ≤ zs.length ∧ zs3.map Ent.fl = del n (zs.map Ent.fl) ∧ Fol w3 v3 zs3 F ∧ v3.ownBlock = some g ∧ Fr (fun k => some g = some k) (w2.setCell ⟨b, o, none⟩ v3) w3 ∧ (∀ x ∈ zs3, Apart x z)) →
      Calls Try.prog 49 #[.pointer (some ⟨b, o, none⟩), .string t] w3 fun e w4 => e = .returned (.tuple #[]) ∧ ∃ v4 ul ur, w4.cell? ⟨b, o, none⟩ = some v4 ∧ w4.frozen? ⟨b, o, none⟩ = false ∧ Hid (MissE t (ul ++ ur) ul ur ∧ (ul ++ ur).length ≤ zs.length ∧ (ul ++ ur).map Ent.fl = del t (del n (zs.map Ent.fl)) ∧ Fol w4 v4 (ul ++ ur) F ∧ Fr (fun k => some g = some k) (w2.setCell ⟨b, o, none⟩ v4) w4 ∧ (∀ x ∈ ul ++ ur, Apart x z) ∧ w4.ownsRow 0 5 1 z.dv z.bs.length (cells8 z.bs) ∧ v4.ownBlock = some g)) := by
    intro w2 hb w3 v3 zs3 hX
    obtain ⟨g1, g2, g3, g4, g5, g6, g7⟩ := hX.out
    have hgb : ¬ some g = some b := fun e => hbF (by cases e; exact hk4)
    have hat := g6.at (below_cell hb hc) hgb
    have hfz2 := (below_frozen hb hc).trans hfz
    refine (remove_all b o v3 zs3 F t w3 hat.1 (hat.2.trans hfz2) g4 hbF (by rw [g3]; exact srt_del n hs) (by omega)).mono ?_
    rintro e w4 ⟨rfl, v4, ul, ur, h1, h2, h3, h4, h5, h6, h7, h8⟩
    have h7' := g6.then (h7.mono (G := fun k => some g = some k) (fun k _ hk => by rw [← g5]; exact hk)) (fun _ _ h => h)
    have hat4 := h7'.at (below_cell hb hc) hgb
    have hd2 : w2.ownsRow 0 5 1 z.dv z.bs.length (cells8 z.bs) := own_kept hdat (Fr.of_below (F := fun _ => False) hb) (fun _ _ => id)
    have hd3 := own_kept hd2 (Fr.one w2 b o v4) (fun k hk e => hbF (e ▸ hF.dataIn z hzm k hk))
    exact ⟨rfl, v4, ul, ur, hat4.1, hat4.2.trans hfz2, h1, by omega, by rw [h4, g3], h5, h7', fun x hx => g7 x (h2 x hx), own_kept hd3 h7' (fun k hk e => by cases e; exact own_ne hF.row hdat (by decide) rfl hk), h6.trans g5⟩
  have hgb0 : ¬ (g = b) := fun e => hbF (e ▸ hk4)
  have HI : Hid (∀ w2, Below w.heap.size w w2 → ∀ (w4 : World) (v4 : Value) (ul ur : List Ent), w4.cell? ⟨b, o, none⟩ = some v4 → w4.frozen? ⟨b, o, none⟩ = false → Hid (MissE t (ul ++ ur) ul ur ∧ (ul ++ ur).length ≤ zs.length ∧ (ul ++ ur).map Ent.fl = del t (del n (zs.map Ent.fl)) ∧ Fol w4 v4 (ul ++ ur) F ∧ Fr (fun k => some g = some k) (w2.setCell ⟨b, o, none⟩ v4) w4 ∧ (∀ x ∈ ul ++ ur, Apart x z) ∧ w4.ownsRow 0 5 1 z.dv z.bs.length (cells8 z.bs) ∧ v4.ownBlock = some g) →
      ∀ w5, Below w4.heap.size w4 w5 → Calls Try.prog 54 #[v4, .int .i64 ul.length, .slice (some ⟨w5.heap.size, 0, none⟩) 1 1] (w5.alloc (.cells #[.string t, z.dv] 72)) fun e w6 => ∃ v6, e = .returned v6 ∧ (∃ ao6 N6 cap6, v6 = .slice ao6 N6 cap6) ∧ w6.cell? ⟨b, o, none⟩ = some v4 ∧ w6.frozen? ⟨b, o, none⟩ = false ∧ Hid (∀ p u, w4.cell? p = some u → ¬ F p.block → w6.cell? p = some u) ∧ Hid (Chg w (w6.setCell ⟨b, o, none⟩ v6) b o F (ins ⟨t, z.bs⟩ (del t (del n (zs.map Ent.fl)))))) := by
    intro w2 hb w4 v4 ul ur hc4 hf4 hX w5 hb5
    obtain ⟨x1, x2, x3, x4, x5, x6, x7, x8⟩ := hX.out
    have hs4 : w.heap.size ≤ w4.heap.size := by have h1 := x5.size; have h2 := hb.size; rw [setCell_size] at h1; omega
    have hb6 := hb5.alloc hb5.size (.cells #[.string t, z.dv] 72)
    have hF6 := x4.below hb6
    have hne : v4.ownBlock ≠ some w5.heap.size := fun e => by have := x4.lt _ (x4.rowIn _ e); have := hb5.size; omega
    refine (insert_any v4 _ ul.length w5.heap.size _ (.string t) z.dv _ hF6.row (by simp) (by omega) (heap_alloc_new _ _) hne rfl (own_one hdat) hF6.ones).mono ?_
    rintro e w6 ⟨v6, rfl, hrow, hg, hat⟩
    have hgF : ∀ k, v4.ownBlock = some k → F k := x4.rowIn
    have hfr6 : Fr F w4 w6 := (Fr.of_below hb6).trans (Fr.of_grown hg hgF) (fun _ _ h => h)
    have hsz6 := hfr6.size
    have hc6 := hfr6.cell hc4 hbF
    have hf6 := (hfr6.frozen hc4 hbF).trans hf4
    have hd6 : (w5.alloc (.cells #[.string t, z.dv] 72)).ownsRow 0 5 1 z.dv z.bs.length (cells8 z.bs) := own_kept x7 (Fr.of_below (F := fun _ => False) hb6) (fun _ _ => id)
    have hI := hF6.inserted t z.dv z.bs hrow hg (by rcases hat with h | h; exact Or.inl h; exact Or.inr ⟨_, h, Nat.le_refl _⟩) hd6 (fun k hk => hF.dataIn z hzm k hk) (fun x hx => x6 x hx)
    refine ⟨v6, rfl, own_slice hrow, hc6, hf6, fun p u hp hF' => hfr6.cell hp hF', v6, ul ++ ⟨t, z.dv, z.bs⟩ :: ur, ?_, ?_, ?_⟩
    · have hI2 := hI.kept (Fr.one w6 b o v6) (fun k hk e => by
        subst e
        rcases hk with hk | hk
        · exact hbF hk
        · have := hb6.size; omega)
      refine hI2.mono (fun k hk => ?_) (ext_lt hF.lt (by rw [setCell_size]; omega))
      rcases hk with hk | hk
      · exact Or.inl hk
      · exact Or.inr ⟨by have := hb6.size; omega, by rw [setCell_size]; exact hk.2⟩
    · have := x1.miss.insE (z.bs)
      rw [x3] at this
      rw [this]
      simp [Ent.fl]
    · have h4 : Fr F (w.setCell ⟨b, o, none⟩ v4) w4 := ((Fr.of_below hb).set_both _ _).trans (x5.mono (G := F) (fun k _ hk => by cases hk; exact hk4)) (fun _ _ h => h)
      have h6 : Fr F (w.setCell ⟨b, o, none⟩ v4) w6 := h4.trans hfr6 (fun _ _ h => h)
      exact h6.then (G := F) (Fr.refl _ _) (fun _ _ h => h)
  clear hF hdat hh hs hzm hmid hd hm
  go_enter Try.func50, Try.ntmps50
  go_wp2_with fail
  (go_at_call 35; refine Calls.mono HC.out ?_; rintro e w1 ⟨rfl, hb1⟩; have hcw := below_cell hb1 hc; have c1 := below_cell hb1 hk6)
  have hb2 := hb1.alloc hb1.size (.cells #[.string t, .slice aod Ld capd] 72)
  have hmg : ¬ some g = some w1.heap.size := fun e => by simp at e; have := HF.out.lt g hk4; have := hb1.size; omega
  have hmb : w1.heap.size ≠ b := fun e => by have := hb1.size; omega
  go_wp2_with fail
  (go_at_call 49; refine (HR.out _ hb2).mono ?_; rintro e w3 ⟨rfl, v3, zs3, HX3⟩)
  go_wp2_with fail
  (go_at_call 49; refine (HR2.out _ hb2 w3 v3 zs3 HX3).mono ?_; rintro e w4 ⟨rfl, v4, ul, ur, hc4, hf4, HX4⟩; have HC4 : Hid (_) := find_miss _ _ F t ul ur w4 HX4.out.2.2.2.1 HX4.out.1 (Nat.le_trans HX4.out.2.1 HM.out); have hm4 : w4.heap[w1.heap.size]? = some (.cells #[.string t, .slice aod Ld capd] 72 (0, 0)) := by
    rw [HX4.out.2.2.2.2.1.block w1.heap.size (by rw [setCell_size]; simp) hmg, Below.heap_setCell _ _ _ _ hmb]
    exact heap_alloc_new _ _)
  have m0 := cell_of_row w4 _ 0 _ _ _ hm4
  have m1 := cell_of_row w4 _ 1 _ _ _ hm4
  obtain ⟨ao4, N4, cap4, rfl⟩ := own_slice HX4.out.2.2.2.1.row
  have HI4 : Hid (_) := HI.out _ hb2 w4 _ ul ur hc4 hf4 HX4
  rw [Hd.out] at HI4
  simp at m0 m1
  clear hm4
  go_wp2_with fail
  (go_at_call 35; refine Calls.mono HC4.out ?_; rintro e w5 ⟨rfl, hb5⟩; have hc5 := below_cell hb5 hc4; have hf5 := (below_frozen hb5 hc4).trans hf4; have m05 := below_cell hb5 m0; have m15 := below_cell hb5 m1; have HI5 : Hid (_) := HI4.out w5.drew hb5.drew)
  have hmF : ¬ F w1.heap.size := fun h => by have := HF.out.lt _ h; have := hb1.size; omega
  have M0 : Hid (_) := m0
  have M1 : Hid (_) := m1
  clear hc4 hf4 m0 m1 hcw c1
  go_wp2_with fail
  clear HI4 HI HR HR2 HX3 HX4 HC4 HC M0 M1 hmF HM HS HF HD Hd hb2 hmg hb5 hk5 hk6 hk1 hk2 hk3 hk4 hnt hnt' hbF hgd hzn hc hfz hb1
  have hca1 : ∀ ob, (w5.alloc ob).cell? ⟨b, o, none⟩ = some (.slice ao4 N4 cap4) := fun ob => below_cell ((Below.refl _ _).alloc (Nat.le_refl _) ob) hc5
  have hca2 : ∀ ob, (w5.drew.alloc ob).cell? ⟨b, o, none⟩ = some (.slice ao4 N4 cap4) := hca1
  go_region_with (go_at_call 54; refine Calls.mono HI5.out ?_; rintro e w6 ⟨v6, rfl, ⟨ao6, N6, cap6, rfl⟩, hc6, hf6, MM, HF6⟩)
  all_goals go_wp2
  all_goals go_end0
  all_goals exact ⟨rfl, HF6.out⟩

/-- A folder's move. -/
theorem move_any (b o : Nat) (v : Value) (zs : List Ent) (F : Nat → Prop) (n t : ByteArray) (w : World) (hc : w.cell? ⟨b, o, none⟩ = some v) (hfz : w.frozen? ⟨b, o, none⟩ = false) (hF : Fol w v zs F) (hbF : ¬ F b) (hs : Srt (zs.map Ent.fl)) (hm : zs.length ≤ 1000000000) :
    Calls Try.prog 50 #[.pointer (some ⟨b, o, none⟩), .string n, .string t] w fun e w' => e = .returned (.tuple #[]) ∧ Chg w w' b o F (ap (zs.map Ent.fl) (.mov n t)) := by
  have hsame : ∀ w' : World, Below w.heap.size w w' → Chg w w' b o F (zs.map Ent.fl) := fun w' h1 => ⟨v, zs, (hF.below h1).mono (fun _ h => Or.inl h) (ext_lt hF.lt h1.size), rfl, Fr.of_self hc (Fr.of_below h1)⟩
  rcases splitE n zs hs with ⟨zl, z, zr, hh⟩ | ⟨zl, zr, hh⟩
  · by_cases hnt : n = t
    · subst hnt
      refine (move_same b o v zs F n zl z zr w hc hF hh hm).mono ?_
      rintro e w' ⟨rfl, h1⟩
      refine ⟨rfl, ?_⟩
      simp only [ap]
      rw [hh.hit.lookE]
      simpa using hsame w' h1
    · refine (move_go b o v zs F n t zl z zr w hc hfz hF hbF hs hh hnt hm).mono ?_
      rintro e w' ⟨rfl, h1⟩
      refine ⟨rfl, ?_⟩
      simp only [ap]
      rw [hh.hit.lookE]
      simpa [hnt, Ent.fl] using h1
  · refine (move_miss b o v zs F n t zl zr w hc hF hh hm).mono ?_
    rintro e w' ⟨rfl, h1⟩
    refine ⟨rfl, ?_⟩
    simp only [ap]
    rw [hh.miss.lookE]
    exact hsame w' h1
end Go.Proofs.Ytleelemcmnlfiaa
