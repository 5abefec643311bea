/- The walks of a log's endOf, mayFollow, add. -/
import Derived.Test.YtnbdkojdddplkaaDoorWlMem
namespace Go.Proofs.YtnbdkojdddplkaaDoor.Wl
open Go.RowKit Dk

theorem Tryd.info82 : (Tryd.prog.info? 82).map (fun i => (i.zero, i.size, i.bytes)) = some (some (.agg #[.slice none 0 0, .int .i64 0]), 2, 32) := by kernel_rfl

/-- How many bytes so many records have. -/
def sizeK (first : Int) (rs : List Re) (k : Nat) : Nat := (fileB first ((rs.map Re.data).take k)).length

set_option maxHeartbeats 400000 in
theorem endOf_any (p pd : Nat) (first : Int) (vr : Value) (rs : List Re) (G : Nat → Prop) (k : Nat) (w : World) (h : Lg w p pd first vr rs G) (hk : k ≤ rs.length) (hl : rs.length ≤ 1000000000) :
    Calls Tryd.prog 37 #[.pointer (some ⟨p, 0, none⟩), .int .i64 (k : Int)] w fun e w' => e = .returned (.int .i64 (sizeK first rs k : Nat)) ∧ w' = w := by
  have c2 := h.cells.2.2.1
  obtain ⟨ao, cap, rfl, hao⟩ := h.shape
  by_cases hk0 : k = 0
  · subst hk0
    have e : sizeK first rs 0 = 0 := by simp [sizeK, fileB]
    rw [e]
    clear h e
    go_enter Tryd.func37, Tryd.ntmps37
    go_wp2
    go_ret
    exact ⟨rfl, rfl⟩
  · obtain ⟨j, rfl⟩ : ∃ j, k = j + 1 := ⟨k - 1, by omega⟩
    obtain ⟨g, rfl⟩ := hao (by omega)
    have hj : j < rs.length := by omega
    have cf := (h.cell j hj).2
    rw [h.fins j hj] at cf
    have e : sizeK first rs (j + 1) = (fileB first ((rs.map Re.data).take (j + 1))).length := rfl
    rw [← e] at cf
    have hne : (((j + 1 : Nat) : Int) == 0) = false := by rw [beq_eq_false_iff_ne]; omega
    have hlt : (j : Int) < (rs.length : Int) := by omega
    have hcast : ((j + 1 : Nat) : Int) = (j : Int) + 1 := by omega
    generalize sizeK first rs (j + 1) = z at *
    rw [hcast] at hne ⊢
    clear h e hcast hao
    go_enter Tryd.func37, Tryd.ntmps37
    go_wp2
    go_ret
    exact ⟨rfl, rfl⟩

set_option maxHeartbeats 400000 in
theorem endOf_zero (p : Nat) (w : World) : Calls Tryd.prog 37 #[.pointer (some ⟨p, 0, none⟩), .int .i64 0] w fun e w' => e = .returned (.int .i64 0) ∧ w' = w := by
  go_enter Tryd.func37, Tryd.ntmps37
  go_wp2
  go_ret
  exact ⟨rfl, rfl⟩

theorem wpList_append_run {P : Program} (w : World) {ops : Array Oper} {rest : List Oper} {o : Oper} {a : Act} {Q : Exit → Act → World → Prop} (hgd : o.guard = none) (d x : Operand) (dT sT : TypeId)
    (ho : o.op = .call { callee := .builtin .append, args := #[d, x], argTypes := #[dT, sT] }) (v u : Value) (hd : a.eval d = v) (hx : a.eval x = u) {v' : Value} {w' : World}
    (hr : (Builtin.append_ #[dT, sT] o.type #[v, u]).run P w = .ok v' w') (h : wpList P ops Q rest (a.put o.dst v') w') : wpList P ops Q (o :: rest) a w := by
  refine wpList_plain hgd fun _ hK => ?_
  unfold Oper.wp
  simp [execOp, ho, resolve, invoke, builtin, hd, hx, hr, Result.andThen]
  exact hK _ _ h

def mayB (first : Int) (rs : List Re) (n : Int) : Bool := decide (1 ≤ n) && (decide (rs.length = 0) || decide (n - 1 = lastN first rs))

set_option maxHeartbeats 1000000 in
theorem may_any (p pd : Nat) (first : Int) (vr : Value) (rs : List Re) (G : Nat → Prop) (n : Int) (w : World) (h : Lg w p pd first vr rs G) (hn : n ≤ 9223372036854775807) :
    Calls Tryd.prog 31 #[.pointer (some ⟨p, 0, none⟩), .int .i64 n] w fun e w' => e = .returned (.bool (mayB first rs n)) ∧ ∃ m, w' = w.drewN m := by
  have c2 := h.cells.2.2.1
  have HL : Hid (_) := last_any p pd first vr rs G w h
  obtain ⟨ao, cap, rfl, _⟩ := h.shape
  unfold mayB
  generalize lastN first rs = l at *
  clear h
  generalize rs.length = z at *
  by_cases h1 : 1 ≤ n
  · by_cases hz : z = 0
    · subst hz
      go_enter Tryd.func31, Tryd.ntmps31
      go_wp2
      go_ret
      exact ⟨by simp, 0, rfl⟩
    · have hz' : ((z : Int) == 0) = false := by rw [beq_eq_false_iff_ne]; omega
      go_enter Tryd.func31, Tryd.ntmps31
      go_wp2_with (go_at_call 24; refine Calls.mono HL.out ?_; rintro e w1 ⟨rfl, m, rfl⟩)
      go_ret
      refine ⟨congrArg (fun b => Ending.returned (Value.bool b)) ?_, m, rfl⟩
      rw [Bool.eq_iff_iff]
      simp [h1, hz]
  · go_enter Tryd.func31, Tryd.ntmps31
    go_wp2
    go_ret
    refine ⟨congrArg (fun b => Ending.returned (Value.bool b)) ?_, 0, rfl⟩
    rw [Bool.eq_iff_iff]
    simp
    omega

/-- 'append' of one record onto a row of the log's own, as one run. -/
theorem run_append_rec (w : World) (vr : Value) (rs : List Re) (r : Re) (g : Nat) (hO : w.ownsRow 0 82 2 vr rs.length (cellsK rs)) (hg : w.heap[g]? = some (.cells #[r.dv, .int .i64 (r.fin : Int)] 82 (0, 0))) (hd : r.dv.oneCell' = true) (hl : rs.length ≤ 1000000000) :
    ∃ ao L cap w', (∀ ty, (Builtin.append_ #[63, 63] ty #[vr, .slice (some ⟨g, 0, none⟩) 1 1]).run Tryd.prog w = .ok (.slice ao L cap) w') ∧ w'.ownsRow 0 82 2 (.slice ao L cap) (rs ++ [r]).length (cellsK (rs ++ [r])) ∧ w.grownBy w' vr.ownBlock ∧ ((Value.slice ao L cap).ownBlock = vr.ownBlock ∨ (Value.slice ao L cap).ownBlock = some w.heap.size) := by
  obtain ⟨i, hi, hz, hsize, hby⟩ := info_parts Tryd.info82
  have H := fun ty => run_append_own_at (P := Tryd.prog) w 0 63 ty 82 i _ 2 32 Tryd.underlying63 hi hz hsize hby rfl (by decide) vr rs.length (cellsK rs) hO ⟨g, 0, none⟩ 1 1 r.cells rfl (fun j u hj => by
    rw [Addr.add_lit, Nat.zero_add, cell_of_row w g j _ _ _ hg]
    simpa [Re.cells] using hj) (by
      intro u hu
      simp [Re.cells] at hu
      rcases hu with rfl | rfl
      · exact hd
      · rfl) (by simp only [maxLen]; omega) (by omega) (Nat.zero_le _)
  obtain ⟨v', w', hr, g1, g2, _, g4⟩ := H 0
  obtain ⟨ao', L', cap', rfl⟩ := own_slice g1
  have e : cellsK (rs ++ [r]) = cellsK rs ++ r.cells := by rw [cellsK_append]; simp [cellsK]
  refine ⟨ao', L', cap', w', fun ty => hr, by rw [e, List.length_append]; exact g1, g2, g4⟩

theorem fins_snoc {first : Int} {rs : List Re} {r : Re} (h : ∀ i (hi : i < rs.length), rs[i].fin = (fileB first ((rs.map Re.data).take (i + 1))).length) (hr : r.fin = (fileB first ((rs ++ [r]).map Re.data)).length) :
    ∀ i (hi : i < (rs ++ [r]).length), (rs ++ [r])[i].fin = (fileB first (((rs ++ [r]).map Re.data).take (i + 1))).length := by
  intro i hi
  by_cases hl : i < rs.length
  · rw [List.getElem_append_left hl, h i hl, List.map_append, List.take_append_of_le_length (by simp; omega)]
  · have e : i = rs.length := by simp at hi; omega
    subst e
    rw [List.getElem_append_right (Nat.le_refl _)]
    simp only [Nat.sub_self, List.getElem_singleton]
    rw [hr, List.take_of_length_le (by simp)]

set_option maxHeartbeats 2000000 in
set_option maxRecDepth 20000 in
theorem add_any (p pd : Nat) (first : Int) (vr : Value) (rs : List Re) (G D : Nat → Prop) (n : Int) (dv : Value) (data : List UInt8) (size : Nat) (w : World) (h : Lg w p pd first vr rs G) (hd : SlA w dv data (fun k => ¬ D k)) (hD : ∀ k, D k → ¬ G k ∧ k ≠ p ∧ k < w.heap.size)
    (hsz : size = (recB n data).length) (hn : 1 ≤ n ∧ n ≤ 9223372036854775807) (hnext : rs ≠ [] → n = first + rs.length) (hl : rs.length ≤ 100000000) (hlen : sizeK first rs rs.length + size ≤ 1000000000) :
    Calls Tryd.prog 33 #[.pointer (some ⟨p, 0, none⟩), .int .i64 n, dv, .int .i64 (size : Int)] w fun e w' => e = .returned (.tuple #[]) ∧ (∃ vr' fin, Lg w' p pd (if rs.length = 0 then n else first) vr' (rs ++ [⟨dv, data, fin⟩]) (ext (fun k => G k ∨ D k) w w')) ∧ Fr (fun k => G k ∨ k = p) w w' := by
  obtain ⟨aod, capd, rfl, _, _⟩ := hd.sl.shape
  obtain ⟨c0, c1, c2, cz⟩ := h.cells
  have z1 := cz 1
  have z2 := cz 2
  obtain ⟨aor, capr, rfl, hao⟩ := h.shape
  obtain ⟨S0, HS0⟩ : ∃ S0, Hid (S0 = sizeK first rs rs.length) := ⟨_, (rfl : _ = _)⟩
  have key : ∀ (u : World) (f2 : Int), f2 = (if rs.length = 0 then n else first) → u.heap[p]? = some (.cells #[.pointer (some ⟨pd, 0, none⟩), .int .i64 f2, .slice aor rs.length capr] 65 (0, 0)) → Fr (fun k => k = p) w u → u.heap.size = w.heap.size →
      ∃ ao L cap w3, (∀ ty, (Builtin.append_ #[63, 63] ty #[.slice aor rs.length capr, .slice (some ⟨u.heap.size, 0, none⟩) 1 1]).run Tryd.prog (u.alloc (.cells #[.slice aod data.length capd, .int .i64 ((S0 + size : Nat) : Int)] 82)) = .ok (.slice ao L cap) w3) ∧ (∃ x, w3.cell? ⟨p, 2, none⟩ = some x) ∧ w3.frozen? ⟨p, 2, none⟩ = false ∧
        Hid (Lg (w3.setCell ⟨p, 2, none⟩ (.slice ao L cap)) p pd f2 (.slice ao L cap) (rs ++ [⟨.slice aod data.length capd, data, S0 + size⟩]) (ext (fun k => G k ∨ D k) w (w3.setCell ⟨p, 2, none⟩ (.slice ao L cap))) ∧ Fr (fun k => G k ∨ k = p) w (w3.setCell ⟨p, 2, none⟩ (.slice ao L cap))) := by
    intro u f2 hf2 hpu hfu hus
    have hplt := h.plt
    have hnp : ∀ k, (Value.slice aor rs.length capr).ownBlock = some k → k ≠ p := fun k hk e => h.np (e ▸ h.rowIn k hk)
    have hOu : u.ownsRow 0 82 2 (.slice aor rs.length capr) rs.length (cellsK rs) := own_kept h.row hfu hnp
    have hba : Below u.heap.size u (u.alloc (.cells #[.slice aod data.length capd, .int .i64 ((S0 + size : Nat) : Int)] 82)) := (Below.refl _ _).alloc (Nat.le_refl _) _
    have hOa := hOu.alloc (.cells #[.slice aod data.length capd, .int .i64 ((S0 + size : Nat) : Int)] 82)
    obtain ⟨ao, L, cap, w3, hr, hO3, hg3, hat⟩ := run_append_rec _ _ rs ⟨.slice aod data.length capd, data, S0 + size⟩ u.heap.size hOa (heap_alloc_new _ _) rfl (by omega)
    have hsa : (u.alloc (.cells #[.slice aod data.length capd, .int .i64 ((S0 + size : Nat) : Int)] 82)).heap.size = w.heap.size + 1 := by simp [hus]
    have hp3 : w3.heap[p]? = some (.cells #[.pointer (some ⟨pd, 0, none⟩), .int .i64 f2, .slice aor rs.length capr] 65 (0, 0)) := by
      rw [hg3.block p (by omega) (fun e => hnp p e.symm rfl), hba.block p (by omega)]
      exact hpu
    refine ⟨ao, L, cap, w3, hr, ⟨_, by rw [cell_of_row w3 p 2 _ _ _ hp3]; rfl⟩, by simp [World.frozen?, hp3], ?_⟩
    have hone := Fr.one w3 p 2 (.slice ao L cap)
    have hss : (w3.setCell ⟨p, 2, none⟩ (.slice ao L cap)).heap.size = w3.heap.size := setCell_size _ _ _
    have hs3 := hg3.size
    have hF : Fr (fun k => k = p ∨ (Value.slice aor rs.length capr).ownBlock = some k) w (w3.setCell ⟨p, 2, none⟩ (.slice ao L cap)) := by
      refine (((hfu.mono (fun k _ e => Or.inl e)).trans (G := fun _ => False) (Fr.of_below hba) (fun _ _ => False.elim)).trans (Fr.of_grown hg3 (fun k hk => hk)) (fun k _ hk => Or.inr hk)).trans hone (fun k _ e => Or.inl e)
    have hkeep : ∀ (v : Value) (bs : List UInt8) (E : Nat → Prop), SlA w v bs (fun k => ¬ E k) → (∀ k, E k → k ≠ p) → (∀ a n c, v = .slice (some a) n c → (Value.slice aor rs.length capr).ownBlock ≠ some a.block) → (∀ k, E k → G k ∨ D k) → SlA (w3.setCell ⟨p, 2, none⟩ (.slice ao L cap)) v bs (fun k => ¬ ext (fun k => G k ∨ D k) w (w3.setCell ⟨p, 2, none⟩ (.slice ao L cap)) k) := by
      intro v bs E hv hE hE2 hE3
      have h1 : SlA w v bs (fun k => k = p ∨ (Value.slice aor rs.length capr).ownBlock = some k) := ⟨hv.sl, fun a n c e hH => by
        rcases hH with hH | hH
        · exact hv.away a n c e (fun hEa => hE _ hEa hH)
        · exact hE2 a n c e hH⟩
      exact ⟨(h1.kept hF).sl, fun a n c e hn => hv.away a n c e (fun hEa => hn (Or.inl (hE3 _ hEa)))⟩
    refine ⟨⟨?_, ?_, fun r hr => ?_, fun r hr a m c e => ?_, fun k hk => ?_, ext_lt (fun k hk => by rcases hk with hk | hk; exact h.lt k hk; exact (hD k hk).2.2) hF.size, fun hk => ?_, ?_, fun e => by simp at e, ?_⟩, ?_⟩
    · rw [heap_set hp3]
      rfl
    · refine own_kept hO3 hone (fun k hk e => ?_)
      rcases hat with ha | ha
      · rw [ha] at hk
        exact hnp k hk e
      · rw [ha] at hk
        simp at hk
        omega
    · rcases List.mem_append.1 hr with hr | hr
      · exact hkeep r.dv r.data G (h.data r hr) (fun k hk e => h.np (e ▸ hk)) (h.away r hr) (fun k hk => Or.inl hk)
      · simp at hr
        subst hr
        refine hkeep _ data D hd (fun k hk => (hD k hk).2.1) (fun a m c e hrow => ?_) (fun k hk => Or.inr hk)
        exact hd.away a m c e (fun hDa => (hD _ hDa).1 (h.rowIn _ hrow))
    · have hblk : a.block < w.heap.size ∧ (Value.slice aor rs.length capr).ownBlock ≠ some a.block := by
        rcases List.mem_append.1 hr with hr | hr
        · refine ⟨?_, h.away r hr a m c e⟩
          have hG : G a.block := Classical.byContradiction (fun hn => (h.data r hr).away a m c e hn)
          exact h.lt _ hG
        · simp at hr
          subst hr
          have hDa : D a.block := Classical.byContradiction (fun hn => hd.away a m c e hn)
          exact ⟨(hD _ hDa).2.2, fun hrow => (hD _ hDa).1 (h.rowIn _ hrow)⟩
      rcases hat with ha | ha
      · rw [ha]; exact hblk.2
      · rw [ha]
        intro hk
        simp at hk
        omega
    · rcases hat with ha | ha
      · rw [ha] at hk
        exact Or.inl (Or.inl (h.rowIn k hk))
      · refine Or.inr ⟨?_, ?_⟩
        · rw [ha] at hk
          simp at hk
          omega
        · rw [hss]
          exact (hO3.lt k hk).2
    · rcases hk with (hk | hk) | hk
      · exact h.np hk
      · exact (hD p hk).2.1 rfl
      · omega
    · by_cases hz : rs.length = 0
      · have hr0 : rs = [] := List.eq_nil_of_length_eq_zero hz
        rw [if_pos hz] at hf2
        have hS : S0 = 0 := by rw [HS0.out, hr0]; simp [sizeK, fileB]
        intro i hi
        simp [hr0] at hi
        subst hi
        simp [hr0, hS, hf2, hsz, fileB]
      · rw [if_neg hz] at hf2
        subst hf2
        refine fins_snoc h.fins ?_
        have hne : rs ≠ [] := fun e => hz (by rw [e]; rfl)
        have hnn := hnext hne
        simp only [List.map_append, List.map_cons, List.map_nil]
        rw [fileB_append, List.length_append, HS0.out, hsz]
        simp only [sizeK, fileB, List.append_nil, List.length_map]
        rw [← hnn, List.take_of_length_le (by simp)]
    · have hfit := h.fit
      rw [hf2, List.length_append]
      simp only [List.length_cons, List.length_nil]
      by_cases hz : rs.length = 0
      · rw [if_pos hz]; omega
      · rw [if_neg hz]
        have hne : rs ≠ [] := fun e => hz (by rw [e]; rfl)
        have hnn := hnext hne
        omega
    · exact hF.mono (fun k _ hk => by rcases hk with hk | hk; exact Or.inr hk; exact Or.inl (h.rowIn k hk))
  by_cases hz : rs.length = 0
  · have hk := key (w.setCell ⟨p, 1, none⟩ (.int .i64 n)) n (by rw [if_pos hz]) (by rw [heap_set h.heap]; rfl) (Fr.one _ _ _ _) (setCell_size _ _ _)
    rw [setCell_size] at hk
    obtain ⟨ao, L, cap, w3, hr, ⟨x, hx⟩, hfz, HX⟩ := hk
    have HE : Hid (_) := endOf_zero p (w.setCell ⟨p, 1, none⟩ (.int .i64 n))
    have hS : S0 = 0 := by rw [HS0.out, List.eq_nil_of_length_eq_zero hz]; simp [sizeK, fileB]
    rw [if_pos hz]
    subst hS
    have HX2 : Hid (∃ vr' fin, Lg (w3.setCell ⟨p, 2, none⟩ (.slice ao L cap)) p pd n vr' (rs ++ [⟨.slice aod data.length capd, data, fin⟩]) (ext (fun k => G k ∨ D k) w (w3.setCell ⟨p, 2, none⟩ (.slice ao L cap)))) := ⟨_, _, HX.out.1⟩
    have HX3 : Hid (_) := HX.out.2
    rw [hz] at c2 hr
    simp only [Nat.zero_add] at hr
    have hs9 : size ≤ 1000000000 := by omega
    clear key h hd hD hsz hnext hlen HS0 HX cz hao hn hl hz
    go_enter Tryd.func33, Tryd.ntmps33
    go_wp2_with (first
      | (go_at_call 37; refine Calls.mono HE.out ?_; rintro e w' ⟨rfl, hw⟩; have hw' := hw.symm; subst hw')
      | (at_builtin; refine wpList_append_run _ rfl (.tmp 32) (.tmp 36) 63 63 rfl _ _ rfl rfl (hr _) ?_))
    go_end0
    exact ⟨rfl, HX2.out, HX3.out⟩
  · obtain ⟨ao, L, cap, w3, hr, ⟨x, hx⟩, hfz, HX⟩ := key w first (by rw [if_neg hz]) h.heap (Fr.refl _ _) rfl
    have HE : Hid (_) := endOf_any p pd first _ rs G rs.length w h (Nat.le_refl _) (by omega)
    rw [← HS0.out] at HE hlen
    rw [if_neg hz]
    have HX2 : Hid (∃ vr' fin, Lg (w3.setCell ⟨p, 2, none⟩ (.slice ao L cap)) p pd first vr' (rs ++ [⟨.slice aod data.length capd, data, fin⟩]) (ext (fun k => G k ∨ D k) w (w3.setCell ⟨p, 2, none⟩ (.slice ao L cap)))) := ⟨_, _, HX.out.1⟩
    have HX3 : Hid (_) := HX.out.2
    have hne : ((rs.length : Int) == 0) = false := by rw [beq_eq_false_iff_ne]; omega
    have hlen' : S0 + size ≤ 1000000000 := by omega
    have hcast : ((S0 + size : Nat) : Int) = (S0 : Int) + (size : Int) := by omega
    rw [hcast] at hr
    clear key h hd hD hsz hnext hlen HS0 HX cz hao hn hl hz hcast
    generalize rs.length = z at *
    go_enter Tryd.func33, Tryd.ntmps33
    go_wp2_with (first
      | (go_at_call 37; refine Calls.mono HE.out ?_; rintro e w' ⟨rfl, hw⟩; have hw' := hw.symm; subst hw')
      | (at_builtin; refine wpList_append_run _ rfl (.tmp 32) (.tmp 36) 63 63 rfl _ _ rfl rfl (hr _) ?_))
    go_end0
    exact ⟨rfl, HX2.out, HX3.out⟩
end Go.Proofs.YtnbdkojdddplkaaDoor.Wl
