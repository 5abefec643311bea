/- The walks of Add and Remove. The walk of Remove. The walks of New, size and Len. The walk of begun. -/
import Derived.Test.YtfjcadkihnecdaaPart06
import Derived.Test.YtfjcadkihnecdaaPart03
import Derived.Test.YtfjcadkihnecdaaPart04
namespace Go.Proofs.Ytfjcadkihnecdaa
open Go.RowKit

theorem St.of_chg {w w' : World} {p wd : Nat} {v : Value} {zs : List Pg} {R' : List (List Int)} (h : Chg w w' p wd v zs (R'.map kyOf)) (hup : Up R') (hw : ∀ r ∈ R', r.length = wd) (hle : wd ≤ 4) (hm : ∀ r ∈ R', ∀ n ∈ r, -9223372036854775808 ≤ n) :
    ∃ F', St w' p wd F' R' ∧ Fr (ft p v zs) w w' ∧ ∀ k, F' k → ft p v zs k ∨ w.heap.size ≤ k := by
  obtain ⟨v', zs', h1, h2, h3, h4, h5, h6⟩ := h
  refine ⟨ft p v' zs', ⟨v', zs', rfl, h1, h2, h3, h4, hup, hw, hle, hm⟩, h5, fun k hk => ?_⟩
  rcases hk with rfl | hk
  · exact .inl (.inl rfl)
  · rcases h6 k hk with h | h
    · exact .inl (.inr h)
    · exact .inr h

/-- What Add leaves. -/
def AddR (w w' : World) (p wd : Nat) (F : Nat → Prop) (R : List (List Int)) (r : List Int) : Prop :=
  ∃ F' R', St w' p wd F' R' ∧ Fr F w w' ∧ (∀ k, F' k → F k ∨ w.heap.size ≤ k) ∧ (if r.length = wd ∧ r ∉ R then ∃ R1 R2, R = R1 ++ R2 ∧ R' = R1 ++ r :: R2 else R' = R)
/-- What Remove leaves. -/
def RemR (w w' : World) (p wd : Nat) (F : Nat → Prop) (R : List (List Int)) (r : List Int) : Prop :=
  ∃ F' R', St w' p wd F' R' ∧ Fr F w w' ∧ (∀ k, F' k → F k ∨ w.heap.size ≤ k) ∧ (if r ∈ R then ∃ R1 R2, R = R1 ++ r :: R2 ∧ R' = R1 ++ R2 else R' = R)

/-- insert at the place that find told. -/
theorem insAt {w : World} {p wd : Nat} {v : Value} {zs : List Pg} {R : List (List Int)} (h : Sv w p wd v zs R) (hl : R.length < 1000000000) (hroom : R.length < 256 ∨ Spl) {r : List Int} {A B : List Pg} {at' : Nat} {R1 R2 : List (List Int)} (hloc : Loc zs R r A B at' false R1 R2) {W : World} (hW : Below w.heap.size w W) :
    Calls Try.prog 21 #[.pointer (some ⟨p, 1, none⟩), .agg #[.int .i64 (A.length : Int), .int .i64 (at' : Int)], .agg #[.int .i64 (kyOf r).a, .int .i64 (kyOf r).b, .int .i64 (kyOf r).c, .int .i64 (kyOf r).d]] W fun e w' => (∃ u, e = .returned u) ∧ Chg w w' p wd v zs ((R1 ++ r :: R2).map kyOf) := by
  have hsz := h.size
  have hzs := hloc.zs
  subst hzs
  have hB := h.box.below hW
  have hP := h.pgs.below hW
  cases B with
  | nil =>
    obtain ⟨e1, e2⟩ := hloc.none rfl
    rw [List.append_nil] at hP hsz h
    have := ins_end hB hP h.ne (by omega) (fun x hx => by have := hsz.1 x hx; omega) (kyOf r) at'
    rw [List.append_nil]
    refine this.mono ?_
    rintro e w' ⟨he, hc⟩
    refine ⟨he, ?_⟩
    have e3 : (R1 ++ r :: R2).map kyOf = keys A ++ [kyOf r] := by rw [e2, List.map_append, e1]; rfl
    rw [e3]
    exact hc.from hW
  | cons z T =>
    obtain ⟨C, x, D, hks, hat', e1, e2⟩ := hloc.some z T rfl
    have hzl := hsz.1 z (by simp)
    have := ins_mid hB hP h.ne (by omega) hks (by omega) (hroom.imp (fun h => by omega) id) (kyOf r)
    rw [← hat'] at this
    refine this.mono ?_
    rintro e w' ⟨he, hc⟩
    refine ⟨he, ?_⟩
    have e3 : (R1 ++ r :: R2).map kyOf = keys A ++ (C ++ kyOf r :: (x :: D)) ++ keys T := by
      rw [List.map_append, List.map_cons, e1, e2]
      simp
    rw [e3]
    exact hc.from hW
/-- remove at the place that find told. -/
theorem remAt {w : World} {p wd : Nat} {v : Value} {zs : List Pg} {R : List (List Int)} (h : Sv w p wd v zs R) (hl : R.length < 1000000000) {r : List Int} {A B : List Pg} {at' : Nat} {R1 R2 : List (List Int)} (hloc : Loc zs R r A B at' true R1 R2) {W : World} (hW : Below w.heap.size w W) :
    Calls Try.prog 22 #[.pointer (some ⟨p, 1, none⟩), .agg #[.int .i64 (A.length : Int), .int .i64 (at' : Int)]] W fun e w' => (∃ u, e = .returned u) ∧ ∃ R3, R = R1 ++ r :: R3 ∧ Chg w w' p wd v zs ((R1 ++ R3).map kyOf) := by
  have hsz := h.size
  have hzs := hloc.zs
  subst hzs
  have hB := h.box.below hW
  have hP := h.pgs.below hW
  obtain ⟨R3, e4⟩ := hloc.yes rfl
  cases B with
  | nil =>
    obtain ⟨_, e2⟩ := hloc.none rfl
    rw [e2] at e4
    cases e4
  | cons z T =>
    obtain ⟨C, x, D, hks, hat', e1, e2⟩ := hloc.some z T rfl
    have hzl := hsz.1 z (by simp)
    have := rem_any hB hP h.ne (by omega) hks (by omega)
    rw [← hat'] at this
    refine this.mono ?_
    rintro e w' ⟨he, hc⟩
    refine ⟨he, R3, by rw [hloc.rows, e4], ?_⟩
    rw [e4] at e2
    simp only [List.map_cons, List.cons_append, List.cons.injEq] at e2
    have e3 : (R1 ++ R3).map kyOf = keys A ++ (C ++ D) ++ keys T := by
      rw [List.map_append, e1, e2.2]
      simp
    rw [e3]
    exact hc.from hW

/-- What Add reads: the pages and the key. -/
abbrev S5 (w' : World) (p kb : Nat) (v : Value) (k : Ky) : Prop :=
  w'.cell? ⟨p, 1, none⟩ = some v ∧ w'.cell? ⟨kb, 0, none⟩ = some (.int .i64 k.a) ∧ w'.cell? ⟨kb, 1, none⟩ = some (.int .i64 k.b) ∧ w'.cell? ⟨kb, 2, none⟩ = some (.int .i64 k.c) ∧ w'.cell? ⟨kb, 3, none⟩ = some (.int .i64 k.d)
theorem S5.below {W W' : World} {p kb : Nat} {v : Value} {k : Ky} (h : S5 W p kb v k) (hb : Below W.heap.size W W') : S5 W' p kb v k :=
  ⟨cell_below' h.1 hb, cell_below' h.2.1 hb, cell_below' h.2.2.1 hb, cell_below' h.2.2.2.1 hb, cell_below' h.2.2.2.2 hb⟩

set_option maxHeartbeats 3200000 in
theorem add_any {w : World} {p wd : Nat} {F : Nat → Prop} {R : List (List Int)} (h : St w p wd F R) (vr : Value) (r : List Int) (hr : Is w vr r) (hm : ∀ n ∈ r, -9223372036854775808 ≤ n) (hl : R.length < 1000000000) (hroom : R.length < 256 ∨ Spl) :
    Calls Try.prog 9 #[.pointer (some ⟨p, 0, none⟩), vr] w fun e w' => e = .returned (.bool (decide (r.length = wd ∧ r ∉ R))) ∧ AddR w w' p wd F R r := by
  have hSt := h
  obtain ⟨v, zs, rfl, h⟩ := h
  have HF := hide (fits_some p wd v vr r w h.box hr)
  by_cases hrw : r.length = wd
  · rw [decide_eq_true hrw] at HF
    obtain ⟨A, B, at', f, R1, R2, hloc⟩ := loc h r hrw
    have hzs := hloc.zs
    have hsz := h.size
    have HC : Hid (∀ W, Below w.heap.size w W → Calls Try.prog 20 #[v, .agg #[.int .i64 (kyOf r).a, .int .i64 (kyOf r).b, .int .i64 (kyOf r).c, .int .i64 (kyOf r).d]] W fun e w' => e = .returned (.tuple #[.agg #[.int .i64 (A.length : Int), .int .i64 (at' : Int)], .bool f]) ∧ Below W.heap.size W w') := fun W hW =>
      find_any v A B (kyOf r) at' f W (by rw [← hzs]; exact (h.pgs.below hW).ps) (by rw [← hzs]; exact h.ne) (by rw [← hzs]; exact fun z hz => by have := hsz.1 z hz; omega) (by rw [← hzs]; omega) hloc.plc
    have HK : Hid (∀ W, Below w.heap.size w W → Calls Try.prog 19 #[vr] W fun e w' => e = .returned (.agg #[.int .i64 (kyOf r).a, .int .i64 (kyOf r).b, .int .i64 (kyOf r).c, .int .i64 (kyOf r).d]) ∧ Below W.heap.size W w') := fun W hW =>
      keyOf_any vr r W (hr.below hW) (by have := h.le; omega)
    have HI : Hid (f = false → ∀ W, Below w.heap.size w W → Calls Try.prog 21 #[.pointer (some ⟨p, 1, none⟩), .agg #[.int .i64 (A.length : Int), .int .i64 (at' : Int)], .agg #[.int .i64 (kyOf r).a, .int .i64 (kyOf r).b, .int .i64 (kyOf r).c, .int .i64 (kyOf r).d]] W fun e w' => (∃ u, e = .returned u) ∧ AddR w w' p wd (ft p v zs) R r) := fun hf W hW => by
      subst hf
      refine (insAt h hl hroom hloc hW).mono ?_
      rintro e w' ⟨he, hc⟩
      refine ⟨he, ?_⟩
      have hrows := hloc.rows
      obtain ⟨hnot, hgt⟩ := hloc.no rfl
      have hup := h.up
      rw [hrows] at hup
      obtain ⟨F', g1, g2, g3⟩ := St.of_chg hc (up_put hup hloc.lo hgt) (fun x hx => by
        rcases List.mem_append.1 hx with hx | hx
        · exact h.wid x (by rw [hrows]; simp [hx])
        · rcases List.mem_cons.1 hx with rfl | hx
          · exact hrw
          · exact h.wid x (by rw [hrows]; simp [hx])) h.le (fun x hx => by
        rcases List.mem_append.1 hx with hx | hx
        · exact h.min x (by rw [hrows]; simp [hx])
        · rcases List.mem_cons.1 hx with rfl | hx
          · exact hm
          · exact h.min x (by rw [hrows]; simp [hx]))
      exact ⟨F', _, g1, g2, g3, by rw [if_pos ⟨hrw, hnot⟩]; exact ⟨R1, R2, hrows, rfl⟩⟩
    have HBx : Hid (∀ W, Below w.heap.size w W → W.cell? ⟨p, 1, none⟩ = some v) := fun W hW => (h.box.below hW).c 1
    have HRES : Hid (decide (r.length = wd ∧ r ∉ R) = !f) := by
      show _ = _
      rw [hloc.found]
      simp [hrw]
    have HSAME : Hid (f = true → ∀ W, Below w.heap.size w W → AddR w W p wd (ft p v zs) R r) := fun hf W hW => by
      refine ⟨_, R, hSt.below hW, Fr.of_below hW, fun k hk => .inl hk, ?_⟩
      rw [if_neg]
      rintro ⟨_, hn⟩
      have := hloc.found
      rw [hf] at this
      exact hn (of_decide_eq_true this.symm)
    obtain ⟨ao, cap, rfl, -⟩ := hr
    obtain ⟨ao2, N, cap2, rfl⟩ := own_slice h.pgs.row
    generalize kyOf r = k at *
    clear h hloc hsz hl hrw hSt hzs hroom hm
    generalize A.length = n at *
    generalize decide (r.length = wd ∧ r ∉ R) = rb at HRES ⊢
    go_enter Try.func9, Try.ntmps9
    go_wp2_with (go_at_call 18; refine Calls.mono HF.out ?_; rintro e w' ⟨rfl, hw⟩; have hw' := hw.symm; subst hw'; clear hw)
    refine Calls.mono (HK.out w (Below.refl _ _)) ?_
    rintro e w5 ⟨rfl, hb5⟩
    have HB5 := hide (hb5.trans ((below_box w5 (.cells #[.int .i64 k.a, .int .i64 k.b, .int .i64 k.c, .int .i64 k.d] 47)).mono hb5.size))
    have HKB := hide (Bx.new w5 #[.int .i64 k.a, .int .i64 k.b, .int .i64 k.c, .int .i64 k.d] 47)
    have hs5 := hb5.size
    clear hb5
    go_wp2_with fail
    generalize w5.alloc (.cells #[.int .i64 k.a, .int .i64 k.b, .int .i64 k.c, .int .i64 k.d] 47) = W1 at *
    go_cut [6, 7] from 14 to 22 (fun pp ff wc => ∃ b, pp = .pointer (some ⟨b, 0, none⟩) ∧ ff = .bool f ∧ Hid (Bx wc b 50 #[.int .i64 (n : Int), .int .i64 (at' : Int)]) ∧ Hid (Bx wc w5.heap.size 47 #[.int .i64 k.a, .int .i64 k.b, .int .i64 k.c, .int .i64 k.d]) ∧ Hid (Below w.heap.size w wc))
    case first =>
      have hs0 : S5 W1 p w5.heap.size (.slice ao2 N cap2) k := ⟨HBx.out _ HB5.out, HKB.out.c 0, HKB.out.c 1, HKB.out.c 2, HKB.out.c 3⟩
      have M1 : Hid (S5 W1.drew p w5.heap.size (.slice ao2 N cap2) k) := hs0
      have hsa : ∀ o, S5 (W1.alloc o) p w5.heap.size (.slice ao2 N cap2) k := fun o => hs0.below (below_box _ o)
      have M2 : Hid (∀ o, S5 (W1.drew.alloc o) p w5.heap.size (.slice ao2 N cap2) k) := hsa
      have M3 : Hid (∀ o, S5 (W1.alloc o).drew p w5.heap.size (.slice ao2 N cap2) k) := hsa
      have HS0 := hide hs0
      clear hs0 hsa
      refine wp_region_noPanic ?_
      go_region_held (fun w' => w'.cell? ⟨p, 1, none⟩ = some (.slice ao2 N cap2) ∧ w'.cell? ⟨w5.heap.size, 0, none⟩ = some (.int .i64 k.a) ∧ w'.cell? ⟨w5.heap.size, 1, none⟩ = some (.int .i64 k.b) ∧ w'.cell? ⟨w5.heap.size, 2, none⟩ = some (.int .i64 k.c) ∧ w'.cell? ⟨w5.heap.size, 3, none⟩ = some (.int .i64 k.d))
        (first | with_reducible exact M1.out | with_reducible exact M2.out _ | with_reducible exact M3.out _ | with_reducible exact m6.out | with_reducible exact m6a.out _ | with_reducible exact m6b.out)
        (first
          | (go_at_call 20; (refine Calls.mono (HC.out (W1.drew.alloc (.cells #[.int .i64 0, .int .i64 0] 50)) (HB5.out.drew.alloc HB5.out.size _)) ?_); rintro e w6 ⟨rfl, hb6⟩; have hb61 : Below W1.heap.size W1 w6 := ((Below.refl _ W1).drew.alloc (Nat.le_refl _) _).trans (hb6.mono (by simp)); have HB6 := hide hb61; have m6 := hide (HS0.out.below hb61); have hq6 : Bx w6 W1.heap.size 50 #[.int .i64 0, .int .i64 0] := (Bx.new W1.drew #[.int .i64 0, .int .i64 0] 50).below hb6; have d0 := hq6.c 0; have d1 := hq6.c 1; have f0 := hq6.f 0; have f1 := hq6.f 1; simp at d0 d1; have HQ6 := hide hq6; have m6b : Hid (S5 ((w6.setCell ⟨W1.heap.size, 0, none⟩ (.int .i64 (n : Int))).setCell ⟨W1.heap.size, 1, none⟩ (.int .i64 (at' : Int))) p w5.heap.size (.slice ao2 N cap2) k) := HS0.out.below ((hb61.setCell (p := ⟨W1.heap.size, 0, none⟩) (Nat.le_refl _) _).setCell (p := ⟨W1.heap.size, 1, none⟩) (Nat.le_refl _) _); clear hb6 hq6 hb61)
          | (go_at_call 20; (refine Calls.mono (HC.out W1.drew HB5.out.drew) ?_); rintro e w6 ⟨rfl, hb6⟩; have hb61 : Below W1.heap.size W1 w6 := (Below.refl _ W1).drew.trans hb6; have HB6 := hide hb61; have m6 := hide (HS0.out.below hb61); have m6a : Hid (∀ o, S5 (w6.alloc o) p w5.heap.size (.slice ao2 N cap2) k) := fun o => HS0.out.below (hb61.alloc hb61.size o); clear hb6 hb61))
      all_goals refine NoPanic.normal ?_
      all_goals go_wp2_with fail
      all_goals go_meet
      all_goals first
        | exact ⟨_, rfl, rfl, Bx.new w6 _ 50, (HKB.out.below HB6.out).below (below_box _ _), HB5.out.trans ((HB6.out.alloc HB6.out.size _).mono HB5.out.size)⟩
        | exact ⟨_, rfl, rfl, (HQ6.out.set 0 _).set 1 _, HKB.out.below ((HB6.out.setCell (p := ⟨W1.heap.size, 0, none⟩) (Nat.le_refl _) _).setCell (p := ⟨W1.heap.size, 1, none⟩) (Nat.le_refl _) _), HB5.out.trans (((HB6.out.setCell (p := ⟨W1.heap.size, 0, none⟩) (Nat.le_refl _) _).setCell (p := ⟨W1.heap.size, 1, none⟩) (Nat.le_refl _) _).mono HB5.out.size)⟩
    case rest =>
      obtain ⟨b, rfl, rfl, H1, H2, H3⟩ := hcut
      have d0 := H1.out.c 0
      have d1 := H1.out.c 1
      have x0 := H2.out.c 0
      have x1 := H2.out.c 1
      have x2 := H2.out.c 2
      have x3 := H2.out.c 3
      simp at d0 d1 x0 x1 x2 x3
      cases f with
      | true =>
        have HE := hide (HSAME.out rfl _ H3.out)
        go_wp2_with fail
        go_ret
        exact ⟨by rw [HRES.out]; rfl, HE.out⟩
      | false =>
        have HI2 := hide (HI.out rfl wc.drew H3.out.drew)
        have q1 := HBx.out _ H3.out
        clear HC HK HI HSAME HBx
        go_wp2_with fail
        refine wp_region_noPanic ?_
        go_region_law (first
          | (go_simp; go_at_call 21; (refine Calls.mono HI2.out ?_); rintro e w8 ⟨⟨u, rfl⟩, hch⟩; have HCH := hide hch; clear hch))
        all_goals refine NoPanic.normal ?_
        all_goals go_wp2_with fail
        all_goals go_ret
        all_goals exact ⟨by rw [HRES.out]; rfl, HCH.out⟩
  · rw [decide_eq_false hrw] at HF
    have HE : Hid (decide (r.length = wd ∧ r ∉ R) = false) := decide_eq_false fun hh => hrw hh.1
    have HA : Hid (AddR w w p wd (ft p v zs) R r) := ⟨_, R, hSt, Fr.refl _ _, fun k hk => .inl hk, by rw [if_neg (fun hh => hrw hh.1)]⟩
    obtain ⟨ao, cap, rfl, -⟩ := hr
    clear h hl hrw hSt hroom hm
    generalize decide (r.length = wd ∧ r ∉ R) = rb at HE ⊢
    go_enter Try.func9, Try.ntmps9
    go_wp2_with (go_at_call 18; refine Calls.mono HF.out ?_; rintro e w' ⟨rfl, hw⟩; have hw' := hw.symm; subst hw'; clear hw)
    go_ret
    exact ⟨by rw [HE.out]; rfl, HA.out⟩
end Go.Proofs.Ytfjcadkihnecdaa
namespace Go.Proofs.Ytfjcadkihnecdaa
open Go.RowKit

set_option maxHeartbeats 3200000 in
theorem rmv_any {w : World} {p wd : Nat} {F : Nat → Prop} {R : List (List Int)} (h : St w p wd F R) (vr : Value) (r : List Int) (hr : Is w vr r) (hl : R.length < 1000000000) :
    Calls Try.prog 10 #[.pointer (some ⟨p, 0, none⟩), vr] w fun e w' => e = .returned (.bool (decide (r ∈ R))) ∧ RemR w w' p wd F R r := by
  have hSt := h
  obtain ⟨v, zs, rfl, h⟩ := h
  have HF := hide (fits_some p wd v vr r w h.box hr)
  by_cases hrw : r.length = wd
  · rw [decide_eq_true hrw] at HF
    obtain ⟨A, B, at', f, R1, R2, hloc⟩ := loc h r hrw
    rw [← hloc.found]
    have hzs := hloc.zs
    have hsz := h.size
    have HC : Hid (∀ W, Below w.heap.size w W → Calls Try.prog 20 #[v, .agg #[.int .i64 (kyOf r).a, .int .i64 (kyOf r).b, .int .i64 (kyOf r).c, .int .i64 (kyOf r).d]] W fun e w' => e = .returned (.tuple #[.agg #[.int .i64 (A.length : Int), .int .i64 (at' : Int)], .bool f]) ∧ Below W.heap.size W w') := fun W hW =>
      find_any v A B (kyOf r) at' f W (by rw [← hzs]; exact (h.pgs.below hW).ps) (by rw [← hzs]; exact h.ne) (by rw [← hzs]; exact fun z hz => by have := hsz.1 z hz; omega) (by rw [← hzs]; omega) hloc.plc
    have HK : Hid (∀ W, Below w.heap.size w W → Calls Try.prog 19 #[vr] W fun e w' => e = .returned (.agg #[.int .i64 (kyOf r).a, .int .i64 (kyOf r).b, .int .i64 (kyOf r).c, .int .i64 (kyOf r).d]) ∧ Below W.heap.size W w') := fun W hW =>
      keyOf_any vr r W (hr.below hW) (by have := h.le; omega)
    have HI : Hid (f = true → ∀ W, Below w.heap.size w W → Calls Try.prog 22 #[.pointer (some ⟨p, 1, none⟩), .agg #[.int .i64 (A.length : Int), .int .i64 (at' : Int)]] W fun e w' => (∃ u, e = .returned u) ∧ RemR w w' p wd (ft p v zs) R r) := fun hf W hW => by
      subst hf
      have hmem : r ∈ R := of_decide_eq_true hloc.found.symm
      refine (remAt h hl hloc hW).mono ?_
      rintro e w' ⟨he, R3, hrows, hc⟩
      refine ⟨he, ?_⟩
      have hup := h.up
      rw [hrows] at hup
      have hsub : ∀ x ∈ R1 ++ R3, x ∈ R := fun x hx => by
        rw [hrows]
        rcases List.mem_append.1 hx with hx | hx <;> simp [hx]
      obtain ⟨F', g1, g2, g3⟩ := St.of_chg hc (up_cut hup) (fun x hx => h.wid x (hsub x hx)) h.le (fun x hx => h.min x (hsub x hx))
      exact ⟨F', _, g1, g2, g3, by rw [if_pos hmem]; exact ⟨R1, R3, hrows, rfl⟩⟩
    have HBx : Hid (∀ W, Below w.heap.size w W → W.cell? ⟨p, 1, none⟩ = some v) := fun W hW => (h.box.below hW).c 1
    have HSAME : Hid (f = false → ∀ W, Below w.heap.size w W → RemR w W p wd (ft p v zs) R r) := fun hf W hW => by
      refine ⟨_, R, hSt.below hW, Fr.of_below hW, fun k hk => .inl hk, ?_⟩
      rw [if_neg]
      intro hn
      have := hloc.found
      rw [hf] at this
      exact of_decide_eq_false this.symm hn
    obtain ⟨ao, cap, rfl, -⟩ := hr
    obtain ⟨ao2, N, cap2, rfl⟩ := own_slice h.pgs.row
    have c1 := HBx.out w (Below.refl _ _)
    have c1a : ∀ o, (w.alloc o).cell? ⟨p, 1, none⟩ = some (.slice ao2 N cap2) := fun o => cell_below' c1 (below_box _ o)
    generalize kyOf r = k at *
    clear h hloc hsz hl hrw hSt hzs
    go_enter Try.func10, Try.ntmps10
    go_wp2_with (go_at_call 18; refine Calls.mono HF.out ?_; rintro e w' ⟨rfl, hw⟩; have hw' := hw.symm; subst hw'; clear hw)
    go_cut [5, 6] from 11 to 20 (fun pp ff wc => ∃ b, pp = .pointer (some ⟨b, 0, none⟩) ∧ ff = .bool f ∧ Hid (Bx wc b 50 #[.int .i64 (A.length : Int), .int .i64 (at' : Int)]) ∧ Hid (Below w.heap.size w wc))
    case first =>
      refine wp_region_noPanic ?_
      go_region_law (first
        | (have m5 := HP5; go_simp; go_at_call 20; (refine Calls.mono (HC.out w5 HB5.out) ?_); rintro e w6 ⟨rfl, hb6⟩; have HB6 := hide (HB5.out.trans (hb6.mono HB5.out.size)); have HX6 := hide (m5.out.below hb6); have d0 := (m5.out.below hb6).c 0; have d1 := (m5.out.below hb6).c 1; have f0 := (m5.out.below hb6).f 0; have f1 := (m5.out.below hb6).f 1; simp at d0 d1; clear hb6)
        | (have m5 := HQ5; go_simp; go_at_call 20; (refine Calls.mono (HC.out (w5.alloc (.cells #[.int .i64 0, .int .i64 0] 50)) (HB5.out.trans ((below_box w5 _).mono HB5.out.size))) ?_); rintro e w6 ⟨rfl, hb6⟩; have HB6 := hide ((HB5.out.trans ((below_box w5 _).mono HB5.out.size)).trans (hb6.mono (HB5.out.trans ((below_box w5 _).mono HB5.out.size)).size)); have hq6 := (Bx.new w5 #[.int .i64 0, .int .i64 0] 50).below hb6; have HX6 := hide hq6; have d0 := hq6.c 0; have d1 := hq6.c 1; have f0 := hq6.f 0; have f1 := hq6.f 1; simp at d0 d1; clear hb6 hq6)
        | (have m5 := HQ5; go_simp; go_at_call 20; (refine Calls.mono (HC.out w5 HB5.out) ?_); rintro e w6 ⟨rfl, hb6⟩; have HB6 := hide (HB5.out.trans (hb6.mono HB5.out.size)); clear hb6)
        | (go_simp; go_at_call 19; (refine Calls.mono (HK.out w.drew (Below.refl _ _).drew) ?_); rintro e w5 ⟨rfl, hb5⟩; have HB5 := hide ((Below.refl _ w).drew.trans hb5); have q5 := HBx.out w5 HB5.out; have q5a : ∀ o, (w5.alloc o).cell? ⟨p, 1, none⟩ = some (.slice ao2 N cap2) := fun o => cell_below' q5 (below_box _ o); have HQ5 := hide True.intro; clear hb5)
        | (go_simp; go_at_call 19; (refine Calls.mono (HK.out (w.drew.alloc (.cells #[.int .i64 0, .int .i64 0] 50)) ((Below.refl _ _).drew.alloc (Nat.le_refl _) _)) ?_); rintro e w5 ⟨rfl, hb5⟩; have HB5 : Hid (Below w.heap.size w w5) := ((Below.refl _ w).drew.alloc (Nat.le_refl _) _).trans (hb5.mono (by simp)); have HP5 : Hid (Bx w5 w.heap.size 50 #[.int .i64 0, .int .i64 0]) := ((Bx.new w.drew #[.int .i64 0, .int .i64 0] 50).below hb5); have q5 := HBx.out w5 HB5.out; clear hb5))
      all_goals refine NoPanic.normal ?_
      all_goals go_wp2_with fail
      all_goals go_meet
      all_goals first
        | exact ⟨_, rfl, rfl, Bx.new w6 _ 50, HB6.out.trans ((below_box w6 _).mono HB6.out.size)⟩
        | exact ⟨_, rfl, rfl, (HX6.out.set 0 _).set 1 _, (HB6.out.setCell (p := ⟨w5.heap.size, 0, none⟩) HB5.out.size _).setCell (p := ⟨w5.heap.size, 1, none⟩) HB5.out.size _⟩
        | exact ⟨_, rfl, rfl, (HX6.out.set 0 _).set 1 _, (HB6.out.setCell (p := ⟨w.heap.size, 0, none⟩) (Nat.le_refl _) _).setCell (p := ⟨w.heap.size, 1, none⟩) (Nat.le_refl _) _⟩
    case rest =>
      obtain ⟨b, rfl, rfl, H1, H3⟩ := hcut
      have d0 := H1.out.c 0
      have d1 := H1.out.c 1
      simp at d0 d1
      have HE0 := hide trivial
      cases f with
      | false =>
        have HE := hide (HSAME.out rfl _ H3.out)
        clear c1 c1a
        go_wp2_with fail
        go_ret
        exact ⟨rfl, HE.out⟩
      | true =>
        have HI2 := hide (HI.out rfl wc.drew H3.out.drew)
        have q1 := HBx.out _ H3.out
        clear HC HK HI HSAME HBx c1 c1a
        go_wp2_with fail
        refine wp_region_noPanic ?_
        go_region_law (first
          | (go_simp; go_at_call 22; (refine Calls.mono HI2.out ?_); rintro e w8 ⟨⟨u, rfl⟩, hch⟩; have HCH := hide hch; clear hch))
        all_goals refine NoPanic.normal ?_
        all_goals go_wp2_with fail
        all_goals go_ret
        all_goals exact ⟨rfl, HCH.out⟩
  · rw [decide_eq_false hrw] at HF
    have hnm : r ∉ R := fun hm => hrw (h.wid r hm)
    have HE : Hid (decide (r ∈ R) = false) := decide_eq_false hnm
    have HA : Hid (RemR w w p wd (ft p v zs) R r) := ⟨_, R, hSt, Fr.refl _ _, fun k hk => .inl hk, by rw [if_neg hnm]⟩
    obtain ⟨ao, cap, rfl, -⟩ := hr
    clear h hl hrw hSt hnm
    generalize decide (r ∈ R) = rb at HE ⊢
    go_enter Try.func10, Try.ntmps10
    go_wp2_with (go_at_call 18; refine Calls.mono HF.out ?_; rintro e w' ⟨rfl, hw⟩; have hw' := hw.symm; subst hw'; clear hw)
    go_ret
    exact ⟨by rw [HE.out]; rfl, HA.out⟩
end Go.Proofs.Ytfjcadkihnecdaa
namespace Go.Proofs.Ytfjcadkihnecdaa
open Go.RowKit

theorem new_any (wd : Nat) (h : wd ≤ 4) (w : World) : Calls Try.prog 7 #[.int .i64 (wd : Int)] w fun e w' => e = .returned (.pointer (some ⟨w.heap.size, 0, none⟩)) ∧ w' = w.alloc (.cells #[.int .i64 (wd : Int), .slice none 0 0] 45) := by
  have h1 : ¬ (wd : Int) < 0 := by omega
  have h2 : ¬ 4 < (wd : Int) := by omega
  go_enter Try.func7, Try.ntmps7
  go_wp2
  go_ret
  exact ⟨rfl, rfl⟩
theorem new_five (w : World) : Calls Try.prog 7 #[.int .i64 5] w fun e w' => e = .returned (.pointer none) ∧ w' = w := by
  go_enter Try.func7, Try.ntmps7
  go_wp2
  go_ret
  exact ⟨rfl, rfl⟩
theorem St.new (wd : Nat) (h : wd ≤ 4) (w : World) : ∃ F, St (w.alloc (.cells #[.int .i64 (wd : Int), .slice none 0 0] 45)) w.heap.size wd F [] ∧ ∀ k, F k → w.heap.size ≤ k :=
  ⟨_, ⟨.slice none 0 0, [], rfl, Bx.new w _ 45, Pgs.nil _, rfl, by simp, List.Pairwise.nil, by simp, h, by simp⟩, fun k hk => by
    rcases hk with rfl | hk
    · exact Nat.le_refl _
    · rcases hk with hk | ⟨z, hz, _⟩
      · simp [Value.ownBlock] at hk
      · simp at hz⟩

theorem keys_take (zs : List Pg) (i : Nat) (h : i < zs.length) : (keys (zs.take (i + 1))).length = (keys (zs.take i)).length + zs[i].ks.length := by
  rw [List.take_succ_eq_append_getElem h, keys_append]
  simp [keys]
theorem keys_take_le (zs : List Pg) (i : Nat) : (keys (zs.take i)).length ≤ (keys zs).length := by
  have e : zs = zs.take i ++ zs.drop i := (List.take_append_drop i zs).symm
  have : (keys zs).length = (keys (zs.take i ++ zs.drop i)).length := by rw [← e]
  rw [this, keys_append]
  simp

set_option maxHeartbeats 1600000 in
theorem size_any (v : Value) (zs : List Pg) (w : World) (hv : Ps w v zs) (hl : zs.length ≤ 1000000000) (hk : (keys zs).length ≤ 1000000000) :
    Calls Try.prog 30 #[v] w fun e w' => e = .returned (.int .i64 ((keys zs).length : Int)) ∧ w' = w := by
  obtain ⟨ao, cap, rfl, h1, h2, h4⟩ := hv
  have HC := hide h4
  have HKT := hide (keys_take zs)
  have HKL := hide (keys_take_le zs)
  obtain ⟨N, hN⟩ : ∃ N, zs.length = N := ⟨_, rfl⟩
  have HN := hide hN
  rw [hN] at hl ⊢
  clear h4 h1 h2 hN
  go_enter Try.func30, Try.ntmps30
  go_wp2
  go_loopw [3, 8] (fun s i wr => ∃ k : Nat, k ≤ N ∧ i = .int .i64 k ∧ s = .int .i64 ((keys (zs.take k)).length : Int) ∧ wr = w) (fun _ i _ => N - (intOf i).toNat)
  case atStart => exact ⟨0, Nat.zero_le _, rfl, rfl, rfl⟩
  case round =>
    obtain ⟨k, hk', rfl, rfl, hw⟩ := hrel
    have hw' := hw.symm
    subst hw'
    clear hw
    by_cases hlt : k < N
    · have hltI : (k : Int) < (N : Int) := by omega
      have hkz : k < zs.length := by rw [HN.out]; exact hlt
      obtain ⟨g, off, rfl, hc⟩ := HC.out (by omega)
      obtain ⟨c0, kz⟩ := hc k hkz
      have HT := hide (HKT.out k hkz)
      have hle := HKL.out (k + 1)
      rw [HT.out] at hle
      obtain ⟨ao2, cap2, e2, -⟩ := kz
      rw [e2] at c0
      clear hc e2
      generalize zs[k].ks.length = m at *
      obtain ⟨t, ht⟩ : ∃ t, (keys (zs.take k)).length = t := ⟨_, rfl⟩
      rw [ht] at hle HT ⊢
      clear ht
      have hwr : IntKind.i64.wrap ((t : Int) + (m : Int)) = (t : Int) + (m : Int) := by rw [IntKind.wrap_i64]; omega
      go_wp2_with fail
      go_roundw
      case rel => exact ⟨k + 1, by omega, by simp, by rw [HT.out]; simp, trivial⟩
      case measure => simp [intOf]; omega
    · have hltI : ¬ (k : Int) < (N : Int) := by omega
      have e : zs.take k = zs := List.take_of_length_le (by rw [HN.out]; omega)
      rw [e]
      clear e
      go_wp2_with fail
      go_ret
      exact ⟨rfl, rfl⟩
theorem len_any {w : World} {p wd : Nat} {F : Nat → Prop} {R : List (List Int)} (h : St w p wd F R) (hl : R.length ≤ 1000000000) :
    Calls Try.prog 16 #[.pointer (some ⟨p, 0, none⟩)] w fun e w' => e = .returned (.int .i64 (R.length : Int)) ∧ w' = w := by
  obtain ⟨v, zs, -, h⟩ := h
  have hsz := h.size
  have e : (keys zs).length = R.length := by rw [h.ks, List.length_map]
  have HS := hide (size_any v zs w h.pgs.ps (by omega) (by omega))
  rw [e] at HS
  have c1 := h.box.c 1
  simp at c1
  obtain ⟨ao2, N, cap2, rfl⟩ := own_slice h.pgs.row
  clear h hsz e
  go_enter Try.func16, Try.ntmps16
  go_wp2_with (go_at_call 30; refine Calls.mono HS.out ?_; rintro e w' ⟨rfl, hw⟩; have hw' := hw.symm; subst hw'; clear hw)
  go_ret
  exact ⟨rfl, rfl⟩
theorem len_nil (w : World) : Calls Try.prog 16 #[.pointer none] w fun e w' => e = .returned (.int .i64 0) ∧ w' = w := by
  go_enter Try.func16, Try.ntmps16
  go_wp2
  go_ret
  exact ⟨rfl, rfl⟩
theorem fits_nil (ao : Option Addr) (n c : Nat) (w : World) : Calls Try.prog 18 #[.pointer none, .slice ao n c] w fun e w' => e = .returned (.bool false) ∧ w' = w := by
  go_enter Try.func18, Try.ntmps18
  go_wp2
  go_ret
  exact ⟨rfl, rfl⟩
end Go.Proofs.Ytfjcadkihnecdaa
namespace Go.Proofs.Ytfjcadkihnecdaa
open Go.RowKit Go.Shelf

theorem match_any {w : World} {p wd : Nat} {F : Nat → Prop} {R : List (List Int)} (h : St w p wd F R) (vr : Value) (r : List Int) (hr : Is w vr r) (hrw : r.length = wd) (hl : R.length ≤ 1000000000) :
    Calls Try.prog 13 #[.pointer (some ⟨p, 0, none⟩), vr] w fun e W' => ∃ v', e = .returned v' ∧ Rw w.heap.size W' v' (R.filter (ansB r)) ∧ Below w.heap.size w W' :=
  callsIn_wide.1 (match_in 3 (Nat.le_refl _) h vr r hr hrw hl)
theorem Is.lit2 (w : World) (x y : Int) : Is (w.alloc (.cells #[.int .i64 x, .int .i64 y] 3)) (.slice (some ⟨w.heap.size, 0, none⟩) 2 2) [x, y] :=
  ⟨_, 2, rfl, by simp, by simp [maxLen], fun _ => ⟨_, 0, rfl, fun j hj => by
    rw [Nat.zero_add, (Bx.new w #[.int .i64 x, .int .i64 y] 3).c]
    match j, hj with
    | 0, _ => rfl
    | 1, _ => rfl⟩⟩
theorem Is.lit1 (w : World) (x : Int) : Is (w.alloc (.cells #[.int .i64 x] 3)) (.slice (some ⟨w.heap.size, 0, none⟩) 1 1) [x] :=
  ⟨_, 1, rfl, by simp, by simp [maxLen], fun _ => ⟨_, 0, rfl, fun j hj => by
    rw [Nat.zero_add, (Bx.new w #[.int .i64 x] 3).c]
    match j, hj with
    | 0, _ => rfl⟩⟩
theorem Rw.len {b : Nat} {W : World} {v : Value} {L : List (List Int)} (h : Rw b W v L) : ∃ ao cap, v = .slice ao L.length cap := by
  obtain ⟨vs, h1, _⟩ := h
  rcases own_shape h1 with ⟨rfl, h0⟩ | ⟨g, cap, rfl, _⟩
  · exact ⟨none, 0, by rw [h0]⟩
  · exact ⟨_, _, rfl⟩
theorem Below.of_fr {F : Nat → Prop} {w A B : World} (hb : Below w.heap.size w A) (hf : Fr F A B) (hF : ∀ k, F k → w.heap.size ≤ k) : Below w.heap.size w B := hb.trans (hf.below hF hb.size)

set_option maxHeartbeats 3200000 in
theorem begun_any (w : World) : Calls Try.prog 6 #[] w fun e w' => e = .returned (.bool true) ∧ Below w.heap.size w w' := by
  have HN := hide (new_any 2 (by decide) w)
  obtain ⟨F0, hS0, hF0⟩ := St.new 2 (by decide) w
  have HS0 := hide hS0
  have HF0 := hide hF0
  have HW0 := hide (below_box w (.cells #[.int .i64 (2 : Nat), .slice none 0 0] 45))
  clear hS0 hF0
  go_enter Try.func6, Try.ntmps6
  go_wp2_with fail
  refine Calls.mono HN.out ?_
  rintro e w1 ⟨rfl, rfl⟩
  generalize w.alloc (.cells #[.int .i64 (2 : Nat), .slice none 0 0] 45) = W0 at *
  go_wp2_with fail
  have HA1 := hide (add_any (HS0.out.below (below_box W0 (.cells #[.int .i64 1, .int .i64 2] 3))) _ [1, 2] (Is.lit2 W0 1 2) (by decide) (by decide) (.inl (by decide)))
  refine Calls.mono HA1.out ?_
  rintro e w2 ⟨rfl, F1, R1, hS1, hfr1, hF1, hR1⟩
  rw [if_pos (by decide)] at hR1
  obtain ⟨Ra, Rb, e1, rfl⟩ := hR1
  have e2 : Ra = [] ∧ Rb = [] := by simpa using e1.symm
  obtain ⟨rfl, rfl⟩ := e2
  have HW2 : Hid (Below w.heap.size w w2) := Below.of_fr (HW0.out.trans ((below_box W0 _).mono HW0.out.size)) hfr1 (fun k hk => HF0.out k hk)
  have HS2 := hide hS1
  have HF2 : Hid (∀ k, F1 k → w.heap.size ≤ k) := fun k hk => by
    rcases hF1 k hk with h | h
    · exact HF0.out k h
    · have := HW0.out.size
      simp at h
      omega
  have hdec : decide (([1, 2] : List Int).length = 2 ∧ ([1, 2] : List Int) ∉ ([] : List (List Int))) = true := by decide
  rw [hdec]
  clear hdec hS1 hfr1 hF1 e1 HA1 HS0 HF0 HW0 HN
  go_wp2_with fail
  have HA1 := hide (add_any (HS2.out.below (below_box w2 (.cells #[.int .i64 1, .int .i64 2] 3))) _ [1, 2] (Is.lit2 w2 1 2) (by decide) (by decide) (.inl (by decide)))
  refine Calls.mono HA1.out ?_
  rintro e w3 ⟨rfl, F3, R3, hS3, hfr3, hF3, hR3⟩
  rw [if_neg (by decide)] at hR3
  subst hR3
  have HW3 : Hid (Below w.heap.size w w3) := Below.of_fr (HW2.out.trans ((below_box w2 _).mono HW2.out.size)) hfr3 (fun k hk => HF2.out k hk)
  have HS3 := hide hS3
  have HF3 : Hid (∀ k, F3 k → w.heap.size ≤ k) := fun k hk => by
    rcases hF3 k hk with h | h
    · exact HF2.out k h
    · have := HW2.out.size
      simp at h
      omega
  have hdec : decide (([1, 2] : List Int).length = 2 ∧ ([1, 2] : List Int) ∉ ([] ++ [[1, 2]] : List (List Int))) = false := by decide
  rw [hdec]
  clear hdec hS3 hfr3 hF3 HA1 HS2 HF2 HW2
  go_wp2_with fail
  have HA1 := hide (has_any (HS3.out.below (below_box w3 (.cells #[.int .i64 1, .int .i64 2] 3))) _ [1, 2] (Is.lit2 w3 1 2) (by decide))
  refine Calls.mono HA1.out ?_
  rintro e w4 ⟨rfl, hb4⟩
  have hbb := (below_box w3 (.cells #[.int .i64 1, .int .i64 2] 3)).trans (hb4.mono (by simp))
  have HW4 := hide (HW3.out.trans (hbb.mono HW3.out.size))
  have HS4 := hide (HS3.out.below hbb)
  have hdec : decide (([1, 2] : List Int) ∈ ([] ++ [[1, 2]] : List (List Int))) = true := by decide
  rw [hdec]
  clear hdec HA1 HS3 HW3 hb4 hbb
  go_wp2_with fail
  have HA1 := hide (len_any HS4.out (by decide))
  refine Calls.mono HA1.out ?_
  rintro e w5 ⟨rfl, hw⟩
  have hw' := hw.symm
  subst hw'
  clear hw HA1
  go_wp2_with fail
  have HA1 := hide (match_any (HS4.out.below (below_box w4 (.cells #[.int .i64 0, .int .i64 2] 3))) _ [0, 2] (Is.lit2 w4 0 2) rfl (by decide))
  refine Calls.mono HA1.out ?_
  rintro e w6 ⟨v6, rfl, hR6, hb6⟩
  have hfl : (([] ++ [[1, 2]] : List (List Int)).filter (ansB [0, 2])) = [[1, 2]] := by decide
  rw [hfl] at hR6
  obtain ⟨ao6, cap6, rfl⟩ := hR6.len
  have hbb := (below_box w4 (.cells #[.int .i64 0, .int .i64 2] 3)).trans (hb6.mono (by simp))
  have HW6 := hide (HW4.out.trans (hbb.mono HW4.out.size))
  have HS6 := hide (HS4.out.below hbb)
  clear HA1 HS4 HW4 hb6 hbb hfl hR6
  go_wp2_with fail
  have HA1 := hide (add_any (HS6.out.below (below_box w6 (.cells #[.int .i64 1] 3))) _ [1] (Is.lit1 w6 1) (by decide) (by decide) (.inl (by decide)))
  refine Calls.mono HA1.out ?_
  rintro e w7 ⟨rfl, F7, R7, hS7, hfr7, hF7, hR7⟩
  have HW7 : Hid (Below w.heap.size w w7) := Below.of_fr (HW6.out.trans ((below_box w6 _).mono HW6.out.size)) hfr7 (fun k hk => HF3.out k hk)
  have hdec : decide (([1] : List Int).length = 2 ∧ ([1] : List Int) ∉ ([] ++ [[1, 2]] : List (List Int))) = false := by decide
  rw [hdec]
  clear hdec hS7 hfr7 hF7 hR7 HA1 HS6 HW6
  go_wp2_with fail
  refine Calls.mono (new_five w7) ?_
  rintro e w8 ⟨rfl, hw⟩
  have hw' := hw.symm
  subst hw'
  clear hw
  go_wp2_with fail
  go_ret
  exact ⟨rfl, HW7.out⟩
end Go.Proofs.Ytfjcadkihnecdaa
