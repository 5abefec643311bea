/- The walk of a log's load. -/
import Derived.Test.YtnbdkojdddplkaaDoorWlLoad
import Derived.Test.YtnbdkojdddplkaaDoorWlBack
namespace Go.Proofs.YtnbdkojdddplkaaDoor.Wl
open Go.RowKit Dk

theorem scan_bound : ∀ (m : Nat) (bs : List UInt8), bs.length ≤ m → (Fr.scanL bs).1.length ≤ bs.length ∧ ∀ b ∈ (Fr.scanL bs).1, b.length ≤ bs.length
  | 0, bs, h => by
    have e : bs = [] := List.eq_nil_of_length_eq_zero (by omega)
    subst e
    rw [Fr.scan_nil]
    simp
  | m + 1, bs, h => by
    cases hf : Fr.firstB bs with
    | none => rw [Fr.scan_none hf]; simp
    | some b =>
      rw [Fr.scan_some hf]
      have hl := (Fr.first_some hf).2.2
      have hd : (bs.drop (8 + b.length)).length = bs.length - (8 + b.length) := by simp
      obtain ⟨i1, i2⟩ := scan_bound m (bs.drop (8 + b.length)) (by omega)
      refine ⟨by simp only [List.length_cons]; omega, fun x hx => ?_⟩
      rcases List.mem_cons.1 hx with rfl | hx
      · omega
      · have := i2 x hx
        omega

/-- The bytes of a file. -/
def fileOf (s : St) (n : ByteArray) : List UInt8 := ((Dk.look n s.now).map Fl.bs).getD []
theorem read_w (pd : Nat) (s : St) (F : Nat → Prop) (w : World) (h : Dk w pd s F) (hm : s.mass ≤ 1000000000) :
    Calls Tryd.prog 51 #[.pointer (some ⟨pd, 0, none⟩), .string nmW] w fun e w' => ∃ ao cap ok, e = .returned (.tuple #[.slice ao (fileOf s nmW).length cap, .bool ok]) ∧ Hid (Sl w' (.slice ao (fileOf s nmW).length cap) (fileOf s nmW) ∧ Below w.heap.size w w') := by
  unfold fileOf
  cases hl : Dk.look nmW s.now with
  | none =>
    refine (read_miss pd s F nmW w h hl hm).mono ?_
    rintro e w' ⟨rfl, hb⟩
    exact ⟨none, 0, false, rfl, Sl.nil _, hb⟩
  | some f =>
    refine (read_hit pd s F nmW f w h hl hm).mono ?_
    rintro e w' ⟨v', rfl, hO, hb⟩
    have hS := Sl.of_own hO
    obtain ⟨ao, cap, rfl, _, _⟩ := hS.shape
    exact ⟨ao, cap, true, rfl, hS, hb⟩

set_option maxHeartbeats 4000000 in
set_option maxRecDepth 20000 in
theorem load_walk (p pd : Nat) (s : St) (F : Nat → Prop) (w : World) (hp : w.heap[p]? = some (.cells #[.pointer (some ⟨pd, 0, none⟩), .int .i64 0, .slice none 0 0] 65 (0, 0))) (hD : Dk w pd s F) (hFp : ¬ F p) (ht : Fr.Tab w) (hl : (fileOf s nmW).length ≤ 30000) (hm : s.mass + 1 ≤ 1000000000) (first : Int) (ds : List (List UInt8)) (hR : loadR (Fr.scanL (fileOf s nmW)).1 0 [] = (first, ds)) :
    Calls Tryd.prog 29 #[.pointer (some ⟨p, 0, none⟩)] w fun e w' => e = .returned (.tuple #[]) ∧ ∃ wS wr, Below w.heap.size w wS ∧ LD wS wr p pd first ds ∧ Dk wr pd s F ∧ (((fileB first ds).length < (fileOf s nmW).length ∧ Dk w' pd (s.push (.cut nmW (fileB first ds).length)) (ext F wr w') ∧ Fr F wr w') ∨ (¬ (fileB first ds).length < (fileOf s nmW).length ∧ w' = wr)) := by
  have hplt : p < w.heap.size := (Array.getElem?_eq_some_iff.1 hp).1
  obtain ⟨fb, Hfb⟩ : ∃ fb, Hid (fb = fileOf s nmW) := ⟨_, (rfl : _ = _)⟩
  have HRd : Hid (_) := read_w pd s F w hD (by omega)
  rw [← Hfb.out] at HRd hl hR ⊢
  obtain ⟨bodies, Hbo⟩ : ∃ bodies, Hid (bodies = (Fr.scanL fb).1) := ⟨_, (rfl : _ = _)⟩
  rw [← Hbo.out] at hR
  have hbb := scan_bound _ fb (Nat.le_refl _)
  rw [← Hbo.out] at hbb
  have c0 : w.cell? ⟨p, 0, none⟩ = some (.pointer (some ⟨pd, 0, none⟩)) := by rw [cell_of_row w p 0 _ _ _ hp]; rfl
  have HSc : Hid (∀ u v, Below w.heap.size w u → Sl u v fb → Calls Tryd.prog 52 #[v] u fun e w' => ∃ ao cap z, e = .returned (.tuple #[.slice ao bodies.length cap, .int .i64 z]) ∧ Hid (Below w.heap.size w w' ∧ (∀ (wr : World) (i : Nat) (hi : i < bodies.length), Fr (fun k => k = p) w' wr → ∃ g aob capb, ao = some ⟨g, 0, none⟩ ∧ wr.cell? ⟨g, i, none⟩ = some (.slice aob bodies[i].length capb) ∧ Sl wr (.slice aob bodies[i].length capb) bodies[i]))) := by
    intro u v hb hS
    refine (Fr.scan_any v fb u hS (ht.below hb) (by omega)).mono ?_
    rintro e w' ⟨vl, rfl, hsl, hb'⟩
    rw [← Hbo.out] at hsl
    obtain ⟨vals, hvl, hO, hel⟩ := hsl
    have hbw : Below w.heap.size w w' := hb.trans (hb'.mono hb.size)
    have hsu := hb.size
    obtain ⟨ao, cap, rfl, hao⟩ : ∃ ao cap, vl = .slice ao bodies.length cap ∧ (0 < bodies.length → ∃ g, ao = some ⟨g, 0, none⟩ ∧ u.heap.size ≤ g) := by
      rcases hO.2 with ⟨rfl, e⟩ | ⟨g, cap, cur, rfl, hg, _⟩
      · exact ⟨none, 0, by rw [e], fun h => by omega⟩
      · exact ⟨_, _, rfl, fun _ => ⟨g, rfl, hg⟩⟩
    refine ⟨ao, cap, _, rfl, hbw, fun wr i hi hf => ?_⟩
    obtain ⟨g, rfl, hgu⟩ := hao (by omega)
    obtain ⟨x, hx, hE⟩ := hel i bodies[i] (List.getElem?_eq_getElem hi)
    have hOE : w'.ownsRow u.heap.size 5 1 x bodies[i].length (cells8 bodies[i]) := hE
    obtain ⟨aob, capb, rfl, _, _⟩ := (Sl.of_own hOE).shape
    have hc : w'.cell? ⟨g, i, none⟩ = some (.slice aob bodies[i].length capb) := by
      rw [hO.cellAt i (by omega)]
      exact hx
    refine ⟨g, aob, capb, rfl, hf.cell hc (by show ¬ g = p; omega), Sl.of_own (own_kept hOE hf (fun k hk e => ?_))⟩
    have := (hOE.lt k hk).1
    omega
  have HCut : Hid (∀ wr F2, Dk wr pd s F2 → (fileB first ds).length < fb.length → Calls Tryd.prog 36 #[.pointer (some ⟨pd, 0, none⟩), .string nmW, .int .i64 ((fileB first ds).length : Nat)] wr fun e w' => (∃ c, e = .returned (.int .i64 c)) ∧ Hid (Dk w' pd (s.push (.cut nmW (fileB first ds).length)) (ext F2 wr w') ∧ Fr F2 wr w')) := by
    intro wr F2 hDr hlt
    have hfe := Hfb.out
    unfold fileOf at hfe
    cases hlk : Dk.look nmW s.now with
    | none => rw [hlk] at hfe; simp at hfe; rw [hfe] at hlt; simp at hlt
    | some f =>
      rw [hlk] at hfe
      simp at hfe
      refine (cut_ok pd s F2 nmW (fileB first ds).length f wr hDr hlk (by rw [← hfe]; omega) hm).mono ?_
      rintro e w' ⟨rfl, h1, h2⟩
      exact ⟨⟨_, rfl⟩, h1, h2⟩
  have hL0 : ∀ u, Below w.heap.size w u → LD u u p pd 0 [] := fun u hb => by
    have hpu : u.heap[p]? = some (.cells #[.pointer (some ⟨pd, 0, none⟩), .int .i64 0, .slice none 0 0] 65 (0, 0)) := (hb.block p hplt).trans hp
    exact ⟨.slice none 0 0, [], fun _ => False, ⟨hpu, World.ownsRow_nil _ _ _ _, by simp, by simp, by simp [Value.ownBlock], fun _ h => h.elim, id, by simp, fun _ => rfl, by decide⟩, rfl, fun _ h => h.elim, Fr.refl _ _⟩
  have HL0 : Hid (_) := hL0
  have HDk : Hid (∀ wS wr, Below w.heap.size w wS → Fr (fun k => k = p) wS wr → Dk wr pd s F) := fun wS wr hb hf => (hD.below hb).kept hf (fun k hk e => hFp (e ▸ hk))
  have hb1 := hbb.1
  have HB2 : Hid (_) := hbb.2
  have HR : Hid (_) := hR
  clear hp hD hFp ht hm hR hL0 hbb
  simp only [nmW] at HRd HCut
  go_enter Tryd.func29, Tryd.ntmps29
  go_wp2_with (go_at_call 51; refine Calls.mono HRd.out ?_; rintro e w1 ⟨ao1, cap1, ok1, rfl, HX1⟩)
  have HS2 : Hid (_) := HSc.out w1 _ HX1.out.2 HX1.out.1
  clear HSc HRd
  go_wp2_with (go_at_call 52; refine Calls.mono HS2.out ?_; rintro e wS ⟨ao2, cap2, z2, rfl, HX2⟩)
  clear HS2
  obtain ⟨Z, HZ⟩ : ∃ Z, Hid (Z = (fileB first ds).length) := ⟨_, (rfl : _ = _)⟩
  obtain ⟨nd, HND⟩ : ∃ nd, Hid (nd = ds.length) := ⟨_, (rfl : _ = _)⟩
  have HFin : Hid (∀ wr, LD wS wr p pd first ds → nd ≤ 100000 → ∃ ao cap, wr.cell? ⟨p, 2, none⟩ = some (.slice ao nd cap) ∧ wr.cell? ⟨p, 0, none⟩ = some (.pointer (some ⟨pd, 0, none⟩)) ∧ Hid (Calls Tryd.prog 37 #[.pointer (some ⟨p, 0, none⟩), .int .i64 (nd : Int)] wr fun e w' => e = .returned (.int .i64 (Z : Nat)) ∧ w' = wr) ∧
      Hid (Z < fb.length → Calls Tryd.prog 36 #[.pointer (some ⟨pd, 0, none⟩), .string ⟨#[119]⟩, .int .i64 (Z : Nat)] wr fun e w' => (∃ c, e = .returned (.int .i64 c)) ∧ Hid (Dk w' pd (s.push (.cut nmW (fileB first ds).length)) (ext F wr w') ∧ Fr F wr w')) ∧ Hid (Dk wr pd s F)) := by
    intro wr hL hdl
    rw [HND.out] at hdl ⊢
    rw [HZ.out]
    obtain ⟨ao, cap, h1, h2, h3⟩ := hL.size hdl
    have hD := HDk.out wS wr HX2.out.1 hL.fr
    exact ⟨ao, cap, h1, h2, h3, fun hlt => HCut.out wr F hD hlt, hD⟩
  have HBS : Hid (Below w.heap.size w wS) := HX2.out.1
  clear HDk HCut
  go_loopw [27] (fun vi wr => ∃ (k : Nat) (f : Int) (es : List (List UInt8)), k ≤ bodies.length ∧ vi = .int .i64 k ∧ Hid (LD wS wr p pd f es ∧ loadR (bodies.drop k) f es = (first, ds) ∧ es.length ≤ k ∧ (fileB f es).length ≤ 32800 * k)) (fun vi _ => bodies.length - (intOf vi).toNat)
  case atStart => exact ⟨0, 0, [], Nat.zero_le _, rfl, HL0.out wS HX2.out.1, by rw [List.drop_zero]; exact HR.out, by simp, by simp [fileB]⟩
  case round =>
    clear HL0 HR
    obtain ⟨k, f, es, hk, rfl, HK⟩ := hrel
    by_cases hlt : k < bodies.length
    · have hlt' : (k : Int) < (bodies.length : Int) := by omega
      obtain ⟨g, aob, capb, rfl, hcell, hSb⟩ := HX2.out.2 wr k hlt HK.out.1.fr
      have HU : Hid (_) := unseal_any _ bodies[k] wr hSb (by have := HB2.out bodies[k] (List.getElem_mem hlt); omega)
      have hdrop : bodies.drop k = bodies[k] :: bodies.drop (k + 1) := List.drop_eq_getElem_cons hlt
      have HLR := HK.out.2.1
      rw [hdrop, loadR] at HLR
      obtain ⟨bk, Hbk⟩ : ∃ bk, Hid (bk = bodies[k]) := ⟨bodies[k], (rfl : _ = bodies[k])⟩
      rw [← Hbk.out] at hcell HU HLR
      have hbkl : bk.length ≤ 30000 := by
        have := HB2.out bodies[k] (List.getElem_mem hlt)
        rw [Hbk.out]
        omega
      have HKL : Hid (_) := HK.out.1
      have hes := HK.out.2.2.1
      have hfe := HK.out.2.2.2
      have hk3 : k ≤ 30000 := by omega
      clear hSb hdrop HK
      cases hun : unsealL bk with
      | none =>
        rw [hun] at HLR HU
        simp only [Prod.mk.injEq] at HLR
        obtain ⟨rfl, rfl⟩ := HLR
        clear hun
        have hnd : nd ≤ 100000 := by rw [HND.out]; omega
        by_cases hcut : Z < fb.length
        · have hcut' : (Z : Int) < (fb.length : Int) := by omega
          go_wp2_with (first
            | (go_at_call 53; refine Calls.mono HU.out ?_; rintro e w5 ⟨n5, ao5, L5, cap5, ok5, rfl, HX5⟩; have hok5 : ok5 = false := HX5.out.2; subst hok5; have hLD := LD.below HKL.out HX5.out.1; have HLD : Hid (_) := hLD; obtain ⟨ao3, cap3, e2, e0, HE, HC, HDr⟩ := HFin.out _ hLD hnd; clear hLD)
            | (go_at_call 37; refine Calls.mono HE.out ?_; rintro e w' ⟨rfl, hw⟩; have hw' := hw.symm; subst hw')
            | (go_at_call 36; refine Calls.mono (HC.out hcut) ?_; rintro e w9 ⟨⟨c9, rfl⟩, HX9⟩))
          go_end0
          exact ⟨rfl, wS, _, HBS.out, HLD.out, HDr.out, Or.inl ⟨by rw [← HZ.out]; exact hcut, HX9.out⟩⟩
        · have hcut' : ¬ (Z : Int) < (fb.length : Int) := by omega
          go_wp2_with (first
            | (go_at_call 53; refine Calls.mono HU.out ?_; rintro e w5 ⟨n5, ao5, L5, cap5, ok5, rfl, HX5⟩; have hok5 : ok5 = false := HX5.out.2; subst hok5; have hLD := LD.below HKL.out HX5.out.1; have HLD : Hid (_) := hLD; obtain ⟨ao3, cap3, e2, e0, HE, HC, HDr⟩ := HFin.out _ hLD hnd; clear hLD)
            | (go_at_call 37; refine Calls.mono HE.out ?_; rintro e w' ⟨rfl, hw⟩; have hw' := hw.symm; subst hw'))
          go_end0
          exact ⟨rfl, wS, _, HBS.out, HLD.out, HDr.out, Or.inr ⟨by rw [← HZ.out]; exact hcut, rfl⟩⟩
      | some nd0 =>
        obtain ⟨n, d⟩ := nd0
        have HRL : Hid (_) := recB_len hun
        have HUB : Hid (_) := unseal_back hun
        rw [hun] at HLR HU
        simp only at HLR
        clear hun
        by_cases hmay : mayL f es n = true
        · rw [if_pos hmay] at HLR
          have HLR' : Hid (_) := HLR
          have HMay : Hid (_) := hmay
          clear HLR hmay
          go_wp2_with (go_at_call 53; refine Calls.mono HU.out ?_; rintro e w5 ⟨n5, ao5, L5, cap5, ok5, rfl, HX5⟩; have hok5 : ok5 = true := HX5.out.2.1; subst hok5; have hn5 : n5 = n := HX5.out.2.2.1; subst hn5)
          have HMc : Hid (_) := LD.may (LD.below HKL.out HX5.out.1) n5 HUB.out.2.2.1
          rw [HMay.out] at HMc
          have HAd : Hid (∀ m, Calls Tryd.prog 33 #[.pointer (some ⟨p, 0, none⟩), .int .i64 n5, .slice ao5 L5 cap5, .int .i64 (8 + (bk.length : Int))] (w5.drewN m) fun e w' => e = .returned (.tuple #[]) ∧ Hid (LD wS w' p pd (if es.length = 0 then n5 else f) (es ++ [d]))) := by
            intro m
            have hbm : Below wr.heap.size wr (w5.drewN m) := HX5.out.1.trans ⟨rfl, rfl, rfl, Nat.le_refl _, fun _ _ => rfl⟩
            have h8 : ((8 + bk.length : Nat) : Int) = 8 + (bk.length : Int) := by omega
            rw [← h8]
            exact LD.add (LD.below HKL.out hbm) (Nat.lt_of_lt_of_le hplt HBS.out.size) HKL.out hbm n5 _ d (8 + bk.length) HX5.out.2.2.2.1 (fun a m c e => HX5.out.2.2.2.2 a m c e) HMay.out HUB.out.2.2.1 HRL.out.symm (by omega) (by omega)
          have HFl : Hid ((fileB (if es.length = 0 then n5 else f) (es ++ [d])).length ≤ 32800 * (k + 1)) := by
            show _ ≤ _
            have h1 := HRL.out
            by_cases hz : es.length = 0
            · have : es = [] := List.eq_nil_of_length_eq_zero hz
              subst this
              simp [fileB, h1]
              omega
            · rw [if_neg hz, fileB_append, List.length_append]
              have h2 : (fileB (f + es.length) [d]).length ≤ 32800 := by
                simp only [fileB, List.append_nil]
                unfold recB
                rw [Fr.seal_len, List.length_append, List.length_append]
                have := Bn.enc_le (f + es.length)
                have := Bn.enc_le (d.length : Int)
                have := HUB.out.2.2.2
                omega
              omega
          clear HMay
          go_wp2_with (first
            | (go_at_call 31; refine Calls.mono HMc.out ?_; rintro e w6 ⟨rfl, m6, rfl⟩)
            | (go_at_call 33; refine Calls.mono (HAd.out m6) ?_; rintro e w7 ⟨rfl, HX7⟩))
          go_roundw
          case rel => exact ⟨k + 1, _, _, by omega, by go_num, HX7.out, HLR'.out, by rw [List.length_append]; simp; omega, HFl.out⟩
          case measure => simp [intOf]; omega
        · rw [if_neg hmay] at HLR
          have hmay' : mayL f es n = false := by simpa using hmay
          have HMay : Hid (_) := hmay'
          clear hmay hmay'
          simp only [Prod.mk.injEq] at HLR
          obtain ⟨rfl, rfl⟩ := HLR
          have hnd : nd ≤ 100000 := by rw [HND.out]; omega
          by_cases hcut : Z < fb.length
          · have hcut' : (Z : Int) < (fb.length : Int) := by omega
            go_wp2_with (first
              | (go_at_call 53; refine Calls.mono HU.out ?_; rintro e w5 ⟨n5, ao5, L5, cap5, ok5, rfl, HX5⟩; have hok5 : ok5 = true := HX5.out.2.1; subst hok5; have hn5 : n5 = n := HX5.out.2.2.1; subst hn5; have HMc : Hid (_) := LD.may (LD.below HKL.out HX5.out.1) n5 HUB.out.2.2.1; rw [HMay.out] at HMc)
              | (go_at_call 31; refine Calls.mono HMc.out ?_; rintro e w6 ⟨rfl, m6, rfl⟩; have hLD := LD.below HKL.out (w' := w5.drewN m6) (HX5.out.1.trans ⟨rfl, rfl, rfl, Nat.le_refl _, fun _ _ => rfl⟩); have HLD : Hid (_) := hLD; obtain ⟨ao3, cap3, e2, e0, HE, HC, HDr⟩ := HFin.out _ hLD hnd; clear hLD)
              | (go_at_call 37; refine Calls.mono HE.out ?_; rintro e w' ⟨rfl, hw⟩; have hw' := hw.symm; subst hw')
              | (go_at_call 36; refine Calls.mono (HC.out hcut) ?_; rintro e w9 ⟨⟨c9, rfl⟩, HX9⟩))
            go_end0
            exact ⟨rfl, wS, _, HBS.out, HLD.out, HDr.out, Or.inl ⟨by rw [← HZ.out]; exact hcut, HX9.out⟩⟩
          · have hcut' : ¬ (Z : Int) < (fb.length : Int) := by omega
            go_wp2_with (first
              | (go_at_call 53; refine Calls.mono HU.out ?_; rintro e w5 ⟨n5, ao5, L5, cap5, ok5, rfl, HX5⟩; have hok5 : ok5 = true := HX5.out.2.1; subst hok5; have hn5 : n5 = n := HX5.out.2.2.1; subst hn5; have HMc : Hid (_) := LD.may (LD.below HKL.out HX5.out.1) n5 HUB.out.2.2.1; rw [HMay.out] at HMc)
              | (go_at_call 31; refine Calls.mono HMc.out ?_; rintro e w6 ⟨rfl, m6, rfl⟩; have hLD := LD.below HKL.out (w' := w5.drewN m6) (HX5.out.1.trans ⟨rfl, rfl, rfl, Nat.le_refl _, fun _ _ => rfl⟩); have HLD : Hid (_) := hLD; obtain ⟨ao3, cap3, e2, e0, HE, HC, HDr⟩ := HFin.out _ hLD hnd; clear hLD)
              | (go_at_call 37; refine Calls.mono HE.out ?_; rintro e w' ⟨rfl, hw⟩; have hw' := hw.symm; subst hw'))
            go_end0
            exact ⟨rfl, wS, _, HBS.out, HLD.out, HDr.out, Or.inr ⟨by rw [← HZ.out]; exact hcut, rfl⟩⟩
    · have hkb : k = bodies.length := by omega
      have hlt' : ¬ (k : Int) < (bodies.length : Int) := by omega
      have HLR := HK.out.2.1
      rw [List.drop_of_length_le (by omega), loadR] at HLR
      simp only [Prod.mk.injEq] at HLR
      obtain ⟨rfl, rfl⟩ := HLR
      have hnd : nd ≤ 100000 := by rw [HND.out]; have := HK.out.2.2.1; omega
      have HLD : Hid (_) := HK.out.1
      obtain ⟨ao3, cap3, e2, e0, HE, HC, HDr⟩ := HFin.out _ HLD.out hnd
      clear HK hkb HFin
      by_cases hcut : Z < fb.length
      · have hcut' : (Z : Int) < (fb.length : Int) := by omega
        go_wp2_with (first
          | (go_at_call 37; refine Calls.mono HE.out ?_; rintro e w' ⟨rfl, hw⟩; have hw' := hw.symm; subst hw')
          | (go_at_call 36; refine Calls.mono (HC.out hcut) ?_; rintro e w9 ⟨⟨c9, rfl⟩, HX9⟩))
        go_end0
        exact ⟨rfl, wS, _, HBS.out, HLD.out, HDr.out, Or.inl ⟨by rw [← HZ.out]; exact hcut, HX9.out⟩⟩
      · have hcut' : ¬ (Z : Int) < (fb.length : Int) := by omega
        go_wp2_with (go_at_call 37; refine Calls.mono HE.out ?_; rintro e w' ⟨rfl, hw⟩; have hw' := hw.symm; subst hw')
        go_end0
        exact ⟨rfl, wS, _, HBS.out, HLD.out, HDr.out, Or.inr ⟨by rw [← HZ.out]; exact hcut, rfl⟩⟩
end Go.Proofs.YtnbdkojdddplkaaDoor.Wl
