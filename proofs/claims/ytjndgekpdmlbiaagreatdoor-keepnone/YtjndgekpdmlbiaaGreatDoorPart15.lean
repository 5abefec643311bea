/- What is read off bytes was written so: plain mathematics. The walk of a log's load. The walks of HasPrefix and removeStrays. The walk of Open; a log over its disk. The walks of Append and Sync. -/
import Derived.Test.YtjndgekpdmlbiaaGreatDoorPart14
namespace Go.Proofs.YtjndgekpdmlbiaaGreatDoor.Wl
open Bn

theorem encF_back : ∀ (f : Nat) (bs : List UInt8) (k : Nat), len7 (f + 1) bs = k + 1 → (0 < k → at8 bs k ≠ 0) → encF f (acc (bs.take (k + 1))) = bs.take (k + 1)
  | f, [], k, h, _ => by simp [len7] at h
  | f, b :: r, k, h, hz => by
    rw [len7] at h
    have hb256 := b.toNat_lt
    by_cases hb : 128 ≤ b.toNat
    · rw [if_pos hb] at h
      by_cases h0 : len7 f r = 0
      · rw [if_pos h0] at h
        omega
      · rw [if_neg h0] at h
        obtain ⟨k', rfl⟩ : ∃ k', k = k' + 1 := ⟨k - 1, by omega⟩
        obtain ⟨f', rfl⟩ : ∃ f', f = f' + 1 := by
          cases f with
          | zero => simp [len7] at h0
          | succ f' => exact ⟨f', rfl⟩
        have hl : len7 (f' + 1) r = k' + 1 := by omega
        have hz' : at8 r k' ≠ 0 := by
          have := hz (by omega)
          rwa [at8_cons_succ] at this
        have ih := encF_back f' r k' hl (fun _ => hz')
        rw [List.take_succ_cons]
        obtain ⟨a, ha⟩ : ∃ a, a = acc (r.take (k' + 1)) := ⟨_, rfl⟩
        rw [acc, ← ha]
        rw [← ha] at ih
        have ha1 : 1 ≤ a := by
          cases a with
          | zero =>
            exfalso
            rw [encF_last f' 0 (by omega)] at ih
            have hlen := congrArg List.length ih
            have hle := (len7_le (f' + 1) r).2
            simp at hlen
            have hk0 : k' = 0 := by omega
            subst hk0
            apply hz'
            cases r with
            | nil => simp [len7] at hl
            | cons x r =>
              simp at ih
              simp [at8, ← ih]
          | succ a => omega
        rw [encF_more f' _ (by omega), show (b.toNat % 128 + 128 * a) / 128 = a by omega, show (b.toNat % 128 + 128 * a) % 128 + 128 = b.toNat by omega, ih]
        simp
    · rw [if_neg hb] at h
      have hk : k = 0 := by omega
      subst hk
      simp only [Nat.zero_add, List.take_succ_cons, List.take_zero, acc]
      rw [encF_last f _ (by omega), show b.toNat % 128 + 128 * 0 = b.toNat by omega]
      simp

theorem zig_zag (u : Nat) : zig (zag u) = u := by
  unfold zag
  split
  · unfold zig
    rw [if_pos (by omega)]
    omega
  · unfold zig
    rw [if_neg (by omega)]
    omega
theorem num_back {bs : List UInt8} {u k : Nat} (h : num bs = some (u, k)) : bs.take k = enc (zag u) ∧ u < 18446744073709551616 ∧ k ≤ bs.length := by
  by_cases hb : bad bs
  · rw [num_bad hb] at h
    simp at h
  · rw [num_ok hb] at h
    simp only [Option.some.injEq, Prod.mk.injEq] at h
    obtain ⟨hu, hk⟩ := h
    unfold bad at hb
    rw [hk] at hu hb
    have hle := len7_le 10 bs
    rw [hk] at hle
    obtain ⟨j, rfl⟩ : ∃ j, k = j + 1 := ⟨k - 1, by omega⟩
    have h1 := encF_back 9 bs j hk (fun hj e => hb (Or.inr (Or.inl ⟨by omega, by simpa using e⟩)))
    rw [hu] at h1
    refine ⟨?_, ?_, hle.2⟩
    · unfold enc
      rw [zig_zag]
      exact h1.symm
    · have h2 := acc_take_lt bs (j + 1)
      rw [hu] at h2
      by_cases hj : j + 1 ≤ 9
      · have : (128 : Nat) ^ (j + 1) ≤ 128 ^ 9 := Nat.pow_le_pow_right (by omega) hj
        have h9 : (128 : Nat) ^ 9 = 9223372036854775808 := by decide
        omega
      · have hj9 : j = 9 := by omega
        subst hj9
        have h3 := acc_take bs 9 (by omega)
        rw [hu] at h3
        have h4 := acc_take_lt bs 9
        have h9 : (128 : Nat) ^ 9 = 9223372036854775808 := by decide
        have h9' : (128 : Int) ^ 9 = 9223372036854775808 := by decide
        have h5 : at8 bs 9 ≤ 1 := by
          by_cases h6 : 1 < at8 bs 9
          · exact absurd (Or.inr (Or.inr ⟨rfl, h6⟩)) hb
          · omega
        have h6 := (at8_bd bs 9).1
        rw [h9] at h4
        rw [h9'] at h3
        have h7 : at8 bs 9 % 128 ≤ 1 := by omega
        omega
theorem rNum_back {bs : List UInt8} {n : Int} {r : List UInt8} (h : rNum (some bs) = (n, some r)) : bs = enc n ++ r ∧ -9223372036854775808 ≤ n ∧ n ≤ 9223372036854775807 := by
  cases hn : num bs with
  | none => simp [rNum, hn] at h
  | some x =>
    obtain ⟨u, k⟩ := x
    simp only [rNum, hn, Prod.mk.injEq, Option.some.injEq] at h
    obtain ⟨rfl, rfl⟩ := h
    obtain ⟨h1, h2, h3⟩ := num_back hn
    refine ⟨?_, ?_⟩
    · rw [← h1, List.take_append_drop]
    · unfold zag
      split <;> omega
theorem rText_back {bs t r : List UInt8} (h : rText (some bs) = (t, some r)) : bs = enc (t.length : Int) ++ (t ++ r) := by
  unfold rText at h
  cases hn : rNum (some bs) with
  | mk n st =>
    rw [hn] at h
    cases st with
    | none => exact absurd (congrArg Prod.snd h) (by simp)
    | some x =>
      simp only [rCut] at h
      split at h
      · rename_i hc
        simp only [Prod.mk.injEq, Option.some.injEq] at h
        obtain ⟨rfl, rfl⟩ := h
        have h1 := (rNum_back hn).1
        have hl : ((x.take n.toNat).length : Int) = n := by rw [List.length_take]; omega
        rw [hl, List.take_append_drop]
        exact h1
      · simp at h
theorem unseal_back {body : List UInt8} {n : Int} {d : List UInt8} (h : unsealL body = some (n, d)) : body = enc n ++ (enc (d.length : Int) ++ d) ∧ -9223372036854775808 ≤ n ∧ n ≤ 9223372036854775807 ∧ d.length ≤ 32768 := by
  unfold unsealL at h
  cases hn : rNum (some body) with
  | mk m st =>
    rw [hn] at h
    cases st with
    | none => simp [rText, rNum] at h
    | some x =>
      cases ht : rText (some x) with
      | mk t st2 =>
        simp only [ht] at h
        cases st2 with
        | none => simp at h
        | some r =>
          simp only at h
          split at h
          · rename_i hc
            simp only [Option.some.injEq, Prod.mk.injEq] at h
            obtain ⟨rfl, rfl⟩ := h
            have h1 := rNum_back hn
            have h2 := rText_back ht
            have hr : r = [] := List.eq_nil_of_length_eq_zero hc.1
            subst hr
            rw [List.append_nil] at h2
            exact ⟨by rw [h1.1, h2], h1.2.1, h1.2.2, hc.2⟩
          · simp at h
theorem unseal_rec (n : Int) (d : List UInt8) (h0 : -9223372036854775808 ≤ n) (h1 : n ≤ 9223372036854775807) (hl : d.length ≤ 32768) : unsealL (enc n ++ (enc (d.length : Int) ++ d)) = some (n, d) := by
  unfold unsealL
  rw [rNum_enc n _ h0 h1]
  have := rText_enc d [] (by omega)
  rw [List.append_nil] at this
  rw [this]
  simp [hl]
theorem recB_len {body : List UInt8} {n : Int} {d : List UInt8} (h : unsealL body = some (n, d)) : (recB n d).length = 8 + body.length := by
  unfold recB
  rw [Fr.seal_len, (unseal_back h).1]
end Go.Proofs.YtjndgekpdmlbiaaGreatDoor.Wl
namespace Go.Proofs.YtjndgekpdmlbiaaGreatDoor.Wl
open Go.RowKit Dk

theorem scan_bound : ∀ (m : Nat) (bs : List UInt8), bs.length ≤ m → (Fr.scanL bs).1.length ≤ bs.length ∧ ∀ b ∈ (Fr.scanL bs).1, b.length ≤ bs.length
  | 0, bs, h => by
    have e : bs = [] := List.eq_nil_of_length_eq_zero (by omega)
    subst e
    rw [Fr.scan_nil]
    simp
  | m + 1, bs, h => by
    cases hf : Fr.firstB bs with
    | none => rw [Fr.scan_none hf]; simp
    | some b =>
      rw [Fr.scan_some hf]
      have hl := (Fr.first_some hf).2.2
      have hd : (bs.drop (8 + b.length)).length = bs.length - (8 + b.length) := by simp
      obtain ⟨i1, i2⟩ := scan_bound m (bs.drop (8 + b.length)) (by omega)
      refine ⟨by simp only [List.length_cons]; omega, fun x hx => ?_⟩
      rcases List.mem_cons.1 hx with rfl | hx
      · omega
      · have := i2 x hx
        omega

/-- The bytes of a file. -/
def fileOf (s : St) (n : ByteArray) : List UInt8 := ((Dk.look n s.now).map Fl.bs).getD []
theorem read_w (pd : Nat) (s : St) (F : Nat → Prop) (w : World) (h : Dk w pd s F) (hm : s.mass ≤ 1000000000) :
    Calls Tryz.prog 72 #[.pointer (some ⟨pd, 0, none⟩), .string nmW] w fun e w' => ∃ ao cap ok, e = .returned (.tuple #[.slice ao (fileOf s nmW).length cap, .bool ok]) ∧ Hid (Sl w' (.slice ao (fileOf s nmW).length cap) (fileOf s nmW) ∧ Below w.heap.size w w') := by
  unfold fileOf
  cases hl : Dk.look nmW s.now with
  | none =>
    refine (read_miss pd s F nmW w h hl hm).mono ?_
    rintro e w' ⟨rfl, hb⟩
    exact ⟨none, 0, false, rfl, Sl.nil _, hb⟩
  | some f =>
    refine (read_hit pd s F nmW f w h hl hm).mono ?_
    rintro e w' ⟨v', rfl, hO, hb⟩
    have hS := Sl.of_own hO
    obtain ⟨ao, cap, rfl, _, _⟩ := hS.shape
    exact ⟨ao, cap, true, rfl, hS, hb⟩

set_option maxHeartbeats 4000000 in
set_option maxRecDepth 20000 in
theorem load_walk (p pd : Nat) (s : St) (F : Nat → Prop) (w : World) (hp : w.heap[p]? = some (.cells #[.pointer (some ⟨pd, 0, none⟩), .int .i64 0, .slice none 0 0] 104 (0, 0))) (hD : Dk w pd s F) (hFp : ¬ F p) (ht : Fr.Tab w) (hl : (fileOf s nmW).length ≤ 30000) (hm : s.mass + 1 ≤ 1000000000) (first : Int) (ds : List (List UInt8)) (hR : loadR (Fr.scanL (fileOf s nmW)).1 0 [] = (first, ds)) :
    Calls Tryz.prog 47 #[.pointer (some ⟨p, 0, none⟩)] w fun e w' => e = .returned (.tuple #[]) ∧ ∃ wS wr, Below w.heap.size w wS ∧ LD wS wr p pd first ds ∧ Dk wr pd s F ∧ (((fileB first ds).length < (fileOf s nmW).length ∧ Dk w' pd (s.push (.cut nmW (fileB first ds).length)) (ext F wr w') ∧ Fr F wr w') ∨ (¬ (fileB first ds).length < (fileOf s nmW).length ∧ w' = wr)) := by
  have hplt : p < w.heap.size := (Array.getElem?_eq_some_iff.1 hp).1
  obtain ⟨fb, Hfb⟩ : ∃ fb, Hid (fb = fileOf s nmW) := ⟨_, (rfl : _ = _)⟩
  have HRd : Hid (_) := read_w pd s F w hD (by omega)
  rw [← Hfb.out] at HRd hl hR ⊢
  obtain ⟨bodies, Hbo⟩ : ∃ bodies, Hid (bodies = (Fr.scanL fb).1) := ⟨_, (rfl : _ = _)⟩
  rw [← Hbo.out] at hR
  have hbb := scan_bound _ fb (Nat.le_refl _)
  rw [← Hbo.out] at hbb
  have c0 : w.cell? ⟨p, 0, none⟩ = some (.pointer (some ⟨pd, 0, none⟩)) := by rw [cell_of_row w p 0 _ _ _ hp]; rfl
  have HSc : Hid (∀ u v, Below w.heap.size w u → Sl u v fb → Calls Tryz.prog 73 #[v] u fun e w' => ∃ ao cap z, e = .returned (.tuple #[.slice ao bodies.length cap, .int .i64 z]) ∧ Hid (Below w.heap.size w w' ∧ (∀ (wr : World) (i : Nat) (hi : i < bodies.length), Fr (fun k => k = p) w' wr → ∃ g aob capb, ao = some ⟨g, 0, none⟩ ∧ wr.cell? ⟨g, i, none⟩ = some (.slice aob bodies[i].length capb) ∧ Sl wr (.slice aob bodies[i].length capb) bodies[i]))) := by
    intro u v hb hS
    refine (Fr.scan_any v fb u hS (ht.below hb) (by omega)).mono ?_
    rintro e w' ⟨vl, rfl, hsl, hb'⟩
    rw [← Hbo.out] at hsl
    obtain ⟨vals, hvl, hO, hel⟩ := hsl
    have hbw : Below w.heap.size w w' := hb.trans (hb'.mono hb.size)
    have hsu := hb.size
    obtain ⟨ao, cap, rfl, hao⟩ : ∃ ao cap, vl = .slice ao bodies.length cap ∧ (0 < bodies.length → ∃ g, ao = some ⟨g, 0, none⟩ ∧ u.heap.size ≤ g) := by
      rcases hO.2 with ⟨rfl, e⟩ | ⟨g, cap, cur, rfl, hg, _⟩
      · exact ⟨none, 0, by rw [e], fun h => by omega⟩
      · exact ⟨_, _, rfl, fun _ => ⟨g, rfl, hg⟩⟩
    refine ⟨ao, cap, _, rfl, hbw, fun wr i hi hf => ?_⟩
    obtain ⟨g, rfl, hgu⟩ := hao (by omega)
    obtain ⟨x, hx, hE⟩ := hel i bodies[i] (List.getElem?_eq_getElem hi)
    have hOE : w'.ownsRow u.heap.size 5 1 x bodies[i].length (cells8 bodies[i]) := hE
    obtain ⟨aob, capb, rfl, _, _⟩ := (Sl.of_own hOE).shape
    have hc : w'.cell? ⟨g, i, none⟩ = some (.slice aob bodies[i].length capb) := by
      rw [hO.cellAt i (by omega)]
      exact hx
    refine ⟨g, aob, capb, rfl, hf.cell hc (by show ¬ g = p; omega), Sl.of_own (own_kept hOE hf (fun k hk e => ?_))⟩
    have := (hOE.lt k hk).1
    omega
  have HCut : Hid (∀ wr F2, Dk wr pd s F2 → (fileB first ds).length < fb.length → Calls Tryz.prog 78 #[.pointer (some ⟨pd, 0, none⟩), .string nmW, .int .i64 ((fileB first ds).length : Nat)] wr fun e w' => (∃ c, e = .returned (.int .i64 c)) ∧ Hid (Dk w' pd (s.push (.cut nmW (fileB first ds).length)) (ext F2 wr w') ∧ Fr F2 wr w')) := by
    intro wr F2 hDr hlt
    have hfe := Hfb.out
    unfold fileOf at hfe
    cases hlk : Dk.look nmW s.now with
    | none => rw [hlk] at hfe; simp at hfe; rw [hfe] at hlt; simp at hlt
    | some f =>
      rw [hlk] at hfe
      simp at hfe
      refine (cut_ok pd s F2 nmW (fileB first ds).length f wr hDr hlk (by rw [← hfe]; omega) hm).mono ?_
      rintro e w' ⟨rfl, h1, h2⟩
      exact ⟨⟨_, rfl⟩, h1, h2⟩
  have hL0 : ∀ u, Below w.heap.size w u → LD u u p pd 0 [] := fun u hb => by
    have hpu : u.heap[p]? = some (.cells #[.pointer (some ⟨pd, 0, none⟩), .int .i64 0, .slice none 0 0] 104 (0, 0)) := (hb.block p hplt).trans hp
    exact ⟨.slice none 0 0, [], fun _ => False, ⟨hpu, World.ownsRow_nil _ _ _ _, by simp, by simp, by simp [Value.ownBlock], fun _ h => h.elim, id, by simp, fun _ => rfl, by decide⟩, rfl, fun _ h => h.elim, Fr.refl _ _⟩
  have HL0 : Hid (_) := hL0
  have HDk : Hid (∀ wS wr, Below w.heap.size w wS → Fr (fun k => k = p) wS wr → Dk wr pd s F) := fun wS wr hb hf => (hD.below hb).kept hf (fun k hk e => hFp (e ▸ hk))
  have hb1 := hbb.1
  have HB2 : Hid (_) := hbb.2
  have HR : Hid (_) := hR
  clear hp hD hFp ht hm hR hL0 hbb
  simp only [nmW] at HRd HCut
  go_enter Tryz.func47, Tryz.ntmps47
  go_wp2_with (go_at_call 72; refine Calls.mono HRd.out ?_; rintro e w1 ⟨ao1, cap1, ok1, rfl, HX1⟩)
  have HS2 : Hid (_) := HSc.out w1 _ HX1.out.2 HX1.out.1
  clear HSc HRd
  go_wp2_with (go_at_call 73; refine Calls.mono HS2.out ?_; rintro e wS ⟨ao2, cap2, z2, rfl, HX2⟩)
  clear HS2
  obtain ⟨Z, HZ⟩ : ∃ Z, Hid (Z = (fileB first ds).length) := ⟨_, (rfl : _ = _)⟩
  obtain ⟨nd, HND⟩ : ∃ nd, Hid (nd = ds.length) := ⟨_, (rfl : _ = _)⟩
  have HFin : Hid (∀ wr, LD wS wr p pd first ds → nd ≤ 100000 → ∃ ao cap, wr.cell? ⟨p, 2, none⟩ = some (.slice ao nd cap) ∧ wr.cell? ⟨p, 0, none⟩ = some (.pointer (some ⟨pd, 0, none⟩)) ∧ Hid (Calls Tryz.prog 77 #[.pointer (some ⟨p, 0, none⟩), .int .i64 (nd : Int)] wr fun e w' => e = .returned (.int .i64 (Z : Nat)) ∧ w' = wr) ∧
      Hid (Z < fb.length → Calls Tryz.prog 78 #[.pointer (some ⟨pd, 0, none⟩), .string ⟨#[119]⟩, .int .i64 (Z : Nat)] wr fun e w' => (∃ c, e = .returned (.int .i64 c)) ∧ Hid (Dk w' pd (s.push (.cut nmW (fileB first ds).length)) (ext F wr w') ∧ Fr F wr w')) ∧ Hid (Dk wr pd s F)) := by
    intro wr hL hdl
    rw [HND.out] at hdl ⊢
    rw [HZ.out]
    obtain ⟨ao, cap, h1, h2, h3⟩ := hL.size hdl
    have hD := HDk.out wS wr HX2.out.1 hL.fr
    exact ⟨ao, cap, h1, h2, h3, fun hlt => HCut.out wr F hD hlt, hD⟩
  have HBS : Hid (Below w.heap.size w wS) := HX2.out.1
  clear HDk HCut
  go_loopw [27] (fun vi wr => ∃ (k : Nat) (f : Int) (es : List (List UInt8)), k ≤ bodies.length ∧ vi = .int .i64 k ∧ Hid (LD wS wr p pd f es ∧ loadR (bodies.drop k) f es = (first, ds) ∧ es.length ≤ k ∧ (fileB f es).length ≤ 32800 * k)) (fun vi _ => bodies.length - (intOf vi).toNat)
  case atStart => exact ⟨0, 0, [], Nat.zero_le _, rfl, HL0.out wS HX2.out.1, by rw [List.drop_zero]; exact HR.out, by simp, by simp [fileB]⟩
  case round =>
    clear HL0 HR
    obtain ⟨k, f, es, hk, rfl, HK⟩ := hrel
    by_cases hlt : k < bodies.length
    · have hlt' : (k : Int) < (bodies.length : Int) := by omega
      obtain ⟨g, aob, capb, rfl, hcell, hSb⟩ := HX2.out.2 wr k hlt HK.out.1.fr
      have HU : Hid (_) := unseal_any _ bodies[k] wr hSb (by have := HB2.out bodies[k] (List.getElem_mem hlt); omega)
      have hdrop : bodies.drop k = bodies[k] :: bodies.drop (k + 1) := List.drop_eq_getElem_cons hlt
      have HLR := HK.out.2.1
      rw [hdrop, loadR] at HLR
      obtain ⟨bk, Hbk⟩ : ∃ bk, Hid (bk = bodies[k]) := ⟨bodies[k], (rfl : _ = bodies[k])⟩
      rw [← Hbk.out] at hcell HU HLR
      have hbkl : bk.length ≤ 30000 := by
        have := HB2.out bodies[k] (List.getElem_mem hlt)
        rw [Hbk.out]
        omega
      have HKL : Hid (_) := HK.out.1
      have hes := HK.out.2.2.1
      have hfe := HK.out.2.2.2
      have hk3 : k ≤ 30000 := by omega
      clear hSb hdrop HK
      cases hun : unsealL bk with
      | none =>
        rw [hun] at HLR HU
        simp only [Prod.mk.injEq] at HLR
        obtain ⟨rfl, rfl⟩ := HLR
        clear hun
        have hnd : nd ≤ 100000 := by rw [HND.out]; omega
        by_cases hcut : Z < fb.length
        · have hcut' : (Z : Int) < (fb.length : Int) := by omega
          go_wp2_with (first
            | (go_at_call 74; refine Calls.mono HU.out ?_; rintro e w5 ⟨n5, ao5, L5, cap5, ok5, rfl, HX5⟩; have hok5 : ok5 = false := HX5.out.2; subst hok5; have hLD := LD.below HKL.out HX5.out.1; have HLD : Hid (_) := hLD; obtain ⟨ao3, cap3, e2, e0, HE, HC, HDr⟩ := HFin.out _ hLD hnd; clear hLD)
            | (go_at_call 77; refine Calls.mono HE.out ?_; rintro e w' ⟨rfl, hw⟩; have hw' := hw.symm; subst hw')
            | (go_at_call 78; refine Calls.mono (HC.out hcut) ?_; rintro e w9 ⟨⟨c9, rfl⟩, HX9⟩))
          go_end0
          exact ⟨rfl, wS, _, HBS.out, HLD.out, HDr.out, Or.inl ⟨by rw [← HZ.out]; exact hcut, HX9.out⟩⟩
        · have hcut' : ¬ (Z : Int) < (fb.length : Int) := by omega
          go_wp2_with (first
            | (go_at_call 74; refine Calls.mono HU.out ?_; rintro e w5 ⟨n5, ao5, L5, cap5, ok5, rfl, HX5⟩; have hok5 : ok5 = false := HX5.out.2; subst hok5; have hLD := LD.below HKL.out HX5.out.1; have HLD : Hid (_) := hLD; obtain ⟨ao3, cap3, e2, e0, HE, HC, HDr⟩ := HFin.out _ hLD hnd; clear hLD)
            | (go_at_call 77; refine Calls.mono HE.out ?_; rintro e w' ⟨rfl, hw⟩; have hw' := hw.symm; subst hw'))
          go_end0
          exact ⟨rfl, wS, _, HBS.out, HLD.out, HDr.out, Or.inr ⟨by rw [← HZ.out]; exact hcut, rfl⟩⟩
      | some nd0 =>
        obtain ⟨n, d⟩ := nd0
        have HRL : Hid (_) := recB_len hun
        have HUB : Hid (_) := unseal_back hun
        rw [hun] at HLR HU
        simp only at HLR
        clear hun
        by_cases hmay : mayL f es n = true
        · rw [if_pos hmay] at HLR
          have HLR' : Hid (_) := HLR
          have HMay : Hid (_) := hmay
          clear HLR hmay
          go_wp2_with (go_at_call 74; refine Calls.mono HU.out ?_; rintro e w5 ⟨n5, ao5, L5, cap5, ok5, rfl, HX5⟩; have hok5 : ok5 = true := HX5.out.2.1; subst hok5; have hn5 : n5 = n := HX5.out.2.2.1; subst hn5)
          have HMc : Hid (_) := LD.may (LD.below HKL.out HX5.out.1) n5 HUB.out.2.2.1
          rw [HMay.out] at HMc
          have HAd : Hid (∀ m, Calls Tryz.prog 76 #[.pointer (some ⟨p, 0, none⟩), .int .i64 n5, .slice ao5 L5 cap5, .int .i64 (8 + (bk.length : Int))] (w5.drewN m) fun e w' => e = .returned (.tuple #[]) ∧ Hid (LD wS w' p pd (if es.length = 0 then n5 else f) (es ++ [d]))) := by
            intro m
            have hbm : Below wr.heap.size wr (w5.drewN m) := HX5.out.1.trans ⟨rfl, rfl, rfl, Nat.le_refl _, fun _ _ => rfl⟩
            have h8 : ((8 + bk.length : Nat) : Int) = 8 + (bk.length : Int) := by omega
            rw [← h8]
            exact LD.add (LD.below HKL.out hbm) (Nat.lt_of_lt_of_le hplt HBS.out.size) HKL.out hbm n5 _ d (8 + bk.length) HX5.out.2.2.2.1 (fun a m c e => HX5.out.2.2.2.2 a m c e) HMay.out HUB.out.2.2.1 HRL.out.symm (by omega) (by omega)
          have HFl : Hid ((fileB (if es.length = 0 then n5 else f) (es ++ [d])).length ≤ 32800 * (k + 1)) := by
            show _ ≤ _
            have h1 := HRL.out
            by_cases hz : es.length = 0
            · have : es = [] := List.eq_nil_of_length_eq_zero hz
              subst this
              simp [fileB, h1]
              omega
            · rw [if_neg hz, fileB_append, List.length_append]
              have h2 : (fileB (f + es.length) [d]).length ≤ 32800 := by
                simp only [fileB, List.append_nil]
                unfold recB
                rw [Fr.seal_len, List.length_append, List.length_append]
                have := Bn.enc_le (f + es.length)
                have := Bn.enc_le (d.length : Int)
                have := HUB.out.2.2.2
                omega
              omega
          clear HMay
          go_wp2_with (first
            | (go_at_call 75; refine Calls.mono HMc.out ?_; rintro e w6 ⟨rfl, m6, rfl⟩)
            | (go_at_call 76; refine Calls.mono (HAd.out m6) ?_; rintro e w7 ⟨rfl, HX7⟩))
          go_roundw
          case rel => exact ⟨k + 1, _, _, by omega, by go_num, HX7.out, HLR'.out, by rw [List.length_append]; simp; omega, HFl.out⟩
          case measure => simp [intOf]; omega
        · rw [if_neg hmay] at HLR
          have hmay' : mayL f es n = false := by simpa using hmay
          have HMay : Hid (_) := hmay'
          clear hmay hmay'
          simp only [Prod.mk.injEq] at HLR
          obtain ⟨rfl, rfl⟩ := HLR
          have hnd : nd ≤ 100000 := by rw [HND.out]; omega
          by_cases hcut : Z < fb.length
          · have hcut' : (Z : Int) < (fb.length : Int) := by omega
            go_wp2_with (first
              | (go_at_call 74; refine Calls.mono HU.out ?_; rintro e w5 ⟨n5, ao5, L5, cap5, ok5, rfl, HX5⟩; have hok5 : ok5 = true := HX5.out.2.1; subst hok5; have hn5 : n5 = n := HX5.out.2.2.1; subst hn5; have HMc : Hid (_) := LD.may (LD.below HKL.out HX5.out.1) n5 HUB.out.2.2.1; rw [HMay.out] at HMc)
              | (go_at_call 75; refine Calls.mono HMc.out ?_; rintro e w6 ⟨rfl, m6, rfl⟩; have hLD := LD.below HKL.out (w' := w5.drewN m6) (HX5.out.1.trans ⟨rfl, rfl, rfl, Nat.le_refl _, fun _ _ => rfl⟩); have HLD : Hid (_) := hLD; obtain ⟨ao3, cap3, e2, e0, HE, HC, HDr⟩ := HFin.out _ hLD hnd; clear hLD)
              | (go_at_call 77; refine Calls.mono HE.out ?_; rintro e w' ⟨rfl, hw⟩; have hw' := hw.symm; subst hw')
              | (go_at_call 78; refine Calls.mono (HC.out hcut) ?_; rintro e w9 ⟨⟨c9, rfl⟩, HX9⟩))
            go_end0
            exact ⟨rfl, wS, _, HBS.out, HLD.out, HDr.out, Or.inl ⟨by rw [← HZ.out]; exact hcut, HX9.out⟩⟩
          · have hcut' : ¬ (Z : Int) < (fb.length : Int) := by omega
            go_wp2_with (first
              | (go_at_call 74; refine Calls.mono HU.out ?_; rintro e w5 ⟨n5, ao5, L5, cap5, ok5, rfl, HX5⟩; have hok5 : ok5 = true := HX5.out.2.1; subst hok5; have hn5 : n5 = n := HX5.out.2.2.1; subst hn5; have HMc : Hid (_) := LD.may (LD.below HKL.out HX5.out.1) n5 HUB.out.2.2.1; rw [HMay.out] at HMc)
              | (go_at_call 75; refine Calls.mono HMc.out ?_; rintro e w6 ⟨rfl, m6, rfl⟩; have hLD := LD.below HKL.out (w' := w5.drewN m6) (HX5.out.1.trans ⟨rfl, rfl, rfl, Nat.le_refl _, fun _ _ => rfl⟩); have HLD : Hid (_) := hLD; obtain ⟨ao3, cap3, e2, e0, HE, HC, HDr⟩ := HFin.out _ hLD hnd; clear hLD)
              | (go_at_call 77; refine Calls.mono HE.out ?_; rintro e w' ⟨rfl, hw⟩; have hw' := hw.symm; subst hw'))
            go_end0
            exact ⟨rfl, wS, _, HBS.out, HLD.out, HDr.out, Or.inr ⟨by rw [← HZ.out]; exact hcut, rfl⟩⟩
    · have hkb : k = bodies.length := by omega
      have hlt' : ¬ (k : Int) < (bodies.length : Int) := by omega
      have HLR := HK.out.2.1
      rw [List.drop_of_length_le (by omega), loadR] at HLR
      simp only [Prod.mk.injEq] at HLR
      obtain ⟨rfl, rfl⟩ := HLR
      have hnd : nd ≤ 100000 := by rw [HND.out]; have := HK.out.2.2.1; omega
      have HLD : Hid (_) := HK.out.1
      obtain ⟨ao3, cap3, e2, e0, HE, HC, HDr⟩ := HFin.out _ HLD.out hnd
      clear HK hkb HFin
      by_cases hcut : Z < fb.length
      · have hcut' : (Z : Int) < (fb.length : Int) := by omega
        go_wp2_with (first
          | (go_at_call 77; refine Calls.mono HE.out ?_; rintro e w' ⟨rfl, hw⟩; have hw' := hw.symm; subst hw')
          | (go_at_call 78; refine Calls.mono (HC.out hcut) ?_; rintro e w9 ⟨⟨c9, rfl⟩, HX9⟩))
        go_end0
        exact ⟨rfl, wS, _, HBS.out, HLD.out, HDr.out, Or.inl ⟨by rw [← HZ.out]; exact hcut, HX9.out⟩⟩
      · have hcut' : ¬ (Z : Int) < (fb.length : Int) := by omega
        go_wp2_with (go_at_call 77; refine Calls.mono HE.out ?_; rintro e w' ⟨rfl, hw⟩; have hw' := hw.symm; subst hw')
        go_end0
        exact ⟨rfl, wS, _, HBS.out, HLD.out, HDr.out, Or.inr ⟨by rw [← HZ.out]; exact hcut, rfl⟩⟩
end Go.Proofs.YtjndgekpdmlbiaaGreatDoor.Wl
namespace Go.Proofs.YtjndgekpdmlbiaaGreatDoor.Wl
open Go.RowKit Dk

/-- Does a name begin with w? -/
def preW (n : ByteArray) : Bool := decide (1 ≤ n.size) && ((n.extract 0 1).toList == nmW.toList)

set_option maxHeartbeats 1000000 in
theorem pre_any (n : ByteArray) (w : World) (hn : n.size ≤ maxLen) : Calls Tryz.prog 70 #[.string n, .string nmW] w fun e w' => e = .returned (.bool (preW n)) ∧ w' = w := by
  unfold maxLen at hn
  have H : Hid (Calls Tryz.prog 100 #[.string n, .string ⟨#[119]⟩] w fun e w' => e = .returned (.bool (preW n)) ∧ w' = w) := by
    by_cases h : 1 ≤ n.size
    · have h' : (1 : Int) ≤ (n.size : Int) := by omega
      have hp : preW n = ((n.extract 0 1).toList == nmW.toList) := by unfold preW; simp [h]
      have hp2 : preW n = ((n.extract 0 1).toList == [119]) := by
        rw [hp]; unfold nmW; rw [toList_data ⟨#[119]⟩]
      clear hp
      go_enter Tryz.func100, Tryz.ntmps100
      go_wp2
      go_ret
      refine ⟨congrArg (fun b => Ending.returned (Value.bool b)) ?_, rfl⟩
      rw [hp2]
    · have h' : ¬ (1 : Int) ≤ (n.size : Int) := by omega
      have hp : preW n = false := by unfold preW; simp; omega
      rw [hp]
      clear hp
      go_enter Tryz.func100, Tryz.ntmps100
      go_wp2
      go_ret
      exact ⟨rfl, rfl⟩
  show Calls Tryz.prog 70 #[.string n, .string ⟨#[119]⟩] w _
  go_enter Tryz.func70, Tryz.ntmps70
  go_wp2_with (go_at_call 100; refine Calls.mono H.out ?_; rintro e w' ⟨rfl, hw⟩; have hw' := hw.symm; subst hw')
  go_ret
  exact ⟨rfl, rfl⟩

def rmStep (s : St) (n : ByteArray) : St := if (Dk.look n s.now).isSome = true then s.push (.rem n) else s
def strayStep (s : St) (n : ByteArray) : St := if preW n = true ∧ n ≠ nmW then rmStep s n else s
def strays (s : St) (ns : List ByteArray) : St := ns.foldl strayStep s
theorem stray_mass (s : St) (n : ByteArray) : (strayStep s n).mass ≤ s.mass + 1 := by
  unfold strayStep rmStep
  split
  · split
    · rw [St.push_mass]; simp [Ch.mass]
    · omega
  · omega
theorem strays_mass : ∀ (ns : List ByteArray) (s : St), (strays s ns).mass ≤ s.mass + ns.length
  | [], s => by simp [strays]
  | n :: ns, s => by
    have h1 := strays_mass ns (strayStep s n)
    have h2 := stray_mass s n
    unfold strays at h1 ⊢
    rw [List.foldl_cons, List.length_cons]
    omega
theorem look_del_ne {n m : ByteArray} (h : n ≠ m) (fs : List Fl) : Dk.look m (Dk.del n fs) = Dk.look m fs := by
  unfold Dk.look Dk.del
  induction fs with
  | nil => rfl
  | cons x r ih =>
    rw [List.filter_cons]
    by_cases hx : x.name = n
    · have hm : x.name ≠ m := fun e => h (hx.symm.trans e)
      simp [hx, h, ih]
    · simp only [hx, decide_false, Bool.not_false, if_true, List.find?_cons]
      rw [ih]
theorem stray_look (s : St) (n : ByteArray) : Dk.look nmW (strayStep s n).now = Dk.look nmW s.now := by
  unfold strayStep
  split
  · rename_i h
    unfold rmStep
    split
    · rw [St.push_now]
      exact look_del_ne h.2 _
    · rfl
  · rfl
theorem strays_look : ∀ (ns : List ByteArray) (s : St), Dk.look nmW (strays s ns).now = Dk.look nmW s.now
  | [], s => rfl
  | n :: ns, s => by
    have h1 := strays_look ns (strayStep s n)
    unfold strays at h1 ⊢
    rw [List.foldl_cons, h1, stray_look]

theorem rm_any (pd : Nat) (s : St) (F : Nat → Prop) (n : ByteArray) (w : World) (h : Dk w pd s F) (hm : s.mass + 1 ≤ 1000000000) :
    Calls Tryz.prog 71 #[.pointer (some ⟨pd, 0, none⟩), .string n] w fun e w' => (∃ c, e = .returned (.int .i64 c)) ∧ Dk w' pd (rmStep s n) (ext F w w') ∧ Fr F w w' := by
  unfold rmStep
  cases hl : (Dk.look n s.now).isSome with
  | true =>
    rw [if_pos rfl]
    exact (remove_some pd s F n w h hl hm).mono fun _ _ ⟨he, h1, h2⟩ => ⟨⟨_, he⟩, h1, h2⟩
  | false =>
    rw [if_neg (by simp)]
    have hl' : Dk.look n s.now = none := by simpa using hl
    refine (remove_none pd s F n w h hl' (by omega)).mono ?_
    rintro e w' ⟨rfl, hb⟩
    exact ⟨⟨_, rfl⟩, (h.below hb).mono (fun _ hk => Or.inl hk) (ext_lt h.lt hb.size), Fr.of_below hb⟩

set_option maxHeartbeats 2000000 in
set_option maxRecDepth 20000 in
theorem strays_any (pd : Nat) (s : St) (F : Nat → Prop) (w : World) (h : Dk w pd s F) (hm : s.mass + s.now.length + 1 ≤ 100000000) (hsz : ∀ f ∈ s.now, f.name.size ≤ maxLen) :
    Calls Tryz.prog 46 #[.pointer (some ⟨pd, 0, none⟩)] w fun e w' => e = .returned (.tuple #[]) ∧ (∃ F', Dk w' pd (strays s (s.now.map Fl.name)) F' ∧ ∀ k, F' k → F k ∨ w.heap.size ≤ k) ∧ Fr F w w' := by
  have HN : Hid (_) := names_any pd s F w h (by omega)
  have hFlt := h.lt
  obtain ⟨ns, Hns⟩ : ∃ ns, Hid (ns = s.now.map Fl.name) := ⟨_, (rfl : _ = _)⟩
  have hnl : ns.length = s.now.length := by rw [Hns.out]; simp
  have HSz : Hid (∀ i (hi : i < ns.length), ns[i].size ≤ maxLen) := by
    intro i hi
    have : ns[i] ∈ s.now.map Fl.name := by rw [← Hns.out]; exact List.getElem_mem hi
    obtain ⟨f, hf, e⟩ := List.mem_map.1 this
    rw [← e]
    exact hsz f hf
  rw [← Hns.out]
  have hmap : s.now.map (fun f => Value.string f.name) = ns.map Value.string := by rw [Hns.out, List.map_map]; rfl
  have HN2 : Hid (Calls Tryz.prog 69 #[.pointer (some ⟨pd, 0, none⟩)] w fun e w1 => ∃ ao cap, e = .returned (.slice ao ns.length cap) ∧ Hid (Below w.heap.size w w1 ∧ Dk w1 pd s F ∧ ∀ wr, Fr F w1 wr → ∀ i (hi : i < ns.length), ∃ g, ao = some ⟨g, 0, none⟩ ∧ wr.cell? ⟨g, i, none⟩ = some (.string ns[i]))) := by
    refine Calls.mono HN.out ?_
    rintro e w1 ⟨v, rfl, hO, hb⟩
    rw [hmap, ← hnl] at hO
    obtain ⟨ao, cap, rfl, hao⟩ : ∃ ao cap, v = .slice ao ns.length cap ∧ (0 < ns.length → ∃ g, ao = some ⟨g, 0, none⟩ ∧ w.heap.size ≤ g) := by
      rcases hO.2 with ⟨rfl, e⟩ | ⟨g, cap, cur, rfl, hg, _⟩
      · exact ⟨none, 0, by rw [e], fun h => by omega⟩
      · exact ⟨_, _, rfl, fun _ => ⟨g, rfl, hg⟩⟩
    refine ⟨ao, cap, rfl, hb, h.below hb, fun wr hf i hi => ?_⟩
    obtain ⟨g, rfl, hg⟩ := hao (by omega)
    refine ⟨g, rfl, hf.cell ?_ (fun hF => by have := hFlt g hF; omega)⟩
    rw [hO.cellAt i (by omega), List.getElem?_map, List.getElem?_eq_getElem hi]
    rfl
  have hnb : ns.length ≤ 100000000 := by omega
  have HM : Hid (∀ k, k ≤ ns.length → (strays s (ns.take k)).mass + 1 ≤ 1000000000) := by
    intro k hk
    have h1 := strays_mass (ns.take k) s
    rw [List.length_take] at h1
    omega
  clear hsz hmap hnl HN hm
  go_enter Tryz.func46, Tryz.ntmps46
  go_wp2_with (go_at_call 69; refine Calls.mono HN2.out ?_; rintro e w1 ⟨ao, cap, rfl, HX1⟩)
  go_loopw [7] (fun vi wr => ∃ k : Nat, k ≤ ns.length ∧ vi = .int .i64 k ∧ Hid ((∃ F', Dk wr pd (strays s (ns.take k)) F' ∧ ∀ j, F' j → F j ∨ w1.heap.size ≤ j) ∧ Fr F w1 wr)) (fun vi _ => ns.length - (intOf vi).toNat)
  case atStart => exact ⟨0, Nat.zero_le _, rfl, ⟨F, HX1.out.2.1, fun j hj => Or.inl hj⟩, Fr.refl _ _⟩
  case round =>
    obtain ⟨k, hk, rfl, HK⟩ := hrel
    by_cases hlt : k < ns.length
    · have hlt' : (k : Int) < (ns.length : Int) := by omega
      obtain ⟨g, rfl, hcell⟩ := HX1.out.2.2 wr HK.out.2 k hlt
      have HStep : Hid (strays s (ns.take (k + 1)) = strayStep (strays s (ns.take k)) ns[k]) := by
        show _ = _
        rw [take_succ_snoc ns k ns[k] (List.getElem?_eq_getElem hlt)]
        unfold strays
        rw [List.foldl_append]
        rfl
      have HP : Hid (_) := pre_any ns[k] wr (HSz.out k hlt)
      have HRm : Hid (Calls Tryz.prog 71 #[.pointer (some ⟨pd, 0, none⟩), .string ns[k]] wr fun e w' => (∃ c, e = .returned (.int .i64 c)) ∧ Hid ((∃ F', Dk w' pd (rmStep (strays s (ns.take k)) ns[k]) F' ∧ ∀ j, F' j → F j ∨ w1.heap.size ≤ j) ∧ Fr F w1 w')) := by
        obtain ⟨⟨F', hD, hF'⟩, hf⟩ := HK.out
        refine (rm_any pd _ F' ns[k] wr hD (HM.out k hk)).mono ?_
        rintro e w' ⟨⟨c, rfl⟩, h1, h2⟩
        have hs := hf.size
        refine ⟨⟨c, rfl⟩, ⟨_, h1, fun j hj => ?_⟩, hf.trans h2 (fun j hj hF => ?_)⟩
        · rcases hj with hj | hj
          · exact hF' j hj
          · exact Or.inr (by omega)
        · rcases hF' j hF with hh | hh
          · exact hh
          · omega
      obtain ⟨n, Hn⟩ : ∃ n, Hid (n = ns[k]) := ⟨ns[k], (rfl : _ = ns[k])⟩
      rw [← Hn.out] at hcell HP HRm HStep
      have HK' : Hid (_) := HK.out
      clear HN2 HM
      simp only [nmW] at HP
      cases hpre : preW n with
      | true =>
        rw [hpre] at HP
        by_cases hw : n = nmW
        · have hne : (n.toList == [119]) = true := by rw [hw]; unfold nmW; rw [toList_data ⟨#[119]⟩]; rfl
          have HSame : Hid (strays s (ns.take (k + 1)) = strays s (ns.take k)) := by
            show _ = _
            rw [HStep.out]
            unfold strayStep
            rw [if_neg (fun h => h.2 hw)]
          clear hw hpre
          go_wp2_with (go_at_call 70; refine Calls.mono HP.out ?_; rintro e w' ⟨rfl, hw⟩; have hw' := hw.symm; subst hw')
          go_roundw
          case rel => exact ⟨k + 1, by omega, by go_num, by rw [HSame.out]; exact HK'.out⟩
          case measure => simp [intOf]; omega
        · have hne : (n.toList == [119]) = false := by
            rw [beq_eq_false_iff_ne]
            intro e
            rw [toList_data] at e
            exact hw (Go.WideShapes.bytes_inj e)
          have HSame : Hid (strays s (ns.take (k + 1)) = rmStep (strays s (ns.take k)) n) := by
            show _ = _
            rw [HStep.out]
            unfold strayStep
            rw [if_pos ⟨hpre, hw⟩]
          clear hw hpre
          go_wp2_with (first
            | (go_at_call 70; refine Calls.mono HP.out ?_; rintro e w' ⟨rfl, hw⟩; have hw' := hw.symm; subst hw')
            | (go_at_call 71; refine Calls.mono HRm.out ?_; rintro e w5 ⟨⟨c, rfl⟩, HX5⟩))
          go_roundw
          case rel => exact ⟨k + 1, by omega, by go_num, by rw [HSame.out]; exact HX5.out⟩
          case measure => simp [intOf]; omega
      | false =>
        rw [hpre] at HP
        have HSame : Hid (strays s (ns.take (k + 1)) = strays s (ns.take k)) := by
          show _ = _
          rw [HStep.out]
          unfold strayStep
          rw [if_neg (fun h => by rw [hpre] at h; simp at h)]
        clear hpre
        go_wp2_with (go_at_call 70; refine Calls.mono HP.out ?_; rintro e w' ⟨rfl, hw⟩; have hw' := hw.symm; subst hw')
        go_roundw
        case rel => exact ⟨k + 1, by omega, by go_num, by rw [HSame.out]; exact HK'.out⟩
        case measure => simp [intOf]; omega
    · have hkn : k = ns.length := by omega
      have hlt' : ¬ (k : Int) < (ns.length : Int) := by omega
      have HFin : Hid ((∃ F', Dk wr pd (strays s ns) F' ∧ ∀ j, F' j → F j ∨ w.heap.size ≤ j) ∧ Fr F w wr) := by
        obtain ⟨⟨F', h1, h2⟩, h3⟩ := HK.out
        rw [List.take_of_length_le (by omega)] at h1
        have hb := HX1.out.1
        refine ⟨⟨F', h1, fun j hj => ?_⟩, (Fr.of_below hb).trans h3 (fun _ _ h => h)⟩
        rcases h2 j hj with hh | hh
        · exact Or.inl hh
        · exact Or.inr (Nat.le_trans hb.size hh)
      clear hkn HK
      go_wp2
      go_end0
      exact ⟨rfl, HFin.out.1, HFin.out.2⟩
end Go.Proofs.YtjndgekpdmlbiaaGreatDoor.Wl
namespace Go.Proofs.YtjndgekpdmlbiaaGreatDoor.Wl
open Go.RowKit Dk

/-- A log over its disk, its memory's blocks from B on. -/
structure LW (w : World) (B p pd : Nat) (s : St) (F : Nat → Prop) (first : Int) (ds : List (List UInt8)) : Prop where
  dk : Dk w pd s F
  lg : ∃ vr rs G, Lg w p pd first vr rs G ∧ rs.map Re.data = ds ∧ (∀ k, G k → ¬ F k ∧ B ≤ k)
  np : ¬ F p
  new : B ≤ p
theorem LW.below {w w' : World} {B p pd : Nat} {s : St} {F : Nat → Prop} {first : Int} {ds : List (List UInt8)} (h : LW w B p pd s F first ds) (hb : Below w.heap.size w w') : LW w' B p pd s F first ds := by
  obtain ⟨h1, ⟨vr, rs, G, h2, h3, h4⟩, h5, h6⟩ := h
  exact ⟨h1.below hb, ⟨vr, rs, G, h2.below hb, h3, h4⟩, h5, h6⟩
theorem tab_kept {w w' : World} {F : Nat → Prop} (h : Fr.Tab w) (hf : Dk.Fr F w w') (h0 : ¬ F 0) : Fr.Tab w' := fun i hi => hf.cell (h i hi) h0

/-- What opening a log leaves of its disk. -/
def openS (s : St) : St :=
  if (fileB (loadR (Fr.scanL (fileOf s nmW)).1 0 []).1 (loadR (Fr.scanL (fileOf s nmW)).1 0 []).2).length < (fileOf s nmW).length then
    (strays s (s.now.map Fl.name)).push (.cut nmW (fileB (loadR (Fr.scanL (fileOf s nmW)).1 0 []).1 (loadR (Fr.scanL (fileOf s nmW)).1 0 []).2).length)
  else strays s (s.now.map Fl.name)

theorem open_nil (w : World) : Calls Tryz.prog 25 #[.pointer none] w fun e w' => e = .returned (.tuple #[.pointer none, .int .i64 1]) ∧ w' = w := by
  go_enter Tryz.func25, Tryz.ntmps25
  go_wp2
  go_ret2
  exact ⟨rfl, rfl⟩

set_option maxHeartbeats 1000000 in
theorem open_any (pd : Nat) (s : St) (F : Nat → Prop) (w : World) (h : Dk w pd s F) (ht : Fr.Tab w) (h0 : ¬ F 0) (hm : s.mass + s.now.length + 2 ≤ 100000000) (hsz : ∀ f ∈ s.now, f.name.size ≤ maxLen) (hl : (fileOf s nmW).length ≤ 30000) (first : Int) (ds : List (List UInt8)) (hR : loadR (Fr.scanL (fileOf s nmW)).1 0 [] = (first, ds)) :
    Calls Tryz.prog 25 #[.pointer (some ⟨pd, 0, none⟩)] w fun e w' => ∃ p, e = .returned (.tuple #[.pointer (some ⟨p, 0, none⟩), .int .i64 0]) ∧ Hid ((∃ F', LW w' w.heap.size p pd (openS s) F' first ds ∧ ∀ k, F' k → F k ∨ w.heap.size ≤ k) ∧ Dk.Fr F w w') := by
  have hFlt := h.lt
  have HA : Hid (_) := strays_any pd s F w h (by omega) hsz
  have hms := strays_mass (s.now.map Fl.name) s
  rw [List.length_map] at hms
  have hlk := strays_look (s.now.map Fl.name) s
  have HB : Hid (∀ w1 F1, Dk w1 pd (strays s (s.now.map Fl.name)) F1 → (∀ k, F1 k → F k ∨ w.heap.size ≤ k) → Dk.Fr F w w1 → Calls Tryz.prog 47 #[.pointer (some ⟨w1.heap.size, 0, none⟩)] (w1.alloc (.cells #[.pointer (some ⟨pd, 0, none⟩), .int .i64 0, .slice none 0 0] 104)) fun e w' => e = .returned (.tuple #[]) ∧ Hid ((∃ F', LW w' w.heap.size w1.heap.size pd (openS s) F' first ds ∧ ∀ k, F' k → F k ∨ w.heap.size ≤ k) ∧ Dk.Fr F w w')) := by
    intro w1 F1 hD hF1 hf
    have h1lt := hD.lt
    have hb1 : Below w1.heap.size w1 (w1.alloc (.cells #[.pointer (some ⟨pd, 0, none⟩), .int .i64 0, .slice none 0 0] 104)) := (Below.refl _ _).alloc (Nat.le_refl _) _
    have hfo : fileOf (strays s (s.now.map Fl.name)) nmW = fileOf s nmW := by unfold fileOf; rw [hlk]
    have hsz1 := hf.size
    refine (load_walk w1.heap.size pd _ F1 _ (heap_alloc_new _ _) (hD.below hb1) (fun hk => by have := h1lt _ hk; omega) ((tab_kept ht hf h0).below hb1) (by rw [hfo]; exact hl) (by omega) first ds (by rw [hfo]; exact hR)).mono ?_
    rintro e w' ⟨rfl, wS, wr, hbS, ⟨vr, rs, G, hL, hds, hG, hfS⟩, hDr, hc⟩
    refine ⟨rfl, ?_⟩
    have hsa : w1.heap.size ≤ (w1.alloc (.cells #[.pointer (some ⟨pd, 0, none⟩), .int .i64 0, .slice none 0 0] 104)).heap.size := hb1.size
    have hsS := hbS.size
    have hsr := hfS.size
    have hfr : Dk.Fr F w wr := ((hf.trans (G := F) (Fr.of_below hb1) (fun _ _ h => h)).trans (G := F) (Fr.of_below hbS) (fun _ _ h => h)).trans hfS (fun x hx e => by omega)
    have hGF : ∀ k, G k → ¬ F1 k ∧ w.heap.size ≤ k := fun k hk => ⟨fun hF => by have := hG k hk; have := h1lt k hF; omega, by have := hG k hk; omega⟩
    have hnp : ¬ F1 w1.heap.size := fun hk => by have := h1lt _ hk; omega
    rw [hfo] at hc
    unfold openS
    rw [hR]
    rcases hc with ⟨hlt, hDk, hfc⟩ | ⟨hlt, rfl⟩
    · rw [if_pos hlt]
      refine ⟨⟨_, ⟨hDk, ⟨vr, rs, G, hL.kept hfc (fun k hk => (hGF k hk).1) hnp, hds, fun k hk => ⟨?_, (hGF k hk).2⟩⟩, ?_, hsz1⟩, fun k hk => ?_⟩, hfr.trans hfc (fun x hx hF => ?_)⟩
      · rintro (hh | hh)
        · exact (hGF k hk).1 hh
        · have := hL.lt k hk; omega
      · rintro (hh | hh)
        · exact hnp hh
        · have := hL.plt; omega
      · rcases hk with hh | hh
        · exact hF1 k hh
        · exact Or.inr (by omega)
      · rcases hF1 x hF with hh | hh
        · exact hh
        · omega
    · rw [if_neg hlt]
      exact ⟨⟨F1, ⟨hDr, ⟨vr, rs, G, hL, hds, hGF⟩, hnp, hsz1⟩, hF1⟩, hfr⟩
  clear h ht h0 hm hsz hl hR hms hlk hFlt
  go_enter Tryz.func25, Tryz.ntmps25
  go_wp2_with (first
    | (go_at_call 46; refine Calls.mono HA.out ?_; rintro e w1 ⟨rfl, ⟨F1, hD1, hF1⟩, hf1⟩; have HB1 : Hid (_) := HB.out w1 F1 hD1 hF1 hf1; clear hD1 hF1 hf1 HB)
    | (go_at_call 47; refine Calls.mono HB1.out ?_; rintro e w2 ⟨rfl, HX2⟩))
  go_ret2
  exact ⟨_, rfl, HX2.out⟩
end Go.Proofs.YtjndgekpdmlbiaaGreatDoor.Wl
namespace Go.Proofs.YtjndgekpdmlbiaaGreatDoor.Wl
open Go.RowKit Dk

theorem app_nil (n : Int) (ao : Option Addr) (L cap : Nat) (w : World) : Calls Tryz.prog 121 #[.pointer none, .int .i64 n, .slice ao L cap] w fun e w' => e = .returned (.int .i64 1) ∧ w' = w := by
  go_enter Tryz.func121, Tryz.ntmps121
  go_wp2
  go_ret
  exact ⟨rfl, rfl⟩
theorem sync_nil (w : World) : Calls Tryz.prog 57 #[.pointer none] w fun e w' => e = .returned (.tuple #[]) ∧ w' = w := by
  go_enter Tryz.func57, Tryz.ntmps57
  go_wp2
  exact bodyPost_ret (v := .tuple #[]) (by simp [results, Tryz.results57, go_sem]) rfl ⟨rfl, rfl⟩
theorem from_nil (n : Int) (w : World) : Calls Tryz.prog 49 #[.pointer none, .int .i64 n] w fun e w' => e = .returned (.int .i64 1) ∧ w' = w := by
  go_enter Tryz.func49, Tryz.ntmps49
  go_wp2
  go_ret
  exact ⟨rfl, rfl⟩
theorem until_nil (n : Int) (w : World) : Calls Tryz.prog 87 #[.pointer none, .int .i64 n] w fun e w' => e = .returned (.int .i64 1) ∧ w' = w := by
  go_enter Tryz.func87, Tryz.ntmps87
  go_wp2
  go_ret
  exact ⟨rfl, rfl⟩
theorem get_nil (w : World) : Calls Tryz.prog 81 #[.pointer none, .int .i64 1] w fun e w' => e = .returned (.tuple #[.slice none 0 0, .bool false]) ∧ w' = w := by
  have H1 : Hid (_) := first_nil w
  have H2 : Hid (_) := last_nil w
  go_enter Tryz.func81, Tryz.ntmps81
  go_wp2_with (first
    | (go_at_call 50; refine Calls.mono H1.out ?_; rintro e w' ⟨rfl, hw⟩; have hw' := hw.symm; subst hw')
    | (go_at_call 48; refine Calls.mono H2.out ?_; rintro e w' ⟨rfl, hw⟩; have hw' := hw.symm; subst hw'))
  go_ret2
  exact ⟨rfl, rfl⟩

theorem LW.may {w : World} {B p pd : Nat} {s : St} {F : Nat → Prop} {first : Int} {ds : List (List UInt8)} (h : LW w B p pd s F first ds) (n : Int) (hn : n ≤ 9223372036854775807) :
    Calls Tryz.prog 75 #[.pointer (some ⟨p, 0, none⟩), .int .i64 n] w fun e w' => e = .returned (.bool (mayL first ds n)) ∧ ∃ m, w' = w.drewN m := by
  obtain ⟨_, ⟨vr, rs, G, h1, rfl, _⟩, _, _⟩ := h
  rw [← mayB_L]
  exact may_any p pd first vr rs G n w h1 hn
theorem LW.cell0 {w : World} {B p pd : Nat} {s : St} {F : Nat → Prop} {first : Int} {ds : List (List UInt8)} (h : LW w B p pd s F first ds) : w.cell? ⟨p, 0, none⟩ = some (.pointer (some ⟨pd, 0, none⟩)) := by
  obtain ⟨_, ⟨vr, rs, G, h1, rfl, _⟩, _, _⟩ := h
  exact h1.cells.1
theorem LW.drew {w : World} {B p pd : Nat} {s : St} {F : Nat → Prop} {first : Int} {ds : List (List UInt8)} (h : LW w B p pd s F first ds) (m : Nat) : LW (w.drewN m) B p pd s F first ds := h.below ⟨rfl, rfl, rfl, Nat.le_refl _, fun _ _ => rfl⟩
/-- The disk goes on. -/
theorem LW.disk {w w' : World} {B p pd : Nat} {s s' : St} {F : Nat → Prop} {first : Int} {ds : List (List UInt8)} (h : LW w B p pd s F first ds) (hD : Dk w' pd s' (ext F w w')) (hf : Dk.Fr F w w') : LW w' B p pd s' (ext F w w') first ds := by
  obtain ⟨_, ⟨vr, rs, G, h1, h2, h3⟩, h4, h5⟩ := h
  refine ⟨hD, ⟨vr, rs, G, h1.kept hf (fun k hk => (h3 k hk).1) h4, h2, fun k hk => ⟨?_, (h3 k hk).2⟩⟩, ?_, h5⟩
  · rintro (hh | hh)
    · exact (h3 k hk).1 hh
    · have := h1.lt k hk; omega
  · rintro (hh | hh)
    · exact h4 hh
    · have := h1.plt; omega

theorem recB_size (n : Int) (b : List UInt8) (hn : -9223372036854775808 ≤ n ∧ n ≤ 9223372036854775807) (hl : b.length ≤ 32768) : (recB n b).length ≤ b.length + 28 := by
  rw [recB_len (unseal_rec n b hn.1 hn.2 hl)]
  have h1 := enc_le n
  have h2 := enc_le (b.length : Int)
  simp only [List.length_append]
  omega

set_option maxHeartbeats 1000000 in
theorem sync_log (B p pd : Nat) (s : St) (F : Nat → Prop) (first : Int) (ds : List (List UInt8)) (w : World) (h : LW w B p pd s F first ds) (hm : s.mass ≤ 1000000000) :
    Calls Tryz.prog 57 #[.pointer (some ⟨p, 0, none⟩)] w fun e w' => e = .returned (.tuple #[]) ∧ Hid (LW w' B p pd ⟨s.room, s.now, []⟩ (ext F w w') first ds ∧ Dk.Fr F w w') := by
  have c0 := h.cell0
  have H : Hid (_) := sync_any pd s F w h.dk hm
  have HW : Hid (_) := h
  clear h
  go_enter Tryz.func57, Tryz.ntmps57
  go_wp2_with (go_at_call 96; refine Calls.mono H.out ?_; rintro e w1 ⟨rfl, h1, h2⟩; have HF : Hid (_) := And.intro (HW.out.disk h1 h2) h2; clear h1 h2)
  go_end0
  exact ⟨rfl, HF.out⟩

set_option maxHeartbeats 1000000 in
theorem app_no (B p pd : Nat) (s : St) (F : Nat → Prop) (first : Int) (ds : List (List UInt8)) (n : Int) (ao : Option Addr) (L cap : Nat) (w : World) (h : LW w B p pd s F first ds) (hn : n ≤ 9223372036854775807) (hm : mayL first ds n = false) :
    Calls Tryz.prog 121 #[.pointer (some ⟨p, 0, none⟩), .int .i64 n, .slice ao L cap] w fun e w' => e = .returned (.int .i64 1) ∧ ∃ m, w' = w.drewN m := by
  have H : Hid (_) := h.may n hn
  rw [hm] at H
  clear h hm
  go_enter Tryz.func121, Tryz.ntmps121
  go_wp2_with (go_at_call 75; refine Calls.mono H.out ?_; rintro e w1 ⟨rfl, m, rfl⟩)
  go_ret
  exact ⟨rfl, m, rfl⟩

set_option maxHeartbeats 2000000 in
theorem app_ok (B p pd : Nat) (s : St) (F : Nat → Prop) (first : Int) (ds : List (List UInt8)) (n : Int) (bv : Value) (b : List UInt8) (w : World) (h : LW w B p pd s F first ds) (hS : SlA w bv b F) (ht : Fr.Tab w) (hn : n ≤ 9223372036854775807) (hm : mayL first ds n = true) (hl : b.length ≤ 32768)
    (hr : (used s.now : Int) + (recB n b).length ≤ s.room) (hf : (Dk.look nmW s.now).isSome = true ∨ s.now.length < 64) (hms : s.mass + 40000 ≤ 1000000000) (hdl : ds.length ≤ 100000) (hfl : (fileB first ds).length ≤ 900000000) :
    Calls Tryz.prog 121 #[.pointer (some ⟨p, 0, none⟩), .int .i64 n, bv] w fun e w' => e = .returned (.int .i64 0) ∧ Hid (∃ F', LW w' B p pd (s.push (.app nmW (recB n b))) F' (if ds.length = 0 then n else first) (ds ++ [b]) ∧ (∀ k, F' k → F k ∨ w.heap.size ≤ k) ∧ Dk.Fr (fun k => F k ∨ B ≤ k) w w') := by
  obtain ⟨aob, capb, rfl, _, _⟩ := hS.sl.shape
  have HM : Hid (_) := h.may n hn
  rw [hm] at HM
  obtain ⟨m1, m2⟩ : 1 ≤ n ∧ (ds.length = 0 ∨ n - 1 = (if ds.length = 0 then 0 else first + ds.length - 1)) := by simpa [mayL] using hm
  have hrs := recB_size n b ⟨by omega, hn⟩ hl
  obtain ⟨X, HX⟩ : ∃ X, Hid (X = recB n b) := ⟨_, (rfl : _ = _)⟩
  rw [← HX.out] at hr hrs ⊢
  have HC : Hid (∀ m, Calls Tryz.prog 137 #[.int .i64 n, .slice aob b.length capb] (w.drewN m) fun e w2 => ∃ ao cap, e = .returned (.slice ao X.length cap) ∧ w2.cell? ⟨p, 0, none⟩ = some (.pointer (some ⟨pd, 0, none⟩)) ∧ Hid (Calls Tryz.prog 132 #[.pointer (some ⟨pd, 0, none⟩), .string nmW, .slice ao X.length cap] w2 fun e w3 => e = .returned (.int .i64 0) ∧ Hid (Calls Tryz.prog 58 #[.slice aob b.length capb] w3 fun e w4 => ∃ ao4 cap4, e = .returned (.slice ao4 b.length cap4) ∧ Hid (Calls Tryz.prog 76 #[.pointer (some ⟨p, 0, none⟩), .int .i64 n, .slice ao4 b.length cap4, .int .i64 (X.length : Int)] w4 fun e w5 => e = .returned (.tuple #[]) ∧ Hid (∃ F', LW w5 B p pd (s.push (.app nmW X)) F' (if ds.length = 0 then n else first) (ds ++ [b]) ∧ (∀ k, F' k → F k ∨ w.heap.size ≤ k) ∧ Dk.Fr (fun k => F k ∨ B ≤ k) w w5))))) := by
    intro m
    have hb1 : Below w.heap.size w (w.drewN m) := ⟨rfl, rfl, rfl, Nat.le_refl _, fun _ _ => rfl⟩
    refine (seal_any n (.slice aob b.length capb) b (w.drewN m) (hS.sl.below hb1) (ht.drew m) ⟨by omega, hn⟩ hl).mono ?_
    rintro e w2 ⟨ao, L, cap, rfl, hO, hb2⟩
    have hb2' : Below w.heap.size w w2 := hb1.trans hb2
    have hSX := Sl.of_own hO
    obtain ⟨ao', cap', e2, _, _⟩ := hSX.shape
    simp only [Value.slice.injEq] at e2
    obtain ⟨rfl, rfl, rfl⟩ := e2
    rw [← HX.out] at hSX ⊢
    have hW2 := h.below hb2'
    refine ⟨ao, cap, rfl, hW2.cell0, ?_⟩
    refine (append_ok pd s F nmW _ X w2 hW2.dk hSX (by decide) hr hf (by omega)).mono ?_
    rintro e w3 ⟨rfl, hD3, hf3⟩
    have hW3 := hW2.disk hD3 hf3
    refine ⟨rfl, ?_⟩
    have hs2 := hb2'.size
    have hs3 := hf3.size
    refine (clone_any _ b w3 (SlA.kept (SlA.kept hS (Fr.of_below hb2')) hf3).sl (by omega)).mono ?_
    rintro e w4 ⟨v4, rfl, hO4, hb4⟩
    have hS4 := Sl.of_own hO4
    obtain ⟨ao4, cap4, rfl, _, _⟩ := hS4.shape
    refine ⟨ao4, cap4, rfl, ?_⟩
    obtain ⟨hD3', ⟨vr, rs, G, hL3, hdsE, hG⟩, hnp, hnew⟩ := id hW3
    have hL := hL3.below hb4
    have hD4 := hD3'.below hb4
    have hLG := hL3.lt
    have hp3 := hL3.plt
    subst hdsE
    have hF3 := hW3.dk.lt
    have hs4 := hb4.size
    have hNew : Bn.New w3 w4 (.slice ao4 b.length cap4) := Bn.New.of_own hO4 (Nat.le_refl _)
    have hGlt : ∀ k, G k → k < w3.heap.size := hLG
    have hsize : sizeK first rs rs.length = (fileB first (rs.map Re.data)).length := by
      unfold sizeK
      rw [List.take_of_length_le (by simp)]
    rw [List.length_map] at hdl m2
    refine (add_any p pd first vr rs G (fun k => ∃ a m c, Value.slice ao4 b.length cap4 = .slice (some a) m c ∧ k = a.block) n (.slice ao4 b.length cap4) b X.length w4 hL ⟨hS4, fun a m c e hn => hn ⟨a, m, c, e, rfl⟩⟩ ?_ (by rw [HX.out]) ⟨m1, hn⟩ ?_ (by omega) (by rw [hsize]; omega)).mono ?_
    · rintro k ⟨a, m, c, e, rfl⟩
      have hk := hNew a m c e
      refine ⟨fun hG' => ?_, ?_, hk.2⟩
      · have := hGlt _ hG'
        omega
      · have := hp3
        omega
    · intro hne
      have hz : rs.length ≠ 0 := fun e => hne (List.eq_nil_of_length_eq_zero e)
      rcases m2 with m2 | m2
      · exact absurd m2 hz
      · rw [if_neg hz] at m2
        omega
    · rintro e w5 ⟨rfl, ⟨vr', fin, hL5⟩, hf5⟩
      refine ⟨rfl, ext F w2 w3, ⟨hD4.kept hf5 (fun k hk hG' => ?_), ⟨vr', rs ++ [⟨_, b, fin⟩], _, by rw [List.length_map]; exact hL5, by simp, fun k hk => ?_⟩, hnp, hnew⟩, fun k hk => ?_, ?_⟩
      · rcases hG' with hG' | rfl
        · exact (hG k hG').1 hk
        · exact hnp hk
      · rcases hk with (hk | ⟨a, m, c, e, rfl⟩) | hk
        · exact hG k hk
        · have := (hNew a m c e).1
          exact ⟨fun hF => by have := hF3 _ hF; omega, by omega⟩
        · exact ⟨fun hF => by have := hF3 _ hF; omega, by omega⟩
      · rcases hk with hk | hk
        · exact Or.inl hk
        · exact Or.inr (by omega)
      · refine (((Fr.of_below hb2').trans (hf3.mono (G := fun k => F k ∨ B ≤ k) (fun _ _ h => Or.inl h)) (fun _ _ h => h)).trans (Fr.of_below hb4) (fun _ _ h => h)).trans hf5 (fun k _ hG' => ?_)
        rcases hG' with hG' | rfl
        · exact Or.inr (hG k hG').2
        · exact Or.inr hnew
  clear h hS ht hn hm hr hf hms hdl hfl m1 m2 hrs
  have hl' : ¬ (32768 : Int) < (b.length : Int) := by omega
  obtain ⟨f', Hf'⟩ : ∃ f', Hid (f' = if ds.length = 0 then n else first) := ⟨_, (rfl : _ = _)⟩
  rw [← Hf'.out] at HC ⊢
  simp only [nmW] at HC
  go_enter Tryz.func121, Tryz.ntmps121
  go_wp2_with (first
    | (go_at_call 75; refine Calls.mono HM.out ?_; rintro e w1 ⟨rfl, m, rfl⟩; have HC1 : Hid (_) := HC.out m; clear HC)
    | (go_at_call 137; refine Calls.mono HC1.out ?_; rintro e w2 ⟨ao2, cap2, rfl, c2, HC2⟩; clear HC1)
    | (go_at_call 132; refine Calls.mono HC2.out ?_; rintro e w3 ⟨rfl, HC3⟩; clear HC2)
    | (go_at_call 58; refine Calls.mono HC3.out ?_; rintro e w4 ⟨ao4, cap4, rfl, HC4⟩; clear HC3)
    | (go_at_call 76; refine Calls.mono HC4.out ?_; rintro e w5 ⟨rfl, HC5⟩; clear HC4))
  go_ret
  exact ⟨rfl, HC5.out⟩
end Go.Proofs.YtjndgekpdmlbiaaGreatDoor.Wl
