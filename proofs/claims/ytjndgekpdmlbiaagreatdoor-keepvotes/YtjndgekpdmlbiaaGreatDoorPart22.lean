/- piece, of a log whatever it holds. load and Open, of a log without records. load and Open, of a log of one call. load and Open, of a log of calls. A text of one piece is put behind a log, whatever it holds. -/
import Derived.Test.YtjndgekpdmlbiaaGreatDoorPart20
import Derived.Test.YtjndgekpdmlbiaaGreatDoorPart13
import Derived.Test.YtjndgekpdmlbiaaGreatDoorPart03
import Derived.Deep.CutRange
import Derived.Test.YtjndgekpdmlbiaaGreatDoorPart21
namespace Go.Proofs.YtjndgekpdmlbiaaGreatDoor.Kp
open Go.RowKit Bn

set_option maxHeartbeats 2000000 in
/-- piece, of a record that ends a call. -/
theorem piece_any {w : World} {kb p pd : Nat} {s : Dk.St} {H : Nat → Prop} {first : Int} {ds : List (List UInt8)} (t : List UInt8) (h : Wl.LX w p pd s H first ds) (i : Nat) (hi : i < ds.length) (hit : ds[i] = fl true ++ t) (h1f : 1 ≤ first) (hfit : first + ds.length ≤ 4611686018427387904) (hdl : ds.length ≤ 100000) (ck : w.cell? ⟨kb, 7, none⟩ = some (.pointer (some ⟨p, 0, none⟩))) (hl : t.length ≤ 100000) (nn : Int) (hnn : first + i = nn) :
    Calls Tryz.prog 51 #[.pointer (some ⟨kb, 0, none⟩), .int .i64 nn] w fun e w' => ∃ a n c, e = .returned (.tuple #[.slice a n c, .bool true, .bool true]) ∧ Hid (Sl w' (.slice a n c) t ∧ Below w.heap.size w w') := by
  have HG : Hid (Calls Tryz.prog 81 #[.pointer (some ⟨p, 0, none⟩), .int .i64 nn] w fun e w1 => ∃ g n c, e = .returned (.tuple #[.slice (some ⟨g, 0, none⟩) n c, .bool true]) ∧ n = t.length + 1 ∧ n ≤ c ∧ Hid (w1.ownsRow w.heap.size 5 1 (.slice (some ⟨g, 0, none⟩) n c) (fl true ++ t).length (cells8 (fl true ++ t)) ∧ Below w.heap.size w w1)) := by
    obtain ⟨F, hW, _⟩ := h.lw
    have h1 := Wl.get_hit 0 p pd s F first ds i w hW hi h1f (by omega) (by omega) (by rw [hit]; simp [fl]; omega)
    rw [hnn, hit] at h1
    refine h1.mono ?_
    rintro e w1 ⟨v1, rfl, hO, hb⟩
    rcases Dk.own_shape hO with ⟨_, h0⟩ | ⟨g, c, rfl, hc, _⟩
    · simp [fl] at h0
    · exact ⟨g, _, c, rfl, by simp [fl], hc, hO, hb⟩
  clear h hit hi hfit hdl hnn h1f
  go_enter Tryz.func51, Tryz.ntmps51
  go_wp2_with fail
  refine Calls.mono HG.out ?_
  rintro e w1 ⟨g, n, c, rfl, hn, hnc, HO⟩
  have HN := hide hn
  clear HG hn
  have HR : Hid (Calls Tryz.prog 82 #[.slice (some ⟨g, 0, none⟩) n c] w1 fun e w2 => ∃ B, e = .returned (.pointer (some ⟨B, 0, none⟩)) ∧ Hid (Calls Tryz.prog 83 #[.pointer (some ⟨B, 0, none⟩)] w2 fun e w3 => e = .returned (.bool true) ∧ Hid (Calls Tryz.prog 84 #[.pointer (some ⟨B, 0, none⟩)] w3 fun e w4 => e = .returned (.bool true) ∧ w4 = w3) ∧ Hid (Sl w3 (.slice (some ⟨g, 0, none⟩) n c) (fl true ++ t) ∧ Below w.heap.size w w3))) := by
    have hS := Sl.of_own HO.out.1
    refine (read_any _ _ w1 hS (by have := HN.out; simp [fl]; omega)).mono ?_
    rintro e w2 ⟨B, rfl, hB, hRd, hb2⟩
    refine ⟨B, rfl, ?_⟩
    refine (rflag_any B _ w2 hRd).mono ?_
    rw [rFlag_fl]
    rintro e w3 ⟨rfl, hRd3, hg3⟩
    have hbb : Below w1.heap.size w1 w3 := hb2.grown hg3 hb2.size (fun k hk => by cases hk; exact hB)
    refine ⟨rfl, ok_any B _ w3 hRd3, hS.below hbb, HO.out.2.trans (hbb.mono HO.out.2.size)⟩
  have hn1 : (1 : Int) ≤ (n : Int) := by have := HN.out; omega
  clear HO
  go_wp2_with fail
  refine Calls.mono HR.out ?_
  rintro e w2 ⟨B, rfl, HR2⟩
  clear HR
  go_wp2_with fail
  refine Calls.mono HR2.out ?_
  rintro e w3 ⟨rfl, HR3, HS3⟩
  clear HR2
  go_wp2_with fail
  refine Calls.mono HR3.out ?_
  rintro e w4 ⟨rfl, hw4⟩
  have hw4' := hw4.symm
  subst hw4'
  clear HR3
  by_cases hc1 : c = 1
  · have HE : Hid (Sl w3 (.slice (some ⟨g, 0, none⟩) 0 0) t) := by
      have e1 : n - 1 = 0 := by omega
      have e2 : c - 1 = 0 := by omega
      have h1 := HS3.out.1.drop 1 (by have := HN.out; omega) (some ⟨g, 0, none⟩) (fun h => absurd hc1 h) (fun _ => rfl)
      rw [e1, e2] at h1
      show Sl _ _ _
      simpa [fl] using h1
    subst hc1
    go_wp2_with fail
    refine bodyPost_ret (v := .tuple #[.slice (some ⟨g, 0, none⟩) 0 0, .bool true, .bool true]) (by simp [results, Tryz.results51, go_sem]) rfl ?_
    exact ⟨_, _, _, rfl, HE.out, HS3.out.2⟩
  · have HE : Hid (Sl w3 (.slice (some ⟨g, 1, none⟩) (n - 1) (c - 1)) t) := by
      have h1 := HS3.out.1.drop 1 (by have := HN.out; omega) (some ⟨g, 1, none⟩) (fun _ => rfl) (fun h => absurd h hc1)
      show Sl _ _ _
      simpa [fl] using h1
    go_wp2_with fail
    refine bodyPost_ret (v := .tuple #[.slice (some ⟨g, 1, none⟩) (n - 1) (c - 1), .bool true, .bool true]) (by simp [results, Tryz.results51, go_sem]) rfl ?_
    exact ⟨_, _, _, rfl, HE.out, HS3.out.2⟩
end Go.Proofs.YtjndgekpdmlbiaaGreatDoor.Kp
namespace Go.Proofs.YtjndgekpdmlbiaaGreatDoor.Kp
open Go.RowKit Bn

theorem LXfrom_same {w : World} {p pd : Nat} {s : Dk.St} {H : Nat → Prop} {first : Int} {ds : List (List UInt8)} (h : Wl.LX w p pd s H first ds) (n : Int) (h1 : 1 ≤ n) (hn : n ≤ 9223372036854775807) (hk : Wl.cnt first ds (n - 1) = ds.length) :
    Calls Tryz.prog 49 #[.pointer (some ⟨p, 0, none⟩), .int .i64 n] w fun e w' => e = .returned (.int .i64 0) ∧ ∃ m, w' = w.drewN m := by
  obtain ⟨F, hW, _⟩ := h.lw
  exact Wl.from_same 0 p pd s F first ds n w hW h1 hn hk

set_option maxHeartbeats 2000000 in
theorem load_none {w : World} {kb p pd : Nat} {s : Dk.St} {H : Nat → Prop} (h : Wl.LX w p pd s H 0 []) (ck : w.cell? ⟨kb, 7, none⟩ = some (.pointer (some ⟨p, 0, none⟩))) :
    Calls Tryz.prog 26 #[.pointer (some ⟨kb, 0, none⟩)] w fun e w' => e = .returned (.tuple #[]) ∧ Below w.heap.size w w' := by
  have HL : Hid (∀ W, Below w.heap.size w W → W.cell? ⟨kb, 7, none⟩ = some (.pointer (some ⟨p, 0, none⟩)) ∧ (Calls Tryz.prog 48 #[.pointer (some ⟨p, 0, none⟩)] W fun e w' => e = .returned (.int .i64 0) ∧ ∃ m, w' = W.drewN m) ∧ (Calls Tryz.prog 50 #[.pointer (some ⟨p, 0, none⟩)] W fun e w' => e = .returned (.int .i64 0) ∧ w' = W) ∧ Calls Tryz.prog 49 #[.pointer (some ⟨p, 0, none⟩), .int .i64 1] W fun e w' => e = .returned (.int .i64 0) ∧ ∃ m, w' = W.drewN m) := fun W hW =>
    ⟨(World.cell?_of_block (w := w) (a := ⟨kb, 7, none⟩) (hW.block kb (cell_lt ck))).trans ck, LXlast (h.below hW), LXfirst (h.below hW), LXfrom_same (h.below hW) 1 (by omega) (by omega) (by simp [Wl.cnt, Wl.lastL])⟩
  have H1 := hide (HL.out w (Below.refl _ w)).2.1
  clear h
  go_enter Tryz.func26, Tryz.ntmps26
  go_wp2_with fail
  refine Calls.mono H1.out ?_
  rintro e w1 ⟨rfl, m, hw1⟩
  have hb1 : Below w.heap.size w w1 := by rw [hw1]; exact Wl.below_drew w m
  have HB1 := hide hb1
  clear hw1 hb1 H1
  obtain ⟨c1, l1, f1, g1⟩ := HL.out w1 HB1.out
  have HF1 := hide f1
  clear l1 f1 g1
  go_wp2_with fail
  refine Calls.mono HF1.out ?_
  rintro e w2 ⟨rfl, hw⟩
  have hw' := hw.symm
  subst hw'
  clear HF1
  go_wp2_with fail
  go_loopw [2, 3, 4] (fun tv dv nv wr => dv = .int .i64 0 ∧ nv = .int .i64 1 ∧ Hid (Below w.heap.size w wr)) (fun _ _ _ _ => 0)
  case atStart => exact ⟨rfl, rfl, HB1⟩
  case round =>
    obtain ⟨rfl, rfl, HB⟩ := hrel
    clear c1 HB1
    obtain ⟨c2, l2, -, -⟩ := HL.out wr HB.out
    have HL2 := hide l2
    clear l2
    go_wp2_with fail
    refine Calls.mono HL2.out ?_
    rintro e w3 ⟨rfl, m3, hw3⟩
    have HB3 : Hid (Below w.heap.size w w3) := by rw [hw3]; exact HB.out.trans ((Wl.below_drew wr m3).mono HB.out.size)
    clear hw3 HL2 c2
    obtain ⟨c3, -, -, g3⟩ := HL.out w3 HB3.out
    have HG3 := hide g3
    clear g3
    go_wp2_with fail
    refine Calls.mono HG3.out ?_
    rintro e w4 ⟨rfl, m4, hw4⟩
    have HB4 : Hid (Below w.heap.size w w4) := by rw [hw4]; exact HB3.out.trans ((Wl.below_drew w3 m4).mono HB3.out.size)
    clear hw4 HG3 c3
    go_wp2_with fail
    exact bodyPost_end (v := .tuple #[]) (by simp [results, Tryz.results26, go_sem]) rfl ⟨rfl, HB4.out⟩

set_option maxHeartbeats 2000000 in
/-- Open, of a disk without anything. -/
theorem open_none {w : World} {q : Nat} {s : Dk.St} {F : Nat → Prop} (hD : Dk.Dk w q s F) (ht : Fr.Tab w) (h0 : ¬ F 0) (hm : s.mass ≤ 1000000) (hn : Wl.Nm s.now) (hf : (Wl.fileOf s Wl.nmW).length ≤ 30000) (hlen : s.now.length ≤ 100) (hR : Wl.loadR (Fr.scanL (Wl.fileOf s Wl.nmW)).1 0 [] = (0, [])) :
    Calls Tryz.prog 10 #[.pointer (some ⟨q, 0, none⟩)] w fun e w' => ∃ kb, e = .returned (.tuple #[.pointer (some ⟨kb, 0, none⟩), .int .i64 0]) ∧ Hid (∃ p H, Wl.LX w' p q (Wl.openS s) H 0 [] ∧ (∀ k, H k → F k ∨ w.heap.size ≤ k) ∧ ¬ H kb ∧ w.heap.size ≤ kb ∧ KwB w' kb p (.int .i64 0) (.int .i64 0) (.int .i64 0) (.int .i64 0) (.slice none 0 0) (.slice none 0 0) (.slice none 0 0) 0 ∧ Dk.Fr F w w') := by
  have HO := hide (Wl.LX.open hD ht h0 hm hn hf hlen 0 [] hR)
  clear hD ht h0 hm hn hf hlen hR
  go_enter Tryz.func10, Tryz.ntmps10
  go_wp2_with fail
  refine Calls.mono HO.out ?_
  rintro e w1 ⟨p, rfl, HP⟩
  have HK : Hid (KwB (w1.alloc (.cells #[.int .i64 0, .int .i64 0, .int .i64 0, .int .i64 0, .slice none 0 0, .slice none 0 0, .slice none 0 0, .pointer (some ⟨p, 0, none⟩), .int .i64 0] 80)) w1.heap.size p (.int .i64 0) (.int .i64 0) (.int .i64 0) (.int .i64 0) (.slice none 0 0) (.slice none 0 0) (.slice none 0 0) 0) := heap_alloc_new _ _
  have HB : Hid (Below w1.heap.size w1 (w1.alloc (.cells #[.int .i64 0, .int .i64 0, .int .i64 0, .int .i64 0, .slice none 0 0, .slice none 0 0, .slice none 0 0, .pointer (some ⟨p, 0, none⟩), .int .i64 0] 80))) := (Below.refl _ _).alloc (Nat.le_refl _) _
  have HLD := hide (load_none (HP.out.1.below HB.out) (HK.out.c 7))
  clear HO
  go_wp2_with fail
  refine Calls.mono HLD.out ?_
  rintro e w2 ⟨rfl, hb2⟩
  have HE : Hid (∃ p H, Wl.LX w2 p q (Wl.openS s) H 0 [] ∧ (∀ k, H k → F k ∨ w.heap.size ≤ k) ∧ ¬ H w1.heap.size ∧ w.heap.size ≤ w1.heap.size ∧ KwB w2 w1.heap.size p (.int .i64 0) (.int .i64 0) (.int .i64 0) (.int .i64 0) (.slice none 0 0) (.slice none 0 0) (.slice none 0 0) 0 ∧ Dk.Fr F w w2) := by
    obtain ⟨hX, hF⟩ := HP.out
    have hbb := HB.out.trans (hb2.mono HB.out.size)
    refine ⟨p, Dk.ext F w w1, hX.below hbb, fun k hk => ?_, fun hk => ?_, hF.size, HK.out.below hb2, hF.trans (Dk.Fr.of_below (F := F) hbb) (fun _ _ h => h)⟩
    · rcases hk with hk | hk
      · exact Or.inl hk
      · exact Or.inr hk.1
    · have := hX.lt _ hk
      omega
  clear HP HK HB HLD hb2
  go_wp2_with fail
  go_ret2
  exact ⟨w1.heap.size, rfl, HE⟩
end Go.Proofs.YtjndgekpdmlbiaaGreatDoor.Kp
namespace Go.Proofs.YtjndgekpdmlbiaaGreatDoor.Kp
open Go.RowKit Bn

/-- What is kept behind a call. -/
def Rk (w : World) (kb p : Nat) (s' : St) (w' : World) : Prop :=
  ∃ av nv cv z, KwB w' kb p (.int .i64 s'.term) (.int .i64 s'.vote) (.int .i64 0) (.int .i64 0) (.slice none 0 0) (.slice none 0 0) (.slice av nv cv) z ∧ Es w' (.slice av nv cv) s'.ents ∧ Dk.Fr (fun k => k = kb) w w'
theorem Rk.below {w A B : World} {kb p : Nat} {s' : St} (h : Rk w kb p s' A) (hb : Below A.heap.size A B) : Rk w kb p s' B := by
  obtain ⟨av, nv, cv, z, h1, h2, h3⟩ := h
  exact ⟨av, nv, cv, z, h1.below hb, h2.below hb, h3.trans (Dk.Fr.of_below (F := fun k => k = kb) hb) (fun _ _ h => h)⟩

set_option maxHeartbeats 4000000 in
theorem load_one {w : World} {kb p pd : Nat} {s : Dk.St} {H : Nat → Prop} (rt rv rf : Int) (re : List Ent) (ho : (⟨rt, rv, true, rf, re, none⟩ : Rdy).ok) (hf : 0 < rf) (s' : St) (hs : st0.after ⟨rt, rv, true, rf, re, none⟩ = some s') (hln : re.length ≤ 1000000000) (hd : ∀ e ∈ re, e.data.length ≤ 140737488355328) (hl : (encR false ⟨rt, rv, true, rf, re, none⟩).length ≤ 100000)
    (h : Wl.LX w p pd s H 1 [fl true ++ encR false ⟨rt, rv, true, rf, re, none⟩]) (hb : KwB w kb p (.int .i64 0) (.int .i64 0) (.int .i64 0) (.int .i64 0) (.slice none 0 0) (.slice none 0 0) (.slice none 0 0) 0) (hk : ¬ H kb) :
    Calls Tryz.prog 26 #[.pointer (some ⟨kb, 0, none⟩)] w fun e w' => e = .returned (.tuple #[]) ∧ Hid (Rk w kb p s' w') := by
  obtain ⟨i, hi, hz, hsize, hby⟩ := info_parts Tryz.inf5
  have HRD : Hid (∀ W a n c, Below w.heap.size w W → Sl W (.slice a n c) (encR false ⟨rt, rv, true, rf, re, none⟩) → Calls Tryz.prog 52 #[.pointer (some ⟨kb, 0, none⟩), .slice a n c, .int .i64 0] W fun e w' => e = .returned (.bool true) ∧ Hid (Rk w kb p s' w')) := fun W a n c hW hS => by
    refine (redo_one (hb.below hW) rt rv rf re ho hf s' hs hln hd a n c hS (by omega) 0).mono ?_
    rintro e w' ⟨rfl, HP⟩
    obtain ⟨av, nv, cv, z, h1, h2, h3⟩ := HP.out
    exact ⟨rfl, av, nv, cv, z, h1, h2, (Dk.Fr.of_below (F := fun k => k = kb) hW).trans h3 (fun _ _ h => h)⟩
  obtain ⟨t, HTT⟩ : ∃ t, Hid (encR false ⟨rt, rv, true, rf, re, none⟩ = t) := ⟨_, (rfl : _ = _)⟩
  rw [HTT.out] at HRD h hl
  have HPI : Hid (∀ W, Below w.heap.size w W → Calls Tryz.prog 51 #[.pointer (some ⟨kb, 0, none⟩), .int .i64 1] W fun e w' => ∃ a n c, e = .returned (.tuple #[.slice a n c, .bool true, .bool true]) ∧ Hid (Sl w' (.slice a n c) t ∧ Below W.heap.size W w')) := fun W hW => piece_one t (h.below hW) ((hb.below hW).c 7) (by omega)
  have HL : Hid (∀ W, Dk.Fr (fun k => k = kb) w W → (Calls Tryz.prog 48 #[.pointer (some ⟨p, 0, none⟩)] W fun e w' => e = .returned (.int .i64 1) ∧ ∃ m, w' = W.drewN m) ∧ (Calls Tryz.prog 50 #[.pointer (some ⟨p, 0, none⟩)] W fun e w' => e = .returned (.int .i64 1) ∧ w' = W) ∧ Calls Tryz.prog 49 #[.pointer (some ⟨p, 0, none⟩), .int .i64 2] W fun e w' => e = .returned (.int .i64 0) ∧ ∃ m, w' = W.drewN m) := fun W hW => by
    have hX := h.kept hW (fun k hk2 e => hk (by rw [← e]; exact hk2))
    exact ⟨LXlast hX, LXfirst hX, LXfrom_same hX 2 (by omega) (by omega) (by simp [Wl.cnt, Wl.lastL])⟩
  have HC : Hid (∀ W, Below w.heap.size w W → W.cell? ⟨kb, 7, none⟩ = some (.pointer (some ⟨p, 0, none⟩))) := fun W hW => (hb.below hW).c 7
  have HLT := hide hl
  have H1 := hide (HL.out w (Dk.Fr.refl _ w)).1
  have c0 := hb.c 7
  simp at c0
  clear h hb hs ho hd hl hln hf HTT
  go_enter Tryz.func26, Tryz.ntmps26
  go_wp2_with fail
  refine Calls.mono H1.out ?_
  rintro e w1 ⟨rfl, m, hw1⟩
  have hb1 : Below w.heap.size w w1 := by rw [hw1]; exact Wl.below_drew w m
  have HB1 := hide hb1
  clear hw1 hb1 H1 c0
  have c1 := HC.out w1 HB1.out
  have HF1 := hide (HL.out w1 (Dk.Fr.of_below HB1.out)).2.1
  go_wp2_with fail
  refine Calls.mono HF1.out ?_
  rintro e w2 ⟨rfl, hw⟩
  have hw' := hw.symm
  subst hw'
  clear HF1
  go_wp2_with fail
  go_loopw [2, 3, 4] (fun tv dv nv wr => (tv = .slice none 0 0 ∧ dv = .int .i64 0 ∧ nv = .int .i64 1 ∧ Hid (Below w.heap.size w wr)) ∨ (tv = .slice none 0 0 ∧ dv = .int .i64 1 ∧ nv = .int .i64 2 ∧ Hid (Rk w kb p s' wr))) (fun _ _ nv _ => 2 - (intOf nv).toNat)
  case atStart => exact Or.inl ⟨rfl, rfl, rfl, HB1⟩
  case round =>
    clear c1 HB1
    rcases hrel with ⟨rfl, rfl, rfl, HB⟩ | ⟨rfl, rfl, rfl, HR⟩
    · have c2 := HC.out wr HB.out
      have HL2 := hide (HL.out wr (Dk.Fr.of_below HB.out)).1
      go_wp2_with fail
      refine Calls.mono HL2.out ?_
      rintro e w3 ⟨rfl, m3, hw3⟩
      have HB3 : Hid (Below w.heap.size w w3) := by rw [hw3]; exact HB.out.trans ((Wl.below_drew wr m3).mono HB.out.size)
      have HPI3 := hide (HPI.out w3 HB3.out)
      clear hw3 HL2 c2
      go_wp2_with fail
      refine Calls.mono HPI3.out ?_
      rintro e w4 ⟨a4, n4, c4, rfl, HS4⟩
      have HB4 := hide (HB3.out.trans (HS4.out.2.mono HB3.out.size))
      have HN : Hid (w4.ownsRow w4.heap.size 5 1 (.slice none 0 0) ([] : List UInt8).length (cells8 [])) := World.ownsRow_nil _ _ _ _
      have HS5 : Hid (Dk.Sl w4 (.slice a4 n4 c4) t) := HS4.out.1
      clear HPI3
      go_upto_region 10 with (at_builtin; refine Dk.wpList_append_sl _ rfl _ _ 33 rfl w4.heap.size i Tryz.underlying33 hi hz hsize hby (.slice none 0 0) _ [] t rfl HN.out rfl HS5.out (by have := HLT.out; simp; omega) (Nat.le_refl _) ?_; intro v5 w5 hO5 hg5 _)
      obtain ⟨a5, n5, c5, rfl⟩ := Dk.own_slice hO5
      have hb5 : Below w4.heap.size w4 w5 := ⟨hg5.os, hg5.tape, hg5.output, hg5.size, fun k hk => hg5.block k hk (by simp [Value.ownBlock])⟩
      rw [List.nil_append] at hO5
      have HRD5 := hide (HRD.out w5 a5 n5 c5 (HB4.out.trans (hb5.mono HB4.out.size)) (Sl.of_own hO5))
      clear hO5 hg5 hb5 HS5 HN HS4 HB4
      go_wp2_with fail
      refine Calls.mono HRD5.out ?_
      rintro e w6 ⟨rfl, HR6⟩
      clear HRD5
      go_wp2_with fail
      go_roundw
      case rel => exact Or.inr ⟨rfl, rfl, by simp, HR6⟩
      case measure => simp [intOf]
    · have c2 : wr.cell? ⟨kb, 7, none⟩ = some (.pointer (some ⟨p, 0, none⟩)) := by
        obtain ⟨_, _, _, _, h1, _⟩ := HR.out
        exact h1.c 7
      have h3 : Dk.Fr (fun k => k = kb) w wr := by obtain ⟨_, _, _, _, _, _, h3⟩ := HR.out; exact h3
      have HL2 := hide (HL.out wr h3).1
      clear h3
      go_wp2_with fail
      refine Calls.mono HL2.out ?_
      rintro e w3 ⟨rfl, m3, hw3⟩
      have HR3 : Hid (Rk w kb p s' w3) := by rw [hw3]; exact HR.out.below (Wl.below_drew wr m3)
      clear hw3 HL2 c2
      have c3 : w3.cell? ⟨kb, 7, none⟩ = some (.pointer (some ⟨p, 0, none⟩)) := by
        obtain ⟨_, _, _, _, h1, _⟩ := HR3.out
        exact h1.c 7
      have h3 : Dk.Fr (fun k => k = kb) w w3 := by obtain ⟨_, _, _, _, _, _, h3⟩ := HR3.out; exact h3
      have HG3 := hide (HL.out w3 h3).2.2
      clear h3
      go_wp2_with fail
      refine Calls.mono HG3.out ?_
      rintro e w4 ⟨rfl, m4, hw4⟩
      have HR4 : Hid (Rk w kb p s' w4) := by rw [hw4]; exact HR3.out.below (Wl.below_drew w3 m4)
      clear hw4 HG3 c3
      go_wp2_with fail
      exact bodyPost_end (v := .tuple #[]) (by simp [results, Tryz.results26, go_sem]) rfl ⟨rfl, HR4⟩

set_option maxHeartbeats 2000000 in
/-- Open, of a disk whose log has one call. -/
theorem open_one {w : World} {q : Nat} {s : Dk.St} {F : Nat → Prop} (hD : Dk.Dk w q s F) (ht : Fr.Tab w) (h0 : ¬ F 0) (hm : s.mass ≤ 1000000) (hn : Wl.Nm s.now) (hf : (Wl.fileOf s Wl.nmW).length ≤ 30000) (hlen : s.now.length ≤ 100) (rt rv rf : Int) (re : List Ent) (ho : (⟨rt, rv, true, rf, re, none⟩ : Rdy).ok) (hfp : 0 < rf) (s' : St) (hs : st0.after ⟨rt, rv, true, rf, re, none⟩ = some s') (hln : re.length ≤ 1000000000) (hd : ∀ e ∈ re, e.data.length ≤ 140737488355328) (hl : (encR false ⟨rt, rv, true, rf, re, none⟩).length ≤ 100000)
    (hR : Wl.loadR (Fr.scanL (Wl.fileOf s Wl.nmW)).1 0 [] = (1, [fl true ++ encR false ⟨rt, rv, true, rf, re, none⟩])) :
    Calls Tryz.prog 10 #[.pointer (some ⟨q, 0, none⟩)] w fun e w' => ∃ kb, e = .returned (.tuple #[.pointer (some ⟨kb, 0, none⟩), .int .i64 0]) ∧ Hid (∃ p av nv cv z, KwB w' kb p (.int .i64 s'.term) (.int .i64 s'.vote) (.int .i64 0) (.int .i64 0) (.slice none 0 0) (.slice none 0 0) (.slice av nv cv) z ∧ Es w' (.slice av nv cv) s'.ents ∧ Dk.Fr F w w') := by
  have HO := hide (Wl.LX.open hD ht h0 hm hn hf hlen 1 _ hR)
  have HLD : Hid (∀ (W : World) (kb p : Nat) (H : Nat → Prop), Wl.LX W p q (Wl.openS s) H 1 [fl true ++ encR false ⟨rt, rv, true, rf, re, none⟩] → KwB W kb p (.int .i64 0) (.int .i64 0) (.int .i64 0) (.int .i64 0) (.slice none 0 0) (.slice none 0 0) (.slice none 0 0) 0 → ¬ H kb → Calls Tryz.prog 26 #[.pointer (some ⟨kb, 0, none⟩)] W fun e w' => e = .returned (.tuple #[]) ∧ Hid (Rk W kb p s' w')) := fun W kb p H hX hK hk => load_one rt rv rf re ho hfp s' hs hln hd hl hX hK hk
  clear hD ht h0 hm hn hf hlen hR ho hfp hs hln hd hl
  go_enter Tryz.func10, Tryz.ntmps10
  go_wp2_with fail
  refine Calls.mono HO.out ?_
  rintro e w1 ⟨p, rfl, HP⟩
  have HK : Hid (KwB (w1.alloc (.cells #[.int .i64 0, .int .i64 0, .int .i64 0, .int .i64 0, .slice none 0 0, .slice none 0 0, .slice none 0 0, .pointer (some ⟨p, 0, none⟩), .int .i64 0] 80)) w1.heap.size p (.int .i64 0) (.int .i64 0) (.int .i64 0) (.int .i64 0) (.slice none 0 0) (.slice none 0 0) (.slice none 0 0) 0) := heap_alloc_new _ _
  have HB : Hid (Below w1.heap.size w1 (w1.alloc (.cells #[.int .i64 0, .int .i64 0, .int .i64 0, .int .i64 0, .slice none 0 0, .slice none 0 0, .slice none 0 0, .pointer (some ⟨p, 0, none⟩), .int .i64 0] 80))) := (Below.refl _ _).alloc (Nat.le_refl _) _
  have HL2 := hide (HLD.out _ w1.heap.size p _ (HP.out.1.below HB.out) HK.out (fun hk => by have := HP.out.1.lt _ hk; omega))
  clear HO HLD
  go_wp2_with fail
  refine Calls.mono HL2.out ?_
  rintro e w2 ⟨rfl, HR2⟩
  have HE : Hid (∃ p av nv cv z, KwB w2 w1.heap.size p (.int .i64 s'.term) (.int .i64 s'.vote) (.int .i64 0) (.int .i64 0) (.slice none 0 0) (.slice none 0 0) (.slice av nv cv) z ∧ Es w2 (.slice av nv cv) s'.ents ∧ Dk.Fr F w w2) := by
    obtain ⟨av, nv, cv, z, h1, h2, h3⟩ := HR2.out
    have hF := HP.out.2
    have hs1 := hF.size
    refine ⟨p, av, nv, cv, z, h1, h2, (hF.trans (Dk.Fr.of_below (F := F) HB.out) (fun _ _ h => h)).trans h3 (fun k hk e => ?_)⟩
    omega
  clear HP HK HB HL2 HR2
  go_wp2_with fail
  go_ret2
  exact ⟨w1.heap.size, rfl, HE⟩
end Go.Proofs.YtjndgekpdmlbiaaGreatDoor.Kp
namespace Go.Proofs.YtjndgekpdmlbiaaGreatDoor.Kp
open Go.RowKit Bn

theorem RdR.below {b : Nat} {w A B : World} {kb p : Nat} {s' : St} (h : RdR b w kb p s' A) (hb : Below A.heap.size A B) : RdR b w kb p s' B := by
  obtain ⟨av, nv, cv, z, h1, h2, h3⟩ := h
  exact ⟨av, nv, cv, z, h1.below hb, h2.below hb, h3.trans (Dk.Fr.of_below (F := fun k => k = kb ∨ b ≤ k) hb) (fun _ _ h => h)⟩
/-- The calls' records, from a number on. -/
structure Cls (first : Int) (cs : List Cal) (σ : St) : Prop where
  one : cs ≠ [] → 1 ≤ first
  zero : cs = [] → first = 0
  fit : first + cs.length ≤ 4611686018427386000
  few : cs.length ≤ 100000
  ok : ∀ c ∈ cs, CallOk c
  head : ∀ (k : Nat) (hk : k < cs.length), 0 < k → cs[k].1 = false
  sum : entSum cs ≤ 1000000
  run : doAll st0 cs = some σ
/-- redo, of the log's next call. -/
theorem redo_next {w W : World} {kb p pd : Nat} {s : Dk.St} {H : Nat → Prop} {first : Int} {cs : List Cal} {σ a : St} (hC : Cls first cs σ) (h : Wl.LX w p pd s H first (cs.map txt)) (hk : ¬ H kb) (hkb : kb < w.heap.size) (k : Nat) (hkl : k < cs.length) (ha : doAll st0 (cs.take k) = some a) (hR : RdR w.heap.size w kb p a W)
    (av : Option Addr) (n c : Nat) (hS : Sl W (.slice av n c) (encR cs[k].1 cs[k].2)) (D : Int) (hD : D = first - 1 + k) :
    Calls Tryz.prog 52 #[.pointer (some ⟨kb, 0, none⟩), .slice av n c, .int .i64 D] W fun e w' => e = .returned (.bool true) ∧ Hid (∃ b, doAll st0 (cs.take (k + 1)) = some b ∧ RdR w.heap.size w kb p b w') := by
  obtain ⟨a', b, h1, h2, h3, h4, h5⟩ := doAll_at hC.ok hC.run hC.sum k hkl
  rw [ha] at h1
  cases h1
  have hok := hC.ok _ (List.getElem_mem hkl)
  have hfr := hR.fr
  obtain ⟨vv, nv, cv, z, g1, g2, g3⟩ := hR
  generalize hcc : cs[k] = cc at *
  obtain ⟨an, rt, rv, rs, rf, re, rn⟩ := cc
  obtain ⟨o1, o2, o3, o4, o5⟩ := hok
  dsimp only at o1 o2 o3 o4 o5 hS h5
  subst o1 o2
  obtain ⟨at0, av0, as0, ae0⟩ := a
  dsimp only at h4 g1 g2 h5
  subst h4
  refine (redo_any (b := w.heap.size) g1 g2 hkb g3.size an rt rv rf re o3 b h2 (by omega) (fun e he => by have := o4 e he; omega) av n c hS (by omega) D (fun V hV han hDp => ?_)).mono ?_
  · -- the head: nothing ahead of it
    have hX := h.kept (g3.trans hV (fun _ _ h => h)) (fun j h1 h2 => by
      rcases h2 with h2 | h2
      · exact hk (by rw [← h2]; exact h1)
      · have := h.lt j h1; omega)
    have hk0 : k = 0 := by
      rcases Nat.eq_zero_or_pos k with e | e
      · exact e
      · have := hC.head k hkl e
        rw [hcc] at this
        have this' : an = false := this
        rw [this'] at han
        cases han
    subst hk0
    have hne : cs ≠ [] := fun e => by rw [e] at hkl; simp at hkl
    have h1f := hC.one hne
    have hfit := hC.fit
    obtain ⟨F, hW, _⟩ := hX.lw
    refine Wl.until_same _ p pd s _ first _ D V hW (by omega) (by omega) ?_
    unfold Wl.cnt Wl.lastL
    rw [List.length_map, if_neg (show ¬ cs.length = 0 by omega), if_neg (by omega)]
    omega
  · rintro e w' ⟨rfl, HP⟩
    obtain ⟨x1, x2, x3, x4, y1, y2, y3⟩ := HP.out
    exact ⟨rfl, b, h3, x1, x2, x3, x4, y1, y2, g3.trans y3 (fun _ _ h => h)⟩

set_option maxHeartbeats 4000000 in
set_option maxRecDepth 4000 in
theorem load_any {w : World} {kb p pd : Nat} {s : Dk.St} {H : Nat → Prop} {first : Int} {cs : List Cal} {σ : St} (hC : Cls first cs σ) (h : Wl.LX w p pd s H first (cs.map txt)) (hb : KwB w kb p (.int .i64 0) (.int .i64 0) (.int .i64 0) (.int .i64 0) (.slice none 0 0) (.slice none 0 0) (.slice none 0 0) 0) (hk : ¬ H kb) :
    Calls Tryz.prog 26 #[.pointer (some ⟨kb, 0, none⟩)] w fun e w' => e = .returned (.tuple #[]) ∧ Hid (RdR w.heap.size w kb p σ w') := by
  obtain ⟨i, hi, hz, hsize, hby⟩ := info_parts Tryz.inf5
  have hkb := hb.lt
  have hfit := hC.fit
  have hlast : Wl.lastL first (cs.map txt) = if cs.length = 0 then 0 else first + cs.length - 1 := by unfold Wl.lastL; rw [List.length_map]
  obtain ⟨D0, hD0⟩ : ∃ D0, D0 = (if cs.length = 0 then 0 else first - 1) := ⟨_, rfl⟩
  have HD0 : Hid (Wl.lastL first (cs.map txt) = D0 + cs.length ∧ 0 ≤ D0 ∧ (cs.length ≠ 0 → D0 = first - 1)) := by
    show _ ∧ _
    rw [hlast, hD0]
    by_cases h0 : cs.length = 0
    · rw [if_pos h0, if_pos h0, h0]; exact ⟨rfl, by omega, fun h => absurd rfl h⟩
    · rw [if_neg h0, if_neg h0]
      have := hC.one (fun e => h0 (by rw [e]; rfl))
      exact ⟨by omega, by omega, fun _ => rfl⟩
  have hx : ∀ W, Dk.Fr (fun j => j = kb ∨ w.heap.size ≤ j) w W → Wl.LX W p pd s H first (cs.map txt) := fun W hW => h.kept hW (fun j h1 h2 => by
    rcases h2 with h2 | h2
    · exact hk (by rw [← h2]; exact h1)
    · have := h.lt j h1; omega)
  have HRD : Hid (∀ (W : World) (k : Nat) (hkl : k < cs.length) (a : St) (av : Option Addr) (n c : Nat) (D : Int), doAll st0 (cs.take k) = some a → RdR w.heap.size w kb p a W → Sl W (.slice av n c) (encR cs[k].1 cs[k].2) → D = D0 + k → Calls Tryz.prog 52 #[.pointer (some ⟨kb, 0, none⟩), .slice av n c, .int .i64 D] W fun e w' => e = .returned (.bool true) ∧ Hid (∃ b, doAll st0 (cs.take (k + 1)) = some b ∧ RdR w.heap.size w kb p b w')) := fun W k hkl a av n c D ha hR hS hD => redo_next hC h hk hkb k hkl ha hR av n c hS D (by have := HD0.out.2.2 (by omega); omega)
  have HPI : Hid (∀ (W : World) (k : Nat) (hkl : k < cs.length) (nn : Int), Dk.Fr (fun j => j = kb ∨ w.heap.size ≤ j) w W → W.cell? ⟨kb, 7, none⟩ = some (.pointer (some ⟨p, 0, none⟩)) → nn = D0 + k + 1 → Calls Tryz.prog 51 #[.pointer (some ⟨kb, 0, none⟩), .int .i64 nn] W fun e w' => ∃ a n c, e = .returned (.tuple #[.slice a n c, .bool true, .bool true]) ∧ Hid (Sl w' (.slice a n c) (encR cs[k].1 cs[k].2) ∧ Below W.heap.size W w' ∧ (encR cs[k].1 cs[k].2).length ≤ 32767)) := fun W k hkl nn hW ck hnn => by
    have hlen := (hC.ok _ (List.getElem_mem hkl)).len
    have hne : cs ≠ [] := fun e => by rw [e] at hkl; simp at hkl
    refine (piece_any (encR cs[k].1 cs[k].2) (hx W hW) k (by rw [List.length_map]; exact hkl) (by rw [List.getElem_map]; rfl) (hC.one hne) (by rw [List.length_map]; omega) (by rw [List.length_map]; exact hC.few) ck (by omega) nn (by have := HD0.out.2.2 (by omega); omega)).mono ?_
    rintro e w' ⟨a, n, c, rfl, HP⟩
    exact ⟨a, n, c, rfl, HP.out.1, HP.out.2, hlen⟩
  obtain ⟨Lz, hLz⟩ : ∃ Lz, Lz = D0 + cs.length := ⟨_, rfl⟩
  have HL : Hid (∀ W, Dk.Fr (fun j => j = kb ∨ w.heap.size ≤ j) w W → (Calls Tryz.prog 48 #[.pointer (some ⟨p, 0, none⟩)] W fun e w' => e = .returned (.int .i64 Lz) ∧ ∃ m, w' = W.drewN m) ∧ (Calls Tryz.prog 50 #[.pointer (some ⟨p, 0, none⟩)] W fun e w' => e = .returned (.int .i64 first) ∧ w' = W) ∧ ∀ d, d = Lz → Calls Tryz.prog 49 #[.pointer (some ⟨p, 0, none⟩), .int .i64 (d + 1)] W fun e w' => e = .returned (.int .i64 0) ∧ ∃ m, w' = W.drewN m) := fun W hW => by
    have hX := hx W hW
    have h1 := LXlast hX
    rw [HD0.out.1, ← hLz] at h1
    refine ⟨h1, LXfirst hX, fun d hd => ?_⟩
    subst hd
    refine LXfrom_same hX _ (by have := HD0.out.2.1; omega) (by rw [hLz, hD0]; split <;> omega) ?_
    unfold Wl.cnt
    rw [if_pos (by rw [HD0.out.1]; omega)]
  have HS0 : Hid (doAll st0 (cs.take 0) = some st0 ∧ RdR w.heap.size w kb p st0 w) := ⟨rfl, none, 0, 0, 0, hb, Er.nil _ _, Dk.Fr.refl _ w⟩
  have HEND : Hid (∀ a w', doAll st0 (cs.take cs.length) = some a → RdR w.heap.size w kb p a w' → RdR w.heap.size w kb p σ w') := fun a w' ha hR => by
    rw [List.take_length, hC.run] at ha
    cases ha
    exact hR
  have hLb1 : (0 : Int) ≤ D0 := HD0.out.2.1
  have hLb2 : Lz ≤ 4611686018427387000 := by rw [hLz, hD0]; split <;> omega
  have HF1 : Hid ((cs.length = 0 → first = 0 ∧ D0 = 0) ∧ (cs.length ≠ 0 → 1 ≤ first ∧ first - 1 = D0)) := by
    refine ⟨fun h0 => ⟨hC.zero (List.eq_nil_of_length_eq_zero h0), by rw [hD0, if_pos h0]⟩, fun h0 => ⟨hC.one (fun e => h0 (by rw [e]; rfl)), (HD0.out.2.2 h0).symm⟩⟩
  have c0 := hb.c 7
  simp at c0
  have H1 := hide (HL.out w (Dk.Fr.refl _ w)).1
  obtain ⟨m, hm⟩ : ∃ m, cs.length = m := ⟨_, rfl⟩
  rw [hm] at HF1 hLz
  have HM := hide hm
  have HLZ := hide hLz
  have hgt : ¬ (4611686018427387904 : Int) < Lz := by omega
  have HFB : Hid (first ≤ 4611686018427387000 ∧ Lz ≤ 4611686018427387000 ∧ 0 ≤ D0) := ⟨by omega, hLb2, hLb1⟩
  clear hLb1 hLb2
  clear h hb hk hkb hC hfit hlast hD0 HD0 hx hm hLz
  go_enter Tryz.func26, Tryz.ntmps26
  go_wp2_with fail
  refine Calls.mono H1.out ?_
  rintro e w1 ⟨rfl, m1, hw1⟩
  have hb1 : Below w.heap.size w w1 := by rw [hw1]; exact Wl.below_drew w m1
  have HB1 := hide hb1
  have HR1 : Hid (RdR w.heap.size w kb p st0 w1) := HS0.out.2.below hb1
  clear hw1 hb1 H1 c0
  have c1 := HR1.out.c7.1
  have HF2 := hide (HL.out w1 (Dk.Fr.of_below HB1.out)).2.1
  go_upto_region 3 with fail
  go_cut [3] from 19 to 25 (fun v3 wc => v3 = .int .i64 D0 ∧ wc = w1)
  case first =>
    go_wp2_with fail
    refine Calls.mono HF2.out ?_
    rintro e w2 ⟨rfl, hw⟩
    have hw' := hw.symm
    subst hw'
    by_cases h0 : m = 0
    · obtain ⟨e1, e2⟩ := HF1.out.1 h0
      subst e1 e2
      go_wp2_with fail
      go_meet
      exact ⟨rfl, rfl⟩
    · obtain ⟨e1, e2⟩ := HF1.out.2 h0
      have hlt1 : ¬ first < 1 := by omega
      have hb2 := HFB.out.1
      go_wp2_with fail
      go_meet
      exact ⟨by first | (rw [e2]) | (rw [← e2]), rfl⟩
  case rest =>
    obtain ⟨rfl, rfl⟩ := hcut
    clear HF2 c1
    have hd1 := HFB.out.2.2
    have hd2 : D0 ≤ 4611686018427387000 := by have := HFB.out.2.1; have := HLZ.out; omega
    go_wp2_with fail
    go_loopw [2, 3, 4] (fun tv dv nv wr => ∃ (k : Nat) (d n : Int), tv = .slice none 0 0 ∧ dv = .int .i64 d ∧ nv = .int .i64 n ∧ Hid (n = d + 1 ∧ d = D0 + k ∧ k ≤ m) ∧ Hid (∃ a, doAll st0 (cs.take k) = some a ∧ RdR w.heap.size w kb p a wr)) (fun _ _ nv _ => (Lz + 1 - intOf nv).toNat)
    case atStart => exact ⟨0, D0, D0 + 1, rfl, rfl, rfl, ⟨rfl, by omega, by omega⟩, st0, HS0.out.1, HR1.out⟩
    case round =>
      obtain ⟨k, d, n, rfl, rfl, rfl, HDN, HA⟩ := hrel
      clear hd1 hd2 HR1
      obtain ⟨a0, ha0, hR0⟩ := HA.out
      have HA0 := hide ha0
      have HR0 := hide hR0
      clear ha0 hR0 HA
      have c2 := HR0.out.c7.1
      have HL2 := hide (HL.out wr HR0.out.fr).1
      go_wp2_with fail
      refine Calls.mono HL2.out ?_
      rintro e w3 ⟨rfl, m3, hw3⟩
      have HR3 : Hid (RdR w.heap.size w kb p a0 w3) := by rw [hw3]; exact HR0.out.drew m3
      clear hw3 HL2 c2 HR0
      have c3 := HR3.out.c7.1
      by_cases hk : k < m
      · have hkl : k < cs.length := by rw [HM.out]; exact hk
        have hle : n ≤ Lz := by have := HDN.out; have := HLZ.out; omega
        have hnb : n ≤ 4611686018427387000 := by have := HFB.out.2.1; omega
        have hn0 : 0 ≤ n := by have := HDN.out; have := HFB.out.2.2; omega
        have HPI3 := hide (HPI.out w3 k hkl n HR3.out.fr c3 (by have := HDN.out; omega))
        clear hk
        go_wp2_with fail
        refine Calls.mono HPI3.out ?_
        rintro e w4 ⟨a4, n4, c4, rfl, HS4⟩
        have HR4 := hide (HR3.out.below HS4.out.2.1)
        have HN : Hid (w4.ownsRow w4.heap.size 5 1 (.slice none 0 0) ([] : List UInt8).length (cells8 [])) := World.ownsRow_nil _ _ _ _
        have HLT := hide HS4.out.2.2
        have HS5 : Hid (Dk.Sl w4 (.slice a4 n4 c4) (encR cs[k].1 cs[k].2)) := HS4.out.1
        clear HPI3 HR3 c3 HS4
        go_upto_region 10 with (at_builtin; refine Dk.wpList_append_sl _ rfl _ _ 33 rfl w4.heap.size i Tryz.underlying33 hi hz hsize hby (.slice none 0 0) _ [] (encR cs[k].1 cs[k].2) rfl HN.out rfl HS5.out (by have := HLT.out; simp; omega) (Nat.le_refl _) ?_; intro v5 w5 hO5 hg5 _)
        obtain ⟨a5, n5, c5, rfl⟩ := Dk.own_slice hO5
        have hb5 : Below w4.heap.size w4 w5 := ⟨hg5.os, hg5.tape, hg5.output, hg5.size, fun k hk => hg5.block k hk (by simp [Value.ownBlock])⟩
        rw [List.nil_append] at hO5
        have HRD5 := hide (HRD.out w5 k hkl a0 a5 n5 c5 d HA0.out (HR4.out.below hb5) (Sl.of_own hO5) HDN.out.2.1)
        clear hO5 hg5 hb5 HS5 HN HR4 HLT
        go_wp2_with fail
        refine Calls.mono HRD5.out ?_
        rintro e w6 ⟨rfl, HR6⟩
        clear HRD5
        go_wp2_with fail
        go_roundw
        case rel => exact ⟨k + 1, n, n + 1, rfl, rfl, rfl, ⟨rfl, by have := HDN.out; push_cast; omega, by have := HM.out; omega⟩, HR6.out⟩
        case measure => simp [intOf]; omega
      · have hkm : k = m := by have := HDN.out.2.2; omega
        have hle : ¬ n ≤ Lz := by have := HDN.out; have := HLZ.out; omega
        have hdz : d = Lz := by have := HDN.out; have := HLZ.out; omega
        have hdb : d ≤ 4611686018427387000 := by have := HFB.out.2.1; omega
        have hd0 : 0 ≤ d := by have := HDN.out; have := HFB.out.2.2; omega
        have HG3 := hide ((HL.out w3 HR3.out.fr).2.2 d hdz)
        have HE : Hid (∀ W, RdR w.heap.size w kb p a0 W → RdR w.heap.size w kb p σ W) := fun W hW => HEND.out a0 W (by rw [HM.out, ← hkm]; exact HA0.out) hW
        clear hk hkm hdz
        go_wp2_with fail
        refine Calls.mono HG3.out ?_
        rintro e w4 ⟨rfl, m4, hw4⟩
        have HR4 : Hid (RdR w.heap.size w kb p a0 w4) := by rw [hw4]; exact HR3.out.drew m4
        clear hw4 HG3 c3
        go_wp2_with fail
        exact bodyPost_end (v := .tuple #[]) (by simp [results, Tryz.results26, go_sem]) rfl ⟨rfl, HE.out _ HR4.out⟩

/-- What Open leaves. -/
def OpR (w : World) (q : Nat) (s : Dk.St) (F : Nat → Prop) (first : Int) (cs : List Cal) (σ : St) (kb : Nat) (w' : World) : Prop :=
  ∃ p H av nv cv z, Wl.LX w' p q (Wl.openS s) H first (cs.map txt) ∧ (∀ k, H k → F k ∨ w.heap.size ≤ k) ∧ ¬ H kb ∧ w.heap.size ≤ kb ∧ KwB w' kb p (.int .i64 σ.term) (.int .i64 σ.vote) (.int .i64 0) (.int .i64 0) (.slice none 0 0) (.slice none 0 0) (.slice av nv cv) z ∧ Er (kb + 1) w' (.slice av nv cv) σ.ents ∧ Dk.Fr F w w'
set_option maxHeartbeats 2000000 in
theorem open_calls {w : World} {q : Nat} {s : Dk.St} {F : Nat → Prop} {first : Int} {cs : List Cal} {σ : St} (hC : Cls first cs σ) (hD : Dk.Dk w q s F) (ht : Fr.Tab w) (h0 : ¬ F 0) (hm : s.mass ≤ 1000000) (hn : Wl.Nm s.now) (hf : (Wl.fileOf s Wl.nmW).length ≤ 30000) (hlen : s.now.length ≤ 100) (hR : Wl.loadR (Fr.scanL (Wl.fileOf s Wl.nmW)).1 0 [] = (first, cs.map txt)) :
    Calls Tryz.prog 10 #[.pointer (some ⟨q, 0, none⟩)] w fun e w' => ∃ kb, e = .returned (.tuple #[.pointer (some ⟨kb, 0, none⟩), .int .i64 0]) ∧ Hid (OpR w q s F first cs σ kb w') := by
  have HO := hide (Wl.LX.open hD ht h0 hm hn hf hlen first _ hR)
  have HLD : Hid (∀ (W : World) (kb p : Nat) (H : Nat → Prop), Wl.LX W p q (Wl.openS s) H first (cs.map txt) → KwB W kb p (.int .i64 0) (.int .i64 0) (.int .i64 0) (.int .i64 0) (.slice none 0 0) (.slice none 0 0) (.slice none 0 0) 0 → ¬ H kb → Calls Tryz.prog 26 #[.pointer (some ⟨kb, 0, none⟩)] W fun e w' => e = .returned (.tuple #[]) ∧ Hid (RdR W.heap.size W kb p σ w')) := fun W kb p H hX hK hk => load_any hC hX hK hk
  clear hC hD ht h0 hm hn hf hlen hR
  go_enter Tryz.func10, Tryz.ntmps10
  go_wp2_with fail
  refine Calls.mono HO.out ?_
  rintro e w1 ⟨p, rfl, HP⟩
  have HK : Hid (KwB (w1.alloc (.cells #[.int .i64 0, .int .i64 0, .int .i64 0, .int .i64 0, .slice none 0 0, .slice none 0 0, .slice none 0 0, .pointer (some ⟨p, 0, none⟩), .int .i64 0] 80)) w1.heap.size p (.int .i64 0) (.int .i64 0) (.int .i64 0) (.int .i64 0) (.slice none 0 0) (.slice none 0 0) (.slice none 0 0) 0) := heap_alloc_new _ _
  have HB : Hid (Below w1.heap.size w1 (w1.alloc (.cells #[.int .i64 0, .int .i64 0, .int .i64 0, .int .i64 0, .slice none 0 0, .slice none 0 0, .slice none 0 0, .pointer (some ⟨p, 0, none⟩), .int .i64 0] 80))) := (Below.refl _ _).alloc (Nat.le_refl _) _
  have HL2 := hide (HLD.out _ w1.heap.size p _ (HP.out.1.below HB.out) HK.out (fun hk => by have := HP.out.1.lt _ hk; omega))
  clear HO HLD
  go_wp2_with fail
  refine Calls.mono HL2.out ?_
  rintro e w2 ⟨rfl, HR2⟩
  have HE : Hid (OpR w q s F first cs σ w1.heap.size w2) := by
    have hfr := HR2.out.fr
    obtain ⟨av, nv, cv, z, h1, h2, h3⟩ := HR2.out
    have hF := HP.out.2
    have hs1 := hF.size
    have hlt := HP.out.1.lt
    have hs2 : (w1.alloc (.cells #[.int .i64 0, .int .i64 0, .int .i64 0, .int .i64 0, .slice none 0 0, .slice none 0 0, .slice none 0 0, .pointer (some ⟨p, 0, none⟩), .int .i64 0] 80)).heap.size = w1.heap.size + 1 := by simp
    rw [hs2] at h2 hfr
    refine ⟨p, _, av, nv, cv, z, (HP.out.1.below HB.out).kept hfr (fun k hk hk2 => ?_), fun k hk => ?_, fun hk => ?_, hs1, h1, h2, (hF.trans (Dk.Fr.of_below (F := F) HB.out) (fun _ _ h => h)).trans hfr (fun k hk e => ?_)⟩
    · have := hlt k hk
      omega
    · rcases hk with hk | hk
      · exact Or.inl hk
      · exact Or.inr hk.1
    · have := hlt _ hk; omega
    · omega
  clear HP HK HB HL2 HR2
  go_wp2_with fail
  go_ret2
  exact ⟨w1.heap.size, rfl, HE⟩
end Go.Proofs.YtjndgekpdmlbiaaGreatDoor.Kp
namespace Go.Proofs.YtjndgekpdmlbiaaGreatDoor.Kp
open Go.RowKit Bn

theorem may_last {s : Dk.St} {first : Int} {ds : List (List UInt8)} {N B M : Nat} (hG : Wl.Gk s first ds N B M) (h1 : ds ≠ [] → 1 ≤ first) : Wl.mayL first ds (Wl.lastL first ds + 1) = true := by
  have hf := hG.fit
  unfold Wl.mayL Wl.lastL
  by_cases h0 : ds.length = 0
  · rw [if_pos h0]; simp [h0]
  · rw [if_neg h0]
    have := h1 (fun e => h0 (by rw [e]; rfl))
    simp only [h0, Bool.and_eq_true, decide_eq_true_eq, Bool.or_eq_true]
    omega
theorem last_bd {s : Dk.St} {first : Int} {ds : List (List UInt8)} {N B M : Nat} (hG : Wl.Gk s first ds N B M) : -1 ≤ Wl.lastL first ds ∧ Wl.lastL first ds ≤ 4611686018427387904 := by
  have hf := hG.fit
  unfold Wl.lastL
  split
  · omega
  · omega
/-- What appendPieces leaves. -/
def PcK (w : World) (p pd : Nat) (s : Dk.St) (H : Nat → Prop) (first : Int) (ds : List (List UInt8)) (t : List UInt8) (w' : World) : Prop :=
  Wl.LX w' p pd (s.push (.app Wl.nmW (Wl.recB (Wl.lastL first ds + 1) (fl true ++ t)))) (Dk.ext H w w') (if ds.length = 0 then Wl.lastL first ds + 1 else first) (ds ++ [fl true ++ t]) ∧ Dk.Fr H w w'

set_option maxHeartbeats 2000000 in
theorem pieces_any {w : World} {kb p pd : Nat} {s : Dk.St} {H : Nat → Prop} {first : Int} {ds : List (List UInt8)} {N B M : Nat} (h : Wl.LX w p pd s H first ds) (hG : Wl.Gk s first ds N B M) (h1f : ds ≠ [] → 1 ≤ first) (hN : N ≤ 900) (hB : B ≤ 900000) (hM : M ≤ 900000) (hroom : (B : Int) + 32796 ≤ s.room) (ht : Fr.Tab w) (ck : w.cell? ⟨kb, 7, none⟩ = some (.pointer (some ⟨p, 0, none⟩))) (hk : ¬ H kb)
    (ao : Option Addr) (L cap : Nat) (t : List UInt8) (b : Nat) (hO : w.ownsRow b 5 1 (.slice ao L cap) t.length (cells8 t)) (h0 : 0 < t.length) (hl : t.length ≤ 32767) :
    Calls Tryz.prog 94 #[.pointer (some ⟨kb, 0, none⟩), .slice ao L cap] w fun e w' => e = .returned (.int .i64 0) ∧ Hid (PcK w p pd s H first ds t w') := by
  obtain ⟨g, rfl, hL, hLc, hcm⟩ : ∃ g, ao = some ⟨g, 0, none⟩ ∧ L = t.length ∧ L ≤ cap ∧ cap ≤ maxLen := by
    rcases Dk.own_shape hO with ⟨_, h0'⟩ | ⟨g, c, e, h1, h2, _⟩
    · omega
    · simp only [Value.slice.injEq] at e
      obtain ⟨e1, rfl, rfl⟩ := e
      exact ⟨g, e1, rfl, h1, h2⟩
  have HST : Hid (Sl w (.slice (some ⟨g, 0, none⟩) L cap) t) := Sl.of_own hO
  have HX := hide h
  have HCK := hide ck
  have HT := hide ht
  have HLL := hide hL
  have hlb := last_bd hG
  have hmay := may_last hG h1f
  have hfl := hG.file
  have hdl := hG.len
  have hms := hG.mass
  have hnl := hG.now.len
  have hu := hG.now.used
  have HLS0 : Hid (∀ W, Below w.heap.size w W → Calls Tryz.prog 48 #[.pointer (some ⟨p, 0, none⟩)] W fun e w' => e = .returned (.int .i64 (Wl.lastL first ds)) ∧ ∃ m, w' = W.drewN m) := fun W hb => LXlast (HX.out.below hb)
  have HAP : Hid (∀ W a2 L2 c2, Below w.heap.size w W → W.ownsRow w.heap.size 5 1 (.slice a2 L2 c2) (fl true ++ t).length (cells8 (fl true ++ t)) → Calls Tryz.prog 121 #[.pointer (some ⟨p, 0, none⟩), .int .i64 (Wl.lastL first ds + 1), .slice a2 L2 c2] W fun e w4 => e = .returned (.int .i64 0) ∧ w4.cell? ⟨kb, 7, none⟩ = some (.pointer (some ⟨p, 0, none⟩)) ∧ Hid (PcK w p pd s H first ds t w4)) := fun W a2 L2 c2 hb ho => by
    have hX := HX.out.below hb
    have hlt := HX.out.lt
    have hrs := Wl.recB_size (Wl.lastL first ds + 1) (fl true ++ t) ⟨by omega, by omega⟩ (by simp [fl]; omega)
    have hfl1 : (fl true ++ t).length = t.length + 1 := by simp [fl]
    refine (hX.app (HT.out.below hb) (Wl.lastL first ds + 1) _ (fl true ++ t) (Dk.SlA.of_own ho (fun k hk hH => by have h1 := (ho.lt k hk).1; have h2 := hlt k hH; omega)) (by omega) hmay (by omega) (by rw [hu]; omega) (Or.inr (by omega)) (by omega) (by omega) (by omega)).mono ?_
    rintro e w4 ⟨rfl, hP⟩
    obtain ⟨h1, h2⟩ := hP.out
    have hfr : Dk.Fr H w w4 := (Dk.Fr.of_below (F := H) hb).trans h2 (fun _ _ h => h)
    refine ⟨rfl, hfr.cell HCK.out hk, ?_, hfr⟩
    obtain ⟨F, vr, rs, G, d1, d2, d3, d4, d5, d6, d7, d8, d9⟩ := h1
    have hw : ∀ k, Dk.ext H W w4 k → Dk.ext H w w4 k := fun k hk => by
      rcases hk with hk | hk
      · exact Or.inl hk
      · exact Or.inr ⟨Nat.le_trans hb.size hk.1, hk.2⟩
    exact ⟨F, vr, rs, G, d1, d2, d3, d4, d5, fun k hk => hw k (d6 k hk), fun k hk => hw k (d7 k hk), hw p d8, fun k hk => by
      rcases hk with hk | hk
      · have := hlt k hk; have := hfr.size; omega
      · exact hk.2⟩
  have HFL : Hid (Calls Tryz.prog 120 #[.bool true] w.drew fun e w1 => ∃ af Lf cf, e = .returned (.slice af Lf cf) ∧ ∃ a2 L2 c2 w2, (∀ ty, (Builtin.append_ #[33, 33] ty #[.slice af Lf cf, .slice (some ⟨g, 0, none⟩) L cap]).run Tryz.prog w1 = .ok (.slice a2 L2 c2) w2) ∧ Hid (w2.ownsRow w.heap.size 5 1 (.slice a2 L2 c2) (fl true ++ t).length (cells8 (fl true ++ t)) ∧ Below w.heap.size w w2)) := by
    refine (flag_any true w.drew).mono ?_
    rintro e w1 ⟨af, Lf, cf, rfl, hP⟩
    obtain ⟨ho, hb⟩ := hP.out
    have hb1 : Below w.heap.size w w1 := (bel_drew w).trans hb
    obtain ⟨a2, L2, c2, w2, hr2, ho2, hg2⟩ := Wl.run_append_bytes w1 w.heap.size (.slice af Lf cf) (fl true) ⟨g, 0, none⟩ L cap t ho (HST.out.below hb1) (by simp [fl]; omega) hb1.size
    exact ⟨af, Lf, cf, rfl, a2, L2, c2, w2, hr2, ho2, hb1.grown hg2 hb1.size (fun k hk => (ho.lt k hk).1)⟩
  obtain ⟨PP, HPP⟩ : ∃ PP : World → Prop, Hid (PP = PcK w p pd s H first ds t) := ⟨_, (rfl : _ = _)⟩
  rw [← HPP.out] at HAP ⊢
  have hwr : IntKind.i64.wrap (Wl.lastL first ds + 1) = Wl.lastL first ds + 1 := by
    rw [IntKind.wrap_i64]
    omega
  generalize Wl.lastL first ds = L0 at *
  obtain ⟨n1, hn1⟩ : ∃ n1, L0 + 1 = n1 := ⟨_, rfl⟩
  rw [hn1] at HAP hwr
  have hLI : (L : Int) ≤ 32767 := by omega
  have hLn : ¬ (32767 : Int) < (L : Int) := by omega
  have hLp : (0 : Int) < (L : Int) := by omega
  have hLcI : (L : Int) ≤ (cap : Int) := by omega
  rw [← hn1] at hwr
  have HN1 := hide hn1
  clear h ck ht hO h0 hl hL hcm hk hlb hmay hfl hdl hms hnl hu hG h1f hroom HPP hn1 hN hB hM
  go_enter Tryz.func94, Tryz.ntmps94
  go_wp2_with fail
  go_loopw [1] (fun tv wr => (tv = .slice (some ⟨g, 0, none⟩) L cap ∧ wr = w) ∨ ∃ a c, tv = .slice a 0 c ∧ Hid (PP wr)) (fun tv _ => lnOf tv)
  case atStart => exact Or.inl ⟨rfl, rfl⟩
  case round =>
    rcases hrel with ⟨rfl, hw⟩ | ⟨a, c, rfl, HP⟩
    · have hw' := hw.symm
      subst hw'
      go_wp2_with fail
      refine wp_region_noPanic ?_
      go_region_law (first
        | (go_simp; go_at_call 120; refine Calls.mono HFL.out ?_; rintro e w1 ⟨af, Lf, cf, rfl, a2, L2, c2, w2, hap, HO2⟩)
        | (refine Dk.step_append_run (by rfl) (.tmp 18) (.tmp 21) 33 33 (by rfl) _ _ (by rfl) (by rfl) (hap _) ?_))
      all_goals
        refine NoPanic.normal ?_
        have c7 : w2.drew.cell? ⟨kb, 7, none⟩ = some (.pointer (some ⟨p, 0, none⟩)) := (World.cell?_of_block (w := w) (a := ⟨kb, 7, none⟩) (HO2.out.2.block kb (cell_lt HCK.out))).trans HCK.out
        have HLS : Hid (Calls Tryz.prog 48 #[.pointer (some ⟨p, 0, none⟩)] w2.drew fun e w3 => e = .returned (.int .i64 L0) ∧ w3.cell? ⟨kb, 7, none⟩ = some (.pointer (some ⟨p, 0, none⟩)) ∧ Hid (Calls Tryz.prog 121 #[.pointer (some ⟨p, 0, none⟩), .int .i64 (L0 + 1), .slice a2 L2 c2] w3 fun e w4 => e = .returned (.int .i64 0) ∧ w4.cell? ⟨kb, 7, none⟩ = some (.pointer (some ⟨p, 0, none⟩)) ∧ Hid (PP w4))) := by
          have hb2 : Below w.heap.size w w2.drew := HO2.out.2.trans ((bel_drew w2).mono HO2.out.2.size)
          refine (HLS0.out _ hb2).mono ?_
          rintro e w3 ⟨rfl, m, rfl⟩
          refine ⟨rfl, c7, ?_⟩
          rw [HN1.out]
          exact HAP.out _ a2 L2 c2 (hb2.trans ((Wl.below_drew w2.drew m).mono hb2.size)) HO2.out.1
        clear HAP HX HT HFL HO2 hap HLS0
        go_wp2_with fail
        go_region_held (fun u => u.cell? ⟨kb, 7, none⟩ = some (.pointer (some ⟨p, 0, none⟩)))
          (first | exact c7 | exact d3 | exact d4)
          (first
            | (go_at_call 48; refine Calls.mono HLS.out ?_; rintro e w3 ⟨rfl, d3, HY⟩)
            | (go_at_call 121; refine Calls.mono HY.out ?_; rintro e w4 ⟨rfl, d4, HZ⟩))
        go_wp2_with fail
        exact ⟨Or.inr ⟨_, _, rfl, HZ⟩, by show 0 < L; omega⟩
    · go_wp2_with fail
      go_ret
      exact ⟨rfl, HP⟩
end Go.Proofs.YtjndgekpdmlbiaaGreatDoor.Kp
