/- A log that is open, with all blocks that are its own and its disk's: what each call makes of it, and that nothing else changes. From, Until, Crash and Open of a log whose blocks are known. The document's log: its last number; an operation cut short. The document's log: what an operation makes of it. -/
import Derived.Test.YtnbdkojdddplkaaDoorPart18
import Derived.Laws.ResultCell
import Derived.Laws.Rows
namespace Go.Proofs.YtnbdkojdddplkaaDoor.Wl
open Go.RowKit Dk

/-- A log and its disk, their blocks among H. -/
def LX (w : World) (p pd : Nat) (s : St) (H : Nat → Prop) (first : Int) (ds : List (List UInt8)) : Prop :=
  ∃ F vr rs G, Dk w pd s F ∧ Lg w p pd first vr rs G ∧ rs.map Re.data = ds ∧ (∀ k, G k → ¬ F k) ∧ ¬ F p ∧ (∀ k, F k → H k) ∧ (∀ k, G k → H k) ∧ H p ∧ ∀ k, H k → k < w.heap.size
theorem LX.lw {w : World} {p pd : Nat} {s : St} {H : Nat → Prop} {first : Int} {ds : List (List UInt8)} (h : LX w p pd s H first ds) : ∃ F, LW w 0 p pd s F first ds ∧ ∀ k, F k → H k := by
  obtain ⟨F, vr, rs, G, h1, h2, h3, h4, h5, h6, h7, h8, h9⟩ := h
  exact ⟨F, ⟨h1, ⟨vr, rs, G, h2, h3, fun k hk => ⟨h4 k hk, Nat.zero_le _⟩⟩, h5, Nat.zero_le _⟩, h6⟩
theorem LX.lt {w : World} {p pd : Nat} {s : St} {H : Nat → Prop} {first : Int} {ds : List (List UInt8)} (h : LX w p pd s H first ds) : ∀ k, H k → k < w.heap.size := by
  obtain ⟨F, vr, rs, G, h1, h2, h3, h4, h5, h6, h7, h8, h9⟩ := h
  exact h9
/-- What else happens leaves it. -/
theorem LX.kept {w w' : World} {p pd : Nat} {s : St} {H K : Nat → Prop} {first : Int} {ds : List (List UInt8)} (h : LX w p pd s H first ds) (hf : Dk.Fr K w w') (hd : ∀ k, H k → ¬ K k) : LX w' p pd s H first ds := by
  obtain ⟨F, vr, rs, G, h1, h2, h3, h4, h5, h6, h7, h8, h9⟩ := h
  exact ⟨F, vr, rs, G, h1.kept hf (fun k hk => hd k (h6 k hk)), h2.kept hf (fun k hk => hd k (h7 k hk)) (hd p h8), h3, h4, h5, h6, h7, h8, fun k hk => Nat.lt_of_lt_of_le (h9 k hk) hf.size⟩
theorem LX.below {w w' : World} {p pd : Nat} {s : St} {H : Nat → Prop} {first : Int} {ds : List (List UInt8)} (h : LX w p pd s H first ds) (hb : Below w.heap.size w w') : LX w' p pd s H first ds := h.kept (K := fun _ => False) (Fr.of_below hb) (fun _ _ => id)
theorem LX.drew {w : World} {p pd : Nat} {s : St} {H : Nat → Prop} {first : Int} {ds : List (List UInt8)} (h : LX w p pd s H first ds) (m : Nat) : LX (w.drewN m) p pd s H first ds := h.below ⟨rfl, rfl, rfl, Nat.le_refl _, fun _ _ => rfl⟩
theorem LX.zero {w : World} {p pd : Nat} {s : St} {H : Nat → Prop} {first : Int} {ds : List (List UInt8)} (h : LX w p pd s H first ds) : ds = [] → first = 0 := by
  obtain ⟨F, hL, _⟩ := h.lw
  exact hL.fit.2.2
theorem below_drew (w : World) (m : Nat) : Below w.heap.size w (w.drewN m) := ⟨rfl, rfl, rfl, Nat.le_refl _, fun _ _ => rfl⟩
theorem ext_of_lt {H : Nat → Prop} {w w' : World} (k : Nat) (h : H k) : ext H w w' k := Or.inl h
/-- Once more, with more blocks. -/
theorem LX.wide {w w' : World} {p pd : Nat} {s : St} {H : Nat → Prop} {first : Int} {ds : List (List UInt8)} (h : LX w' p pd s H first ds) : LX w' p pd s (ext H w w') first ds := by
  obtain ⟨F, vr, rs, G, h1, h2, h3, h4, h5, h6, h7, h8, h9⟩ := h
  exact ⟨F, vr, rs, G, h1, h2, h3, h4, h5, fun k hk => Or.inl (h6 k hk), fun k hk => Or.inl (h7 k hk), Or.inl h8, fun k hk => by
    rcases hk with hk | hk
    · exact h9 k hk
    · omega⟩

/-- Sync. -/
theorem LX.sync {w : World} {p pd : Nat} {s : St} {H : Nat → Prop} {first : Int} {ds : List (List UInt8)} (h : LX w p pd s H first ds) (hm : s.mass ≤ 1000000) :
    Calls Tryd.prog 17 #[.pointer (some ⟨p, 0, none⟩)] w fun e w' => e = .returned (.tuple #[]) ∧ Hid (LX w' p pd ⟨s.room, s.now, []⟩ (ext H w w') first ds ∧ Dk.Fr H w w') := by
  obtain ⟨F, vr, rs, G, h1, h2, rfl, h4, h5, h6, h7, h8, h9⟩ := h
  have hW : LW w 0 p pd s F first (rs.map Re.data) := ⟨h1, ⟨vr, rs, G, h2, rfl, fun k hk => ⟨h4 k hk, Nat.zero_le _⟩⟩, h5, Nat.zero_le _⟩
  have c0 := hW.cell0
  have HA : Hid (_) := sync_any pd s F w h1 (by omega)
  have HX : Hid (∀ w', Dk w' pd ⟨s.room, s.now, []⟩ (ext F w w') → Dk.Fr F w w' → LX w' p pd ⟨s.room, s.now, []⟩ (ext H w w') first (rs.map Re.data) ∧ Dk.Fr H w w') := by
    intro w' hD hf
    have hs := hf.size
    refine ⟨⟨_, vr, rs, G, hD, h2.kept hf (fun k hk hF => h4 k hk hF) h5, rfl, fun k hk hF => ?_, fun hF => ?_, fun k hk => ?_, fun k hk => Or.inl (h7 k hk), Or.inl h8, fun k hk => ?_⟩, hf.mono (fun k _ hk => h6 k hk)⟩
    · rcases hF with hF | hF
      · exact h4 k hk hF
      · have := h2.lt k hk; omega
    · rcases hF with hF | hF
      · exact h5 hF
      · have := h2.plt; omega
    · rcases hk with hk | hk
      · exact Or.inl (h6 k hk)
      · exact Or.inr hk
    · rcases hk with hk | hk
      · have := h9 k hk; omega
      · omega
  clear hW h1 h2 h4 h5 h6 h7 h8 h9
  go_enter Tryd.func17, Tryd.ntmps17
  go_wp2_with (go_at_call 23; refine Calls.mono HA.out ?_; rintro e w1 ⟨rfl, g1, g2⟩; have HF : Hid (_) := HX.out w1 g1 g2; clear g1 g2)
  go_end0
  exact ⟨rfl, HF.out⟩

set_option maxHeartbeats 2000000 in
/-- Append. -/
theorem LX.app {w : World} {p pd : Nat} {s : St} {H : Nat → Prop} {first : Int} {ds : List (List UInt8)} (h : LX w p pd s H first ds) (ht : Fr.Tab w) (n : Int) (bv : Value) (b : List UInt8) (hS : SlA w bv b H) (hn : n ≤ 9223372036854775807) (hm : mayL first ds n = true) (hl : b.length ≤ 32768)
    (hr : (used s.now : Int) + (recB n b).length ≤ s.room) (hf : (Dk.look nmW s.now).isSome = true ∨ s.now.length < 64) (hms : s.mass + 40000 ≤ 1000000000) (hdl : ds.length ≤ 100000) (hfl : (fileB first ds).length ≤ 900000000) :
    Calls Tryd.prog 14 #[.pointer (some ⟨p, 0, none⟩), .int .i64 n, bv] w fun e w' => e = .returned (.int .i64 0) ∧ Hid (LX w' p pd (s.push (.app nmW (recB n b))) (ext H w w') (if ds.length = 0 then n else first) (ds ++ [b]) ∧ Dk.Fr H w w') := by
  obtain ⟨F, vr, rs, G, d1, d2, rfl, d4, d5, d6, d7, d8, d9⟩ := h
  have hW : LW w 0 p pd s F first (rs.map Re.data) := ⟨d1, ⟨vr, rs, G, d2, rfl, fun k hk => ⟨d4 k hk, Nat.zero_le _⟩⟩, d5, Nat.zero_le _⟩
  obtain ⟨aob, capb, rfl, _, _⟩ := hS.sl.shape
  have HM : Hid (_) := hW.may n hn
  rw [hm] at HM
  obtain ⟨m1, m2⟩ : 1 ≤ n ∧ ((rs.map Re.data).length = 0 ∨ n - 1 = (if (rs.map Re.data).length = 0 then 0 else first + (rs.map Re.data).length - 1)) := by simpa [mayL] using hm
  have hrs := recB_size n b ⟨by omega, hn⟩ hl
  obtain ⟨X, HX⟩ : ∃ X, Hid (X = recB n b) := ⟨_, (rfl : _ = _)⟩
  rw [← HX.out] at hr hrs ⊢
  obtain ⟨f', Hf'⟩ : ∃ f', Hid (f' = if (rs.map Re.data).length = 0 then n else first) := ⟨_, (rfl : _ = _)⟩
  rw [← Hf'.out]
  obtain ⟨PP, HPP⟩ : ∃ PP : World → Prop, Hid (PP = fun w' => LX w' p pd (s.push (.app nmW X)) (ext H w w') f' (rs.map Re.data ++ [b]) ∧ Dk.Fr H w w') := ⟨_, (rfl : _ = _)⟩
  have HC : Hid (∀ m, Calls Tryd.prog 32 #[.int .i64 n, .slice aob b.length capb] (w.drewN m) fun e w2 => ∃ ao cap, e = .returned (.slice ao X.length cap) ∧ w2.cell? ⟨p, 0, none⟩ = some (.pointer (some ⟨pd, 0, none⟩)) ∧ Hid (Calls Tryd.prog 20 #[.pointer (some ⟨pd, 0, none⟩), .string nmW, .slice ao X.length cap] w2 fun e w3 => e = .returned (.int .i64 0) ∧ Hid (Calls Tryd.prog 34 #[.slice aob b.length capb] w3 fun e w4 => ∃ ao4 cap4, e = .returned (.slice ao4 b.length cap4) ∧ Hid (Calls Tryd.prog 33 #[.pointer (some ⟨p, 0, none⟩), .int .i64 n, .slice ao4 b.length cap4, .int .i64 (X.length : Int)] w4 fun e w5 => e = .returned (.tuple #[]) ∧ Hid (PP w5))))) := by
    intro m
    have hb1 := below_drew w m
    refine (seal_any n (.slice aob b.length capb) b (w.drewN m) (hS.sl.below hb1) (ht.drew m) ⟨by omega, hn⟩ hl).mono ?_
    rintro e w2 ⟨ao, L, cap, rfl, hO, hb2⟩
    have hb2' : Below w.heap.size w w2 := hb1.trans hb2
    have hSX := Sl.of_own hO
    obtain ⟨ao', cap', e2, _, _⟩ := hSX.shape
    simp only [Value.slice.injEq] at e2
    obtain ⟨rfl, rfl, rfl⟩ := e2
    rw [← HX.out] at hSX ⊢
    have hW2 := hW.below hb2'
    refine ⟨ao, cap, rfl, hW2.cell0, ?_⟩
    refine (append_ok pd s F nmW _ X w2 hW2.dk hSX (by decide) hr hf (by omega)).mono ?_
    rintro e w3 ⟨rfl, hD3, hf3⟩
    refine ⟨rfl, ?_⟩
    have hs2 := hb2'.size
    have hs3 := hf3.size
    have hSF : SlA w (.slice aob b.length capb) b F := ⟨hS.sl, fun a m c e hFa => hS.away a m c e (d6 _ hFa)⟩
    refine (clone_any _ b w3 (SlA.kept (SlA.kept hSF (Fr.of_below hb2')) hf3).sl (by omega)).mono ?_
    rintro e w4 ⟨v4, rfl, hO4, hb4⟩
    have hS4 := Sl.of_own hO4
    obtain ⟨ao4, cap4, rfl, _, _⟩ := hS4.shape
    refine ⟨ao4, cap4, rfl, ?_⟩
    have hL3 : Lg w3 p pd first vr rs G := (d2.below hb2').kept hf3 (fun k hk hF => d4 k hk hF) d5
    have hL := hL3.below hb4
    have hD4 := hD3.below hb4
    have hLG := d2.lt
    have hp3 := d2.plt
    have hF3 := hD3.lt
    have hs4 := hb4.size
    have hNew : Bn.New w3 w4 (.slice ao4 b.length cap4) := Bn.New.of_own hO4 (Nat.le_refl _)
    have hsize : sizeK first rs rs.length = (fileB first (rs.map Re.data)).length := by
      unfold sizeK
      rw [List.take_of_length_le (by simp)]
    rw [List.length_map] at hdl m2
    refine (add_any p pd first vr rs G (fun k => ∃ a m c, Value.slice ao4 b.length cap4 = .slice (some a) m c ∧ k = a.block) n (.slice ao4 b.length cap4) b X.length w4 hL ⟨hS4, fun a m c e hn => hn ⟨a, m, c, e, rfl⟩⟩ ?_ (by rw [HX.out]) ⟨m1, hn⟩ ?_ (by omega) (by rw [hsize]; omega)).mono ?_
    · rintro k ⟨a, m, c, e, rfl⟩
      have hk := hNew a m c e
      refine ⟨fun hG' => ?_, ?_, hk.2⟩
      · have := hLG _ hG'
        omega
      · omega
    · intro hne
      have hz : rs.length ≠ 0 := fun e => hne (List.eq_nil_of_length_eq_zero e)
      rcases m2 with m2 | m2
      · exact absurd m2 hz
      · rw [if_neg hz] at m2
        omega
    · rintro e w5 ⟨rfl, ⟨vr', fin, hL5⟩, hf5⟩
      have hs5 := hf5.size
      have hff : f' = if rs.length = 0 then n else first := by rw [Hf'.out, List.length_map]
      refine ⟨rfl, ?_⟩
      rw [HPP.out]
      refine ⟨⟨ext F w2 w3, vr', rs ++ [⟨_, b, fin⟩], _, hD4.kept hf5 (fun k hk hG' => ?_), by rw [hff]; exact hL5, by simp, fun k hk hF => ?_, fun hF => ?_, fun k hk => ?_, fun k hk => ?_, Or.inl d8, fun k hk => ?_⟩, ?_⟩
      · rcases hk with hk | hk
        · rcases hG' with hG' | rfl
          · exact d4 k hG' hk
          · exact d5 hk
        · rcases hG' with hG' | rfl
          · have := hLG k hG'; omega
          · omega
      · rcases hk with (hk | ⟨a, m, c, e, rfl⟩) | hk
        · rcases hF with hF | hF
          · exact d4 k hk hF
          · have := hLG k hk; omega
        · have h1 := (hNew a m c e).1
          have h2 := hF3 _ hF
          omega
        · have h2 := hF3 _ hF
          omega
      · rcases hF with hF | hF
        · exact d5 hF
        · omega
      · rcases hk with hk | hk
        · exact Or.inl (d6 k hk)
        · exact Or.inr (by omega)
      · rcases hk with (hk | ⟨a, m, c, e, rfl⟩) | hk
        · exact Or.inl (d7 k hk)
        · have h1 := hNew a m c e
          exact Or.inr (by omega)
        · exact Or.inr (by omega)
      · rcases hk with hk | hk
        · have := d9 k hk; omega
        · omega
      · refine (((Fr.of_below hb2').trans (hf3.mono (G := H) (fun k _ hk => d6 k hk)) (fun _ _ h => h)).trans (Fr.of_below hb4) (fun _ _ h => h)).trans hf5 (fun k _ hG' => ?_)
        rcases hG' with hG' | rfl
        · exact d7 k hG'
        · exact d8
  have HP := HPP.out
  rw [funext_iff] at HP
  simp only [← HP]
  clear hW hS ht hn hm hr hf hms hdl hfl m1 m2 hrs d1 d2 d4 d5 d6 d7 d8 d9 HP HPP
  have hl' : ¬ (32768 : Int) < (b.length : Int) := by omega
  simp only [nmW] at HC
  go_enter Tryd.func14, Tryd.ntmps14
  go_wp2_with (first
    | (go_at_call 31; refine Calls.mono HM.out ?_; rintro e w1 ⟨rfl, m, rfl⟩; have HC1 : Hid (_) := HC.out m; clear HC)
    | (go_at_call 32; refine Calls.mono HC1.out ?_; rintro e w2 ⟨ao2, cap2, rfl, c2, HC2⟩; clear HC1)
    | (go_at_call 20; refine Calls.mono HC2.out ?_; rintro e w3 ⟨rfl, HC3⟩; clear HC2)
    | (go_at_call 34; refine Calls.mono HC3.out ?_; rintro e w4 ⟨ao4, cap4, rfl, HC4⟩; clear HC3)
    | (go_at_call 33; refine Calls.mono HC4.out ?_; rintro e w5 ⟨rfl, HC5⟩; clear HC4))
  go_ret
  exact ⟨rfl, HC5⟩
end Go.Proofs.YtnbdkojdddplkaaDoor.Wl
namespace Go.Proofs.YtnbdkojdddplkaaDoor.Wl
open Go.RowKit Dk

set_option maxHeartbeats 2000000 in
set_option maxRecDepth 20000 in
theorem from_gen (p pd : Nat) (n : Int) (k N z : Nat) (ao : Option Addr) (cap : Nat) (w : World) (PP : World → Prop) (h1 : 1 ≤ n) (hn : n ≤ 9223372036854775807) (hkN : k ≠ N)
    (HC : Hid (Calls Tryd.prog 35 #[.pointer (some ⟨p, 0, none⟩), .int .i64 (n - 1)] w fun e w' => e = .returned (.int .i64 (k : Nat)) ∧ ∃ m, w' = w.drewN m)) (c0 : w.cell? ⟨p, 0, none⟩ = some (.pointer (some ⟨pd, 0, none⟩))) (c2 : w.cell? ⟨p, 2, none⟩ = some (.slice ao N cap))
    (HE : Hid (∀ m, Calls Tryd.prog 37 #[.pointer (some ⟨p, 0, none⟩), .int .i64 (k : Int)] (w.drewN m).drew fun e w' => e = .returned (.int .i64 (z : Int)) ∧ w' = (w.drewN m).drew))
    (HX : Hid (∀ m, Calls Tryd.prog 36 #[.pointer (some ⟨pd, 0, none⟩), .string nmW, .int .i64 (z : Int)] (w.drewN m).drew fun e w3 => e = .returned (.int .i64 0) ∧ w3.cell? ⟨p, 0, none⟩ = some (.pointer (some ⟨pd, 0, none⟩)) ∧ Hid (Calls Tryd.prog 38 #[.pointer (some ⟨p, 0, none⟩), .int .i64 (k : Int)] w3 fun e w' => e = .returned (.tuple #[]) ∧ Hid (PP w')))) :
    Calls Tryd.prog 15 #[.pointer (some ⟨p, 0, none⟩), .int .i64 n] w fun e w' => e = .returned (.int .i64 0) ∧ Hid (PP w') := by
  have HD : Hid (∀ m, (w.drewN m).cell? ⟨p, 2, none⟩ = some (.slice ao N cap)) := fun m => c2
  have HD0 : Hid (∀ m, (w.drewN m).drew.cell? ⟨p, 0, none⟩ = some (.pointer (some ⟨pd, 0, none⟩))) := fun m => c0
  have hne : ((k : Int) == (N : Int)) = false := by rw [beq_eq_false_iff_ne]; omega
  simp only [nmW] at HX
  clear c2 c0
  go_enter Tryd.func15, Tryd.ntmps15
  go_wp2_with (go_at_call 35; refine Calls.mono HC.out ?_; rintro e w1 ⟨rfl, m, rfl⟩; have d2 := HD.out m; have d0 := HD0.out m; have HEm : Hid (_) := HE.out m; have HXm : Hid (_) := HX.out m; clear HD HD0 HE HX)
  go_region_held (fun u => u.cell? ⟨p, 0, none⟩ = some (.pointer (some ⟨pd, 0, none⟩)))
    (first | exact d0 | exact d3)
    (first
      | (go_at_call 37; refine Calls.mono HEm.out ?_; rintro e w' ⟨rfl, hw⟩; have hw' := hw.symm; subst hw')
      | (go_at_call 36; refine Calls.mono HXm.out ?_; rintro e w3 ⟨rfl, d3, HY⟩))
  go_wp2_with (go_at_call 38; refine Calls.mono HY.out ?_; rintro e w4 ⟨rfl, HZ⟩)
  go_ret
  exact ⟨rfl, HZ⟩

set_option maxHeartbeats 1000000 in
theorem until_gen (p : Nat) (n : Int) (k : Nat) (w : World) (PP : World → Prop) (h1 : 1 ≤ n) (h0 : 0 < k)
    (HC : Hid (Calls Tryd.prog 35 #[.pointer (some ⟨p, 0, none⟩), .int .i64 n] w fun e w' => e = .returned (.int .i64 (k : Nat)) ∧ ∃ m, w' = w.drewN m))
    (HX : Hid (∀ m, Calls Tryd.prog 39 #[.pointer (some ⟨p, 0, none⟩), .int .i64 (k : Int)] (w.drewN m) fun e w3 => e = .returned (.int .i64 0) ∧ Hid (Calls Tryd.prog 40 #[.pointer (some ⟨p, 0, none⟩), .int .i64 (k : Int)] w3 fun e w' => e = .returned (.tuple #[]) ∧ Hid (PP w')))) :
    Calls Tryd.prog 16 #[.pointer (some ⟨p, 0, none⟩), .int .i64 n] w fun e w' => e = .returned (.int .i64 0) ∧ Hid (PP w') := by
  have hne : ((k : Int) == 0) = false := by rw [beq_eq_false_iff_ne]; omega
  clear h0
  go_enter Tryd.func16, Tryd.ntmps16
  go_wp2_with (first
    | (go_at_call 35; refine Calls.mono HC.out ?_; rintro e w1 ⟨rfl, m, rfl⟩; have HXm : Hid (_) := HX.out m; clear HX)
    | (go_at_call 39; refine Calls.mono HXm.out ?_; rintro e w3 ⟨rfl, HY⟩)
    | (go_at_call 40; refine Calls.mono HY.out ?_; rintro e w4 ⟨rfl, HZ⟩))
  go_ret
  exact ⟨rfl, HZ⟩

/-- The disk has gone on, then the log's memory. -/
theorem LX.go {w w3 w' : World} {p pd : Nat} {s' : St} {H F F' G : Nat → Prop} {first first' : Int} {vr vr' : Value} {rs rs' : List Re} (d2 : Lg w p pd first vr rs G) (d4 : ∀ k, G k → ¬ F k) (d5 : ¬ F p) (d6 : ∀ k, F k → H k) (d7 : ∀ k, G k → H k) (d8 : H p) (d9 : ∀ k, H k → k < w.heap.size)
    (hD : Dk w3 pd s' F') (hF' : ∀ k, F' k → F k ∨ w.heap.size ≤ k) (hf : Dk.Fr F w w3) (hL : Lg w' p pd first' vr' rs' G) (hf' : Dk.Fr (fun k => G k ∨ k = p) w3 w') : LX w' p pd s' (ext H w w') first' (rs'.map Re.data) ∧ Dk.Fr H w w' := by
  have hs := hf.size
  have hs' := hf'.size
  have hplt := d2.plt
  have hlt := hD.lt
  refine ⟨⟨F', vr', rs', G, hD.kept hf' (fun k hk hG => ?_), hL, rfl, fun k hk hF => ?_, fun hF => ?_, fun k hk => ?_, fun k hk => Or.inl (d7 k hk), Or.inl d8, fun k hk => ?_⟩, (hf.mono (fun k _ hk => d6 k hk)).trans hf' (fun k _ hG => ?_)⟩
  · rcases hF' k hk with h | h
    · rcases hG with hG | rfl
      · exact d4 k hG h
      · exact d5 h
    · rcases hG with hG | rfl
      · have := d2.lt k hG; omega
      · omega
  · rcases hF' k hF with h | h
    · exact d4 k hk h
    · have := d2.lt k hk; omega
  · rcases hF' p hF with h | h
    · exact d5 h
    · omega
  · rcases hF' k hk with h | h
    · exact Or.inl (d6 k h)
    · exact Or.inr ⟨h, by have := hlt k hk; omega⟩
  · rcases hk with hk | hk
    · have := d9 k hk; omega
    · omega
  · rcases hG with hG | rfl
    · exact d7 k hG
    · exact d8

theorem LX.from {w : World} {p pd : Nat} {s : St} {H : Nat → Prop} {first : Int} {ds : List (List UInt8)} {N M : Nat} (h : LX w p pd s H first ds) (hG : Gs s first ds N M) (hN : N ≤ 80) (hM : M ≤ 900000) (n : Int) (k : Nat) (h1 : 1 ≤ n) (hn : n ≤ 9223372036854775807) (hk : cnt first ds (n - 1) = k) :
    Calls Tryd.prog 15 #[.pointer (some ⟨p, 0, none⟩), .int .i64 n] w fun e w' => e = .returned (.int .i64 0) ∧ Hid (LX w' p pd (fromS s first ds k) (ext H w w') (if k = 0 then 0 else first) (ds.take k) ∧ Dk.Fr H w w') := by
  have hkl := cnt_le first ds (n - 1) (by omega)
  have hdl := hG.len
  have hms := hG.mass
  rw [hk] at hkl
  obtain ⟨F0, hW0, _⟩ := h.lw
  by_cases he : k = ds.length
  · refine (from_same _ p pd s _ first ds n w hW0 h1 hn (by rw [hk, he])).mono ?_
    rintro e w' ⟨rfl, m, rfl⟩
    have hf : (if k = 0 then 0 else first) = first := by
      split
      · exact (h.zero (List.eq_nil_of_length_eq_zero (by omega))).symm
      · rfl
    rw [hf, List.take_of_length_le (by omega), fromS, if_pos he]
    exact ⟨rfl, (h.drew m).wide, Fr.of_below (below_drew w m)⟩
  · have hne : ds ≠ [] := fun e => by rw [e] at hkl he; simp at hkl he; omega
    obtain ⟨F, vr, rs, G, d1, d2, rfl, d4, d5, d6, d7, d8, d9⟩ := h
    have hW : LW w 0 p pd s F first (rs.map Re.data) := ⟨d1, ⟨vr, rs, G, d2, rfl, fun k hk => ⟨d4 k hk, Nat.zero_le _⟩⟩, d5, Nat.zero_le _⟩
    obtain ⟨ao, cap, c2⟩ := hW.cell2
    have hlook := hG.now.look hne
    refine from_gen p pd n k (rs.map Re.data).length (fileB first ((rs.map Re.data).take k)).length ao cap w _ h1 hn he ?_ hW.cell0 c2 (fun m => ((hW.drew m).drew 1).endOf k (by omega) (by omega)) (fun m => ?_)
    · have hcc := count_any 0 p pd s F first (rs.map Re.data) (n - 1) w hW (by omega) (by omega)
      rw [hk] at hcc
      exact hcc
    · have hbd : Below w.heap.size w (w.drewN m).drew := ⟨rfl, rfl, rfl, Nat.le_refl _, fun _ _ => rfl⟩
      refine (cut_ok pd s F nmW _ ⟨nmW, fileB first (rs.map Re.data)⟩ (w.drewN m).drew (d1.below hbd) hlook (fileB_take_le first _ k) (by omega)).mono ?_
      rintro e w3 ⟨rfl, hD3, hf3⟩
      have hfw : Dk.Fr F w w3 := (Fr.of_below hbd).trans hf3 (fun _ _ h => h)
      have hL3 := d2.kept hfw (fun k hk hF => d4 k hk hF) d5
      refine ⟨rfl, hL3.cells.1, ?_⟩
      have hrl : (rs.map Re.data).length = rs.length := List.length_map _
      refine (dropBack_any p pd first vr rs G k w3 hL3 (by omega) (by omega)).mono ?_
      rintro e w' ⟨rfl, ⟨vr', hL⟩, hf⟩
      refine ⟨rfl, ?_⟩
      have hgo := LX.go d2 d4 d5 d6 d7 d8 d9 hD3 (fun k hk => by rcases hk with hk | hk; exact Or.inl hk; exact Or.inr hk.1) hfw hL hf
      rw [List.map_take] at hgo
      rw [fromS, if_neg he]
      exact hgo

theorem LX.until {w : World} {p pd : Nat} {s : St} {H : Nat → Prop} {first : Int} {ds : List (List UInt8)} {N M : Nat} (h : LX w p pd s H first ds) (hG : Gs s first ds N M) (ht : Fr.Tab w) (hN : N ≤ 80) (hM : M ≤ 900000) (n : Int) (k : Nat) (h1 : 1 ≤ n) (hn : n ≤ 9223372036854775806) (hk : cnt first ds n = k) :
    Calls Tryd.prog 16 #[.pointer (some ⟨p, 0, none⟩), .int .i64 n] w fun e w' => e = .returned (.int .i64 0) ∧ Hid (LX w' p pd (untilS s first ds k) (ext H w w') (if k = ds.length then 0 else first + k) (ds.drop k) ∧ Dk.Fr H w w') := by
  have hkl := cnt_le first ds n (by omega)
  have hdl := hG.len
  have hms := hG.mass
  have hfl := hG.file
  have hfi := hG.fit
  rw [hk] at hkl
  obtain ⟨F0, hW0, _⟩ := h.lw
  by_cases h0 : k = 0
  · refine (until_same _ p pd s _ first ds n w hW0 h1 hn (by rw [hk, h0])).mono ?_
    rintro e w' ⟨rfl, m, rfl⟩
    have hf : (if k = ds.length then 0 else first + k) = first := by
      split
      · exact (h.zero (List.eq_nil_of_length_eq_zero (by omega))).symm
      · rw [h0]; simp
    rw [hf, h0, List.drop_zero, untilS, if_pos rfl]
    exact ⟨rfl, (h.drew m).wide, Fr.of_below (below_drew w m)⟩
  · have hne : ds ≠ [] := fun e => by rw [e] at hkl; simp at hkl; omega
    obtain ⟨F, vr, rs, G, d1, d2, rfl, d4, d5, d6, d7, d8, d9⟩ := h
    have hW : LW w 0 p pd s F first (rs.map Re.data) := ⟨d1, ⟨vr, rs, G, d2, rfl, fun k hk => ⟨d4 k hk, Nat.zero_le _⟩⟩, d5, Nat.zero_le _⟩
    have hlook := hG.now.look hne
    have hcc := count_any 0 p pd s F first (rs.map Re.data) n w hW (by omega) (by omega)
    rw [hk] at hcc
    have hrl : (rs.map Re.data).length = rs.length := List.length_map _
    refine until_gen p n k w _ h1 (by omega) hcc (fun m => ?_)
    have HK : Calls Tryd.prog 39 #[.pointer (some ⟨p, 0, none⟩), .int .i64 (k : Int)] (w.drewN m) fun e w' => e = .returned (.int .i64 0) ∧ Hid (∃ F', LW w' 0 p pd (untilS s first (rs.map Re.data) k) F' first (rs.map Re.data) ∧ (∀ j, F' j → F j ∨ (w.drewN m).heap.size ≤ j) ∧ Dk.Fr F (w.drewN m) w') := by
      unfold untilS
      rw [if_neg h0]
      by_cases he : k = (rs.map Re.data).length
      · rw [if_pos he, he]
        exact cutFront_all 0 p pd s F first (rs.map Re.data) _ _ (hW.drew m) hlook (by omega)
      · rw [if_neg he]
        have hsp := congrArg List.length (fileB_split first (rs.map Re.data) k hkl)
        rw [List.length_append] at hsp
        have hnl := hG.now.len
        have hu := hG.now.used
        exact cutFront_some 0 p pd s F first (rs.map Re.data) k _ (hW.drew m) (ht.drew m) (by omega) (by omega) (fun d hd => by have := hG.small d hd; omega) (by omega) (by omega) (by rw [hu, hG.room]; omega) (Or.inr (by omega)) (by omega)
    refine HK.mono ?_
    rintro e w3 ⟨rfl, F', hW3, hF', hf3⟩
    have hfw : Dk.Fr F w w3 := (Fr.of_below (below_drew w m)).trans hf3 (fun _ _ h => h)
    have hL3 := d2.kept hfw (fun k hk hF => d4 k hk hF) d5
    refine ⟨rfl, ?_⟩
    refine (dropFront_any p pd first vr rs G k w3 hL3 (by omega) (by omega) (by omega) (by omega) (by omega)).mono ?_
    rintro e w' ⟨rfl, ⟨vr', rs', hL, hrd⟩, hf⟩
    refine ⟨rfl, ?_⟩
    have hgo := LX.go d2 d4 d5 d6 d7 d8 d9 hW3.dk hF' hfw hL hf
    rw [hrd] at hgo
    rw [hrl]
    exact hgo

/-- Crash of its disk: what is left stands on a disk of its own. -/
theorem LX.crash {w : World} {p pd : Nat} {s : St} {H : Nat → Prop} {first : Int} {ds : List (List UInt8)} (h : LX w p pd s H first ds) (hM : s.mass ≤ 1000000) (n t : Int) :
    Calls Tryd.prog 18 #[.pointer (some ⟨pd, 0, none⟩), .int .i64 n, .int .i64 t] w fun e w' => ∃ q, e = .returned (.pointer (some ⟨q, 0, none⟩)) ∧ Hid (Dk w' q ⟨s.room, Dk.leftOf s n t, []⟩ (ext (fun _ => False) w w') ∧ Below w.heap.size w w') := by
  obtain ⟨F, hW, _⟩ := h.lw
  refine (crash_any pd s F n t w hW.dk (by omega)).mono ?_
  rintro e w' ⟨q, rfl, hq, hD, hb⟩
  exact ⟨q, rfl, hD, hb⟩
/-- Open of a disk. -/
theorem LX.open {w : World} {q : Nat} {s : St} {F : Nat → Prop} (hD : Dk w q s F) (ht : Fr.Tab w) (h0 : ¬ F 0) (hm : s.mass ≤ 1000000) (hn : Nm s.now) (hf : (fileOf s nmW).length ≤ 30000) (hlen : s.now.length ≤ 100) (first : Int) (ds : List (List UInt8)) (hR : loadR (Fr.scanL (fileOf s nmW)).1 0 [] = (first, ds)) :
    Calls Tryd.prog 11 #[.pointer (some ⟨q, 0, none⟩)] w fun e w' => ∃ p, e = .returned (.tuple #[.pointer (some ⟨p, 0, none⟩), .int .i64 0]) ∧ Hid (LX w' p q (openS s) (ext F w w') first ds ∧ Dk.Fr F w w') := by
  have hlt := hD.lt
  refine (open_any q s F w hD ht h0 (by omega) hn hf first ds hR).mono ?_
  rintro e w' ⟨p, rfl, ⟨F', hL, hF'⟩, hf'⟩
  obtain ⟨g1, ⟨vr, rs, G, a1, a2, a3⟩, g2, g3⟩ := hL
  have hs := hf'.size
  refine ⟨p, rfl, ⟨F', vr, rs, G, g1, a1, a2, fun k hk => (a3 k hk).1, g2, fun k hk => ?_, fun k hk => Or.inr ⟨(a3 k hk).2, a1.lt k hk⟩, Or.inr ⟨g3, a1.plt⟩, fun k hk => ?_⟩, hf'⟩
  · rcases hF' k hk with h | h
    · exact Or.inl h
    · exact Or.inr ⟨h, g1.lt k hk⟩
  · rcases hk with hk | hk
    · have := hlt k hk; omega
    · omega
end Go.Proofs.YtnbdkojdddplkaaDoor.Wl
namespace Go.Proofs.YtnbdkojdddplkaaDoor.Wl
open Go.RowKit Dk

set_option maxHeartbeats 400000 in
theorem last_md (mf : Int) (ao : Option Addr) (L cap : Nat) (w : World) (h0 : -4611686018427387904 ≤ mf) (h1 : mf + L ≤ 4611686018427387904) (hL : L ≤ 1000) :
    Calls Tryd.prog 30 #[.agg #[.int .i64 mf, .slice ao L cap]] w fun e w' => e = .returned (.int .i64 (if L = 0 then 0 else mf + L - 1)) ∧ Below w.heap.size w w' := by
  by_cases hz : L = 0
  · subst hz
    go_enter Tryd.func30, Tryd.ntmps30
    go_wp2
    go_ret
    exact ⟨by simp, (Below.refl _ _).alloc (Nat.le_refl _) _⟩
  · have hz' : ((L : Int) == 0) = false := by rw [beq_eq_false_iff_ne]; omega
    rw [if_neg hz]
    go_enter Tryd.func30, Tryd.ntmps30
    go_wp2
    go_ret
    exact ⟨rfl, (Below.refl _ _).alloc (Nat.le_refl _) _⟩

def cutL (L : Nat) : Nat := if 300 < L then 300 else L
theorem Sl.cutL {w : World} {ao : Option Addr} {L cap : Nat} {bs : List UInt8} (h : Sl w (.slice ao L cap) bs) : Sl w (.slice ao (Wl.cutL L) cap) (bs.take 300) := by
  have hL := h.len
  unfold Wl.cutL
  split
  · exact h.take 300 (by omega)
  · rw [List.take_of_length_le (by omega)]
    exact h
set_option maxHeartbeats 400000 in
theorem short300 (ao : Option Addr) (L cap : Nat) (w : World) (h1 : L ≤ cap) (h2 : cap ≤ maxLen) :
    Calls Tryd.prog 22 #[.slice ao L cap, .int .i64 300] w fun e w' => e = .returned (.slice ao (cutL L) cap) ∧ w' = w := by
  have h2' : cap ≤ 9223372036854775807 := h2
  clear h2
  unfold cutL
  by_cases hl : 300 < L
  · have hl' : (300 : Int) < (L : Int) := by omega
    have hc : (300 : Int) ≤ (cap : Int) := by omega
    rw [if_pos hl]
    go_enter Tryd.func22, Tryd.ntmps22
    go_wp2
    all_goals go_ret
    all_goals exact ⟨rfl, rfl⟩
  · have hl' : ¬ (300 : Int) < (L : Int) := by omega
    rw [if_neg hl]
    go_enter Tryd.func22, Tryd.ntmps22
    go_wp2
    go_ret
    exact ⟨rfl, rfl⟩

theorem boxes3 (w : World) (o1 o2 o3 : Obj) : (((w.alloc o1).alloc o2).alloc o3).heap[w.heap.size]? = some o1 ∧ (((w.alloc o1).alloc o2).alloc o3).heap[w.heap.size + 1]? = some o2 ∧ (((w.alloc o1).alloc o2).alloc o3).heap[w.heap.size + 2]? = some o3 := by
  show (((w.heap.push o1).push o2).push o3)[w.heap.size]? = some o1 ∧ (((w.heap.push o1).push o2).push o3)[w.heap.size + 1]? = some o2 ∧ (((w.heap.push o1).push o2).push o3)[w.heap.size + 2]? = some o3
  simp only [Array.getElem?_push, Array.size_push]
  refine ⟨?_, ?_, ?_⟩
  · rw [if_neg (by omega), if_neg (by omega), if_pos trivial]
  · rw [if_neg (by omega), if_pos trivial]
  · rw [if_pos trivial]
theorem boxes2 (w : World) (o1 o2 : Obj) : ((w.alloc o1).alloc o2).heap[w.heap.size + 1]? = some o2 := by
  show ((w.heap.push o1).push o2)[w.heap.size + 1]? = some o2
  simp only [Array.getElem?_push, Array.size_push]
  rw [if_pos trivial]
theorem Tryd.sz35 : (Tryd.prog.info? 35).map (·.size) = some 3 := by kernel_rfl
theorem Tryd.sz32 : (Tryd.prog.info? 32).map (·.size) = some 2 := by kernel_rfl
theorem below2 (w : World) (o1 o2 : Obj) : Below w.heap.size w ((w.alloc o1).alloc o2) := ((Below.refl _ _).alloc (Nat.le_refl _) _).alloc (by simp) _
theorem below3 (w : World) (o1 o2 o3 : Obj) : Below w.heap.size w (((w.alloc o1).alloc o2).alloc o3) := (below2 w o1 o2).alloc (below2 w o1 o2).size _

def capN (n : Int) : Int := if 1125899906842624 < n then 1125899906842624 else n
set_option maxHeartbeats 1000000 in
theorem cut_md (kd n : Int) (ao : Option Addr) (L cap : Nat) (w : World) (h1 : L ≤ cap) (h2 : cap ≤ maxLen) :
    Calls Tryd.prog 12 #[.agg #[.int .i64 kd, .int .i64 n, .slice ao L cap]] w fun e w' => e = .returned (.agg #[.int .i64 kd, .int .i64 (capN n), .slice ao (cutL L) cap]) ∧ Below w.heap.size w w' := by
  have HC : Hid (∀ u, Calls Tryd.prog 22 #[.slice ao L cap, .int .i64 300] u fun e w' => e = .returned (.slice ao (cutL L) cap) ∧ w' = u) := fun u => short300 ao L cap u h1 h2
  generalize cutL L = L' at *
  clear h1 h2
  unfold capN
  by_cases hn : 1125899906842624 < n
  · rw [if_pos hn]
    go_enter Tryd.func12, Tryd.ntmps12
    go_wp2_with (go_at_call 22; refine Calls.mono (HC.out _) ?_; rintro e w' ⟨rfl, hw⟩; have hw' := hw.symm; subst hw')
    exact bodyPost_ret (results_cell_row rfl _ _ (w.heap.size + 1) 35 _ (0, 0) _ rfl (boxes2 _ _ _) Tryd.underlying35 rfl Tryd.sz35) rfl ⟨rfl, below2 _ _ _⟩
  · rw [if_neg hn]
    go_enter Tryd.func12, Tryd.ntmps12
    go_wp2_with (go_at_call 22; refine Calls.mono (HC.out _) ?_; rintro e w' ⟨rfl, hw⟩; have hw' := hw.symm; subst hw')
    exact bodyPost_ret (results_cell_row rfl _ _ (w.heap.size + 1) 35 _ (0, 0) _ rfl (boxes2 _ _ _) Tryd.underlying35 rfl Tryd.sz35) rfl ⟨rfl, below2 _ _ _⟩
end Go.Proofs.YtnbdkojdddplkaaDoor.Wl
namespace Go.Proofs.YtnbdkojdddplkaaDoor.Wl
open Go.RowKit Dk

theorem results_ct {P : Program} {fn : Func} {p u : Tmp} {ty : TypeId} (h : fn.results = #[.cell p ty, .tmp u]) (tmps : Array Value) (w : World) (g : Nat) (t : TypeId) (cs : Array Value) (fr : Nat × Nat) (d : TypeDesc)
    (hp : tmps.getD p undef = .pointer (some ⟨g, 0, none⟩)) (hg : w.heap[g]? = some (.cells cs t fr))
    (hu : P.underlying ty = some d) (hd : (match d with | .struct _ | .array _ _ => true | _ => false) = true) (hi : (P.info? ty).map (·.size) = some cs.size) :
    (results fn tmps).run P w = .ok (.tuple #[.agg cs, tmps.getD u undef]) w := by
  rw [results_cell_tmp h, hp]
  simp [asAddr, run_loadVar_row w g t ty cs fr d hg hu hd hi]

set_option maxHeartbeats 1000000 in
theorem do_other (mf kd n : Int) (ao0 aob : Option Addr) (L0 cap0 Lb capb : Nat) (w : World) (h0 : kd ≠ 0) (h1 : kd ≠ 1) (h2 : kd ≠ 2) :
    Calls Tryd.prog 13 #[.agg #[.int .i64 mf, .slice ao0 L0 cap0], .agg #[.int .i64 kd, .int .i64 n, .slice aob Lb capb]] w fun e w' => e = .returned (.tuple #[.agg #[.int .i64 mf, .slice ao0 L0 cap0], .int .i64 0]) ∧ Below w.heap.size w w' := by
  have h0' : (kd == 0) = false := by rw [beq_eq_false_iff_ne]; exact h0
  have h1' : (kd == 1) = false := by rw [beq_eq_false_iff_ne]; exact h1
  have h2' : (kd == 2) = false := by rw [beq_eq_false_iff_ne]; exact h2
  go_enter Tryd.func13, Tryd.ntmps13
  go_wp2
  exact bodyPost_ret (results_ct rfl _ _ (w.heap.size + 2) 32 _ (0, 0) _ rfl (boxes3 _ _ _ _).2.2 Tryd.underlying32 rfl Tryd.sz32) rfl ⟨rfl, below3 _ _ _ _⟩

set_option maxHeartbeats 1000000 in
theorem do_low (mf kd n : Int) (ao0 aob : Option Addr) (L0 cap0 Lb capb : Nat) (w : World) (hk : kd = 1 ∨ kd = 2) (hn : n < 1) :
    Calls Tryd.prog 13 #[.agg #[.int .i64 mf, .slice ao0 L0 cap0], .agg #[.int .i64 kd, .int .i64 n, .slice aob Lb capb]] w fun e w' => e = .returned (.tuple #[.agg #[.int .i64 mf, .slice ao0 L0 cap0], .int .i64 1]) ∧ Below w.heap.size w w' := by
  rcases hk with rfl | rfl
  · go_enter Tryd.func13, Tryd.ntmps13
    go_wp2
    exact bodyPost_ret (results_ct rfl _ _ (w.heap.size + 2) 32 _ (0, 0) _ rfl (boxes3 _ _ _ _).2.2 Tryd.underlying32 rfl Tryd.sz32) rfl ⟨rfl, below3 _ _ _ _⟩
  · go_enter Tryd.func13, Tryd.ntmps13
    go_wp2
    exact bodyPost_ret (results_ct rfl _ _ (w.heap.size + 2) 32 _ (0, 0) _ rfl (boxes3 _ _ _ _).2.2 Tryd.underlying32 rfl Tryd.sz32) rfl ⟨rfl, below3 _ _ _ _⟩

set_option maxHeartbeats 1000000 in
/-- Until with nothing to take off. -/
theorem do_until_none (mf n : Int) (ao0 aob : Option Addr) (L0 cap0 Lb capb : Nat) (w : World) (hn : 1 ≤ n) (h : L0 = 0 ∨ n < mf) :
    Calls Tryd.prog 13 #[.agg #[.int .i64 mf, .slice ao0 L0 cap0], .agg #[.int .i64 2, .int .i64 n, .slice aob Lb capb]] w fun e w' => e = .returned (.tuple #[.agg #[.int .i64 mf, .slice ao0 L0 cap0], .int .i64 0]) ∧ Below w.heap.size w w' := by
  by_cases hz : L0 = 0
  · subst hz
    go_enter Tryd.func13, Tryd.ntmps13
    go_wp2
    exact bodyPost_ret (results_ct rfl _ _ (w.heap.size + 2) 32 _ (0, 0) _ rfl (boxes3 _ _ _ _).2.2 Tryd.underlying32 rfl Tryd.sz32) rfl ⟨rfl, below3 _ _ _ _⟩
  · have hz' : (0 : Int) < (L0 : Int) := by omega
    have hm : ¬ mf ≤ n := by omega
    go_enter Tryd.func13, Tryd.ntmps13
    go_wp2
    exact bodyPost_ret (results_ct rfl _ _ (w.heap.size + 2) 32 _ (0, 0) _ rfl (boxes3 _ _ _ _).2.2 Tryd.underlying32 rfl Tryd.sz32) rfl ⟨rfl, below3 _ _ _ _⟩
end Go.Proofs.YtnbdkojdddplkaaDoor.Wl
