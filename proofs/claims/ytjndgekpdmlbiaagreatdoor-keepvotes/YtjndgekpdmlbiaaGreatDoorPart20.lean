/- From, Until, Crash and Open of a log whose blocks are known. A text of one piece is put behind a log without records. write, where nothing was written yet. do and Save, where nothing was written yet. A log on a disk of any room, its records of any size that may be: what its calls ask and leave. -/
import Derived.Test.YtjndgekpdmlbiaaGreatDoorPart19
import Derived.Test.YtjndgekpdmlbiaaGreatDoorPart14
import Derived.Test.YtjndgekpdmlbiaaGreatDoorPart11
import Derived.Test.YtjndgekpdmlbiaaGreatDoorPart18
import Derived.Deep.RegionHeld3
import Derived.Deep.RegionLaw
import Derived.Test.YtjndgekpdmlbiaaGreatDoorPart12
import Derived.Deep.CutRange
namespace Go.Proofs.YtjndgekpdmlbiaaGreatDoor.Wl
open Go.RowKit Dk

set_option maxHeartbeats 2000000 in
set_option maxRecDepth 20000 in
theorem from_gen (p pd : Nat) (n : Int) (k N z : Nat) (ao : Option Addr) (cap : Nat) (w : World) (PP : World → Prop) (h1 : 1 ≤ n) (hn : n ≤ 9223372036854775807) (hkN : k ≠ N)
    (HC : Hid (Calls Tryz.prog 79 #[.pointer (some ⟨p, 0, none⟩), .int .i64 (n - 1)] w fun e w' => e = .returned (.int .i64 (k : Nat)) ∧ ∃ m, w' = w.drewN m)) (c0 : w.cell? ⟨p, 0, none⟩ = some (.pointer (some ⟨pd, 0, none⟩))) (c2 : w.cell? ⟨p, 2, none⟩ = some (.slice ao N cap))
    (HE : Hid (∀ m, Calls Tryz.prog 77 #[.pointer (some ⟨p, 0, none⟩), .int .i64 (k : Int)] (w.drewN m).drew fun e w' => e = .returned (.int .i64 (z : Int)) ∧ w' = (w.drewN m).drew))
    (HX : Hid (∀ m, Calls Tryz.prog 78 #[.pointer (some ⟨pd, 0, none⟩), .string nmW, .int .i64 (z : Int)] (w.drewN m).drew fun e w3 => e = .returned (.int .i64 0) ∧ w3.cell? ⟨p, 0, none⟩ = some (.pointer (some ⟨pd, 0, none⟩)) ∧ Hid (Calls Tryz.prog 80 #[.pointer (some ⟨p, 0, none⟩), .int .i64 (k : Int)] w3 fun e w' => e = .returned (.tuple #[]) ∧ Hid (PP w')))) :
    Calls Tryz.prog 49 #[.pointer (some ⟨p, 0, none⟩), .int .i64 n] w fun e w' => e = .returned (.int .i64 0) ∧ Hid (PP w') := by
  have HD : Hid (∀ m, (w.drewN m).cell? ⟨p, 2, none⟩ = some (.slice ao N cap)) := fun m => c2
  have HD0 : Hid (∀ m, (w.drewN m).drew.cell? ⟨p, 0, none⟩ = some (.pointer (some ⟨pd, 0, none⟩))) := fun m => c0
  have hne : ((k : Int) == (N : Int)) = false := by rw [beq_eq_false_iff_ne]; omega
  simp only [nmW] at HX
  clear c2 c0
  go_enter Tryz.func49, Tryz.ntmps49
  go_wp2_with (go_at_call 79; refine Calls.mono HC.out ?_; rintro e w1 ⟨rfl, m, rfl⟩; have d2 := HD.out m; have d0 := HD0.out m; have HEm : Hid (_) := HE.out m; have HXm : Hid (_) := HX.out m; clear HD HD0 HE HX)
  go_region_held (fun u => u.cell? ⟨p, 0, none⟩ = some (.pointer (some ⟨pd, 0, none⟩)))
    (first | exact d0 | exact d3)
    (first
      | (go_at_call 77; refine Calls.mono HEm.out ?_; rintro e w' ⟨rfl, hw⟩; have hw' := hw.symm; subst hw')
      | (go_at_call 78; refine Calls.mono HXm.out ?_; rintro e w3 ⟨rfl, d3, HY⟩))
  go_wp2_with (go_at_call 80; refine Calls.mono HY.out ?_; rintro e w4 ⟨rfl, HZ⟩)
  go_ret
  exact ⟨rfl, HZ⟩

set_option maxHeartbeats 1000000 in
theorem until_gen (p : Nat) (n : Int) (k : Nat) (w : World) (PP : World → Prop) (h1 : 1 ≤ n) (h0 : 0 < k)
    (HC : Hid (Calls Tryz.prog 79 #[.pointer (some ⟨p, 0, none⟩), .int .i64 n] w fun e w' => e = .returned (.int .i64 (k : Nat)) ∧ ∃ m, w' = w.drewN m))
    (HX : Hid (∀ m, Calls Tryz.prog 111 #[.pointer (some ⟨p, 0, none⟩), .int .i64 (k : Int)] (w.drewN m) fun e w3 => e = .returned (.int .i64 0) ∧ Hid (Calls Tryz.prog 112 #[.pointer (some ⟨p, 0, none⟩), .int .i64 (k : Int)] w3 fun e w' => e = .returned (.tuple #[]) ∧ Hid (PP w')))) :
    Calls Tryz.prog 87 #[.pointer (some ⟨p, 0, none⟩), .int .i64 n] w fun e w' => e = .returned (.int .i64 0) ∧ Hid (PP w') := by
  have hne : ((k : Int) == 0) = false := by rw [beq_eq_false_iff_ne]; omega
  clear h0
  go_enter Tryz.func87, Tryz.ntmps87
  go_wp2_with (first
    | (go_at_call 79; refine Calls.mono HC.out ?_; rintro e w1 ⟨rfl, m, rfl⟩; have HXm : Hid (_) := HX.out m; clear HX)
    | (go_at_call 111; refine Calls.mono HXm.out ?_; rintro e w3 ⟨rfl, HY⟩)
    | (go_at_call 112; refine Calls.mono HY.out ?_; rintro e w4 ⟨rfl, HZ⟩))
  go_ret
  exact ⟨rfl, HZ⟩

/-- The disk has gone on, then the log's memory. -/
theorem LX.go {w w3 w' : World} {p pd : Nat} {s' : St} {H F F' G : Nat → Prop} {first first' : Int} {vr vr' : Value} {rs rs' : List Re} (d2 : Lg w p pd first vr rs G) (d4 : ∀ k, G k → ¬ F k) (d5 : ¬ F p) (d6 : ∀ k, F k → H k) (d7 : ∀ k, G k → H k) (d8 : H p) (d9 : ∀ k, H k → k < w.heap.size)
    (hD : Dk w3 pd s' F') (hF' : ∀ k, F' k → F k ∨ w.heap.size ≤ k) (hf : Dk.Fr F w w3) (hL : Lg w' p pd first' vr' rs' G) (hf' : Dk.Fr (fun k => G k ∨ k = p) w3 w') : LX w' p pd s' (ext H w w') first' (rs'.map Re.data) ∧ Dk.Fr H w w' := by
  have hs := hf.size
  have hs' := hf'.size
  have hplt := d2.plt
  have hlt := hD.lt
  refine ⟨⟨F', vr', rs', G, hD.kept hf' (fun k hk hG => ?_), hL, rfl, fun k hk hF => ?_, fun hF => ?_, fun k hk => ?_, fun k hk => Or.inl (d7 k hk), Or.inl d8, fun k hk => ?_⟩, (hf.mono (fun k _ hk => d6 k hk)).trans hf' (fun k _ hG => ?_)⟩
  · rcases hF' k hk with h | h
    · rcases hG with hG | rfl
      · exact d4 k hG h
      · exact d5 h
    · rcases hG with hG | rfl
      · have := d2.lt k hG; omega
      · omega
  · rcases hF' k hF with h | h
    · exact d4 k hk h
    · have := d2.lt k hk; omega
  · rcases hF' p hF with h | h
    · exact d5 h
    · omega
  · rcases hF' k hk with h | h
    · exact Or.inl (d6 k h)
    · exact Or.inr ⟨h, by have := hlt k hk; omega⟩
  · rcases hk with hk | hk
    · have := d9 k hk; omega
    · omega
  · rcases hG with hG | rfl
    · exact d7 k hG
    · exact d8

theorem LX.from {w : World} {p pd : Nat} {s : St} {H : Nat → Prop} {first : Int} {ds : List (List UInt8)} {N M : Nat} (h : LX w p pd s H first ds) (hG : Gs s first ds N M) (hN : N ≤ 80) (hM : M ≤ 900000) (n : Int) (k : Nat) (h1 : 1 ≤ n) (hn : n ≤ 9223372036854775807) (hk : cnt first ds (n - 1) = k) :
    Calls Tryz.prog 49 #[.pointer (some ⟨p, 0, none⟩), .int .i64 n] w fun e w' => e = .returned (.int .i64 0) ∧ Hid (LX w' p pd (fromS s first ds k) (ext H w w') (if k = 0 then 0 else first) (ds.take k) ∧ Dk.Fr H w w') := by
  have hkl := cnt_le first ds (n - 1) (by omega)
  have hdl := hG.len
  have hms := hG.mass
  rw [hk] at hkl
  obtain ⟨F0, hW0, _⟩ := h.lw
  by_cases he : k = ds.length
  · refine (from_same _ p pd s _ first ds n w hW0 h1 hn (by rw [hk, he])).mono ?_
    rintro e w' ⟨rfl, m, rfl⟩
    have hf : (if k = 0 then 0 else first) = first := by
      split
      · exact (h.zero (List.eq_nil_of_length_eq_zero (by omega))).symm
      · rfl
    rw [hf, List.take_of_length_le (by omega), fromS, if_pos he]
    exact ⟨rfl, (h.drew m).wide, Fr.of_below (below_drew w m)⟩
  · have hne : ds ≠ [] := fun e => by rw [e] at hkl he; simp at hkl he; omega
    obtain ⟨F, vr, rs, G, d1, d2, rfl, d4, d5, d6, d7, d8, d9⟩ := h
    have hW : LW w 0 p pd s F first (rs.map Re.data) := ⟨d1, ⟨vr, rs, G, d2, rfl, fun k hk => ⟨d4 k hk, Nat.zero_le _⟩⟩, d5, Nat.zero_le _⟩
    obtain ⟨ao, cap, c2⟩ := hW.cell2
    have hlook := hG.now.look hne
    refine from_gen p pd n k (rs.map Re.data).length (fileB first ((rs.map Re.data).take k)).length ao cap w _ h1 hn he ?_ hW.cell0 c2 (fun m => ((hW.drew m).drew 1).endOf k (by omega) (by omega)) (fun m => ?_)
    · have hcc := count_any 0 p pd s F first (rs.map Re.data) (n - 1) w hW (by omega) (by omega)
      rw [hk] at hcc
      exact hcc
    · have hbd : Below w.heap.size w (w.drewN m).drew := ⟨rfl, rfl, rfl, Nat.le_refl _, fun _ _ => rfl⟩
      refine (cut_ok pd s F nmW _ ⟨nmW, fileB first (rs.map Re.data)⟩ (w.drewN m).drew (d1.below hbd) hlook (fileB_take_le first _ k) (by omega)).mono ?_
      rintro e w3 ⟨rfl, hD3, hf3⟩
      have hfw : Dk.Fr F w w3 := (Fr.of_below hbd).trans hf3 (fun _ _ h => h)
      have hL3 := d2.kept hfw (fun k hk hF => d4 k hk hF) d5
      refine ⟨rfl, hL3.cells.1, ?_⟩
      have hrl : (rs.map Re.data).length = rs.length := List.length_map _
      refine (dropBack_any p pd first vr rs G k w3 hL3 (by omega) (by omega)).mono ?_
      rintro e w' ⟨rfl, ⟨vr', hL⟩, hf⟩
      refine ⟨rfl, ?_⟩
      have hgo := LX.go d2 d4 d5 d6 d7 d8 d9 hD3 (fun k hk => by rcases hk with hk | hk; exact Or.inl hk; exact Or.inr hk.1) hfw hL hf
      rw [List.map_take] at hgo
      rw [fromS, if_neg he]
      exact hgo

theorem LX.until {w : World} {p pd : Nat} {s : St} {H : Nat → Prop} {first : Int} {ds : List (List UInt8)} {N M : Nat} (h : LX w p pd s H first ds) (hG : Gs s first ds N M) (ht : Fr.Tab w) (hN : N ≤ 80) (hM : M ≤ 900000) (n : Int) (k : Nat) (h1 : 1 ≤ n) (hn : n ≤ 9223372036854775806) (hk : cnt first ds n = k) :
    Calls Tryz.prog 87 #[.pointer (some ⟨p, 0, none⟩), .int .i64 n] w fun e w' => e = .returned (.int .i64 0) ∧ Hid (LX w' p pd (untilS s first ds k) (ext H w w') (if k = ds.length then 0 else first + k) (ds.drop k) ∧ Dk.Fr H w w') := by
  have hkl := cnt_le first ds n (by omega)
  have hdl := hG.len
  have hms := hG.mass
  have hfl := hG.file
  have hfi := hG.fit
  rw [hk] at hkl
  obtain ⟨F0, hW0, _⟩ := h.lw
  by_cases h0 : k = 0
  · refine (until_same _ p pd s _ first ds n w hW0 h1 hn (by rw [hk, h0])).mono ?_
    rintro e w' ⟨rfl, m, rfl⟩
    have hf : (if k = ds.length then 0 else first + k) = first := by
      split
      · exact (h.zero (List.eq_nil_of_length_eq_zero (by omega))).symm
      · rw [h0]; simp
    rw [hf, h0, List.drop_zero, untilS, if_pos rfl]
    exact ⟨rfl, (h.drew m).wide, Fr.of_below (below_drew w m)⟩
  · have hne : ds ≠ [] := fun e => by rw [e] at hkl; simp at hkl; omega
    obtain ⟨F, vr, rs, G, d1, d2, rfl, d4, d5, d6, d7, d8, d9⟩ := h
    have hW : LW w 0 p pd s F first (rs.map Re.data) := ⟨d1, ⟨vr, rs, G, d2, rfl, fun k hk => ⟨d4 k hk, Nat.zero_le _⟩⟩, d5, Nat.zero_le _⟩
    have hlook := hG.now.look hne
    have hcc := count_any 0 p pd s F first (rs.map Re.data) n w hW (by omega) (by omega)
    rw [hk] at hcc
    have hrl : (rs.map Re.data).length = rs.length := List.length_map _
    refine until_gen p n k w _ h1 (by omega) hcc (fun m => ?_)
    have HK : Calls Tryz.prog 111 #[.pointer (some ⟨p, 0, none⟩), .int .i64 (k : Int)] (w.drewN m) fun e w' => e = .returned (.int .i64 0) ∧ Hid (∃ F', LW w' 0 p pd (untilS s first (rs.map Re.data) k) F' first (rs.map Re.data) ∧ (∀ j, F' j → F j ∨ (w.drewN m).heap.size ≤ j) ∧ Dk.Fr F (w.drewN m) w') := by
      unfold untilS
      rw [if_neg h0]
      by_cases he : k = (rs.map Re.data).length
      · rw [if_pos he, he]
        exact cutFront_all 0 p pd s F first (rs.map Re.data) _ _ (hW.drew m) hlook (by omega)
      · rw [if_neg he]
        have hsp := congrArg List.length (fileB_split first (rs.map Re.data) k hkl)
        rw [List.length_append] at hsp
        have hnl := hG.now.len
        have hu := hG.now.used
        exact cutFront_some 0 p pd s F first (rs.map Re.data) k _ (hW.drew m) (ht.drew m) (by omega) (by omega) (fun d hd => by have := hG.small d hd; omega) (by omega) (by omega) (by rw [hu, hG.room]; omega) (Or.inr (by omega)) (by omega)
    refine HK.mono ?_
    rintro e w3 ⟨rfl, F', hW3, hF', hf3⟩
    have hfw : Dk.Fr F w w3 := (Fr.of_below (below_drew w m)).trans hf3 (fun _ _ h => h)
    have hL3 := d2.kept hfw (fun k hk hF => d4 k hk hF) d5
    refine ⟨rfl, ?_⟩
    refine (dropFront_any p pd first vr rs G k w3 hL3 (by omega) (by omega) (by omega) (by omega) (by omega)).mono ?_
    rintro e w' ⟨rfl, ⟨vr', rs', hL, hrd⟩, hf⟩
    refine ⟨rfl, ?_⟩
    have hgo := LX.go d2 d4 d5 d6 d7 d8 d9 hW3.dk hF' hfw hL hf
    rw [hrd] at hgo
    rw [hrl]
    exact hgo

/-- Crash of its disk: what is left stands on a disk of its own. -/
theorem LX.crash {w : World} {p pd : Nat} {s : St} {H : Nat → Prop} {first : Int} {ds : List (List UInt8)} (h : LX w p pd s H first ds) (hM : s.mass ≤ 1000000) (n t : Int) :
    Calls Tryz.prog 16 #[.pointer (some ⟨pd, 0, none⟩), .int .i64 n, .int .i64 t] w fun e w' => ∃ q, e = .returned (.pointer (some ⟨q, 0, none⟩)) ∧ Hid (Dk w' q ⟨s.room, Dk.leftOf s n t, []⟩ (ext (fun _ => False) w w') ∧ Below w.heap.size w w') := by
  obtain ⟨F, hW, _⟩ := h.lw
  refine (crash_any pd s F n t w hW.dk (by omega)).mono ?_
  rintro e w' ⟨q, rfl, hq, hD, hb⟩
  exact ⟨q, rfl, hD, hb⟩
/-- Open of a disk. -/
theorem LX.open {w : World} {q : Nat} {s : St} {F : Nat → Prop} (hD : Dk w q s F) (ht : Fr.Tab w) (h0 : ¬ F 0) (hm : s.mass ≤ 1000000) (hn : Nm s.now) (hf : (fileOf s nmW).length ≤ 30000) (hlen : s.now.length ≤ 100) (first : Int) (ds : List (List UInt8)) (hR : loadR (Fr.scanL (fileOf s nmW)).1 0 [] = (first, ds)) :
    Calls Tryz.prog 25 #[.pointer (some ⟨q, 0, none⟩)] w fun e w' => ∃ p, e = .returned (.tuple #[.pointer (some ⟨p, 0, none⟩), .int .i64 0]) ∧ Hid (LX w' p q (openS s) (ext F w w') first ds ∧ Dk.Fr F w w') := by
  have hlt := hD.lt
  refine (open_any q s F w hD ht h0 (by omega) hn hf first ds hR).mono ?_
  rintro e w' ⟨p, rfl, ⟨F', hL, hF'⟩, hf'⟩
  obtain ⟨g1, ⟨vr, rs, G, a1, a2, a3⟩, g2, g3⟩ := hL
  have hs := hf'.size
  refine ⟨p, rfl, ⟨F', vr, rs, G, g1, a1, a2, fun k hk => (a3 k hk).1, g2, fun k hk => ?_, fun k hk => Or.inr ⟨(a3 k hk).2, a1.lt k hk⟩, Or.inr ⟨g3, a1.plt⟩, fun k hk => ?_⟩, hf'⟩
  · rcases hF' k hk with h | h
    · exact Or.inl h
    · exact Or.inr ⟨h, g1.lt k hk⟩
  · rcases hk with hk | hk
    · have := hlt k hk; omega
    · omega
end Go.Proofs.YtjndgekpdmlbiaaGreatDoor.Wl
namespace Go.Proofs.YtjndgekpdmlbiaaGreatDoor.Kp
open Go.RowKit Bn

theorem LXlast {w : World} {p pd : Nat} {s : Dk.St} {H : Nat → Prop} {first : Int} {ds : List (List UInt8)} (h : Wl.LX w p pd s H first ds) :
    Calls Tryz.prog 48 #[.pointer (some ⟨p, 0, none⟩)] w fun e w' => e = .returned (.int .i64 (Wl.lastL first ds)) ∧ ∃ m, w' = w.drewN m := by
  obtain ⟨F, hW, _⟩ := h.lw
  exact hW.last
theorem LXfirst {w : World} {p pd : Nat} {s : Dk.St} {H : Nat → Prop} {first : Int} {ds : List (List UInt8)} (h : Wl.LX w p pd s H first ds) :
    Calls Tryz.prog 50 #[.pointer (some ⟨p, 0, none⟩)] w fun e w' => e = .returned (.int .i64 first) ∧ w' = w := by
  obtain ⟨F, hW, _⟩ := h.lw
  exact hW.first
theorem bel_drew (w : World) : Below w.heap.size w w.drew := (Below.refl _ w).drew

def lnOf : Value → Nat
  | .slice _ n _ => n
  | _ => 0
/-- What appendPieces leaves. -/
def PcR (w : World) (p pd : Nat) (s : Dk.St) (H : Nat → Prop) (t : List UInt8) (w' : World) : Prop :=
  Wl.LX w' p pd (s.push (.app Wl.nmW (Wl.recB 1 (fl true ++ t)))) (Dk.ext H w w') 1 [fl true ++ t] ∧ Dk.Fr H w w'

set_option maxHeartbeats 2000000 in
theorem pieces_one {w : World} {kb p pd : Nat} {s : Dk.St} {H : Nat → Prop} (h : Wl.LX w p pd s H 0 []) (ht : Fr.Tab w) (ck : w.cell? ⟨kb, 7, none⟩ = some (.pointer (some ⟨p, 0, none⟩))) (hk : ¬ H kb)
    (ao : Option Addr) (L cap : Nat) (t : List UInt8) (b : Nat) (hO : w.ownsRow b 5 1 (.slice ao L cap) t.length (cells8 t)) (h0 : 0 < t.length) (hl : t.length ≤ 32767)
    (hr : (Dk.used s.now : Int) + (Wl.recB 1 (fl true ++ t)).length ≤ s.room) (hf : (Dk.look Wl.nmW s.now).isSome = true ∨ s.now.length < 64) (hms : s.mass + 40000 ≤ 1000000000) :
    Calls Tryz.prog 94 #[.pointer (some ⟨kb, 0, none⟩), .slice ao L cap] w fun e w' => e = .returned (.int .i64 0) ∧ Hid (PcR w p pd s H t w') := by
  obtain ⟨g, rfl, hL, hLc, hcm⟩ : ∃ g, ao = some ⟨g, 0, none⟩ ∧ L = t.length ∧ L ≤ cap ∧ cap ≤ maxLen := by
    rcases Dk.own_shape hO with ⟨_, h0'⟩ | ⟨g, c, e, h1, h2, _⟩
    · omega
    · simp only [Value.slice.injEq] at e
      obtain ⟨e1, rfl, rfl⟩ := e
      exact ⟨g, e1, rfl, h1, h2⟩
  have HST : Hid (Sl w (.slice (some ⟨g, 0, none⟩) L cap) t) := Sl.of_own hO
  have HX := hide h
  have HCK := hide ck
  have HT := hide ht
  have HLL := hide hL
  have HAP : Hid (∀ W a2 L2 c2, Below w.heap.size w W → W.ownsRow w.heap.size 5 1 (.slice a2 L2 c2) (fl true ++ t).length (cells8 (fl true ++ t)) → Calls Tryz.prog 121 #[.pointer (some ⟨p, 0, none⟩), .int .i64 1, .slice a2 L2 c2] W fun e w4 => e = .returned (.int .i64 0) ∧ w4.cell? ⟨kb, 7, none⟩ = some (.pointer (some ⟨p, 0, none⟩)) ∧ Hid (PcR w p pd s H t w4)) := fun W a2 L2 c2 hb ho => by
    have hX := HX.out.below hb
    have hlt := HX.out.lt
    refine (hX.app (HT.out.below hb) 1 _ (fl true ++ t) (Dk.SlA.of_own ho (fun k hk hH => by have h1 := (ho.lt k hk).1; have h2 := hlt k hH; omega)) (by omega) (by simp [Wl.mayL]) (by simp [fl]; omega) hr hf hms (by simp) (by simp [Wl.fileB])).mono ?_
    rintro e w4 ⟨rfl, hP⟩
    obtain ⟨h1, h2⟩ := hP.out
    have hfr : Dk.Fr H w w4 := (Dk.Fr.of_below (F := H) hb).trans h2 (fun _ _ h => h)
    refine ⟨rfl, hfr.cell HCK.out hk, ?_, hfr⟩
    have h3 : Wl.LX w4 p pd (s.push (.app Wl.nmW (Wl.recB 1 (fl true ++ t)))) (Dk.ext H W w4) 1 [fl true ++ t] := by simpa using h1
    obtain ⟨F, vr, rs, G, d1, d2, d3, d4, d5, d6, d7, d8, d9⟩ := h3
    have hw : ∀ k, Dk.ext H W w4 k → Dk.ext H w w4 k := fun k hk => by
      rcases hk with hk | hk
      · exact Or.inl hk
      · exact Or.inr ⟨Nat.le_trans hb.size hk.1, hk.2⟩
    exact ⟨F, vr, rs, G, d1, d2, d3, d4, d5, fun k hk => hw k (d6 k hk), fun k hk => hw k (d7 k hk), hw p d8, fun k hk => by
      rcases hk with hk | hk
      · have := hlt k hk; have := hfr.size; omega
      · exact hk.2⟩
  have HFL : Hid (Calls Tryz.prog 120 #[.bool true] w.drew fun e w1 => ∃ af Lf cf, e = .returned (.slice af Lf cf) ∧ ∃ a2 L2 c2 w2, (∀ ty, (Builtin.append_ #[33, 33] ty #[.slice af Lf cf, .slice (some ⟨g, 0, none⟩) L cap]).run Tryz.prog w1 = .ok (.slice a2 L2 c2) w2) ∧ Hid (w2.ownsRow w.heap.size 5 1 (.slice a2 L2 c2) (fl true ++ t).length (cells8 (fl true ++ t)) ∧ Below w.heap.size w w2)) := by
    refine (flag_any true w.drew).mono ?_
    rintro e w1 ⟨af, Lf, cf, rfl, hP⟩
    obtain ⟨ho, hb⟩ := hP.out
    have hb1 : Below w.heap.size w w1 := (bel_drew w).trans hb
    obtain ⟨a2, L2, c2, w2, hr2, ho2, hg2⟩ := Wl.run_append_bytes w1 w.heap.size (.slice af Lf cf) (fl true) ⟨g, 0, none⟩ L cap t ho (HST.out.below hb1) (by simp [fl]; omega) hb1.size
    exact ⟨af, Lf, cf, rfl, a2, L2, c2, w2, hr2, ho2, hb1.grown hg2 hb1.size (fun k hk => (ho.lt k hk).1)⟩
  have hLI : (L : Int) ≤ 32767 := by omega
  have hLn : ¬ (32767 : Int) < (L : Int) := by omega
  have hLp : (0 : Int) < (L : Int) := by omega
  have hLcI : (L : Int) ≤ (cap : Int) := by omega
  clear h ck ht hO h0 hl hr hf hms hL hcm hk
  go_enter Tryz.func94, Tryz.ntmps94
  go_wp2_with fail
  go_loopw [1] (fun tv wr => (tv = .slice (some ⟨g, 0, none⟩) L cap ∧ wr = w) ∨ ∃ a c, tv = .slice a 0 c ∧ Hid (PcR w p pd s H t wr)) (fun tv _ => lnOf tv)
  case atStart => exact Or.inl ⟨rfl, rfl⟩
  case round =>
    rcases hrel with ⟨rfl, hw⟩ | ⟨a, c, rfl, HP⟩
    · have hw' := hw.symm
      subst hw'
      go_wp2_with fail
      refine wp_region_noPanic ?_
      go_region_law (first
        | (go_simp; go_at_call 120; refine Calls.mono HFL.out ?_; rintro e w1 ⟨af, Lf, cf, rfl, a2, L2, c2, w2, hap, HO2⟩)
        | (refine Dk.step_append_run (by rfl) (.tmp 18) (.tmp 21) 33 33 (by rfl) _ _ (by rfl) (by rfl) (hap _) ?_))
      all_goals
        refine NoPanic.normal ?_
        have c7 : w2.drew.cell? ⟨kb, 7, none⟩ = some (.pointer (some ⟨p, 0, none⟩)) := (World.cell?_of_block (w := w) (a := ⟨kb, 7, none⟩) (HO2.out.2.block kb (cell_lt HCK.out))).trans HCK.out
        have HLS : Hid (Calls Tryz.prog 48 #[.pointer (some ⟨p, 0, none⟩)] w2.drew fun e w3 => e = .returned (.int .i64 0) ∧ w3.cell? ⟨kb, 7, none⟩ = some (.pointer (some ⟨p, 0, none⟩)) ∧ Hid (Calls Tryz.prog 121 #[.pointer (some ⟨p, 0, none⟩), .int .i64 1, .slice a2 L2 c2] w3 fun e w4 => e = .returned (.int .i64 0) ∧ w4.cell? ⟨kb, 7, none⟩ = some (.pointer (some ⟨p, 0, none⟩)) ∧ Hid (PcR w p pd s H t w4))) := by
          have hb2 : Below w.heap.size w w2.drew := HO2.out.2.trans ((bel_drew w2).mono HO2.out.2.size)
          refine (LXlast (HX.out.below hb2)).mono ?_
          rintro e w3 ⟨rfl, m, rfl⟩
          refine ⟨rfl, c7, ?_⟩
          exact HAP.out _ a2 L2 c2 (hb2.trans ((Wl.below_drew w2.drew m).mono hb2.size)) HO2.out.1
        clear HAP HX HT HFL HO2 hap
        go_wp2_with fail
        go_region_held (fun u => u.cell? ⟨kb, 7, none⟩ = some (.pointer (some ⟨p, 0, none⟩)))
          (first | exact c7 | exact d3 | exact d4)
          (first
            | (go_at_call 48; refine Calls.mono HLS.out ?_; rintro e w3 ⟨rfl, d3, HY⟩)
            | (go_at_call 121; refine Calls.mono HY.out ?_; rintro e w4 ⟨rfl, d4, HZ⟩))
        go_wp2_with fail
        exact ⟨Or.inr ⟨_, _, rfl, HZ⟩, by show 0 < L; omega⟩
    · go_wp2_with fail
      go_ret
      exact ⟨rfl, HP⟩
end Go.Proofs.YtjndgekpdmlbiaaGreatDoor.Kp
namespace Go.Proofs.YtjndgekpdmlbiaaGreatDoor.Kp
open Go.RowKit Bn

/-- A keep's own block. -/
def KwB (w : World) (kb p : Nat) (c0 c1 c2 c3 c4 c5 c6 : Value) (z : Int) : Prop := w.heap[kb]? = some (.cells #[c0, c1, c2, c3, c4, c5, c6, .pointer (some ⟨p, 0, none⟩), .int .i64 z] 80 (0, 0))
theorem KwB.c {w : World} {kb p : Nat} {c0 c1 c2 c3 c4 c5 c6 : Value} {z : Int} (h : KwB w kb p c0 c1 c2 c3 c4 c5 c6 z) (i : Nat) : w.cell? ⟨kb, i, none⟩ = (#[c0, c1, c2, c3, c4, c5, c6, Value.pointer (some ⟨p, 0, none⟩), Value.int .i64 z])[i]? := cell_of_row w kb i _ _ _ h
theorem KwB.f {w : World} {kb p : Nat} {c0 c1 c2 c3 c4 c5 c6 : Value} {z : Int} (h : KwB w kb p c0 c1 c2 c3 c4 c5 c6 z) (i : Nat) : w.frozen? ⟨kb, i, none⟩ = false := frozen_of_row w kb i _ _ h
theorem KwB.lt {w : World} {kb p : Nat} {c0 c1 c2 c3 c4 c5 c6 : Value} {z : Int} (h : KwB w kb p c0 c1 c2 c3 c4 c5 c6 z) : kb < w.heap.size := lt_of_block h
theorem KwB.fr {w w' : World} {F : Nat → Prop} {kb p : Nat} {c0 c1 c2 c3 c4 c5 c6 : Value} {z : Int} (h : KwB w kb p c0 c1 c2 c3 c4 c5 c6 z) (hf : Dk.Fr F w w') (hk : ¬ F kb) : KwB w' kb p c0 c1 c2 c3 c4 c5 c6 z := (hf.block kb h.lt hk).trans h
theorem KwB.below {w w' : World} {kb p : Nat} {c0 c1 c2 c3 c4 c5 c6 : Value} {z : Int} (h : KwB w kb p c0 c1 c2 c3 c4 c5 c6 z) (hb : Below w.heap.size w w') : KwB w' kb p c0 c1 c2 c3 c4 c5 c6 z := (hb.block kb h.lt).trans h
theorem KwB.size {w : World} {kb p : Nat} {c0 c1 c2 c3 c4 c5 c6 : Value} {z : Int} (h : KwB w kb p c0 c1 c2 c3 c4 c5 c6 z) (z' : Int) : KwB (w.setCell ⟨kb, 8, none⟩ (.int .i64 z')) kb p c0 c1 c2 c3 c4 c5 c6 z' := heap_setCell_same w kb 8 _ 80 (.int .i64 z') h

/-- What write leaves. -/
def WrR (w : World) (kb p pd : Nat) (s : Dk.St) (H : Nat → Prop) (t : List UInt8) (c0 c1 c2 c3 c4 c5 c6 : Value) (w' : World) : Prop :=
  ∃ H' z, Wl.LX w' p pd (s.push (.app Wl.nmW (Wl.recB 1 (fl true ++ t)))) H' 1 [fl true ++ t] ∧ (∀ k, H' k → H k ∨ w.heap.size ≤ k) ∧ Dk.Fr (fun k => H k ∨ k = kb) w w' ∧ KwB w' kb p c0 c1 c2 c3 c4 c5 c6 z

set_option maxHeartbeats 2000000 in
theorem write_first {w : World} {kb p pd : Nat} {s : Dk.St} {H : Nat → Prop} {c0 c1 c2 c3 c4 c5 c6 : Value} (h : Wl.LX w p pd s H 0 []) (ht : Fr.Tab w) (hb : KwB w kb p c0 c1 c2 c3 c4 c5 c6 0) (hk : ¬ H kb)
    (r : Rdy) (y6 y7 y8 : Value) (ae : Option Addr) (le ce : Nat) (hE : Es w (.slice ae le ce) r.ents) (hsn : r.snap = none) (ho : r.ok) (hrz : rsz r ≤ 140737488355328) (hl : (encR false r).length ≤ 32767)
    (hr : (Dk.used s.now : Int) + (Wl.recB 1 (fl true ++ encR false r)).length ≤ s.room) (hf : (Dk.look Wl.nmW s.now).isSome = true ∨ s.now.length < 64) (hms : s.mass + 40000 ≤ 1000000000) (d0 d1 d2 d3 d4 d5 d6 : Value) :
    Calls Tryz.prog 56 #[.pointer (some ⟨kb, 0, none⟩), .agg #[.int .i64 r.term, .int .i64 r.vote, .bool r.saved, .int .i64 r.first, .slice ae le ce, .pointer none, y6, y7, y8], .agg #[d0, d1, d2, d3, d4, d5, d6]] w fun e w' =>
      e = .returned (.int .i64 0) ∧ Hid (WrR w kb p pd s H (encR false r) c0 c1 c2 c3 c4 c5 c6 w') := by
  have hb2 : Below w.heap.size w ((w.alloc (.cells #[.int .i64 r.term, .int .i64 r.vote, .bool r.saved, .int .i64 r.first, .slice ae le ce, .pointer none, y6, y7, y8] 43)).alloc (.cells #[d0, d1, d2, d3, d4, d5, d6] 78)) := ((Below.refl _ w).alloc (Nat.le_refl _) _).alloc (by simp) _
  have HEN := hide (encode_any false r y6 y7 y8 none ae le ce _ (hE.below hb2) (by rw [hsn]; rfl) ho hrz)
  have HB2 := hide hb2
  have htp : 0 < (encR false r).length := by simp [encR, fl]
  have HXX := hide h
  have HT := hide ht
  have HKB := hide hb
  have HPC : Hid (∀ W ao L cap, Below w.heap.size w W → W.ownsRow w.heap.size 5 1 (.slice ao L cap) (encR false r).length (cells8 (encR false r)) → Calls Tryz.prog 94 #[.pointer (some ⟨kb, 0, none⟩), .slice ao L cap] W fun e w' => e = .returned (.int .i64 0) ∧ w'.cell? ⟨kb, 8, none⟩ = some (.int .i64 0) ∧ w'.frozen? ⟨kb, 8, none⟩ = false ∧ Hid (∀ z, WrR w kb p pd s H (encR false r) c0 c1 c2 c3 c4 c5 c6 (w'.setCell ⟨kb, 8, none⟩ (.int .i64 z)))) := fun W ao L cap hbW hO => by
    have hlt := HXX.out.lt
    have hkl := HKB.out.lt
    refine (pieces_one (HXX.out.below hbW) (HT.out.below hbW) ((HKB.out.below hbW).c 7) hk ao L cap _ w.heap.size hO htp hl hr hf hms).mono ?_
    rintro e w' ⟨rfl, hP⟩
    obtain ⟨hX, hF⟩ := hP.out
    have hK' := (HKB.out.below hbW).fr hF hk
    have hs1 := hbW.size
    have hs2 := hF.size
    refine ⟨rfl, hK'.c 8, hK'.f 8, fun z => ⟨Dk.ext H W w', z, ?_, fun k hk2 => ?_, ?_, hK'.size z⟩⟩
    · refine hX.kept (K := fun k => k = kb) (Dk.Fr.one w' kb 8 _) (fun k hk2 e => ?_)
      subst e
      rcases hk2 with hk' | hk'
      · exact hk hk'
      · omega
    · rcases hk2 with hk2 | hk2
      · exact Or.inl hk2
      · exact Or.inr (by omega)
    · refine Dk.Fr.setCell (p := ⟨kb, 8, none⟩) ?_ (fun _ => Or.inr rfl) _
      exact (Dk.Fr.of_below (F := fun k => H k ∨ k = kb) hbW).trans hF (fun k _ hk => Or.inl hk)
  have HL : Hid (∀ W, Below w.heap.size w W → Calls Tryz.prog 48 #[.pointer (some ⟨p, 0, none⟩)] W fun e w' => e = .returned (.int .i64 0) ∧ ∃ m, w' = W.drewN m) := fun W hbW => LXlast (HXX.out.below hbW)
  have HC : Hid (∀ W, Below w.heap.size w W → W.cell? ⟨kb, 7, none⟩ = some (.pointer (some ⟨p, 0, none⟩)) ∧ W.cell? ⟨kb, 8, none⟩ = some (.int .i64 0)) := fun W hbW => ⟨(HKB.out.below hbW).c 7, (HKB.out.below hbW).c 8⟩
  have HLT := hide hl
  clear h ht hb hE hsn ho hrz hl hr hf hms hb2 htp
  generalize encR false r = t at *
  go_enter Tryz.func56, Tryz.ntmps56
  go_wp2_with fail
  refine Calls.mono HEN.out ?_
  rintro e w3 ⟨a3, L3, cap3, rfl, hP3⟩
  obtain ⟨hO3, hb3⟩ := hP3.out
  have hL3 : L3 ≤ 140737488355328 := by
    have h1 := HLT.out
    rcases Dk.own_shape hO3 with ⟨e, h0⟩ | ⟨_, _, e, _⟩
    · simp only [Value.slice.injEq] at e
      omega
    · simp only [Value.slice.injEq] at e
      omega
  have HB3 := hide (HB2.out.trans (hb3.mono HB2.out.size))
  have HO3 := hide (Dk.own_base hO3 (fun k hk => Nat.le_trans HB2.out.size (hO3.lt k hk).1))
  have c7 := (HC.out w3 HB3.out).1
  have c8 := (HC.out w3 HB3.out).2
  clear hP3 hO3 hb3 HEN
  obtain ⟨Z, hZ⟩ : ∃ Z, sizeL L3 = Z := ⟨_, rfl⟩
  have HSZ : Hid (∀ W, Calls Tryz.prog 86 #[.slice a3 L3 cap3] W fun e w' => e = .returned (.int .i64 (Z : Nat)) ∧ w' = W) := fun W => by
    rw [← hZ]
    exact sizeOf_any a3 L3 cap3 W hL3
  have hZb : (Z : Int) ≤ 1000000000000000 := by
    rw [← hZ]
    unfold sizeL
    omega
  clear hZ hL3 HLT
  go_wp2_with fail
  go_big_quiet (first | (go_at_call 86; exact Calls.quiet_of_same (HSZ.out _)))
  have HB4 := hide (HB3.out.trans ((Wl.below_drew w3 nq).mono HB3.out.size))
  have HO4 : Hid ((w3.drewN nq).ownsRow w.heap.size 5 1 (.slice a3 L3 cap3) t.length (cells8 t)) := HO3.out
  generalize w3.drewN nq = w4 at *
  have e7 := (HC.out w4 HB4.out).1
  have e8 := (HC.out w4 HB4.out).2
  have HL4 := hide (HL.out w4 HB4.out)
  clear HSZ HB3 HO3 c7 c8 HL
  go_wp2_with fail
  refine Calls.mono HL4.out ?_
  rintro e w5 ⟨rfl, m, rfl⟩
  have HPC5 := hide (HPC.out (w4.drewN m) a3 L3 cap3 (HB4.out.trans ((Wl.below_drew w4 m).mono HB4.out.size)) HO4.out)
  clear HPC HL4 HO4 e7 e8
  go_wp2_with fail
  refine Calls.mono HPC5.out ?_
  rintro e w6 ⟨rfl, f8, g8, HZ6⟩
  clear HPC5
  go_wp2_with fail
  go_ret
  exact ⟨rfl, HZ6.out _⟩
end Go.Proofs.YtjndgekpdmlbiaaGreatDoor.Kp
namespace Go.Proofs.YtjndgekpdmlbiaaGreatDoor.Kp
open Go.RowKit Bn

/-- Nothing is kept. -/
def st0 : St := ⟨0, 0, ⟨0, 0, [], []⟩, []⟩
theorem after_zero {W : World} (r : Rdy) (s' : St) (hs : st0.after r = some s') (y6 y7 y8 : Value) (ar : Option Addr) (nr cr : Nat) (hR : Es W (.slice ar nr cr) r.ents) (hsn : r.snap = none) (ho : r.ok) (hl : r.ents.length ≤ 1000000000) (hd : ∀ e ∈ r.ents, e.data.length ≤ 140737488355328) :
    Calls Tryz.prog 54 #[.agg #[.int .i64 0, .int .i64 0, .int .i64 0, .int .i64 0, .slice none 0 0, .slice none 0 0, .slice none 0 0], .agg #[.int .i64 r.term, .int .i64 r.vote, .bool r.saved, .int .i64 r.first, .slice ar nr cr, .pointer none, y6, y7, y8]] W fun x w' =>
      ∃ av nv cv, x = .returned (.tuple #[.agg #[.int .i64 s'.term, .int .i64 s'.vote, .int .i64 0, .int .i64 0, .slice none 0 0, .slice none 0 0, .slice av nv cv], .bool true]) ∧ Hid (Er W.heap.size w' (.slice av nv cv) s'.ents ∧ Below W.heap.size W w') := by
  refine (after_plain (b := W.heap.size) st0 r none none 0 0 0 0 y6 y7 y8 none 0 0 ar nr cr (Er.nil _ _) hR hsn ho (by simp [st0]) (by simp [st0]; omega) hd (Nat.le_refl _)).mono ?_
  rintro x w' (⟨h1, _⟩ | ⟨s2, av, nv, cv, h1, rfl, h2, HP⟩)
  · rw [hs] at h1
    cases h1
  · rw [hs] at h1
    cases h1
    obtain ⟨e1, _, e3⟩ := HP.out
    exact ⟨av, nv, cv, rfl, e1, ⟨e3.os, e3.tape, e3.output, e3.size, fun k hk => e3.block k hk (by simp [Value.ownBlock])⟩⟩

/-- What do leaves. -/
def DoR (w : World) (kb p pd : Nat) (s : Dk.St) (H : Nat → Prop) (t : List UInt8) (w' : World) : Prop :=
  ∃ H', Wl.LX w' p pd ⟨s.room, (s.push (.app Wl.nmW (Wl.recB 1 (fl true ++ t)))).now, []⟩ H' 1 [fl true ++ t] ∧ (∀ k, H' k → H k ∨ w.heap.size ≤ k) ∧ Dk.Fr (fun k => H k ∨ k = kb) w w'

theorem seven {w : World} {B T : Nat} {a b c d e f g : Value} (h : w.heap[B]? = some (.cells #[a, b, c, d, e, f, g] T (0, 0))) :
    w.cell? ⟨B, 0, none⟩ = some a ∧ w.cell? ⟨B, 1, none⟩ = some b ∧ w.cell? ⟨B, 2, none⟩ = some c ∧ w.cell? ⟨B, 3, none⟩ = some d ∧ w.cell? ⟨B, 4, none⟩ = some e ∧ w.cell? ⟨B, 5, none⟩ = some f ∧ w.cell? ⟨B, 6, none⟩ = some g := by
  refine ⟨?_, ?_, ?_, ?_, ?_, ?_, ?_⟩ <;> rw [cell_of_row w B _ _ T (0, 0) h] <;> rfl
theorem nine {w : World} {B T : Nat} {a b c d e f y6 y7 y8 : Value} (h : w.heap[B]? = some (.cells #[a, b, c, d, e, f, y6, y7, y8] T (0, 0))) :
    w.cell? ⟨B, 0, none⟩ = some a ∧ w.cell? ⟨B, 1, none⟩ = some b ∧ w.cell? ⟨B, 2, none⟩ = some c ∧ w.cell? ⟨B, 3, none⟩ = some d ∧ w.cell? ⟨B, 4, none⟩ = some e ∧ w.cell? ⟨B, 5, none⟩ = some f ∧ w.cell? ⟨B, 6, none⟩ = some y6 ∧ w.cell? ⟨B, 7, none⟩ = some y7 ∧ w.cell? ⟨B, 8, none⟩ = some y8 := by
  refine ⟨?_, ?_, ?_, ?_, ?_, ?_, ?_, ?_, ?_⟩ <;> rw [cell_of_row w B _ _ T (0, 0) h] <;> rfl

theorem fill_do {w W : World} {D : Nat} {N9 : Array Value} {z0 z1 z2 z3 z4 z5 z6 : Value} (hW : Below w.heap.size w W) (h9 : W.heap[w.heap.size]? = some (.cells N9 43 (0, 0))) (hD : W.heap[D]? = some (.cells #[z0, z1, z2, z3, z4, z5, z6] 78 (0, 0))) (hge : w.heap.size ≤ D) (a b c d e f g : Value) :
    Below w.heap.size w (((((((W.setCell ⟨D, 0, none⟩ a).setCell ⟨D, 1, none⟩ b).setCell ⟨D, 2, none⟩ c).setCell ⟨D, 3, none⟩ d).setCell ⟨D, 4, none⟩ e).setCell ⟨D, 5, none⟩ f).setCell ⟨D, 6, none⟩ g) ∧ (((((((W.setCell ⟨D, 0, none⟩ a).setCell ⟨D, 1, none⟩ b).setCell ⟨D, 2, none⟩ c).setCell ⟨D, 3, none⟩ d).setCell ⟨D, 4, none⟩ e).setCell ⟨D, 5, none⟩ f).setCell ⟨D, 6, none⟩ g).heap[w.heap.size]? = some (.cells N9 43 (0, 0)) ∧ (((((((W.setCell ⟨D, 0, none⟩ a).setCell ⟨D, 1, none⟩ b).setCell ⟨D, 2, none⟩ c).setCell ⟨D, 3, none⟩ d).setCell ⟨D, 4, none⟩ e).setCell ⟨D, 5, none⟩ f).setCell ⟨D, 6, none⟩ g).heap[D]? = some (.cells #[a, b, c, d, e, f, g] 78 (0, 0)) ∧ w.heap.size ≤ D := by
  have hne : w.heap.size ≠ D := by
    rintro e
    rw [← e, h9] at hD
    simp at hD
  obtain ⟨f1, f2⟩ := fill7 hD a b c d e f g
  refine ⟨hW.trans (f2 _ hge), ?_, f1, hge⟩
  rw [Below.heap_setCell _ _ _ _ hne, Below.heap_setCell _ _ _ _ hne, Below.heap_setCell _ _ _ _ hne, Below.heap_setCell _ _ _ _ hne, Below.heap_setCell _ _ _ _ hne, Below.heap_setCell _ _ _ _ hne, Below.heap_setCell _ _ _ _ hne]
  exact h9
theorem cell_alloc {w : World} {a : Addr} {v : Value} (h : w.cell? a = some v) : ∀ o, (w.alloc o).cell? a = some v := fun o => (World.cell?_of_block (((Below.refl w.heap.size w).alloc (Nat.le_refl _) o).block a.block (World.block_lt_of_cell? w a h))).trans h

set_option maxHeartbeats 4000000 in
theorem do_first {w : World} {kb p pd : Nat} {s : Dk.St} {H : Nat → Prop} (h : Wl.LX w p pd s H 0 []) (ht : Fr.Tab w) (hb : KwB w kb p (.int .i64 0) (.int .i64 0) (.int .i64 0) (.int .i64 0) (.slice none 0 0) (.slice none 0 0) (.slice none 0 0) 0) (hk : ¬ H kb)
    (r : Rdy) (s' : St) (hs : st0.after r = some s') (y6 y7 y8 : Value) (ae : Option Addr) (le ce : Nat) (hE : Es w (.slice ae le ce) r.ents) (hsn : r.snap = none) (hsv : r.saved = true) (ho : r.ok) (hrz : rsz r ≤ 140737488355328) (hl : (encR false r).length ≤ 32767)
    (hln : r.ents.length ≤ 1000000000) (hd : ∀ e ∈ r.ents, e.data.length ≤ 140737488355328) (hlong : r.long = false)
    (hr : (Dk.used s.now : Int) + (Wl.recB 1 (fl true ++ encR false r)).length ≤ s.room) (hf : (Dk.look Wl.nmW s.now).isSome = true ∨ s.now.length < 64) (hms : s.mass + 40000 ≤ 1000000000) (hms2 : (s.push (.app Wl.nmW (Wl.recB 1 (fl true ++ encR false r)))).mass ≤ 1000000) :
    Calls Tryz.prog 35 #[.pointer (some ⟨kb, 0, none⟩), .agg #[.int .i64 r.term, .int .i64 r.vote, .bool r.saved, .int .i64 r.first, .slice ae le ce, .pointer none, y6, y7, y8]] w fun e w' =>
      e = .returned (.int .i64 0) ∧ Hid (DoR w kb p pd s H (encR false r) w') := by
  obtain ⟨rt, rv, rs, rf, re, rn⟩ := r
  dsimp only at *
  subst hsv hsn
  have hk9 := hb.lt
  have HT := hide ht
  have HAF : Hid (∀ W, Below w.heap.size w W → Calls Tryz.prog 54 #[.agg #[.int .i64 0, .int .i64 0, .int .i64 0, .int .i64 0, .slice none 0 0, .slice none 0 0, .slice none 0 0], .agg #[.int .i64 rt, .int .i64 rv, .bool true, .int .i64 rf, .slice ae le ce, .pointer none, y6, y7, y8]] W fun x w' =>
      ∃ av nv cv, x = .returned (.tuple #[.agg #[.int .i64 s'.term, .int .i64 s'.vote, .int .i64 0, .int .i64 0, .slice none 0 0, .slice none 0 0, .slice av nv cv], .bool true]) ∧ Hid (Er W.heap.size w' (.slice av nv cv) s'.ents ∧ Below W.heap.size W w')) := fun W hW => after_zero ⟨rt, rv, true, rf, re, none⟩ s' hs y6 y7 y8 ae le ce (hE.below hW) rfl ho hln hd
  have HTL : Hid (∀ W, Below w.heap.size w W → Calls Tryz.prog 55 #[.agg #[.int .i64 rt, .int .i64 rv, .bool true, .int .i64 rf, .slice ae le ce, .pointer none, y6, y7, y8]] W fun x w' => x = .returned (.bool false) ∧ Below W.heap.size W w') := fun W hW => by
    have h1 := tooLong_any ⟨rt, rv, true, rf, re, none⟩ y6 y7 y8 none (.slice ae le ce) W (hE.below hW) rfl
    rw [hlong] at h1
    exact h1
  have HKB := hide hb
  have HX := hide h
  obtain ⟨t, HTT⟩ : ∃ t, Hid (encR false ⟨rt, rv, true, rf, re, none⟩ = t) := ⟨_, (rfl : _ = _)⟩
  have HWR : Hid (∀ (W : World) (d0 d1 d2 d3 d4 d5 d6 : Value), Below w.heap.size w W → Calls Tryz.prog 56 #[.pointer (some ⟨kb, 0, none⟩), .agg #[.int .i64 rt, .int .i64 rv, .bool true, .int .i64 rf, .slice ae le ce, .pointer none, y6, y7, y8], .agg #[d0, d1, d2, d3, d4, d5, d6]] W fun e w' => e = .returned (.int .i64 0) ∧ Hid (WrR W kb p pd s H t (.int .i64 0) (.int .i64 0) (.int .i64 0) (.int .i64 0) (.slice none 0 0) (.slice none 0 0) (.slice none 0 0) w')) := fun W d0 d1 d2 d3 d4 d5 d6 hW => by
    rw [← HTT.out]
    exact write_first (HX.out.below hW) (HT.out.below hW) (HKB.out.below hW) hk ⟨rt, rv, true, rf, re, none⟩ y6 y7 y8 ae le ce (hE.below hW) rfl ho hrz hl hr hf hms d0 d1 d2 d3 d4 d5 d6
  have HMS : Hid ((s.push (.app Wl.nmW (Wl.recB 1 (fl true ++ t)))).mass ≤ 1000000) := by rw [← HTT.out]; exact hms2
  rw [HTT.out]
  have HB1 : Hid (Below w.heap.size w (w.alloc (.cells #[.int .i64 rt, .int .i64 rv, .bool true, .int .i64 rf, .slice ae le ce, .pointer none, y6, y7, y8] 43))) := (Below.refl _ w).alloc (Nat.le_refl _) _
  have HB9 : Hid ((w.alloc (.cells #[.int .i64 rt, .int .i64 rv, .bool true, .int .i64 rf, .slice ae le ce, .pointer none, y6, y7, y8] 43)).heap[w.heap.size]? = some (.cells #[.int .i64 rt, .int .i64 rv, .bool true, .int .i64 rf, .slice ae le ce, .pointer none, y6, y7, y8] 43 (0, 0))) := heap_alloc_new _ _
  have HS1 : Hid ((w.alloc (.cells #[.int .i64 rt, .int .i64 rv, .bool true, .int .i64 rf, .slice ae le ce, .pointer none, y6, y7, y8] 43)).heap.size = w.heap.size + 1) := by show _ = _; simp
  clear hr hf hms hms2 hs hE hd hlong hrz hl hln ho HTT
  go_enter Tryz.func35, Tryz.ntmps35
  go_upto_region 1 with fail
  generalize w.alloc (.cells #[.int .i64 rt, .int .i64 rv, .bool true, .int .i64 rf, .slice ae le ce, .pointer none, y6, y7, y8] 43) = w1 at *
  obtain ⟨k0, k1, k2, k3, k4, k5, k6, k7, k8⟩ := nine (HKB.out.below HB1.out)
  obtain ⟨n0, n1, n2, n3, n4, n5, n6, n7, n8⟩ := nine HB9.out
  have ka0 := cell_alloc k0
  have ka1 := cell_alloc k1
  have ka2 := cell_alloc k2
  have ka3 := cell_alloc k3
  have ka4 := cell_alloc k4
  have ka5 := cell_alloc k5
  have ka6 := cell_alloc k6
  have ka7 := cell_alloc k7
  have ka8 := cell_alloc k8
  have na0 := cell_alloc n0
  have na1 := cell_alloc n1
  have na2 := cell_alloc n2
  have na3 := cell_alloc n3
  have na4 := cell_alloc n4
  have na5 := cell_alloc n5
  have na6 := cell_alloc n6
  have na7 := cell_alloc n7
  have na8 := cell_alloc n8
  have X1 : Below w.heap.size w w1.drew := HB1.out.drew
  have X2 : Below w.heap.size w (w1.alloc (.cells #[.int .i64 0, .int .i64 0, .int .i64 0, .int .i64 0, .slice none 0 0, .slice none 0 0, .slice none 0 0] 78)).drew := (HB1.out.alloc HB1.out.size _).drew
  go_cut [5, 6] from 8 to 16 (fun v5 v6 wc => ∃ q av nv cv, v5 = .pointer (some ⟨q, 0, none⟩) ∧ v6 = .bool true ∧ Hid (Below w.heap.size w wc ∧ wc.heap[w.heap.size]? = some (.cells #[.int .i64 rt, .int .i64 rv, .bool true, .int .i64 rf, .slice ae le ce, .pointer none, y6, y7, y8] 43 (0, 0)) ∧ wc.heap[q]? = some (.cells #[.int .i64 s'.term, .int .i64 s'.vote, .int .i64 0, .int .i64 0, .slice none 0 0, .slice none 0 0, .slice av nv cv] 78 (0, 0)) ∧ w.heap.size ≤ q))
  case first =>
    refine wp_region_noPanic ?_
    go_region_with (first
      | (go_at_call 54; (with_reducible refine Calls.mono (HAF.out w1.drew X1) ?_); rintro x w2 ⟨av, nv, cv, rfl, HP2⟩)
      | (go_at_call 54; (with_reducible refine Calls.mono (HAF.out (w1.alloc (.cells #[.int .i64 0, .int .i64 0, .int .i64 0, .int .i64 0, .slice none 0 0, .slice none 0 0, .slice none 0 0] 78)).drew X2) ?_); rintro x w2 ⟨av, nv, cv, rfl, HP2⟩; have hz : w2.heap[w1.heap.size]? = some (.cells #[.int .i64 0, .int .i64 0, .int .i64 0, .int .i64 0, .slice none 0 0, .slice none 0 0, .slice none 0 0] 78 (0, 0)) := (HP2.out.2.block w1.heap.size (by show w1.heap.size < (w1.alloc (.cells #[.int .i64 0, .int .i64 0, .int .i64 0, .int .i64 0, .slice none 0 0, .slice none 0 0, .slice none 0 0] 78)).heap.size; simp)).trans (heap_alloc_new w1 (.cells #[.int .i64 0, .int .i64 0, .int .i64 0, .int .i64 0, .slice none 0 0, .slice none 0 0, .slice none 0 0] 78)); have hfz := frozen_of_row w2 w1.heap.size; have z0 := (seven hz).1; have z1 := (seven hz).2.1; have z2 := (seven hz).2.2.1; have z3 := (seven hz).2.2.2.1; have z4 := (seven hz).2.2.2.2.1; have z5 := (seven hz).2.2.2.2.2.1; have z6 := (seven hz).2.2.2.2.2.2; have zz := fun i => frozen_of_row w2 w1.heap.size i _ _ hz))
    all_goals
      refine NoPanic.normal ?_
      go_wp2_with fail
      go_meet
      first
        | (have hz' := hz
           have HF := hide (fill_do (W := w2) (D := w1.heap.size) (X2.trans (HP2.out.2.mono X2.size)) ((HP2.out.2.block w.heap.size (by have h2 := HS1.out; show w.heap.size < (w1.alloc (.cells #[.int .i64 0, .int .i64 0, .int .i64 0, .int .i64 0, .slice none 0 0, .slice none 0 0, .slice none 0 0] 78)).heap.size; simp; omega)).trans ((((Below.refl w1.heap.size w1).alloc (Nat.le_refl _) (.cells #[.int .i64 0, .int .i64 0, .int .i64 0, .int .i64 0, .slice none 0 0, .slice none 0 0, .slice none 0 0] 78)).block w.heap.size (by have h2 := HS1.out; omega)).trans HB9.out)) hz' (by have h2 := HS1.out; omega) (.int .i64 s'.term) (.int .i64 s'.vote) (.int .i64 0) (.int .i64 0) (.slice none 0 0) (.slice none 0 0) (.slice av nv cv))
           exact ⟨w1.heap.size, av, nv, cv, rfl, rfl, HF⟩)
        | (have hx1 : w1.drew.heap.size = w1.heap.size := rfl
           have hs2 := HP2.out.2.size
           have hb2 := X1.trans (HP2.out.2.mono X1.size)
           have h9 := (HP2.out.2.block w.heap.size (by have h2 := HS1.out; omega)).trans HB9.out
           exact ⟨w2.heap.size, av, nv, cv, rfl, rfl, hb2.alloc hb2.size _, (((Below.refl w2.heap.size w2).alloc (Nat.le_refl _) _).block w.heap.size (lt_of_block h9)).trans h9, heap_alloc_new _ _, hb2.size⟩)
  case rest =>
    obtain ⟨q, av, nv, cv, rfl, rfl, HQ⟩ := hcut
    clear k0 k1 k2 k3 k4 k5 k6 k7 k8 n0 n1 n2 n3 n4 n5 n6 n7 n8 ka0 ka1 ka2 ka3 ka4 ka5 ka6 ka7 ka8 na0 na1 na2 na3 na4 na5 na6 na7 na8 X1 X2
    obtain ⟨m0, m1, m2, m3, m4, m5, m6, m7, m8⟩ := nine HQ.out.2.1
    have HTL2 := hide (HTL.out wc HQ.out.1)
    clear HTL HAF
    go_wp2_with fail
    refine Calls.mono HTL2.out ?_
    rintro x w4 ⟨rfl, hb4⟩
    have HB4 := hide (HQ.out.1.trans (hb4.mono HQ.out.1.size))
    have H94 := hide ((hb4.block w.heap.size (lt_of_block HQ.out.2.1)).trans HQ.out.2.1)
    have H74 := hide ((hb4.block q (lt_of_block HQ.out.2.2.1)).trans HQ.out.2.2.1)
    obtain ⟨p0, p1, p2, p3, p4, p5, p6, p7, p8⟩ := nine H94.out
    obtain ⟨o0, o1, o2, o3, o4, o5, o6⟩ := seven H74.out
    have HW4 := hide (HWR.out w4 (.int .i64 s'.term) (.int .i64 s'.vote) (.int .i64 0) (.int .i64 0) (.slice none 0 0) (.slice none 0 0) (.slice av nv cv) HB4.out)
    clear hb4 HTL2 m0 m1 m2 m3 m4 m5 m6 m7 m8 HWR
    have hlt := HX.out.lt
    have HQL := hide (lt_of_block H74.out)
    have HQG := hide HQ.out.2.2.2
    clear HQ
    go_wp2_with fail
    refine Calls.mono HW4.out ?_
    rintro x w5 ⟨rfl, HR5⟩
    obtain ⟨H', z, hX5, hH5, hF5, hK5⟩ := HR5.out
    have hkb4 : kb < w4.heap.size := Nat.lt_of_lt_of_le hk9 HB4.out.size
    have hnk : ¬ H' kb := fun hh => by
      rcases hH5 kb hh with h1 | h1
      · exact hk h1
      · omega
    have hnq : ¬ H q := fun hh => by have := hlt q hh; have := HQG.out; omega
    have hnq' : ¬ H' q := fun hh => by
      rcases hH5 q hh with h1 | h1
      · exact hnq h1
      · have := HQL.out; omega
    have H75 := hide ((hF5.block q HQL.out (fun hh => by
      rcases hh with h1 | h1
      · exact hnq h1
      · have := HQG.out; omega)).trans H74.out)
    have c57 := hK5.c 7
    simp at c57
    have HSY : Hid (Calls Tryz.prog 57 #[.pointer (some ⟨p, 0, none⟩)] w5 fun e w6 => e = .returned (.tuple #[]) ∧ w6.heap[q]? = some (.cells #[.int .i64 s'.term, .int .i64 s'.vote, .int .i64 0, .int .i64 0, .slice none 0 0, .slice none 0 0, .slice av nv cv] 78 (0, 0)) ∧ KwB w6 kb p (.int .i64 0) (.int .i64 0) (.int .i64 0) (.int .i64 0) (.slice none 0 0) (.slice none 0 0) (.slice none 0 0) z ∧ Hid (∀ a b c d e f g, DoR w kb p pd s H t (((((((w6.setCell ⟨kb, 0, none⟩ a).setCell ⟨kb, 1, none⟩ b).setCell ⟨kb, 2, none⟩ c).setCell ⟨kb, 3, none⟩ d).setCell ⟨kb, 4, none⟩ e).setCell ⟨kb, 5, none⟩ f).setCell ⟨kb, 6, none⟩ g))) := by
      refine (hX5.sync HMS.out).mono ?_
      rintro e w6 ⟨rfl, HP⟩
      obtain ⟨hX6, hF6⟩ := HP.out
      have hs45 := hF5.size
      have hs56 := hF6.size
      have hs4 := HB4.out.size
      refine ⟨rfl, (hF6.block q (lt_of_block H75.out) hnq').trans H75.out, hK5.fr hF6 hnk, fun a b c d e f g => ⟨Dk.ext H' w5 w6, ?_, fun k hk2 => ?_, ?_⟩⟩
      · refine hX6.kept (K := fun k => k = kb) (Dk.Fr.setCell (p := ⟨kb, 6, none⟩) (Dk.Fr.setCell (p := ⟨kb, 5, none⟩) (Dk.Fr.setCell (p := ⟨kb, 4, none⟩) (Dk.Fr.setCell (p := ⟨kb, 3, none⟩) (Dk.Fr.setCell (p := ⟨kb, 2, none⟩) (Dk.Fr.setCell (p := ⟨kb, 1, none⟩) (Dk.Fr.setCell (p := ⟨kb, 0, none⟩) (Dk.Fr.refl (fun k => k = kb) w6) (fun _ => rfl) a) (fun _ => rfl) b) (fun _ => rfl) c) (fun _ => rfl) d) (fun _ => rfl) e) (fun _ => rfl) f) (fun _ => rfl) g) (fun k hk2 e => ?_)
        subst e
        rcases hk2 with h1 | h1
        · exact hnk h1
        · omega
      · rcases hk2 with h1 | h1
        · rcases hH5 k h1 with h2 | h2
          · exact Or.inl h2
          · exact Or.inr (by omega)
        · exact Or.inr (by omega)
      · have hF : Dk.Fr (fun k => H k ∨ k = kb) w w6 := ((Dk.Fr.of_below (F := fun k => H k ∨ k = kb) HB4.out).trans hF5 (fun k _ h => h)).trans hF6 (fun k hk1 hk2 => by
          rcases hH5 k hk2 with h2 | h2
          · exact Or.inl h2
          · omega)
        exact Dk.Fr.setCell (p := ⟨kb, 6, none⟩) (Dk.Fr.setCell (p := ⟨kb, 5, none⟩) (Dk.Fr.setCell (p := ⟨kb, 4, none⟩) (Dk.Fr.setCell (p := ⟨kb, 3, none⟩) (Dk.Fr.setCell (p := ⟨kb, 2, none⟩) (Dk.Fr.setCell (p := ⟨kb, 1, none⟩) (Dk.Fr.setCell (p := ⟨kb, 0, none⟩) hF (fun _ => Or.inr rfl) a) (fun _ => Or.inr rfl) b) (fun _ => Or.inr rfl) c) (fun _ => Or.inr rfl) d) (fun _ => Or.inr rfl) e) (fun _ => Or.inr rfl) f) (fun _ => Or.inr rfl) g
    clear HR5 hX5 hH5 hF5 hK5 H75 hnk hnq hnq' HW4 H74 H94 HB4 p0 p1 p2 p3 p4 p5 p6 p7 p8 o0 o1 o2 o3 o4 o5 o6 hlt HQL HQG
    go_wp2_with fail
    refine Calls.mono HSY.out ?_
    rintro x w6 ⟨rfl, h76, hK6, HD6⟩
    obtain ⟨o0, o1, o2, o3, o4, o5, o6⟩ := seven h76
    obtain ⟨k0, k1, k2, k3, k4, k5, k6, -, -⟩ := nine hK6
    have ff := hK6.f
    clear HSY h76 hK6
    go_wp2_with fail
    go_ret
    exact ⟨rfl, HD6.out _ _ _ _ _ _ _⟩

end Go.Proofs.YtjndgekpdmlbiaaGreatDoor.Kp
namespace Go.Proofs.YtjndgekpdmlbiaaGreatDoor.Wl
open Go.RowKit Dk
/-- What is asked of a log's disk: at most N records, its file at most B bytes. -/
structure Gk (s : St) (first : Int) (ds : List (List UInt8)) (N B M : Nat) : Prop where
  now : nowF s.now first ds
  mass : s.mass ≤ M
  small : ∀ d ∈ ds, d.length ≤ 32768
  len : ds.length ≤ N
  file : (fileB first ds).length ≤ B
  fit : 0 ≤ first ∧ first + ds.length ≤ 4611686018427387904
theorem Gk.mono {s : St} {first : Int} {ds : List (List UInt8)} {N B M N' B' M' : Nat} (h : Gk s first ds N B M) (h1 : N ≤ N') (h2 : B ≤ B') (h3 : M ≤ M') : Gk s first ds N' B' M' := ⟨h.now, Nat.le_trans h.mass h3, h.small, Nat.le_trans h.len h1, Nat.le_trans h.file h2, h.fit⟩
theorem fileB_app_le {first : Int} {ds : List (List UInt8)} {n : Int} {b : List UInt8} (hm : mayL first ds n = true) : (fileB (if ds.length = 0 then n else first) (ds ++ [b])).length = (fileB first ds).length + (recB n b).length := by
  have h1 : nowF [⟨nmW, fileB first ds⟩] first ds := Or.inr rfl
  have h2 := (h1.app n b hm).used
  rw [← h2]
  simp [ap, Dk.look, Dk.del, Dk.ins, Dk.used]
theorem Gk.app {s : St} {first : Int} {ds : List (List UInt8)} {N B M : Nat} (h : Gk s first ds N B M) (n : Int) (b : List UInt8) (hm : mayL first ds n = true) (hn : n ≤ 4611686018427387000) (hl : b.length ≤ 32768) : Gk (s.push (.app nmW (recB n b))) (if ds.length = 0 then n else first) (ds ++ [b]) (N + 1) (B + (b.length + 28)) (M + (b.length + 30)) := by
  obtain ⟨m1, m2⟩ : 1 ≤ n ∧ (ds.length = 0 ∨ n - 1 = (if ds.length = 0 then 0 else first + ds.length - 1)) := by simpa [mayL] using hm
  have hrs := recB_size n b ⟨by omega, by omega⟩ (by omega)
  have h1 := h.mass
  have h2 := h.len
  have h3 := h.fit
  have hfb := fileB_app_le (b := b) hm
  have hfl := h.file
  refine ⟨by rw [St.push_now]; exact h.now.app n b hm, by rw [St.push_mass]; simp only [Ch.mass]; omega, fun d hd => ?_, by rw [List.length_append, List.length_singleton]; omega, by rw [hfb]; omega, ?_⟩
  · rcases List.mem_append.1 hd with hd | hd
    · exact h.small d hd
    · rw [List.mem_singleton] at hd
      rw [hd]
      exact hl
  · rw [List.length_append, List.length_singleton]
    split
    · rename_i hz
      rw [hz]
      exact ⟨by omega, by omega⟩
    · rename_i hz
      rw [if_neg hz] at m2
      rcases m2 with m2 | m2
      · exact absurd m2 hz
      · exact ⟨h3.1, by omega⟩
theorem Gk.from {s : St} {first : Int} {ds : List (List UInt8)} {N B M : Nat} (h : Gk s first ds N B M) (k : Nat) (hk : k ≤ ds.length) (hz : ds = [] → first = 0) : Gk (fromS s first ds k) (if k = 0 then 0 else first) (ds.take k) N B (M + 1) := by
  have h1 := h.mass
  have h2 := h.len
  have h3 := h.fit
  have hlen : (ds.take k).length ≤ N := by rw [List.length_take]; omega
  have hsm : ∀ d ∈ ds.take k, d.length ≤ 32768 := fun d hd => h.small d (List.mem_of_mem_take hd)
  have hfit : 0 ≤ (if k = 0 then 0 else first) ∧ (if k = 0 then 0 else first) + (ds.take k).length ≤ 4611686018427387904 := by
    rw [List.length_take]
    split <;> constructor <;> omega
  have hfile : (fileB (if k = 0 then 0 else first) (ds.take k)).length ≤ B := by
    have h5 := fileB_take_le first ds k
    have h6 := h.file
    by_cases hz0 : k = 0
    · rw [hz0, List.take_zero]; simp [fileB]
    · rw [if_neg hz0]; omega
  unfold fromS
  by_cases he : k = ds.length
  · rw [if_pos he]
    have hf : (if k = 0 then 0 else first) = first := by
      split
      · exact (hz (List.eq_nil_of_length_eq_zero (by omega))).symm
      · rfl
    rw [hf] at hfit hfile ⊢
    exact ⟨by rw [List.take_of_length_le (by omega)]; exact h.now, by omega, hsm, hlen, hfile, hfit⟩
  · rw [if_neg he]
    exact ⟨by rw [St.push_now]; exact h.now.cut k (by omega), by rw [St.push_mass]; simp only [Ch.mass]; omega, hsm, hlen, hfile, hfit⟩
theorem Gk.until {s : St} {first : Int} {ds : List (List UInt8)} {N B M : Nat} (h : Gk s first ds N B M) (k : Nat) (hk : k ≤ ds.length) (hz : ds = [] → first = 0) : Gk (untilS s first ds k) (if k = ds.length then 0 else first + k) (ds.drop k) N B (M + (B + 3)) := by
  have h1 := h.mass
  have h2 := h.len
  have h3 := h.fit
  have hlen : (ds.drop k).length ≤ N := by rw [List.length_drop]; omega
  have hsm : ∀ d ∈ ds.drop k, d.length ≤ 32768 := fun d hd => h.small d (List.mem_of_mem_drop hd)
  have hfit : 0 ≤ (if k = ds.length then 0 else first + k) ∧ (if k = ds.length then 0 else first + k) + (ds.drop k).length ≤ 4611686018427387904 := by
    rw [List.length_drop]
    split <;> constructor <;> omega
  have hfile : (fileB (if k = ds.length then 0 else first + k) (ds.drop k)).length ≤ B := by
    have h6 := h.file
    by_cases hz0 : k = ds.length
    · rw [List.drop_of_length_le (by omega)]; simp [fileB]
    · have hsp := congrArg List.length (fileB_split first ds k hk)
      rw [List.length_append] at hsp
      rw [if_neg hz0]; omega
  unfold untilS
  by_cases h0 : k = 0
  · rw [if_pos h0]
    have hf : (if k = ds.length then 0 else first + k) = first := by
      split
      · exact (hz (List.eq_nil_of_length_eq_zero (by omega))).symm
      · rw [h0]; simp
    rw [hf] at hfit hfile ⊢
    exact ⟨by rw [h0, List.drop_zero]; exact h.now, by omega, hsm, hlen, hfile, hfit⟩
  · rw [if_neg h0]
    have hne : ds ≠ [] := fun e => by rw [e] at hk; simp at hk; omega
    by_cases he : k = ds.length
    · rw [if_pos he, if_pos he]
      rw [if_pos he] at hfit hfile
      refine ⟨?_, by rw [St.push_mass]; simp only [Ch.mass]; omega, hsm, hlen, hfile, hfit⟩
      rw [St.push_now, List.drop_of_length_le (by omega)]
      exact h.now.cut0 hne
    · rw [if_neg he, if_neg he]
      rw [if_neg he] at hfit hfile
      have hfl := h.file
      have hsp := congrArg List.length (fileB_split first ds k hk)
      rw [List.length_append] at hsp
      refine ⟨?_, by rw [St.push_mass, St.push_mass]; simp only [Ch.mass]; omega, hsm, hlen, hfile, hfit⟩
      right
      rw [St.push_now, St.push_now]
      rcases h.now with ⟨_, e⟩ | e
      · exact absurd e hne
      · rw [e, ap_copy, ap_move]
theorem Gk.sync {s : St} {first : Int} {ds : List (List UInt8)} {N B M : Nat} (h : Gk s first ds N B M) : Gk ⟨s.room, s.now, []⟩ first ds N B (B + 1) := by
  have h1 := h.now.mass
  have h2 := h.file
  refine ⟨h.now, ?_, h.small, h.len, h.file, h.fit⟩
  simp only [St.mass, wmass]
  simp
  omega
theorem LX.fromK {w : World} {p pd : Nat} {s : St} {H : Nat → Prop} {first : Int} {ds : List (List UInt8)} {N B M : Nat} (h : LX w p pd s H first ds) (hG : Gk s first ds N B M) (hN : N ≤ 1000) (hM : M ≤ 900000) (n : Int) (k : Nat) (h1 : 1 ≤ n) (hn : n ≤ 9223372036854775807) (hk : cnt first ds (n - 1) = k) :
    Calls Tryz.prog 49 #[.pointer (some ⟨p, 0, none⟩), .int .i64 n] w fun e w' => e = .returned (.int .i64 0) ∧ Hid (LX w' p pd (fromS s first ds k) (ext H w w') (if k = 0 then 0 else first) (ds.take k) ∧ Dk.Fr H w w') := by
  have hkl := cnt_le first ds (n - 1) (by omega)
  have hdl := hG.len
  have hms := hG.mass
  rw [hk] at hkl
  obtain ⟨F0, hW0, _⟩ := h.lw
  by_cases he : k = ds.length
  · refine (from_same _ p pd s _ first ds n w hW0 h1 hn (by rw [hk, he])).mono ?_
    rintro e w' ⟨rfl, m, rfl⟩
    have hf : (if k = 0 then 0 else first) = first := by
      split
      · exact (h.zero (List.eq_nil_of_length_eq_zero (by omega))).symm
      · rfl
    rw [hf, List.take_of_length_le (by omega), fromS, if_pos he]
    exact ⟨rfl, (h.drew m).wide, Fr.of_below (below_drew w m)⟩
  · have hne : ds ≠ [] := fun e => by rw [e] at hkl he; simp at hkl he; omega
    obtain ⟨F, vr, rs, G, d1, d2, rfl, d4, d5, d6, d7, d8, d9⟩ := h
    have hW : LW w 0 p pd s F first (rs.map Re.data) := ⟨d1, ⟨vr, rs, G, d2, rfl, fun k hk => ⟨d4 k hk, Nat.zero_le _⟩⟩, d5, Nat.zero_le _⟩
    obtain ⟨ao, cap, c2⟩ := hW.cell2
    have hlook := hG.now.look hne
    refine from_gen p pd n k (rs.map Re.data).length (fileB first ((rs.map Re.data).take k)).length ao cap w _ h1 hn he ?_ hW.cell0 c2 (fun m => ((hW.drew m).drew 1).endOf k (by omega) (by omega)) (fun m => ?_)
    · have hcc := count_any 0 p pd s F first (rs.map Re.data) (n - 1) w hW (by omega) (by omega)
      rw [hk] at hcc
      exact hcc
    · have hbd : Below w.heap.size w (w.drewN m).drew := ⟨rfl, rfl, rfl, Nat.le_refl _, fun _ _ => rfl⟩
      refine (cut_ok pd s F nmW _ ⟨nmW, fileB first (rs.map Re.data)⟩ (w.drewN m).drew (d1.below hbd) hlook (fileB_take_le first _ k) (by omega)).mono ?_
      rintro e w3 ⟨rfl, hD3, hf3⟩
      have hfw : Dk.Fr F w w3 := (Fr.of_below hbd).trans hf3 (fun _ _ h => h)
      have hL3 := d2.kept hfw (fun k hk hF => d4 k hk hF) d5
      refine ⟨rfl, hL3.cells.1, ?_⟩
      have hrl : (rs.map Re.data).length = rs.length := List.length_map _
      refine (dropBack_any p pd first vr rs G k w3 hL3 (by omega) (by omega)).mono ?_
      rintro e w' ⟨rfl, ⟨vr', hL⟩, hf⟩
      refine ⟨rfl, ?_⟩
      have hgo := LX.go d2 d4 d5 d6 d7 d8 d9 hD3 (fun k hk => by rcases hk with hk | hk; exact Or.inl hk; exact Or.inr hk.1) hfw hL hf
      rw [List.map_take] at hgo
      rw [fromS, if_neg he]
      exact hgo
theorem LX.untilK {w : World} {p pd : Nat} {s : St} {H : Nat → Prop} {first : Int} {ds : List (List UInt8)} {N B M : Nat} (h : LX w p pd s H first ds) (hG : Gk s first ds N B M) (ht : Fr.Tab w) (hN : N ≤ 1000) (hM : M ≤ 900000) (hB : B ≤ 900000) (hroom : 2 * (B : Int) ≤ s.room) (n : Int) (k : Nat) (h1 : 1 ≤ n) (hn : n ≤ 9223372036854775806) (hk : cnt first ds n = k) :
    Calls Tryz.prog 87 #[.pointer (some ⟨p, 0, none⟩), .int .i64 n] w fun e w' => e = .returned (.int .i64 0) ∧ Hid (LX w' p pd (untilS s first ds k) (ext H w w') (if k = ds.length then 0 else first + k) (ds.drop k) ∧ Dk.Fr H w w') := by
  have hkl := cnt_le first ds n (by omega)
  have hdl := hG.len
  have hms := hG.mass
  have hfl := hG.file
  have hfi := hG.fit
  rw [hk] at hkl
  obtain ⟨F0, hW0, _⟩ := h.lw
  by_cases h0 : k = 0
  · refine (until_same _ p pd s _ first ds n w hW0 h1 hn (by rw [hk, h0])).mono ?_
    rintro e w' ⟨rfl, m, rfl⟩
    have hf : (if k = ds.length then 0 else first + k) = first := by
      split
      · exact (h.zero (List.eq_nil_of_length_eq_zero (by omega))).symm
      · rw [h0]; simp
    rw [hf, h0, List.drop_zero, untilS, if_pos rfl]
    exact ⟨rfl, (h.drew m).wide, Fr.of_below (below_drew w m)⟩
  · have hne : ds ≠ [] := fun e => by rw [e] at hkl; simp at hkl; omega
    obtain ⟨F, vr, rs, G, d1, d2, rfl, d4, d5, d6, d7, d8, d9⟩ := h
    have hW : LW w 0 p pd s F first (rs.map Re.data) := ⟨d1, ⟨vr, rs, G, d2, rfl, fun k hk => ⟨d4 k hk, Nat.zero_le _⟩⟩, d5, Nat.zero_le _⟩
    have hlook := hG.now.look hne
    have hcc := count_any 0 p pd s F first (rs.map Re.data) n w hW (by omega) (by omega)
    rw [hk] at hcc
    have hrl : (rs.map Re.data).length = rs.length := List.length_map _
    refine until_gen p n k w _ h1 (by omega) hcc (fun m => ?_)
    have HK : Calls Tryz.prog 111 #[.pointer (some ⟨p, 0, none⟩), .int .i64 (k : Int)] (w.drewN m) fun e w' => e = .returned (.int .i64 0) ∧ Hid (∃ F', LW w' 0 p pd (untilS s first (rs.map Re.data) k) F' first (rs.map Re.data) ∧ (∀ j, F' j → F j ∨ (w.drewN m).heap.size ≤ j) ∧ Dk.Fr F (w.drewN m) w') := by
      unfold untilS
      rw [if_neg h0]
      by_cases he : k = (rs.map Re.data).length
      · rw [if_pos he, he]
        exact cutFront_all 0 p pd s F first (rs.map Re.data) _ _ (hW.drew m) hlook (by omega)
      · rw [if_neg he]
        have hsp := congrArg List.length (fileB_split first (rs.map Re.data) k hkl)
        rw [List.length_append] at hsp
        have hnl := hG.now.len
        have hu := hG.now.used
        exact cutFront_some 0 p pd s F first (rs.map Re.data) k _ (hW.drew m) (ht.drew m) (by omega) (by omega) (fun d hd => by have := hG.small d hd; omega) (by omega) (by omega) (by rw [hu]; omega) (Or.inr (by omega)) (by omega)
    refine HK.mono ?_
    rintro e w3 ⟨rfl, F', hW3, hF', hf3⟩
    have hfw : Dk.Fr F w w3 := (Fr.of_below (below_drew w m)).trans hf3 (fun _ _ h => h)
    have hL3 := d2.kept hfw (fun k hk hF => d4 k hk hF) d5
    refine ⟨rfl, ?_⟩
    refine (dropFront_any p pd first vr rs G k w3 hL3 (by omega) (by omega) (by omega) (by omega) (by omega)).mono ?_
    rintro e w' ⟨rfl, ⟨vr', rs', hL, hrd⟩, hf⟩
    refine ⟨rfl, ?_⟩
    have hgo := LX.go d2 d4 d5 d6 d7 d8 d9 hW3.dk hF' hfw hL hf
    rw [hrd] at hgo
    rw [hrl]
    exact hgo
end Go.Proofs.YtjndgekpdmlbiaaGreatDoor.Wl
