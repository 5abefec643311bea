/- The walk of Open; a log over its disk. -/
import Derived.Test.YtnbdkojdddplkaaDoorWlLoad2
import Derived.Test.YtnbdkojdddplkaaDoorWlStray
namespace Go.Proofs.YtnbdkojdddplkaaDoor.Wl
open Go.RowKit Dk

/-- A log over its disk, its memory's blocks from B on. -/
structure LW (w : World) (B p pd : Nat) (s : St) (F : Nat → Prop) (first : Int) (ds : List (List UInt8)) : Prop where
  dk : Dk w pd s F
  lg : ∃ vr rs G, Lg w p pd first vr rs G ∧ rs.map Re.data = ds ∧ (∀ k, G k → ¬ F k ∧ B ≤ k)
  np : ¬ F p
  new : B ≤ p
theorem LW.below {w w' : World} {B p pd : Nat} {s : St} {F : Nat → Prop} {first : Int} {ds : List (List UInt8)} (h : LW w B p pd s F first ds) (hb : Below w.heap.size w w') : LW w' B p pd s F first ds := by
  obtain ⟨h1, ⟨vr, rs, G, h2, h3, h4⟩, h5, h6⟩ := h
  exact ⟨h1.below hb, ⟨vr, rs, G, h2.below hb, h3, h4⟩, h5, h6⟩
theorem tab_kept {w w' : World} {F : Nat → Prop} (h : Fr.Tab w) (hf : Dk.Fr F w w') (h0 : ¬ F 0) : Fr.Tab w' := fun i hi => hf.cell (h i hi) h0

/-- What opening a log leaves of its disk. -/
def openS (s : St) : St :=
  if (fileB (loadR (Fr.scanL (fileOf s nmW)).1 0 []).1 (loadR (Fr.scanL (fileOf s nmW)).1 0 []).2).length < (fileOf s nmW).length then
    (strays s (s.now.map Fl.name)).push (.cut nmW (fileB (loadR (Fr.scanL (fileOf s nmW)).1 0 []).1 (loadR (Fr.scanL (fileOf s nmW)).1 0 []).2).length)
  else strays s (s.now.map Fl.name)

theorem open_nil (w : World) : Calls Tryd.prog 11 #[.pointer none] w fun e w' => e = .returned (.tuple #[.pointer none, .int .i64 1]) ∧ w' = w := by
  go_enter Tryd.func11, Tryd.ntmps11
  go_wp2
  go_ret2
  exact ⟨rfl, rfl⟩

set_option maxHeartbeats 1000000 in
theorem open_any (pd : Nat) (s : St) (F : Nat → Prop) (w : World) (h : Dk w pd s F) (ht : Fr.Tab w) (h0 : ¬ F 0) (hm : s.mass + s.now.length + 2 ≤ 100000000) (hsz : ∀ f ∈ s.now, f.name.size ≤ maxLen) (hl : (fileOf s nmW).length ≤ 30000) (first : Int) (ds : List (List UInt8)) (hR : loadR (Fr.scanL (fileOf s nmW)).1 0 [] = (first, ds)) :
    Calls Tryd.prog 11 #[.pointer (some ⟨pd, 0, none⟩)] w fun e w' => ∃ p, e = .returned (.tuple #[.pointer (some ⟨p, 0, none⟩), .int .i64 0]) ∧ Hid ((∃ F', LW w' w.heap.size p pd (openS s) F' first ds ∧ ∀ k, F' k → F k ∨ w.heap.size ≤ k) ∧ Dk.Fr F w w') := by
  have hFlt := h.lt
  have HA : Hid (_) := strays_any pd s F w h (by omega) hsz
  have hms := strays_mass (s.now.map Fl.name) s
  rw [List.length_map] at hms
  have hlk := strays_look (s.now.map Fl.name) s
  have HB : Hid (∀ w1 F1, Dk w1 pd (strays s (s.now.map Fl.name)) F1 → (∀ k, F1 k → F k ∨ w.heap.size ≤ k) → Dk.Fr F w w1 → Calls Tryd.prog 29 #[.pointer (some ⟨w1.heap.size, 0, none⟩)] (w1.alloc (.cells #[.pointer (some ⟨pd, 0, none⟩), .int .i64 0, .slice none 0 0] 65)) fun e w' => e = .returned (.tuple #[]) ∧ Hid ((∃ F', LW w' w.heap.size w1.heap.size pd (openS s) F' first ds ∧ ∀ k, F' k → F k ∨ w.heap.size ≤ k) ∧ Dk.Fr F w w')) := by
    intro w1 F1 hD hF1 hf
    have h1lt := hD.lt
    have hb1 : Below w1.heap.size w1 (w1.alloc (.cells #[.pointer (some ⟨pd, 0, none⟩), .int .i64 0, .slice none 0 0] 65)) := (Below.refl _ _).alloc (Nat.le_refl _) _
    have hfo : fileOf (strays s (s.now.map Fl.name)) nmW = fileOf s nmW := by unfold fileOf; rw [hlk]
    have hsz1 := hf.size
    refine (load_walk w1.heap.size pd _ F1 _ (heap_alloc_new _ _) (hD.below hb1) (fun hk => by have := h1lt _ hk; omega) ((tab_kept ht hf h0).below hb1) (by rw [hfo]; exact hl) (by omega) first ds (by rw [hfo]; exact hR)).mono ?_
    rintro e w' ⟨rfl, wS, wr, hbS, ⟨vr, rs, G, hL, hds, hG, hfS⟩, hDr, hc⟩
    refine ⟨rfl, ?_⟩
    have hsa : w1.heap.size ≤ (w1.alloc (.cells #[.pointer (some ⟨pd, 0, none⟩), .int .i64 0, .slice none 0 0] 65)).heap.size := hb1.size
    have hsS := hbS.size
    have hsr := hfS.size
    have hfr : Dk.Fr F w wr := ((hf.trans (G := F) (Fr.of_below hb1) (fun _ _ h => h)).trans (G := F) (Fr.of_below hbS) (fun _ _ h => h)).trans hfS (fun x hx e => by omega)
    have hGF : ∀ k, G k → ¬ F1 k ∧ w.heap.size ≤ k := fun k hk => ⟨fun hF => by have := hG k hk; have := h1lt k hF; omega, by have := hG k hk; omega⟩
    have hnp : ¬ F1 w1.heap.size := fun hk => by have := h1lt _ hk; omega
    rw [hfo] at hc
    unfold openS
    rw [hR]
    rcases hc with ⟨hlt, hDk, hfc⟩ | ⟨hlt, rfl⟩
    · rw [if_pos hlt]
      refine ⟨⟨_, ⟨hDk, ⟨vr, rs, G, hL.kept hfc (fun k hk => (hGF k hk).1) hnp, hds, fun k hk => ⟨?_, (hGF k hk).2⟩⟩, ?_, hsz1⟩, fun k hk => ?_⟩, hfr.trans hfc (fun x hx hF => ?_)⟩
      · rintro (hh | hh)
        · exact (hGF k hk).1 hh
        · have := hL.lt k hk; omega
      · rintro (hh | hh)
        · exact hnp hh
        · have := hL.plt; omega
      · rcases hk with hh | hh
        · exact hF1 k hh
        · exact Or.inr (by omega)
      · rcases hF1 x hF with hh | hh
        · exact hh
        · omega
    · rw [if_neg hlt]
      exact ⟨⟨F1, ⟨hDr, ⟨vr, rs, G, hL, hds, hGF⟩, hnp, hsz1⟩, hF1⟩, hfr⟩
  clear h ht h0 hm hsz hl hR hms hlk hFlt
  go_enter Tryd.func11, Tryd.ntmps11
  go_wp2_with (first
    | (go_at_call 28; refine Calls.mono HA.out ?_; rintro e w1 ⟨rfl, ⟨F1, hD1, hF1⟩, hf1⟩; have HB1 : Hid (_) := HB.out w1 F1 hD1 hF1 hf1; clear hD1 hF1 hf1 HB)
    | (go_at_call 29; refine Calls.mono HB1.out ?_; rintro e w2 ⟨rfl, HX2⟩))
  go_ret2
  exact ⟨_, rfl, HX2.out⟩
end Go.Proofs.YtnbdkojdddplkaaDoor.Wl
