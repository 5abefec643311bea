/- The law WalForged: its loop's relation. -/
import Derived.Test.YtnbdkojdddplkaaDoorWlShort
namespace Go.Proofs.YtnbdkojdddplkaaDoor.Wl
open Go.RowKit Dk

theorem look_ins_ne {f : Fl} {m : ByteArray} (h : f.name ≠ m) : ∀ fs : List Fl, Dk.look m (Dk.ins f fs) = Dk.look m fs
  | [] => by simp [Dk.look, Dk.ins, h]
  | x :: r => by
    have ih := look_ins_ne h r
    unfold Dk.ins
    split
    · unfold Dk.look
      rw [List.find?_cons_of_neg (by simpa using h)]
    · unfold Dk.look at ih ⊢
      rw [List.find?_cons, List.find?_cons, ih]

/-- So many files were laid. -/
def GS (w0 w : World) (pd k : Nat) : Prop := ∃ s F, Dk w pd s F ∧ s.room = 1048576 ∧ s.now.length ≤ k ∧ s.mass ≤ 202 * k ∧ Nm s.now ∧ (fileOf s nmW).length ≤ 200 * k ∧ (∀ j, F j → w0.heap.size ≤ j) ∧ Below w0.heap.size w0 w
theorem GS.below {w0 w w' : World} {pd k : Nat} (h : GS w0 w pd k) (hb : Below w.heap.size w w') : GS w0 w' pd k := by
  obtain ⟨s, F, h1, h2, h3, h4, h5, h6, h7, h8⟩ := h
  exact ⟨s, F, h1.below hb, h2, h3, h4, h5, h6, h7, h8.trans (hb.mono h8.size)⟩
theorem GS.step {w0 w : World} {pd k : Nat} (h : GS w0 w pd k) (hk : k < 8) (nn : ByteArray) (hnn : nn.size ≤ 13) (ao : Option Addr) (L cap : Nat) (b : List UInt8) (hS : Sl w (.slice ao L cap) b) (hb : b.length ≤ 200) :
    Calls Tryd.prog 20 #[.pointer (some ⟨pd, 0, none⟩), .string nn, .slice ao L cap] w fun e w' => ∃ c, e = .returned (.int .i64 c) ∧ Hid (GS w0 w' pd (k + 1)) := by
  obtain ⟨s, F, h1, h2, h3, h4, h5, h6, h7, h8⟩ := h
  have hnm : nn.size ≤ maxLen := Nat.le_trans hnn (by decide)
  cases hok : okN nn with
  | false =>
    refine (append_form pd nn ao L cap w hok).mono ?_
    rintro e w' ⟨rfl, rfl⟩
    exact ⟨3, rfl, s, F, h1, h2, by omega, by omega, h5, by omega, h7, h8⟩
  | true =>
    obtain ⟨hgood, _⟩ := id h1
    have hmm := St.now_mass hgood
    have hum := used_mass s.now
    refine (append_ok pd s F nn _ b w h1 hS hok (by rw [h2]; omega) (Or.inr (by omega)) (by omega)).mono ?_
    rintro e w' ⟨rfl, hD, hf⟩
    have hs := h8.size
    refine ⟨0, rfl, s.push (.app nn b), ext F w w', hD, h2, ?_, ?_, ?_, ?_, fun j hj => ?_, h8.trans (hf.below h7 hs)⟩
    · rw [St.push_now]
      unfold Dk.ap
      simp only
      rw [ins_len]
      have := del_len nn s.now
      omega
    · rw [St.push_mass]
      simp only [Ch.mass]
      omega
    · rw [St.push_now]
      exact ins_nm _ hnm _ (del_nm _ _ h5)
    · by_cases hw : nn = nmW
      · subst hw
        unfold fileOf
        rw [St.push_now, app_file, List.length_append]
        unfold fileOf at h6
        omega
      · unfold fileOf
        rw [St.push_now]
        unfold Dk.ap
        simp only
        rw [look_ins_ne (by exact hw), look_del_ne hw]
        unfold fileOf at h6
        omega
    · rcases hj with hh | hh
      · exact h7 j hh
      · omega
theorem GS.tail {w0 w : World} {pd k : Nat} (h : GS w0 w pd k) (hT : ∀ u, Below w0.heap.size w0 u → Fr.Tab u) (hw0 : 0 < w0.heap.size) (hk : k ≤ 8) :
    Calls Tryd.prog 23 #[.pointer (some ⟨pd, 0, none⟩)] w fun e w2 => e = .returned (.tuple #[]) ∧ Hid (Calls Tryd.prog 11 #[.pointer (some ⟨pd, 0, none⟩)] w2 fun e w3 => ∃ p, e = .returned (.tuple #[.pointer (some ⟨p, 0, none⟩), .int .i64 0]) ∧ Hid (∃ s F g ds, FG w0 w3 p pd s F g ds ∧ s.now.length ≤ 19 ∧ s.mass ≤ 8000 ∧ (fileB g ds).length ≤ 4900)) := by
  obtain ⟨s, F, h1, h2, h3, h4, h5, h6, h7, h8⟩ := h
  obtain ⟨hgood, _⟩ := id h1
  have hmm := St.now_mass hgood
  refine (sync_any pd s F w h1 (by omega)).mono ?_
  rintro e w2 ⟨rfl, hD, hf⟩
  refine ⟨rfl, ?_⟩
  have hs := h8.size
  have hb2 : Below w0.heap.size w0 w2 := h8.trans (hf.below h7 hs)
  have hnow : (⟨s.room, s.now, []⟩ : St).now = s.now := rfl
  have hmass : (⟨s.room, s.now, []⟩ : St).mass = Dk.mass s.now := by simp [St.mass, wmass]
  have hfo : fileOf ⟨s.room, s.now, []⟩ nmW = fileOf s nmW := rfl
  cases hR : loadR (Fr.scanL (fileOf ⟨s.room, s.now, []⟩ nmW)).1 0 [] with
  | mk g ds =>
    have hpre := (load_any _ g ds hR).1.length_le
    refine (FG.open (w0 := w0) hD hT hw0 h2 (by rw [hnow]; omega) (by rw [hmass]; omega) h5 (fun j hj => ?_) hb2 (by rw [hfo]; omega) g ds hR).mono ?_
    · rcases hj with hh | hh
      · exact h7 j hh
      · omega
    · rintro e w3 ⟨p, rfl, F', hG, _⟩
      have hl := openS_len ⟨s.room, s.now, []⟩
      have hms := openS_mass ⟨s.room, s.now, []⟩
      rw [hmass, hnow] at hms
      rw [hnow] at hl
      rw [hfo] at hpre
      exact ⟨p, rfl, _, F', g, ds, hG, by omega, by omega, by omega⟩
theorem FG.last {w0 w : World} {p pd : Nat} {s : St} {F : Nat → Prop} {g : Int} {ds : List (List UInt8)} (h : FG w0 w p pd s F g ds) (u : World) (hb : Below w.heap.size w u) :
    Calls Tryd.prog 24 #[.pointer (some ⟨p, 0, none⟩)] u fun e u' => e = .returned (.int .i64 (lastL g ds)) ∧ Hid (Below w.heap.size w u') := by
  refine ((h.below hb).lw.last).mono ?_
  rintro e u' ⟨rfl, m, rfl⟩
  exact ⟨rfl, hb.trans ⟨rfl, rfl, rfl, Nat.le_refl _, fun _ _ => rfl⟩⟩
end Go.Proofs.YtnbdkojdddplkaaDoor.Wl
