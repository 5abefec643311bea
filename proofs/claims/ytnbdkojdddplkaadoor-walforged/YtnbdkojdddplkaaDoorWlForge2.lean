/- The law WalForged, behind its loop: Append, Sync, a crash, Open, Get. -/
import Derived.Test.YtnbdkojdddplkaaDoorWlForge
namespace Go.Proofs.YtnbdkojdddplkaaDoor.Wl
open Go.RowKit Dk

def here : List UInt8 := [104, 101, 114, 101]
theorem FG.tail {w0 w : World} {p pd : Nat} {s : St} {F : Nat → Prop} {g : Int} {ds : List (List UInt8)} (h : FG w0 w p pd s F g ds) (hT : ∀ u, Below w0.heap.size w0 u → Fr.Tab u) (hw0 : 0 < w0.heap.size) (vb : Value) (hS : SlA w vb here F) (n : Int) (hn : n = lastL g ds + 1) (hn0 : 1 ≤ n) (hn1 : n ≤ 1099511627777) (hlen : s.now.length ≤ 19) (hmass : s.mass ≤ 8000) (hsm : (fileB g ds).length ≤ 4900) :
    Calls Tryd.prog 14 #[.pointer (some ⟨p, 0, none⟩), .int .i64 n, vb] w fun e w2 => e = .returned (.int .i64 0) ∧ Hid (Calls Tryd.prog 17 #[.pointer (some ⟨p, 0, none⟩)] w2 fun e w3 => e = .returned (.tuple #[]) ∧ Hid (Calls Tryd.prog 18 #[.pointer (some ⟨pd, 0, none⟩), .int .i64 (-1), .int .i64 0] w3 fun e w4 => ∃ q, e = .returned (.pointer (some ⟨q, 0, none⟩)) ∧ Hid (Calls Tryd.prog 11 #[.pointer (some ⟨q, 0, none⟩)] w4 fun e w5 => ∃ r, e = .returned (.tuple #[.pointer (some ⟨r, 0, none⟩), .int .i64 0]) ∧ Hid (Calls Tryd.prog 25 #[.pointer (some ⟨r, 0, none⟩), .int .i64 n] w5 fun e w6 => ∃ ao L cap, e = .returned (.tuple #[.slice ao L cap, .bool true]) ∧ (convert 33 9 (.slice ao L cap)).run Tryd.prog w6 = .ok (.string ⟨#[104, 101, 114, 101]⟩) w6 ∧ Hid (Below w0.heap.size w0 w6))))) := by
  obtain ⟨hgood, _⟩ := id h.lw.dk
  have hnm := St.now_mass hgood
  have hum := used_mass s.now
  have hrs := recB_size n here ⟨by omega, by omega⟩ (by decide)
  have hhl : here.length = 4 := rfl
  have hdl := fileB_long ds g
  have hmay : mayL g ds n = true := by
    unfold mayL
    have e : n - 1 = (if ds.length = 0 then 0 else g + (ds.length : Int) - 1) := by
      have : lastL g ds = (if ds.length = 0 then 0 else g + (ds.length : Int) - 1) := rfl
      omega
    rw [← e]
    simp [hn0]
  refine (app_ok w0.heap.size p pd s F g ds n vb here w h.lw hS (hT w h.bel) (by omega) hmay (by decide) (by rw [h.room]; omega) (Or.inr (by omega)) (by omega) (by omega) (by omega)).mono ?_
  rintro e w2 ⟨rfl, F2, hL2, hF2, hf2⟩
  refine ⟨rfl, ?_⟩
  have hs := h.bel.size
  have hb2 : Below w0.heap.size w0 w2 := h.bel.trans (hf2.below (fun k hk => by
    rcases hk with hh | hh
    · exact h.inF k hh
    · exact hh) hs)
  have hF2' : ∀ k, F2 k → w0.heap.size ≤ k := fun k hk => by
    rcases hF2 k hk with hh | hh
    · exact h.inF k hh
    · omega
  have hpm : (s.push (.app nmW (recB n here))).mass ≤ 8100 := by
    rw [St.push_mass]
    simp only [Ch.mass]
    omega
  refine (sync_log w0.heap.size p pd _ F2 _ (ds ++ [here]) w2 hL2 (by omega)).mono ?_
  rintro e w3 ⟨rfl, hL3, hf3⟩
  refine ⟨rfl, ?_⟩
  have hb3 : Below w0.heap.size w0 w3 := hb2.trans (hf3.below hF2' hb2.size)
  obtain ⟨hgood2, _⟩ := id hL2.dk
  have hnm2 := St.now_mass hgood2
  obtain ⟨s', Hs'⟩ : ∃ s' : St, s' = ⟨(s.push (.app nmW (recB n here))).room, (s.push (.app nmW (recB n here))).now, []⟩ := ⟨_, rfl⟩
  rw [← Hs'] at hL3
  have hsm' : s'.mass ≤ 8200 := by
    rw [Hs']
    simp only [St.mass, wmass]
    simp
    omega
  have hnow' : s'.now = Dk.ap s.now (.app nmW (recB n here)) := by
    rw [Hs', ← St.push_now]
    rfl
  have hroom' : s'.room = 1048576 := by rw [Hs']; exact h.room
  refine (crash_any pd s' _ (-1) 0 w3 hL3.dk (by omega)).mono ?_
  rintro e w4 ⟨q, rfl, hq, hD4, hb4⟩
  refine ⟨q, rfl, ?_⟩
  have hlf : (⟨s'.room, Dk.leftOf s' (-1) 0, []⟩ : St) = s' := by rw [Hs']; rfl
  rw [hlf] at hD4
  have hb4' : Below w0.heap.size w0 w4 := hb3.trans (hb4.mono hb3.size)
  have hs3 := hb3.size
  obtain ⟨g', Hg'⟩ : ∃ g', g' = (if ds.length = 0 then n else g) := ⟨_, rfl⟩
  have hfile : fileOf s' nmW = fileB g' (ds ++ [here]) := by
    rw [Hg', ← fileB_snoc g ds here n hn]
    unfold fileOf
    rw [hnow', app_file]
    have := h.own
    unfold fileOf at this
    rw [this]
  have hg' : 1 ≤ g' ∧ g' + (ds.length : Int) = n := by
    unfold lastL at hn
    by_cases hd : ds.length = 0
    · rw [if_pos hd] at Hg' hn
      omega
    · rw [if_neg hd] at Hg' hn
      have := h.g0 (fun e => hd (by rw [e]; rfl))
      omega
  have hflen : (fileB g' (ds ++ [here])).length ≤ 5000 := by
    rw [Hg', ← fileB_snoc g ds here n hn, List.length_append]
    omega
  have hlen' : s'.now.length ≤ 20 := by
    rw [hnow']
    unfold Dk.ap
    simp only
    rw [ins_len]
    have := del_len nmW s.now
    omega
  refine (FG.open (w0 := w0) hD4 hT hw0 hroom' hlen' (by omega) (by rw [hnow']; exact app_nm _ _ h.nm) (fun k hk => by
    rcases hk with hh | hh
    · exact hh.elim
    · omega) hb4' (by rw [hfile]; exact hflen) g' (ds ++ [here]) (by
      rw [hfile, load_file (ds ++ [here]) g' (fun d hd => by
        rcases List.mem_append.1 hd with hd | hd
        · exact h.d d hd
        · rw [List.mem_singleton.1 hd]; decide) hg'.1 (by rw [List.length_append]; simp; omega), if_neg (by simp)])).mono ?_
  rintro e w5 ⟨r, rfl, F5, hG5, _⟩
  refine ⟨r, rfl, ?_⟩
  have hget := get_hit w0.heap.size r q _ F5 g' (ds ++ [here]) ds.length w5 hG5.lw (by simp) hg'.1 (by rw [List.length_append]; simp; omega) (by rw [List.length_append]; simp; omega) (by simp [here])
  rw [hg'.2] at hget
  refine hget.mono ?_
  rintro e w6 ⟨v6, rfl, hO6, hb6⟩
  have e6 : (ds ++ [here])[ds.length]'(by simp) = here := by simp
  rw [e6] at hO6
  have hst := str_of_sl (P := Tryd.prog) (Sl.of_own (bs := here) hO6) 33 5 9 Tryd.underlying33 Tryd.underlying5 Tryd.underlying9
  obtain ⟨ao6, L6, cap6, rfl⟩ := own_slice hO6
  exact ⟨ao6, L6, cap6, rfl, hst, hG5.bel.trans (hb6.mono hG5.bel.size)⟩
end Go.Proofs.YtnbdkojdddplkaaDoor.Wl
