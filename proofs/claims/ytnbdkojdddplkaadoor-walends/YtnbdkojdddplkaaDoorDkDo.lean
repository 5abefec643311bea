/- The walks of a folder's do and tear. -/
import Derived.Test.YtnbdkojdddplkaaDoorDkMove2
import Derived.Deep.RegionHeld
namespace Go.Proofs.YtnbdkojdddplkaaDoor.Dk
open Go.RowKit

/-- A change in memory. -/
def ChV (w : World) (cv : Value) (c : Ch) (G : Nat → Prop) : Prop :=
  ∃ (kd : Int) (nm : ByteArray) (ao : Option Addr) (L cap : Nat) (sz : Int) (t : ByteArray), cv = .agg #[.int .i64 kd, .string nm, .slice ao L cap, .int .i64 sz, .string t] ∧
    match c with
    | .app n b => kd = 1 ∧ nm = n ∧ SlA w (.slice ao L cap) b G
    | .cut n k => kd = 2 ∧ nm = n ∧ sz = (k : Int)
    | .rem n => kd = 3 ∧ nm = n
    | .mov n m => kd = 4 ∧ nm = n ∧ t = m
theorem ChV.kept {w w' : World} {cv : Value} {c : Ch} {G : Nat → Prop} (h : ChV w cv c G) (hf : Fr G w w') : ChV w' cv c G := by
  obtain ⟨kd, nm, ao, L, cap, sz, t, e, hm⟩ := h
  refine ⟨kd, nm, ao, L, cap, sz, t, e, ?_⟩
  cases c with
  | app n b => exact ⟨hm.1, hm.2.1, hm.2.2.kept hf⟩
  | cut n k => exact hm
  | rem n => exact hm
  | mov n m => exact hm
theorem ChV.mono {w : World} {cv : Value} {c : Ch} {G H : Nat → Prop} (h : ChV w cv c G) (hg : ∀ k, H k → G k) : ChV w cv c H := by
  obtain ⟨kd, nm, ao, L, cap, sz, t, e, hm⟩ := h
  refine ⟨kd, nm, ao, L, cap, sz, t, e, ?_⟩
  cases c with
  | app n b => exact ⟨hm.1, hm.2.1, hm.2.2.mono hg⟩
  | cut n k => exact hm
  | rem n => exact hm
  | mov n m => exact hm

/-- What a call made before its first change. -/
theorem Chg.from {w w1 w' : World} {b o : Nat} {F : Nat → Prop} {fs : List Fl} (h : Chg w1 w' b o F fs) (hb : Below w.heap.size w w1) (hF : ∀ k, F k → k < w.heap.size) : Chg w w' b o F fs := by
  obtain ⟨v', zs', h1, h2, h3⟩ := h
  have hs := h3.size
  rw [setCell_size] at hs
  exact ⟨v', zs', h1.mono (ext_from hb.size) (ext_lt hF (Nat.le_trans hb.size hs)), h2, ((Fr.of_below hb).set_both _ _).trans h3 (fun _ _ h => h)⟩

set_option maxHeartbeats 1000000 in
set_option maxRecDepth 20000 in
theorem do_any (b o : Nat) (v : Value) (zs : List Ent) (F : Nat → Prop) (cv : Value) (c : Ch) (w : World) (hc : w.cell? ⟨b, o, none⟩ = some v) (hfz : w.frozen? ⟨b, o, none⟩ = false) (hF : Fol w v zs F) (hbF : ¬ F b) (hs : Srt (zs.map Ent.fl))
    (hV : ChV w cv c (fun k => F k ∨ k = b)) (hok : Okc (zs.map Ent.fl) c) (hm : mass (zs.map Ent.fl) + c.mass ≤ 1000000000) :
    Calls Tryd.prog 42 #[.pointer (some ⟨b, o, none⟩), cv] w fun e w' => e = .returned (.tuple #[]) ∧ Chg w w' b o F (ap (zs.map Ent.fl) c) := by
  have hum := used_mass (zs.map Ent.fl)
  rw [List.length_map] at hum
  obtain ⟨kd, nm, ao, L, cap, sz, t, rfl, hmc⟩ := hV
  have hb1 : Below w.heap.size w (w.alloc (.cells #[.int .i64 kd, .string nm, .slice ao L cap, .int .i64 sz, .string t] 76)) := (Below.refl _ _).alloc (Nat.le_refl _) _
  have hc1 := below_cell hb1 hc
  have hf1 := (below_frozen hb1 hc).trans hfz
  have hF1 := hF.below hb1
  have hlt := hF.lt
  cases c with
  | app n bs =>
    obtain ⟨rfl, rfl, hS⟩ := hmc
    have HA : Hid (_) := add_any b o v zs F nm _ bs _ hc1 hf1 hF1 hbF hs (hS.kept (Fr.of_below hb1)) (by simp only [Ch.mass] at hm; omega)
    have HB : Hid (_) := hb1
    have HL : Hid (_) := hlt
    clear hF hF1 hS hc1 hf1 hb1 hlt hum hs hok hm
    go_enter Tryd.func42, Tryd.ntmps42
    go_wp2_with (go_at_call 62; refine Calls.mono HA.out ?_; rintro e w' ⟨rfl, HX⟩)
    go_end0
    exact ⟨rfl, HX.from HB.out HL.out⟩
  | cut n k =>
    obtain ⟨rfl, rfl, rfl⟩ := hmc
    have HA : Hid (_) := cut_any b o v zs F nm k _ hc1 hF1 hs hok (by simp only [Ch.mass] at hm; omega)
    have HB : Hid (_) := hb1
    have HL : Hid (_) := hlt
    clear hF hF1 hc1 hf1 hb1 hlt hum hs hok hm
    go_enter Tryd.func42, Tryd.ntmps42
    go_wp2_with (go_at_call 63; refine Calls.mono HA.out ?_; rintro e w' ⟨rfl, HX⟩)
    go_end0
    exact ⟨rfl, HX.from HB.out HL.out⟩
  | rem n =>
    obtain ⟨rfl, rfl⟩ := hmc
    have HA : Hid (_) := remove_any b o v zs F nm _ hc1 hf1 hF1 hbF hs (by simp only [Ch.mass] at hm; omega)
    have HB : Hid (_) := hb1
    have HL : Hid (_) := hlt
    clear hF hF1 hc1 hf1 hb1 hlt hum hs hok hm
    go_enter Tryd.func42, Tryd.ntmps42
    go_wp2_with (go_at_call 64; refine Calls.mono HA.out ?_; rintro e w' ⟨rfl, HX⟩)
    go_end0
    exact ⟨rfl, HX.from HB.out HL.out⟩
  | mov n m =>
    obtain ⟨rfl, rfl, rfl⟩ := hmc
    have HA : Hid (_) := move_any b o v zs F nm t _ hc1 hf1 hF1 hbF hs (by simp only [Ch.mass] at hm; omega)
    have HB : Hid (_) := hb1
    have HL : Hid (_) := hlt
    clear hF hF1 hc1 hf1 hb1 hlt hum hs hok hm
    go_enter Tryd.func42, Tryd.ntmps42
    go_wp2_with (go_at_call 65; refine Calls.mono HA.out ?_; rintro e w' ⟨rfl, HX⟩)
    go_end0
    exact ⟨rfl, HX.from HB.out HL.out⟩

/-- What a crash leaves of a change. -/
def torn (fs : List Fl) (c : Ch) (k : Int) : List Fl :=
  match c with
  | .app n b => if k < 0 then fs else ap fs (.app n (b.take k.toNat))
  | _ => fs
def Ch.isApp : Ch → Bool
  | .app _ _ => true
  | _ => false

set_option maxHeartbeats 1000000 in
set_option maxRecDepth 20000 in
theorem tear_not (b o : Nat) (v : Value) (zs : List Ent) (F : Nat → Prop) (cv : Value) (c : Ch) (k : Int) (w : World) (hc : w.cell? ⟨b, o, none⟩ = some v) (hF : Fol w v zs F) (hV : ChV w cv c (fun k => F k ∨ k = b)) (hno : c.isApp = false ∨ k < 0) :
    Calls Tryd.prog 43 #[.pointer (some ⟨b, o, none⟩), cv, .int .i64 k] w fun e w' => e = .returned (.tuple #[]) ∧ Chg w w' b o F (torn (zs.map Ent.fl) c k) := by
  obtain ⟨kd, nm, ao, L, cap, sz, t, rfl, hmc⟩ := hV
  have hb1 : Below w.heap.size w (w.alloc (.cells #[.int .i64 kd, .string nm, .slice ao L cap, .int .i64 sz, .string t] 76)) := (Below.refl _ _).alloc (Nat.le_refl _) _
  have hX : Hid (Chg w (w.alloc (.cells #[.int .i64 kd, .string nm, .slice ao L cap, .int .i64 sz, .string t] 76)) b o F (torn (zs.map Ent.fl) c k)) := by
    have e : torn (zs.map Ent.fl) c k = zs.map Ent.fl := by
      cases c with
      | app n b =>
        rcases hno with h | h
        · simp [Ch.isApp] at h
        · simp [torn, h]
      | _ => rfl
    show Chg _ _ _ _ _ _
    rw [e]
    exact ⟨v, zs, (hF.below hb1).mono (fun _ h => Or.inl h) (ext_lt hF.lt hb1.size), rfl, Fr.of_self hc (Fr.of_below hb1)⟩
  have hk : kd = 1 → k < 0 := fun h1 => by
    rcases hno with h | h
    · cases c with
      | app n b => simp [Ch.isApp] at h
      | cut n k => have := hmc.1; omega
      | rem n => have := hmc.1; omega
      | mov n m => have := hmc.1; omega
    · exact h
  clear hmc hF hb1
  by_cases h1 : kd = 1
  · have hk' := hk h1
    subst h1
    clear hk hno
    go_enter Tryd.func43, Tryd.ntmps43
    go_wp2
    exact bodyPost_ret (results_none rfl _ _ _) rfl ⟨rfl, hX.out⟩
  · have h1' : (kd == 1) = false := by simpa using h1
    clear hk hno
    go_enter Tryd.func43, Tryd.ntmps43
    go_wp2
    exact bodyPost_ret (results_none rfl _ _ _) rfl ⟨rfl, hX.out⟩
end Go.Proofs.YtnbdkojdddplkaaDoor.Dk
