/- The law of crashes: each operation. The law's look at the log, whatever the document's holds: it comes to an end, and says yes or no. The law of crashes: its beginning, and its end. The law of crashes: its walk. -/
import Derived.Test.YtnbdkojdddplkaaDoorPart23
import Derived.Test.YtnbdkojdddplkaaDoorPart20
import Derived.Deep.RegionHeld
import Derived.Test.YtnbdkojdddplkaaDoorPart21
import Derived.Test.YtnbdkojdddplkaaDoorPart22
import Derived.Deep.CutRange
import Derived.Deep.CutBlock
namespace Go.Proofs.YtnbdkojdddplkaaDoor.Wl
open Go.RowKit Dk

/-- What both have come to. -/
def Qq (w u5 : World) (p pd : Nat) (v : Value) (ms : List Md) (sy k : Nat) (E mf' : Int) (ao' : Option Addr) (L' cap' : Nat) : Prop :=
  (E = 0 ∧ ∃ s' H' first' ds' M', L' = ds'.length ∧ Cz w u5 p pd s' H' first' ds' v ms sy (k + 1) M' ⟨mf', ao', cap', ds'⟩) ∨ (E = 1 ∧ ∃ s H first ds M, Cw w u5 p pd s H first ds v ms sy (k + 1) M)

section
variable {w u u4 u5 : World} {p pd : Nat} {s : St} {H : Nat → Prop} {first : Int} {ds : List (List UInt8)} {v : Value} {ms : List Md} {sy k M : Nat} {m : Md}

theorem Cw.moved (h : Cw w u p pd s H first ds v ms sy k M) (hfr : Dk.Fr H u u4) : ∀ m ∈ ms, Ml u4 m.ao m.cap m.ds (fun j => ext H u u4 j ∨ v.ownBlock = some j) := fun m hm =>
  ((h.ml m hm).more (K := fun j => ext H u u4 j ∨ v.ownBlock = some j) (fun j hj hK => by
    rcases hK with (hK | hK) | hK
    · exact Or.inl hK
    · omega
    · exact Or.inr hK)).kept (hfr.mono (fun j _ hh => Or.inl (Or.inl hh)))
theorem Cw.hlt (h : Cw w u p pd s H first ds v ms sy k M) (hfr : Dk.Fr H u u4) : ∀ j, (ext H u u4 j ∨ v.ownBlock = some j) → j < u4.heap.size := fun j hj => by
  have hs := hfr.size
  rcases hj with (hj | hj) | hj
  · have := h.lx.lt j hj; omega
  · exact hj.2
  · have := (h.row.lt j hj).2; omega
theorem Cw.hge (h : Cw w u p pd s H first ds v ms sy k M) : ∀ j, (ext H u u4 j ∨ v.ownBlock = some j) → w.heap.size ≤ j := fun j hj => by
  have hs := h.below.size
  rcases hj with (hj | hj) | hj
  · exact h.hi j hj
  · omega
  · exact (h.row.lt j hj).1
theorem Cw.bel4 (h : Cw w u p pd s H first ds v ms sy k M) (hfr : Dk.Fr H u u4) : Below w.heap.size w u4 := h.below.trans (hfr.below h.hi h.below.size)
theorem Cw.row4 (h : Cw w u p pd s H first ds v ms sy k M) (hfr : Dk.Fr H u u4) : u4.ownsRow w.heap.size 32 2 v ms.length (cells2 ms) := own_keptB h.row hfr h.off

/-- Blocks that are laid between two worlds. -/
theorem fr_low {u4 U u5 Z : World} (hU : Below u4.heap.size u4 U) (h5 : Below U.heap.size U u5) (hZ : Dk.Fr (fun j => u4.heap.size ≤ j ∧ j < U.heap.size) u5 Z) : Below u4.heap.size u4 Z := by
  have h1 := hU.trans (h5.mono hU.size)
  exact h1.trans (hZ.below (fun j hj => hj.1) h1.size)
theorem Cw.movedU (h : Cw w u p pd s H first ds v ms sy k M) (hfr : Dk.Fr H u u4) {U : World} (hU : Below u4.heap.size u4 U) : ∀ m ∈ ms, Ml U m.ao m.cap m.ds (fun j => (ext H u u4 j ∨ v.ownBlock = some j) ∨ (u4.heap.size ≤ j ∧ j < U.heap.size)) := fun m hm =>
  ((h.moved hfr m hm).more (K := fun j => (ext H u u4 j ∨ v.ownBlock = some j) ∨ (u4.heap.size ≤ j ∧ j < U.heap.size)) (fun j hj hK => by
    rcases hK with hK | hK
    · exact hK
    · omega)).below hU
theorem Cw.hltU (h : Cw w u p pd s H first ds v ms sy k M) (hfr : Dk.Fr H u u4) {U : World} (hU : Below u4.heap.size u4 U) : ∀ j, ((ext H u u4 j ∨ v.ownBlock = some j) ∨ (u4.heap.size ≤ j ∧ j < U.heap.size)) → j < U.heap.size := fun j hj => by
  rcases hj with hj | hj
  · exact Nat.lt_of_lt_of_le (h.hlt hfr j hj) hU.size
  · exact hj.2
theorem ml_fin {Z : World} {ao : Option Addr} {cap : Nat} {es : List (List UInt8)} {K J : Nat → Prop} (h : Ml u5 ao cap es (fun j => K j ∨ J j)) (hZ : Dk.Fr J u5 Z) : Ml Z ao cap es K := (h.kept (hZ.mono (fun _ _ hj => Or.inr hj))).more (fun _ _ hj => Or.inl hj)

theorem Cz.mk' (h : Cw w u p pd s H first ds v ms sy k M) {s' : St} {first' : Int} {ds' : List (List UInt8)} {M' : Nat} {mf' : Int} {ao' : Option Addr} {cap' : Nat} (hfr : Dk.Fr H u u4) (hb : Below u4.heap.size u4 u5) (hlx : LX u4 p pd s' (ext H u u4) first' ds') (hgs : Gs s' first' ds' (k + 1) M') (hM : M' ≤ 14000 * (k + 1) + 1)
    (hml : Ml u5 ao' cap' ds' (fun j => ext H u u4 j ∨ v.ownBlock = some j)) (hok : Mok ⟨mf', ao', cap', ds'⟩ (k + 1)) (heq : ds' ≠ [] → mf' = first') (hz : ds' = [] → first' = 0) (hs : Hs s' ((ms.drop sy).map Md.norm ++ [(first', ds')])) : Cz w u5 p pd s' (ext H u u4) first' ds' v ms sy (k + 1) M' ⟨mf', ao', cap', ds'⟩ := by
  have hn : (⟨mf', ao', cap', ds'⟩ : Md).norm = (first', ds') := by
    unfold Md.norm
    by_cases hd : ds'.length = 0
    · simp only [hd, if_true]
      rw [hz (List.eq_nil_of_length_eq_zero hd)]
    · simp only [if_neg hd]
      rw [heq (fun e => hd (by rw [e]; rfl))]
  refine ⟨hlx.below hb, hgs, hM, fun j hj => h.hge j (Or.inl hj), own_keptB (F := fun _ => False) (h.row4 hfr) (Fr.of_below hb) (fun _ _ hf => hf), fun j hj hH => ?_, fun x hx => (h.moved hfr x hx).below hb, hml, fun x hx => (h.okm x hx).more, hok, ⟨rfl, heq⟩, by rw [hn]; exact hs, h.sy, by have := h.nz; omega, (h.bel4 hfr).trans (hb.mono (h.bel4 hfr).size)⟩
  rcases hH with hH | hH
  · exact h.off j hj hH
  · have := (h.row.lt j hj).2; omega

theorem may_eq2 (n mf : Int) (hmf : ds ≠ [] → mf = first) : mayL first ds n = true ↔ 1 ≤ n ∧ (ds = [] ∨ n = mf + ds.length) := by
  unfold mayL
  simp only [Bool.and_eq_true, decide_eq_true_eq, Bool.or_eq_true]
  constructor
  · rintro ⟨h1, h2⟩
    refine ⟨h1, ?_⟩
    by_cases hd : ds = []
    · exact Or.inl hd
    · have hl : ds.length ≠ 0 := fun e => hd (List.eq_nil_of_length_eq_zero e)
      rcases h2 with h2 | h2
      · exact absurd h2 hl
      · rw [if_neg hl] at h2
        have := hmf hd
        right; omega
  · rintro ⟨h1, h2⟩
    refine ⟨h1, ?_⟩
    by_cases hd : ds.length = 0
    · exact Or.inl hd
    · right
      rw [if_neg hd]
      have hne : ds ≠ [] := fun e => hd (by rw [e]; rfl)
      have := hmf hne
      rcases h2 with h2 | h2
      · exact absurd h2 hne
      · omega

theorem cw_app (h : Cw w u p pd s H first m.ds v ms sy k M) (hm : m ∈ ms) (hmf : m.ds ≠ [] → m.mf = first) (hT : ∀ u, Below w.heap.size w u → Fr.Tab u) (hk : k < 30) (n : Int) (hn0 : -9223372036854775808 ≤ n) (hn1 : n ≤ 1125899906842624) (aob : Option Addr) (capb : Nat) (b : List UInt8) (hS : Sl w (.slice aob b.length capb) b) (hb : b.length ≤ 300) :
    Calls Tryd.prog 14 #[.pointer (some ⟨p, 0, none⟩), .int .i64 n, .slice aob b.length capb] u fun e u4 => ∃ E : Int, e = .returned (.int .i64 E) ∧ Hid (Dk.Fr H u u4) ∧
      Hid (∀ U, Below u4.heap.size u4 U → Calls Tryd.prog 13 #[.agg #[.int .i64 m.mf, .slice m.ao m.ds.length m.cap], .agg #[.int .i64 0, .int .i64 n, .slice aob b.length capb]] U fun e u5 => ∃ (mf' : Int) (ao' : Option Addr) (L' cap' : Nat), e = .returned (.tuple #[.agg #[.int .i64 mf', .slice ao' L' cap'], .int .i64 E]) ∧ Hid (Below U.heap.size U u5) ∧ Hid (∀ Z, Dk.Fr (fun j => u4.heap.size ≤ j ∧ j < U.heap.size) u5 Z → Qq w Z p pd v ms sy k E mf' ao' L' cap')) := by
  have hok := h.okm m hm
  have h1 := hok.mf1
  have hf0 := hok.mf0
  have hl := hok.len
  have hM := h.mM
  cases hmay : mayL first m.ds n
  · have hno : ¬ (1 ≤ n ∧ (m.ds = [] ∨ n = m.mf + m.ds.length)) := fun e => by rw [(may_eq2 n m.mf hmf).2 e] at hmay; cases hmay
    obtain ⟨F, hW, _⟩ := h.lx.lw
    refine (app_no 0 p pd s F first m.ds n aob b.length capb _ hW (by omega) hmay).mono ?_
    rintro e u4 ⟨rfl, j, rfl⟩
    have hbd := below_drew u j
    refine ⟨1, rfl, Fr.of_below hbd, fun U hU => ?_⟩
    refine (do_app_no m.mf n m.ao aob m.ds.length m.cap b.length capb U (by omega) ⟨hf0, by omega⟩ hn0 (by omega) ?_).mono ?_
    · by_cases hn : n < 1
      · exact Or.inl hn
      · right
        by_cases hd : m.ds = []
        · exact absurd ⟨by omega, Or.inl hd⟩ hno
        · have : m.ds.length ≠ 0 := fun e => hd (List.eq_nil_of_length_eq_zero e)
          refine ⟨by omega, fun e => hno ⟨by omega, Or.inr (by omega)⟩⟩
    · rintro e u5 ⟨rfl, hb5⟩
      exact ⟨_, _, _, _, rfl, hb5, fun Z hZ => Or.inr ⟨rfl, s, H, first, m.ds, M, ((h.keep hbd).keep (fr_low hU hb5 hZ)).more⟩⟩
  · obtain ⟨m1, m2⟩ := (may_eq2 n m.mf hmf).1 hmay
    have hfl := h.gs.file
    have hmass := h.gs.mass
    have hrs := recB_size n b ⟨by omega, by omega⟩ (by omega)
    have hfit := h.gs.fit
    have hus := h.gs.now.used
    have hnl := h.gs.now.len
    have hgl := h.gs.len
    have hMo := h.mo (by omega)
    refine (h.lx.appN (hT _ h.below) n _ b (slN_of hS h.below _ h.hi) (by omega) hmay (by omega) (by rw [h.gs.room]; omega) (Or.inr (by omega)) (by omega) (by omega) (by omega)).mono ?_
    rintro e u4 ⟨rfl, hX⟩
    obtain ⟨hX4, hfr⟩ := hX.out
    refine ⟨0, rfl, hfr, fun U hU => ?_⟩
    have hg' := h.gs.app n b hmay (by omega) hb
    have hMo' : Mo (if m.ds.length = 0 then n else first) (m.ds ++ [b]) := ⟨hg'.small, fun _ => by
      split
      · exact m1
      · rename_i hne
        exact hMo.one (fun e => hne (by rw [e]; rfl)), fun e => by simp at e, by rw [List.length_append]; simp; omega, hg'.fit⟩
    have hs' := h.hs.app hMo h.gs.now h.norm n b hmay hb (by omega) hMo'
    have hKlt := h.hltU hfr hU
    have hbU : Below w.heap.size w U := (h.bel4 hfr).trans (hU.mono (h.bel4 hfr).size)
    have hml := h.movedU hfr hU m hm
    have hSN := slN_of hS hbU (fun j => (ext H u u4 j ∨ v.ownBlock = some j) ∨ (u4.heap.size ≤ j ∧ j < U.heap.size)) (fun j hj => by
      rcases hj with hj | hj
      · exact h.hge j hj
      · have := (h.bel4 hfr).size; omega)
    by_cases hd : m.ds = []
    · have hdl : m.ds.length = 0 := by rw [hd]; rfl
      rw [hd] at hml
      have hdo := do_app_first m.mf n m.ao aob m.cap capb b _ U hml hKlt hSN m1
      rw [← hdl] at hdo
      refine hdo.mono ?_
      rintro e u5 ⟨ao', cap', rfl, hml'⟩
      refine ⟨n, ao', 1, cap', rfl, hml'.out.2, fun Z hZ => Or.inl ⟨rfl, _, _, _, [b], _, rfl, Cz.mk' h hfr (fr_low hU hml'.out.2 hZ) (by rw [hd] at hX4; exact hX4) (by rw [hd] at hg'; exact hg') (by omega) (ml_fin hml'.out.1 hZ) ⟨show (0 : Int) ≤ n by omega, by simp; omega, fun _ => m1, by simp, by rw [hd] at hg'; exact hg'.small⟩ (fun _ => by simp) (fun e => by simp at e) (by rw [hd] at hs'; exact hs')⟩⟩
    · have hp : 0 < m.ds.length := by
        rcases Nat.eq_zero_or_pos m.ds.length with hz | hz
        · exact absurd (List.eq_nil_of_length_eq_zero hz) hd
        · exact hz
      have hn2 := m2.resolve_left hd
      refine (do_app_more m.mf n m.ao aob m.cap capb b m.ds _ U hml hKlt hSN (by omega) ⟨hf0, by omega⟩ m1 hp hn2).mono ?_
      rintro e u5 ⟨ao', cap', rfl, hml'⟩
      refine ⟨m.mf, ao', (m.ds ++ [b]).length, cap', rfl, hml'.out.2, fun Z hZ => Or.inl ⟨rfl, _, _, _, m.ds ++ [b], _, rfl, Cz.mk' h hfr (fr_low hU hml'.out.2 hZ) hX4 hg' (by omega) (ml_fin hml'.out.1 hZ) ⟨hf0, by rw [List.length_append]; simp; omega, fun _ => hok.one hd, by rw [List.length_append]; simp; omega, hg'.small⟩ (fun _ => by rw [if_neg (by omega)]; exact hmf hd) (fun e => by simp at e) hs'⟩⟩
theorem cw_low (h : Cw w u p pd s H first m.ds v ms sy k M) (n : Int) (hn : n < 1) (kd : Int) (f : FuncId) (hkd : (kd = 1 ∧ f = 15) ∨ (kd = 2 ∧ f = 16)) (aob : Option Addr) (Lb capb : Nat) :
    Calls Tryd.prog f #[.pointer (some ⟨p, 0, none⟩), .int .i64 n] u fun e u4 => ∃ E : Int, e = .returned (.int .i64 E) ∧ Hid (Dk.Fr H u u4) ∧
      Hid (∀ U, Below u4.heap.size u4 U → Calls Tryd.prog 13 #[.agg #[.int .i64 m.mf, .slice m.ao m.ds.length m.cap], .agg #[.int .i64 kd, .int .i64 n, .slice aob Lb capb]] U fun e u5 => ∃ (mf' : Int) (ao' : Option Addr) (L' cap' : Nat), e = .returned (.tuple #[.agg #[.int .i64 mf', .slice ao' L' cap'], .int .i64 E]) ∧ Hid (Below U.heap.size U u5) ∧ Hid (∀ Z, Dk.Fr (fun j => u4.heap.size ≤ j ∧ j < U.heap.size) u5 Z → Qq w Z p pd v ms sy k E mf' ao' L' cap')) := by
  have hdo : ∀ U, Below u.heap.size u U → Calls Tryd.prog 13 #[.agg #[.int .i64 m.mf, .slice m.ao m.ds.length m.cap], .agg #[.int .i64 kd, .int .i64 n, .slice aob Lb capb]] U fun e u5 => ∃ (mf' : Int) (ao' : Option Addr) (L' cap' : Nat), e = .returned (.tuple #[.agg #[.int .i64 mf', .slice ao' L' cap'], .int .i64 1]) ∧ Hid (Below U.heap.size U u5) ∧ Hid (∀ Z, Dk.Fr (fun j => u.heap.size ≤ j ∧ j < U.heap.size) u5 Z → Qq w Z p pd v ms sy k 1 mf' ao' L' cap') := by
    intro U hU
    refine (do_low m.mf kd n m.ao aob m.ds.length m.cap Lb capb U (by omega) hn).mono ?_
    rintro e u5 ⟨rfl, hb5⟩
    exact ⟨_, _, _, _, rfl, hb5, fun Z hZ => Or.inr ⟨rfl, s, H, first, m.ds, M, (h.keep (fr_low hU hb5 hZ)).more⟩⟩
  rcases hkd with ⟨rfl, rfl⟩ | ⟨rfl, rfl⟩
  · refine (from_low p n u hn).mono ?_
    rintro e u4 ⟨rfl, rfl⟩
    exact ⟨1, rfl, Fr.refl _ _, hdo⟩
  · refine (until_low p n u hn).mono ?_
    rintro e u4 ⟨rfl, rfl⟩
    exact ⟨1, rfl, Fr.refl _ _, hdo⟩

theorem cw_from (h : Cw w u p pd s H first m.ds v ms sy k M) (hm : m ∈ ms) (hmf : m.ds ≠ [] → m.mf = first) (hk : k < 30) (n : Int) (hn : 1 ≤ n) (hn1 : n ≤ 1125899906842624) (aob : Option Addr) (Lb capb : Nat) :
    Calls Tryd.prog 15 #[.pointer (some ⟨p, 0, none⟩), .int .i64 n] u fun e u4 => ∃ E : Int, e = .returned (.int .i64 E) ∧ Hid (Dk.Fr H u u4) ∧
      Hid (∀ U, Below u4.heap.size u4 U → Calls Tryd.prog 13 #[.agg #[.int .i64 m.mf, .slice m.ao m.ds.length m.cap], .agg #[.int .i64 1, .int .i64 n, .slice aob Lb capb]] U fun e u5 => ∃ (mf' : Int) (ao' : Option Addr) (L' cap' : Nat), e = .returned (.tuple #[.agg #[.int .i64 mf', .slice ao' L' cap'], .int .i64 E]) ∧ Hid (Below U.heap.size U u5) ∧ Hid (∀ Z, Dk.Fr (fun j => u4.heap.size ≤ j ∧ j < U.heap.size) u5 Z → Qq w Z p pd v ms sy k E mf' ao' L' cap')) := by
  have hok := h.okm m hm
  have h1 := hok.mf1
  have hf0 := hok.mf0
  have hl := hok.len
  have hM := h.mM
  have hgl := h.gs.len
  have hMo := h.mo (by omega)
  have main : ∀ j : Nat, j ≤ m.ds.length → cnt first m.ds (n - 1) = j → (∀ (u4 U : World), Dk.Fr H u u4 → Below u4.heap.size u4 U → Calls Tryd.prog 13 #[.agg #[.int .i64 m.mf, .slice m.ao m.ds.length m.cap], .agg #[.int .i64 1, .int .i64 n, .slice aob Lb capb]] U fun e u5 => ∃ (ao' : Option Addr) (cap' : Nat), e = .returned (.tuple #[.agg #[.int .i64 m.mf, .slice ao' (m.ds.take j).length cap'], .int .i64 0]) ∧ Hid (Ml u5 ao' cap' (m.ds.take j) (fun j => (ext H u u4 j ∨ v.ownBlock = some j) ∨ (u4.heap.size ≤ j ∧ j < U.heap.size)) ∧ Below U.heap.size U u5)) →
      Calls Tryd.prog 15 #[.pointer (some ⟨p, 0, none⟩), .int .i64 n] u fun e u4 => ∃ E : Int, e = .returned (.int .i64 E) ∧ Hid (Dk.Fr H u u4) ∧
      Hid (∀ U, Below u4.heap.size u4 U → Calls Tryd.prog 13 #[.agg #[.int .i64 m.mf, .slice m.ao m.ds.length m.cap], .agg #[.int .i64 1, .int .i64 n, .slice aob Lb capb]] U fun e u5 => ∃ (mf' : Int) (ao' : Option Addr) (L' cap' : Nat), e = .returned (.tuple #[.agg #[.int .i64 mf', .slice ao' L' cap'], .int .i64 E]) ∧ Hid (Below U.heap.size U u5) ∧ Hid (∀ Z, Dk.Fr (fun j => u4.heap.size ≤ j ∧ j < U.heap.size) u5 Z → Qq w Z p pd v ms sy k E mf' ao' L' cap')) := by
    intro j hj hc hdo
    refine (h.lx.from h.gs (by omega) (by omega) n j hn (by omega) hc).mono ?_
    rintro e u4 ⟨rfl, hX⟩
    obtain ⟨hX4, hfr⟩ := hX.out
    refine ⟨0, rfl, hfr, fun U hU => ?_⟩
    refine (hdo u4 U hfr hU).mono ?_
    rintro e u5 ⟨ao', cap', rfl, hml⟩
    have hg := h.gs.from j hj h.lx.zero
    have hlt : (m.ds.take j).length = j := by rw [List.length_take]; omega
    have hj0 : m.ds.take j ≠ [] → j ≠ 0 ∧ m.ds ≠ [] := fun hd => ⟨fun e => hd (by rw [e]; rfl), fun e => hd (by rw [e]; simp)⟩
    have hz : m.ds.take j = [] → (if j = 0 then 0 else first) = 0 := fun e => by
      have hj : j = 0 := by rw [← hlt, e]; rfl
      rw [if_pos hj]
    have hMo' : Mo (if j = 0 then 0 else first) (m.ds.take j) := ⟨hg.small, fun hd => by rw [if_neg (hj0 hd).1]; exact hMo.one (hj0 hd).2, hz, by rw [hlt]; omega, hg.fit⟩
    have hs' : Hs (fromS s first m.ds j) ((ms.drop sy).map Md.norm ++ [(if j = 0 then 0 else first, m.ds.take j)]) := by
      unfold fromS
      split
      · exact h.hs.more _
      · exact h.hs.cut hMo h.gs.now h.norm _ hMo' (h.gs.now.cut j (by omega))
    exact ⟨m.mf, ao', _, cap', rfl, hml.out.2, fun Z hZ => Or.inl ⟨rfl, _, _, _, m.ds.take j, _, rfl, Cz.mk' h hfr (fr_low hU hml.out.2 hZ) hX4 ⟨hg.room, hg.now, hg.mass, hg.small, by have := hg.len; omega, hg.fit⟩ (by omega) (ml_fin hml.out.1 hZ) ⟨hf0, by show m.mf + ((m.ds.take j).length : Int) ≤ _; omega, fun hd => hok.one (hj0 hd).2, by show (m.ds.take j).length ≤ _; omega, hg.small⟩ (fun hd => by rw [if_neg (hj0 hd).1]; exact hmf (hj0 hd).2) hz hs'⟩⟩
  by_cases hc : m.ds = [] ∨ m.mf + (m.ds.length : Int) - 1 < n
  · have ht : m.ds.take m.ds.length = m.ds := List.take_length
    refine main m.ds.length (Nat.le_refl _) ?_ (fun u4 U hfr hU => ?_)
    · unfold cnt lastL
      by_cases hd : m.ds = []
      · rw [if_pos (by rw [if_pos (by rw [hd]; rfl)]; omega)]
      · have hm' := hmf hd
        have : m.ds.length ≠ 0 := fun e => hd (List.eq_nil_of_length_eq_zero e)
        have h2 := hc.resolve_left hd
        rw [if_pos (by rw [if_neg this]; omega)]
    · refine (do_from_none m.mf n m.ao aob m.ds.length m.cap Lb capb U (by omega) ⟨hf0, by omega⟩ hn (by
        rcases hc with hc | hc
        · left; rw [hc]; rfl
        · exact Or.inr hc)).mono ?_
      rintro e u5 ⟨rfl, hb5⟩
      rw [ht]
      exact ⟨_, _, rfl, (h.movedU hfr hU m hm).below hb5, hb5⟩
  · have hd : m.ds ≠ [] := fun e => hc (Or.inl e)
    have hle : n ≤ m.mf + (m.ds.length : Int) - 1 := by
      have : ¬ m.mf + (m.ds.length : Int) - 1 < n := fun e => hc (Or.inr e)
      omega
    have hp : 0 < m.ds.length := by
      rcases Nat.eq_zero_or_pos m.ds.length with hz | hz
      · exact absurd (List.eq_nil_of_length_eq_zero hz) hd
      · exact hz
    have hm' := hmf hd
    refine main (n - m.mf).toNat (by omega) ?_ (fun u4 U hfr hU => ?_)
    · unfold cnt lastL
      rw [if_neg (by rw [if_neg (by omega)]; omega), ← hm']
      congr 1
      omega
    · exact do_from_some m.mf n m.ao aob m.cap Lb capb m.ds _ (n - m.mf).toNat U (h.movedU hfr hU m hm) (by omega) ⟨hf0, by omega⟩ hn hp hle rfl

theorem cw_until (h : Cw w u p pd s H first m.ds v ms sy k M) (hm : m ∈ ms) (hmf : m.ds ≠ [] → m.mf = first) (hT : ∀ u, Below w.heap.size w u → Fr.Tab u) (hk : k < 30) (n : Int) (hn : 1 ≤ n) (hn1 : n ≤ 1125899906842624) (aob : Option Addr) (Lb capb : Nat) :
    Calls Tryd.prog 16 #[.pointer (some ⟨p, 0, none⟩), .int .i64 n] u fun e u4 => ∃ E : Int, e = .returned (.int .i64 E) ∧ Hid (Dk.Fr H u u4) ∧
      Hid (∀ U, Below u4.heap.size u4 U → Calls Tryd.prog 13 #[.agg #[.int .i64 m.mf, .slice m.ao m.ds.length m.cap], .agg #[.int .i64 2, .int .i64 n, .slice aob Lb capb]] U fun e u5 => ∃ (mf' : Int) (ao' : Option Addr) (L' cap' : Nat), e = .returned (.tuple #[.agg #[.int .i64 mf', .slice ao' L' cap'], .int .i64 E]) ∧ Hid (Below U.heap.size U u5) ∧ Hid (∀ Z, Dk.Fr (fun j => u4.heap.size ≤ j ∧ j < U.heap.size) u5 Z → Qq w Z p pd v ms sy k E mf' ao' L' cap')) := by
  have hok := h.okm m hm
  have h1 := hok.mf1
  have hf0 := hok.mf0
  have hl := hok.len
  have hM := h.mM
  have hgl := h.gs.len
  have hMo := h.mo (by omega)
  have main : ∀ j : Nat, j ≤ m.ds.length → cnt first m.ds n = j → (∀ (u4 U : World), Dk.Fr H u u4 → Below u4.heap.size u4 U → Calls Tryd.prog 13 #[.agg #[.int .i64 m.mf, .slice m.ao m.ds.length m.cap], .agg #[.int .i64 2, .int .i64 n, .slice aob Lb capb]] U fun e u5 => ∃ (ao' : Option Addr) (cap' : Nat), e = .returned (.tuple #[.agg #[.int .i64 (m.mf + j), .slice ao' (m.ds.drop j).length cap'], .int .i64 0]) ∧ Hid (Ml u5 ao' cap' (m.ds.drop j) (fun j => (ext H u u4 j ∨ v.ownBlock = some j) ∨ (u4.heap.size ≤ j ∧ j < U.heap.size)) ∧ Below U.heap.size U u5)) →
      Calls Tryd.prog 16 #[.pointer (some ⟨p, 0, none⟩), .int .i64 n] u fun e u4 => ∃ E : Int, e = .returned (.int .i64 E) ∧ Hid (Dk.Fr H u u4) ∧
      Hid (∀ U, Below u4.heap.size u4 U → Calls Tryd.prog 13 #[.agg #[.int .i64 m.mf, .slice m.ao m.ds.length m.cap], .agg #[.int .i64 2, .int .i64 n, .slice aob Lb capb]] U fun e u5 => ∃ (mf' : Int) (ao' : Option Addr) (L' cap' : Nat), e = .returned (.tuple #[.agg #[.int .i64 mf', .slice ao' L' cap'], .int .i64 E]) ∧ Hid (Below U.heap.size U u5) ∧ Hid (∀ Z, Dk.Fr (fun j => u4.heap.size ≤ j ∧ j < U.heap.size) u5 Z → Qq w Z p pd v ms sy k E mf' ao' L' cap')) := by
    intro j hj hc hdo
    refine (h.lx.until h.gs (hT _ h.below) (by omega) (by omega) n j hn (by omega) hc).mono ?_
    rintro e u4 ⟨rfl, hX⟩
    obtain ⟨hX4, hfr⟩ := hX.out
    refine ⟨0, rfl, hfr, fun U hU => ?_⟩
    refine (hdo u4 U hfr hU).mono ?_
    rintro e u5 ⟨ao', cap', rfl, hml⟩
    have hg := h.gs.until j hj h.lx.zero
    have hlt : (m.ds.drop j).length = m.ds.length - j := by rw [List.length_drop]
    have hj0 : m.ds.drop j ≠ [] → j ≠ m.ds.length ∧ m.ds ≠ [] := fun hd => ⟨fun e => hd (by rw [e]; simp), fun e => hd (by rw [e]; simp)⟩
    have hz : m.ds.drop j = [] → (if j = m.ds.length then 0 else first + (j : Int)) = 0 := fun e => by
      have : (m.ds.drop j).length = 0 := by rw [e]; rfl
      rw [if_pos (by omega)]
    have hMo' : Mo (if j = m.ds.length then 0 else first + (j : Int)) (m.ds.drop j) := ⟨hg.small, fun hd => by rw [if_neg (hj0 hd).1]; have := hMo.one (hj0 hd).2; omega, hz, by rw [hlt]; omega, hg.fit⟩
    have hs' : Hs (untilS s first m.ds j) ((ms.drop sy).map Md.norm ++ [(if j = m.ds.length then 0 else first + (j : Int), m.ds.drop j)]) := by
      unfold untilS
      by_cases hj1 : j = 0
      · rw [if_pos hj1]
        exact h.hs.more _
      · rw [if_neg hj1]
        have hd : m.ds ≠ [] := fun e => hj1 (by rw [e] at hj; simpa using hj)
        by_cases hj2 : j = m.ds.length
        · rw [if_pos hj2]
          refine h.hs.cut hMo h.gs.now h.norm _ hMo' ?_
          have e0 := h.gs.now.cut0 hd
          have e1 : m.ds.drop j = [] := by rw [hj2]; simp
          rw [e1, if_pos hj2]
          exact e0
        · rw [if_neg hj2] at hMo' ⊢
          rw [if_neg hj2]
          have hnow : s.now = [⟨nmW, fileB first m.ds⟩] := by
            rcases h.gs.now with ⟨_, e⟩ | e
            · exact absurd e hd
            · exact e
          exact h.hs.copy hMo hnow h.norm hMo'
    exact ⟨m.mf + j, ao', _, cap', rfl, hml.out.2, fun Z hZ => Or.inl ⟨rfl, _, _, _, m.ds.drop j, _, rfl, Cz.mk' h hfr (fr_low hU hml.out.2 hZ) hX4 ⟨hg.room, hg.now, hg.mass, hg.small, by have := hg.len; omega, hg.fit⟩ (by omega) (ml_fin hml.out.1 hZ) ⟨show (0 : Int) ≤ m.mf + j by omega, by show m.mf + (j : Int) + ((m.ds.drop j).length : Int) ≤ _; omega, fun hd => by show 1 ≤ m.mf + (j : Int); have := hok.one (hj0 hd).2; omega, by show (m.ds.drop j).length ≤ _; omega, hg.small⟩ (fun hd => by rw [if_neg (hj0 hd).1, hmf (hj0 hd).2]) hz hs'⟩⟩
  by_cases hc : m.ds = [] ∨ n < m.mf
  · refine main 0 (Nat.zero_le _) ?_ (fun u4 U hfr hU => ?_)
    · unfold cnt lastL
      by_cases hd : m.ds = []
      · rw [if_pos (by rw [if_pos (by rw [hd]; rfl)]; omega), hd]; rfl
      · have hm' := hmf hd
        have : m.ds.length ≠ 0 := fun e => hd (List.eq_nil_of_length_eq_zero e)
        have h2 := hc.resolve_left hd
        rw [if_neg (by rw [if_neg this]; omega)]
        omega
    · refine (do_until_none m.mf n m.ao aob m.ds.length m.cap Lb capb U hn (by
        rcases hc with hc | hc
        · left; rw [hc]; rfl
        · exact Or.inr hc)).mono ?_
      rintro e u5 ⟨rfl, hb5⟩
      exact ⟨_, _, by simp, (h.movedU hfr hU m hm).below hb5, hb5⟩
  · have hd : m.ds ≠ [] := fun e => hc (Or.inl e)
    have hle : m.mf ≤ n := by
      have : ¬ n < m.mf := fun e => hc (Or.inr e)
      omega
    have hp : 0 < m.ds.length := by
      rcases Nat.eq_zero_or_pos m.ds.length with hz | hz
      · exact absurd (List.eq_nil_of_length_eq_zero hz) hd
      · exact hz
    have hm' := hmf hd
    by_cases hall : m.mf + (m.ds.length : Int) - 1 ≤ n
    · refine main m.ds.length (Nat.le_refl _) (by
        unfold cnt lastL
        rw [if_pos (by rw [if_neg (by omega)]; omega)]) (fun u4 U hfr hU => ?_)
      exact do_until_some m.mf n m.ao aob m.cap Lb capb m.ds _ m.ds.length U (h.movedU hfr hU m hm) (h.hltU hfr hU) (by omega) ⟨hf0, by omega⟩ ⟨hn, by omega⟩ hp (Or.inr ⟨rfl, hall⟩)
    · refine main (n - m.mf + 1).toNat (by omega) (by
        unfold cnt lastL
        rw [if_neg (by rw [if_neg (by omega)]; omega), ← hm']) (fun u4 U hfr hU => ?_)
      exact do_until_some m.mf n m.ao aob m.cap Lb capb m.ds _ _ U (h.movedU hfr hU m hm) (h.hltU hfr hU) (by omega) ⟨hf0, by omega⟩ ⟨hn, by omega⟩ (by omega) (Or.inl ⟨by omega, by omega⟩)

theorem cw_sync (h : Cw w u p pd s H first ds v ms sy k M) (hk : k < 30) :
    Calls Tryd.prog 17 #[.pointer (some ⟨p, 0, none⟩)] u fun e u4 => e = .returned (.tuple #[]) ∧ Hid (∃ s' H' M', Cw w u4 p pd s' H' first ds v ms (ms.length - 1) (k + 1) M') := by
  have hM := h.mM
  have hmass := h.gs.mass
  have hg := h.gs.sync
  have hgl := h.gs.len
  have hsy := h.sy
  have hMo := h.mo (by omega)
  refine (h.lx.sync (by omega)).mono ?_
  rintro e u4 ⟨rfl, hX⟩
  obtain ⟨hX4, hfr⟩ := hX.out
  have hns := h.norm
  refine ⟨rfl, _, _, k * 328 + 1, hX4, ⟨hg.room, hg.now, hg.mass, hg.small, by omega, hg.fit⟩, by omega, fun j hj => h.hge j (Or.inl hj), h.row4 hfr, fun j hj hH => ?_, h.moved hfr, fun x hx => (h.okm x hx).more, h.last, ?_, by omega, by have := h.nz; omega, h.bel4 hfr⟩
  · rcases hH with hH | hH
    · exact h.off j hj hH
    · have := (h.row.lt j hj).2; omega
  · obtain ⟨ms0, m, he, hd, hf⟩ := h.last
    have hdr : ms.drop (ms.length - 1) = [m] := by
      rw [he]
      simp
    rw [hdr]
    have hn : m.norm = (first, ds) := by
      unfold Md.norm
      rw [hd]
      by_cases hz : ds.length = 0
      · rw [if_pos hz, h.lx.zero (List.eq_nil_of_length_eq_zero hz)]
      · rw [if_neg hz, hf (fun e => hz (by rw [e]; rfl))]
    show Hs _ [m.norm]
    rw [hn]
    exact Hs.sync hMo h.gs.now
end
end Go.Proofs.YtnbdkojdddplkaaDoor.Wl
namespace Go.Proofs.YtnbdkojdddplkaaDoor.Wl
open Go.RowKit Dk

set_option maxHeartbeats 4000000 in
set_option maxRecDepth 20000 in
theorem same_any (p pd : Nat) (s : St) (H K : Nat → Prop) (first : Int) (ds es : List (List UInt8)) (mf : Int) (ao : Option Addr) (cap : Nat) (w : World) (hX : LX w p pd s H first ds) (hM : Ml w ao cap es K) (h1 : es ≠ [] → 1 ≤ mf)
    (hmf : 0 ≤ mf ∧ mf + es.length ≤ 2251799813685248) (hl : es.length ≤ 100) (hd : ∀ d ∈ ds, d.length ≤ 300) :
    Calls Tryd.prog 19 #[.pointer (some ⟨p, 0, none⟩), .agg #[.int .i64 mf, .slice ao es.length cap]] w fun e w' => ∃ b, e = .returned (.bool b) ∧ Below w.heap.size w w' := by
  obtain ⟨X, HXe⟩ : ∃ X, Hid (X = w.alloc (.cells #[.int .i64 mf, .slice ao es.length cap] 32)) := ⟨_, (rfl : _ = w.alloc (.cells #[.int .i64 mf, .slice ao es.length cap] 32))⟩
  have hbX : Below w.heap.size w X := by rw [HXe.out]; exact (Below.refl _ _).alloc (Nat.le_refl _) _
  have hbl : X.heap[w.heap.size]? = some (.cells #[.int .i64 mf, .slice ao es.length cap] 32 (0, 0)) := by rw [HXe.out]; exact heap_alloc_new _ _
  have hsX := hbX.size
  have m0 : X.cell? ⟨w.heap.size, 0, none⟩ = some (.int .i64 mf) := by rw [cell_of_row X _ 0 _ _ _ hbl]; rfl
  have m1 : X.cell? ⟨w.heap.size, 1, none⟩ = some (.slice ao es.length cap) := by rw [cell_of_row X _ 1 _ _ _ hbl]; rfl
  have hLX : ∀ u, Below X.heap.size X u → LX u p pd s H first ds := fun u hb => hX.below (hbX.trans (hb.mono hsX))
  have hML : ∀ u, Below X.heap.size X u → Ml u ao cap es K := fun u hb => hM.below (hbX.trans (hb.mono hsX))
  obtain ⟨lm, hlm⟩ : ∃ lm : Int, Hid ((if es.length = 0 then 0 else mf + es.length - 1) = lm) := ⟨_, (rfl : _ = _)⟩
  have HLs : Hid (∀ u, Hid (Below X.heap.size X u) → Calls Tryd.prog 24 #[.pointer (some ⟨p, 0, none⟩)] u fun e w' => e = .returned (.int .i64 (lastL first ds)) ∧ w'.cell? ⟨w.heap.size, 0, none⟩ = some (.int .i64 mf) ∧ w'.cell? ⟨w.heap.size, 1, none⟩ = some (.slice ao es.length cap) ∧ Hid (Below X.heap.size X w')) := by
    intro u hb
    obtain ⟨F, hW, _⟩ := (hLX u hb.out).lw
    refine hW.last.mono ?_
    rintro e w' ⟨rfl, m, rfl⟩
    have hb2 := hb.out.trans ((below_drew u m).mono hb.out.size)
    exact ⟨rfl, below_cell hb2 m0, below_cell hb2 m1, hb2⟩
  have HMd : Hid (∀ u, Hid (Below X.heap.size X u) → Calls Tryd.prog 30 #[.agg #[.int .i64 mf, .slice ao es.length cap]] u fun e w' => e = .returned (.int .i64 lm) ∧ w'.cell? ⟨w.heap.size, 0, none⟩ = some (.int .i64 mf) ∧ w'.cell? ⟨w.heap.size, 1, none⟩ = some (.slice ao es.length cap) ∧ Hid (Below X.heap.size X w')) := by
    intro u hb
    refine (last_md mf ao es.length cap u (by omega) (by omega) (by omega)).mono ?_
    rintro e w' ⟨rfl, hb'⟩
    have hb2 := hb.out.trans (hb'.mono hb.out.size)
    exact ⟨by rw [hlm.out], below_cell hb2 m0, below_cell hb2 m1, hb2⟩
  have HFi : Hid (∀ u, Hid (Below X.heap.size X u) → Calls Tryd.prog 26 #[.pointer (some ⟨p, 0, none⟩)] u fun e w' => e = .returned (.int .i64 first) ∧ w'.cell? ⟨w.heap.size, 0, none⟩ = some (.int .i64 mf) ∧ w'.cell? ⟨w.heap.size, 1, none⟩ = some (.slice ao es.length cap) ∧ Hid (Below X.heap.size X w')) := by
    intro u hb
    obtain ⟨F, hW, _⟩ := (hLX u hb.out).lw
    refine hW.first.mono ?_
    rintro e w' ⟨rfl, rfl⟩
    exact ⟨rfl, below_cell hb.out m0, below_cell hb.out m1, hb⟩
  have HGm : Hid (∀ (n : Int) u, (n < 1 ∨ n < first ∨ lastL first ds < n) → Hid (Below X.heap.size X u) → Calls Tryd.prog 25 #[.pointer (some ⟨p, 0, none⟩), .int .i64 n] u fun e w' => e = .returned (.tuple #[.slice none 0 0, .bool false]) ∧ w'.cell? ⟨w.heap.size, 0, none⟩ = some (.int .i64 mf) ∧ w'.cell? ⟨w.heap.size, 1, none⟩ = some (.slice ao es.length cap) ∧ Hid (Below X.heap.size X w')) := by
    intro n u hn hb
    obtain ⟨F, hW, _⟩ := (hLX u hb.out).lw
    refine (get_miss 0 p pd s F first ds n u hW hn).mono ?_
    rintro e w' ⟨rfl, m, rfl⟩
    have hb2 := hb.out.trans ((below_drew u m).mono hb.out.size)
    exact ⟨rfl, below_cell hb2 m0, below_cell hb2 m1, hb2⟩
  obtain ⟨ll, hll⟩ : ∃ ll : Int, Hid (lastL first ds = ll) := ⟨_, (rfl : _ = _)⟩
  rw [hll.out] at HLs HGm
  have HEnd : Hid (∀ u, Hid (Below X.heap.size X u) → Below w.heap.size w u) := fun u hb => hbX.trans (hb.out.mono hsX)
  have HEd : Hid (Below X.heap.size X X.drew) := (Below.refl _ _).drew
  by_cases hq : ll = lm
  case neg =>
    clear hX hM h1 hmf hl hd hLX hML HGm hbl hbX hlm hll HFi
    go_enter Tryd.func19, Tryd.ntmps19
    go_wp2_with fail
    rw [← HXe.out]
    have g1 : decide (ll = lm) = false := by simpa using hq
    go_region_held (fun w' => w'.cell? ⟨w.heap.size, 0, none⟩ = some (.int .i64 mf) ∧ w'.cell? ⟨w.heap.size, 1, none⟩ = some (.slice ao es.length cap))
      (first | exact ⟨m0, m1⟩)
      (first
        | (go_at_call 24; refine (HLs.out _ HEd).mono ?_; rintro e w6 ⟨rfl, m0, m1, HEd⟩)
        | (go_at_call 30; refine (HMd.out _ HEd).mono ?_; rintro e w6 ⟨rfl, m0, m1, HEd⟩))
    all_goals go_wp2_with fail
    all_goals go_ret
    all_goals exact ⟨_, rfl, HEnd.out _ HEd⟩
  subst hq
  by_cases hz : es.length = 0
  case pos =>
    rw [hz] at HLs HMd HFi m1 HXe ⊢
    clear hX hM h1 hmf hl hd hLX hML HGm hbl hbX hlm hll
    go_enter Tryd.func19, Tryd.ntmps19
    go_wp2_with fail
    rw [← HXe.out]
    go_region_held (fun w' => w'.cell? ⟨w.heap.size, 0, none⟩ = some (.int .i64 mf) ∧ w'.cell? ⟨w.heap.size, 1, none⟩ = some (.slice ao 0 cap))
      (first | exact ⟨m0, m1⟩)
      (first
        | (go_at_call 24; refine (HLs.out _ HEd).mono ?_; rintro e w6 ⟨rfl, m0, m1, HEd⟩)
        | (go_at_call 30; refine (HMd.out _ HEd).mono ?_; rintro e w6 ⟨rfl, m0, m1, HEd⟩))
    all_goals go_wp2_with (go_at_call 26; refine (HFi.out _ HEd).mono ?_; rintro e w7 ⟨rfl, m0, m1, HEd⟩)
    all_goals go_ret
    all_goals exact ⟨_, rfl, HEnd.out _ HEd⟩
  have hne : es ≠ [] := fun e => hz (by rw [e]; rfl)
  have hf1 := h1 hne
  have hz' : ((es.length : Int) == 0) = false := by rw [beq_eq_false_iff_ne]; omega
  by_cases hfm : first = mf
  case neg =>
    clear hX hM h1 hmf hl hd hLX hML HGm hbl hbX hlm hll hne
    go_enter Tryd.func19, Tryd.ntmps19
    go_wp2_with fail
    rw [← HXe.out]
    go_region_held (fun w' => w'.cell? ⟨w.heap.size, 0, none⟩ = some (.int .i64 mf) ∧ w'.cell? ⟨w.heap.size, 1, none⟩ = some (.slice ao es.length cap))
      (first | exact ⟨m0, m1⟩)
      (first
        | (go_at_call 24; refine (HLs.out _ HEd).mono ?_; rintro e w6 ⟨rfl, m0, m1, HEd⟩)
        | (go_at_call 30; refine (HMd.out _ HEd).mono ?_; rintro e w6 ⟨rfl, m0, m1, HEd⟩))
    go_wp2_with fail
    have HEd : Hid (Below X.heap.size X w6.drew) := HEd.out.drew
    have g2 : decide (first = mf) = false := by simpa using hfm
    go_region_held (fun w' => w'.cell? ⟨w.heap.size, 0, none⟩ = some (.int .i64 mf) ∧ w'.cell? ⟨w.heap.size, 1, none⟩ = some (.slice ao es.length cap))
      (first | exact ⟨m0, m1⟩)
      (first
        | (go_at_call 26; refine (HFi.out _ HEd).mono ?_; rintro e w7 ⟨rfl, m0, m1, HEd⟩))
    go_wp2_with fail
    go_ret
    exact ⟨_, rfl, HEnd.out _ HEd⟩
  subst hfm
  have hle : ds.length = es.length ∧ ll = first + es.length - 1 := by
    have e1 := hll.out
    have e2 := hlm.out
    rw [if_neg hz] at e2
    unfold lastL at e1
    by_cases hd0 : ds.length = 0
    · rw [if_pos hd0] at e1
      omega
    · rw [if_neg hd0] at e1
      exact ⟨by omega, e2.symm⟩
  obtain ⟨hlen, hlle⟩ := hle
  have HGh : Hid (∀ (k : Nat) (hk : k < ds.length) u, Hid (Below X.heap.size X u) → Calls Tryd.prog 25 #[.pointer (some ⟨p, 0, none⟩), .int .i64 (first + k)] u fun e w' => ∃ aob capb, e = .returned (.tuple #[.slice aob ds[k].length capb, .bool true]) ∧ Hid (Below X.heap.size X w') ∧ Hid (Sl w' (.slice aob ds[k].length capb) ds[k])) := by
    intro k hk u hb
    obtain ⟨F, hW, _⟩ := (hLX u hb.out).lw
    have hdk := hd ds[k] (List.getElem_mem hk)
    refine (get_hit 0 p pd s F first ds k u hW hk hf1 (by omega) (by omega) (by omega)).mono ?_
    rintro e w' ⟨v', rfl, hO, hb'⟩
    have hS := Sl.of_own hO
    obtain ⟨aob, capb, rfl, _, _⟩ := hS.shape
    exact ⟨aob, capb, rfl, hb.out.trans (hb'.mono hb.out.size), hS⟩
  have HAt : Hid (∀ (k : Nat) (hk : k < es.length), ∃ g off aod capd, ao = some ⟨g, off, none⟩ ∧ ∀ u, Hid (Below X.heap.size X u) → u.cell? ⟨g, off + k, none⟩ = some (.slice aod es[k].length capd) ∧ (convert 33 9 (.slice aod es[k].length capd)).run Tryd.prog u = .ok (.string ⟨es[k].toArray⟩) u) := by
    intro k hk
    obtain ⟨g, off, aod, capd, e, hc, hs⟩ := (hML X (Below.refl _ _)).at k hk
    exact ⟨g, off, aod, capd, e, fun u hb => ⟨below_cell hb.out hc, str_of_sl (P := Tryd.prog) (hs.below hb.out) 33 5 9 Tryd.underlying33 Tryd.underlying5 Tryd.underlying9⟩⟩
  have HM : Hid (∀ u, Hid (Below X.heap.size X u) → u.cell? ⟨w.heap.size, 0, none⟩ = some (.int .i64 first) ∧ u.cell? ⟨w.heap.size, 1, none⟩ = some (.slice ao es.length cap)) := fun u hb => ⟨below_cell hb.out m0, below_cell hb.out m1⟩
  clear hX hM h1 hd hLX hML hbl hbX hne hlm hll
  go_enter Tryd.func19, Tryd.ntmps19
  go_wp2_with fail
  rw [← HXe.out]
  go_region_held (fun w' => w'.cell? ⟨w.heap.size, 0, none⟩ = some (.int .i64 first) ∧ w'.cell? ⟨w.heap.size, 1, none⟩ = some (.slice ao es.length cap))
    (first | exact ⟨m0, m1⟩)
    (first
      | (go_at_call 24; refine (HLs.out _ HEd).mono ?_; rintro e w6 ⟨rfl, m0, m1, HEd⟩)
      | (go_at_call 30; refine (HMd.out _ HEd).mono ?_; rintro e w6 ⟨rfl, m0, m1, HEd⟩))
  go_wp2_with fail
  have HEd : Hid (Below X.heap.size X w6.drew) := HEd.out.drew
  go_region_held (fun w' => w'.cell? ⟨w.heap.size, 0, none⟩ = some (.int .i64 first) ∧ w'.cell? ⟨w.heap.size, 1, none⟩ = some (.slice ao es.length cap))
    (first | exact ⟨m0, m1⟩)
    (first
      | (go_at_call 26; refine (HFi.out _ HEd).mono ?_; rintro e w7 ⟨rfl, m0, m1, HEd⟩))
  have HB7 : Hid (Below X.heap.size X w7) := HEd
  clear HEd m0 m1
  go_wp2_with fail
  go_loopw [5] (fun vi wr => ∃ k : Nat, k ≤ es.length ∧ vi = .int .i64 (k : Int) ∧ Hid (Below X.heap.size X wr)) (fun vi _ => es.length - (intOf vi).toNat)
  case atStart => exact ⟨0, Nat.zero_le _, rfl, HB7⟩
  case round =>
    obtain ⟨k, hk, rfl, HK⟩ := hrel
    clear HB7
    obtain ⟨m0, m1⟩ := HM.out wr HK
    by_cases hlt : k < es.length
    · have hlt' : (k : Int) < (es.length : Int) := by omega
      have hltd : k < ds.length := by omega
      have HG : Hid (_) := HGh.out k hltd wr HK
      obtain ⟨g, off, aod, capd, rfl, hat⟩ := HAt.out k hlt
      have HT : Hid (∀ u, Hid (Below X.heap.size X u) → u.cell? ⟨g, off + k, none⟩ = some (.slice aod es[k].length capd) ∧ (convert 33 9 (.slice aod es[k].length capd)).run Tryd.prog u = .ok (.string ⟨es[k].toArray⟩) u) := hat
      clear hat HAt HGh HGm HLs HMd HFi
      generalize ds[k] = X1 at *
      generalize es[k] = Y1 at *
      go_wp2_with (go_at_call 25; refine Calls.mono HG.out ?_; rintro e w5 ⟨aob, capb, rfl, HB5, HS5⟩)
      have HB5' : Hid (Below X.heap.size X w5.drew) := HB5.out.drew
      obtain ⟨s0, s1⟩ := HM.out w5.drew HB5'
      obtain ⟨s2, s3⟩ := HT.out w5.drew HB5'
      have s4 := str_of_sl (P := Tryd.prog) (HS5.out.below (Below.refl _ w5).drew) 33 5 9 Tryd.underlying33 Tryd.underlying5 Tryd.underlying9
      clear m0 m1 HT HG HM
      generalize X1.length = L at *
      generalize Y1.length = L2 at *
      obtain ⟨x1, hx1⟩ : ∃ x1 : ByteArray, Hid (x1 = ⟨X1.toArray⟩) := ⟨_, (rfl : _ = _)⟩
      obtain ⟨y1, hy1⟩ : ∃ y1 : ByteArray, Hid (y1 = ⟨Y1.toArray⟩) := ⟨_, (rfl : _ = _)⟩
      rw [← hy1.out] at s3
      rw [← hx1.out] at s4
      go_region_held (fun u => u.cell? ⟨w.heap.size, 1, none⟩ = some (.slice (some ⟨g, off, none⟩) es.length cap) ∧ u.cell? ⟨g, off + k, none⟩ = some (.slice aod L2 capd) ∧ (convert 33 9 (.slice aod L2 capd)).run Tryd.prog u = .ok (.string y1) u ∧ (convert 33 9 (.slice aob L capb)).run Tryd.prog u = .ok (.string x1) u)
        (first | exact ⟨s1, s2, s3, s4⟩)
        (fail)
      clear s0 s1 s2 s3 s4
      go_wp2_with fail
      all_goals first
        | (go_roundw
           case rel => exact ⟨k + 1, by omega, by go_num, HB5'⟩
           case measure => simp [intOf]; omega)
        | (go_ret
           exact ⟨_, rfl, HEnd.out _ HB5'⟩)
    · obtain rfl : k = es.length := by omega
      clear HAt HGh HLs HFi HM
      go_wp2_with fail
      refine Calls.mono (HGm.out _ _ (by omega) HK) ?_
      rintro e w5 ⟨rfl, m0, m1, HE5⟩
      clear HK
      go_wp2_with fail
      refine Calls.mono (HMd.out _ HE5) ?_
      rintro e w6 ⟨rfl, m0, m1, HE6⟩
      clear HE5 HMd
      go_wp2_with fail
      refine Calls.mono (HGm.out _ _ (by omega) HE6) ?_
      rintro e w8 ⟨rfl, m0, m1, HE8⟩
      clear HGm HE6
      go_wp2
      go_ret
      exact ⟨_, rfl, HEnd.out _ HE8⟩
end Go.Proofs.YtnbdkojdddplkaaDoor.Wl
namespace Go.Proofs.YtnbdkojdddplkaaDoor.Wl
open Go.RowKit Dk

/-- The beginning: a disk, a log, one empty model. -/
theorem cw_start {w w1 : World} (hb1 : Below w.heap.size w w1) (hT : ∀ u, Below w.heap.size w u → Fr.Tab u) (hw0 : 0 < w.heap.size) :
    Calls Tryd.prog 10 #[.int .i64 1048576] w1 fun e w2 => ∃ pd, e = .returned (.pointer (some ⟨pd, 0, none⟩)) ∧ Hid (Calls Tryd.prog 11 #[.pointer (some ⟨pd, 0, none⟩)] w2 fun e w3 => ∃ p, e = .returned (.tuple #[.pointer (some ⟨p, 0, none⟩), .int .i64 0]) ∧
      Hid (∃ s H, Cw w (w3.alloc (.cells #[.int .i64 0, .slice none 0 0] 32)) p pd s H 0 [] (.slice (some ⟨w3.heap.size, 0, none⟩) 1 1) [⟨0, none, 0, []⟩] 0 0 1)) := by
  refine (new_any 1048576 w1).mono ?_
  rintro e w2 ⟨rfl, hD2, hb2⟩
  rw [room_M] at hD2
  refine ⟨_, rfl, ?_⟩
  have hs1 := hb1.size
  have hb2' : Below w.heap.size w w2 := hb1.trans (hb2.mono hs1)
  have hf : fileOf (⟨1048576, [], []⟩ : St) nmW = [] := rfl
  have hs2 := hb2.size
  refine (LX.open hD2 (hT _ hb2') (fun h => by
    rcases h with h | h
    · exact h
    · omega) (by simp [St.mass, Dk.mass, wmass]) (fun f hf => by simp [St.now, Dk.run] at hf) (by rw [hf]; decide) (by simp [St.now, Dk.run]) 0 [] (by rw [hf, Fr.scan_nil]; rfl)).mono ?_
  rintro e w3 ⟨p, rfl, hO⟩
  obtain ⟨hX, hf3⟩ := hO.out
  have hs3 := hf3.size
  have hnow : nowF ([] : List Fl) 0 [] := Or.inl ⟨rfl, rfl⟩
  rw [openS_good hnow 1048576 (fun d hd => by simp at hd) (fun h => absurd rfl h) (fun _ => rfl) (by simp)] at hX
  have hFge : ∀ j, ext (fun _ => False) w1 w2 j → w.heap.size ≤ j := fun j hj => by
    rcases hj with hj | hj
    · exact hj.elim
    · omega
  have hb3 : Below w.heap.size w w3 := hb2'.trans (hf3.below hFge (by omega))
  have hws := hb3.size
  refine ⟨p, rfl, _, _, hX.below (below_box1 _ _), ⟨rfl, hnow, by simp [St.mass, Dk.mass, wmass], fun d hd => by simp at hd, Nat.le_refl _, by simp⟩, by omega, fun j hj => ?_, ⟨rfl, Or.inr ⟨w3.heap.size, 1, _, rfl, hws, heap_alloc_new _ _, Nat.le_refl _, by simp [maxLen], rfl, rfl⟩⟩, fun j hj hH => ?_, fun m hm => ?_, fun m hm => ?_, ⟨[], _, rfl, rfl, fun h => absurd rfl h⟩, fun n t => ⟨(0, []), by simp [Md.norm], ?_⟩, by simp, by simp, hb3.alloc hws _⟩
  · rcases hj with hj | hj
    · exact hFge j hj
    · omega
  · have := hX.lt _ hH
    simp [Value.ownBlock] at hj
    omega
  · simp at hm
    rw [hm]
    exact Ml.nil _ _
  · simp at hm
    rw [hm]
    exact ⟨Int.le_refl _, by simp, fun h => absurd rfl h, Nat.le_refl _, fun d hd => by simp at hd⟩
  · rw [left_none]
    exact Or.inl ⟨rfl, rfl, rfl⟩

/-- The end: a log that is opened anew, and the models. -/
structure Ce (w u : World) (p pd : Nat) (s : St) (H : Nat → Prop) (first : Int) (ds : List (List UInt8)) (v : Value) (ms : List Md) (sy k : Nat) : Prop where
  lx : LX u p pd s H first ds
  row : u.ownsRow w.heap.size 32 2 v ms.length (cells2 ms)
  ml : ∀ m ∈ ms, Ml u m.ao m.cap m.ds H
  okm : ∀ m ∈ ms, Mok m k
  hit : ∃ j, sy ≤ j ∧ ∃ h : j < ms.length, ms[j].norm = (first, ds)
  below : Below w.heap.size w u
theorem Ce.keep {w wr u : World} {p pd : Nat} {s : St} {H : Nat → Prop} {first : Int} {ds : List (List UInt8)} {v : Value} {ms : List Md} {sy k : Nat} (h : Ce w wr p pd s H first ds v ms sy k) (hb : Below wr.heap.size wr u) : Ce w u p pd s H first ds v ms sy k :=
  ⟨h.lx.below hb, own_keptB (F := fun _ => False) h.row (Fr.of_below hb) (fun _ _ hf => hf), fun m hm => (h.ml m hm).below hb, h.okm, h.hit, h.below.trans (hb.mono h.below.size)⟩

theorem openS_mass2 (s : St) : (openS s).mass ≤ s.mass + s.now.length + 1 := by
  have h := strays_mass (s.now.map Fl.name) s
  rw [List.length_map] at h
  unfold openS
  split
  · rw [St.push_mass]
    simp [Ch.mass]
    omega
  · omega

theorem cw_end {w wr : World} {p pd : Nat} {s : St} {H : Nat → Prop} {first : Int} {ds : List (List UInt8)} {v : Value} {ms : List Md} {sy k M : Nat} (h : Cw w wr p pd s H first ds v ms sy k M) (hT : ∀ u, Below w.heap.size w u → Fr.Tab u) (hw0 : 0 < w.heap.size) (hk : k ≤ 30) (n t a : Int) :
    Calls Tryd.prog 18 #[.pointer (some ⟨pd, 0, none⟩), .int .i64 n, .int .i64 t] wr fun e u1 => ∃ q1, e = .returned (.pointer (some ⟨q1, 0, none⟩)) ∧ Hid (Calls Tryd.prog 11 #[.pointer (some ⟨q1, 0, none⟩)] u1 fun e u2 => ∃ p1, e = .returned (.tuple #[.pointer (some ⟨p1, 0, none⟩), .int .i64 0]) ∧
      Hid (Calls Tryd.prog 18 #[.pointer (some ⟨q1, 0, none⟩), .int .i64 a, .int .i64 t] u2 fun e u3 => ∃ q2, e = .returned (.pointer (some ⟨q2, 0, none⟩)) ∧ Hid (Calls Tryd.prog 11 #[.pointer (some ⟨q2, 0, none⟩)] u3 fun e u4 => ∃ p2, e = .returned (.tuple #[.pointer (some ⟨p2, 0, none⟩), .int .i64 0]) ∧
        Hid (∃ s' H' first' ds', Ce w u4 p2 q2 s' H' first' ds' v ms sy k)))) := by
  have hM := h.mM
  have hmass := h.gs.mass
  obtain ⟨m, hm, hcr⟩ := h.hs n t
  obtain ⟨a1, a2, a3, a4, a5⟩ := hcr.asks s.room
  refine (h.lx.crash (by omega) n t).mono ?_
  rintro e u1 ⟨q1, rfl, hD⟩
  obtain ⟨hD1, hb1⟩ := hD.out
  refine ⟨q1, rfl, ?_⟩
  have hws := h.below.size
  have hs1 := hb1.size
  have hbw1 : Below w.heap.size w u1 := h.below.trans (hb1.mono hws)
  refine (LX.open hD1 (hT _ hbw1) (fun hh => by
    rcases hh with hh | hh
    · exact hh
    · omega) (by omega) a1 a2 a3 m.1 m.2 a5).mono ?_
  rintro e u2 ⟨p1, rfl, hO⟩
  obtain ⟨hX2, hf2⟩ := hO.out
  have hs2 := hf2.size
  refine ⟨p1, rfl, ?_⟩
  have hF1 : ∀ j, ext (fun _ => False) wr u1 j → wr.heap.size ≤ j := fun j hj => by
    rcases hj with hj | hj
    · exact hj.elim
    · omega
  have hb2 : Below wr.heap.size wr u2 := hb1.trans (hf2.below hF1 (by omega))
  have hom := openS_mass2 ⟨s.room, Dk.leftOf s n t, []⟩
  have hln : (⟨s.room, Dk.leftOf s n t, []⟩ : St).now.length ≤ 100 := a3
  refine (hX2.crash (by omega) a t).mono ?_
  rintro e u3 ⟨q2, rfl, hD'⟩
  obtain ⟨hD3, hb3⟩ := hD'.out
  refine ⟨q2, rfl, ?_⟩
  have hs3 := hb3.size
  have hb3' : Below wr.heap.size wr u3 := hb2.trans (hb3.mono hb2.size)
  have hbw3 : Below w.heap.size w u3 := h.below.trans (hb3'.mono hws)
  have hcr2 := open_cr hcr s.room a t
  obtain ⟨b1, b2, b3, b4, b5⟩ := hcr2.asks (openS ⟨s.room, Dk.leftOf s n t, []⟩).room
  refine (LX.open hD3 (hT _ hbw3) (fun hh => by
    rcases hh with hh | hh
    · exact hh
    · omega) (by omega) b1 b2 b3 m.1 m.2 b5).mono ?_
  rintro e u4 ⟨p2, rfl, hO'⟩
  obtain ⟨hX4, hf4⟩ := hO'.out
  have hs4 := hf4.size
  have hF3 : ∀ j, ext (fun _ => False) u2 u3 j → wr.heap.size ≤ j := fun j hj => by
    rcases hj with hj | hj
    · exact hj.elim
    · omega
  have hb4 : Below wr.heap.size wr u4 := hb3'.trans (hf4.below hF3 (by omega))
  refine ⟨p2, rfl, _, _, m.1, m.2, hX4, own_keptB (F := fun _ => False) h.row (Fr.of_below hb4) (fun _ _ hf => hf), fun x hx => ?_, h.okm, ?_, h.below.trans (hb4.mono hws)⟩
  · refine (((h.ml x hx).more (K := fun j => wr.heap.size ≤ j) (fun j hj hK => by omega)).kept (Fr.of_below hb4)).more (fun j _ hj => ?_)
    rcases hj with hj | hj
    · exact hF3 j hj
    · omega
  · obtain ⟨x, hx, he⟩ := List.mem_map.1 hm
    obtain ⟨i, hi, hix⟩ := List.getElem_of_mem hx
    rw [List.length_drop] at hi
    refine ⟨sy + i, by omega, by omega, ?_⟩
    rw [List.getElem_drop] at hix
    rw [hix, he]

/-- A look at one of the models. -/
theorem Ce.look {w u : World} {p pd : Nat} {s : St} {H : Nat → Prop} {first : Int} {ds : List (List UInt8)} {v : Value} {ms : List Md} {sy k : Nat} (h : Ce w u p pd s H first ds v ms sy k) (hk : k ≤ 30) (i : Nat) (hi : i < ms.length) :
    Calls Tryd.prog 19 #[.pointer (some ⟨p, 0, none⟩), .agg #[.int .i64 ms[i].mf, .slice ms[i].ao ms[i].ds.length ms[i].cap]] u fun e u' => ∃ b, e = .returned (.bool b) ∧ Hid (ms[i].norm = (first, ds) → b = true) ∧ Hid (Ce w u' p pd s H first ds v ms sy k) := by
  have hm := List.getElem_mem hi
  have hok := h.okm _ hm
  have hml := h.ml _ hm
  have h1 := hok.mf1
  have hl := hok.len
  have hsm : ∀ d ∈ ds, d.length ≤ 300 := by
    obtain ⟨j, _, hj, he⟩ := h.hit
    have e2 : ms[j].ds = ds := congrArg Prod.snd he
    rw [← e2]
    exact (h.okm _ (List.getElem_mem hj)).small
  by_cases hn : ms[i].norm = (first, ds)
  · have e2 : ms[i].ds = ds := congrArg Prod.snd hn
    have e1 : (if ms[i].ds.length = 0 then 0 else ms[i].mf) = first := congrArg Prod.fst hn
    have he : ms[i].ds ≠ [] → ms[i].mf = first := fun hd => by
      rw [if_neg (fun e => hd (List.eq_nil_of_length_eq_zero e))] at e1
      exact e1
    have hX := h.lx
    rw [← e2] at hX hsm
    refine (same_md p pd s H first ms[i].ds ms[i].mf ms[i].ao ms[i].cap u hX hml he (fun hd => by rw [← he hd]; exact hok.one hd) ⟨hok.mf0, by omega⟩ (by omega) hsm).mono ?_
    rintro e u' ⟨rfl, hb⟩
    exact ⟨true, rfl, fun _ => rfl, h.keep hb⟩
  · refine (same_any p pd s H H first ds ms[i].ds ms[i].mf ms[i].ao ms[i].cap u h.lx hml hok.one ⟨hok.mf0, by omega⟩ (by omega) hsm).mono ?_
    rintro e u' ⟨b, rfl, hb⟩
    exact ⟨b, rfl, fun e => absurd e hn, h.keep hb⟩
end Go.Proofs.YtnbdkojdddplkaaDoor.Wl
namespace Go.Proofs.YtnbdkojdddplkaaDoor.Wl
open Go.RowKit Dk

theorem new_cells {u4 u5 : World} (hb : Below (u4.alloc (.cells #[.int .i64 0, .slice none 0 0] 32)).drew.heap.size (u4.alloc (.cells #[.int .i64 0, .slice none 0 0] 32)).drew u5) : u5.heap[u4.heap.size]? = some (.cells #[.int .i64 0, .slice none 0 0] 32 (0, 0)) ∧ u5.cell? ⟨u4.heap.size, 0, none⟩ = some (.int .i64 0) ∧ u5.cell? ⟨u4.heap.size, 1, none⟩ = some (.slice none 0 0) ∧ u5.frozen? ⟨u4.heap.size, 0, none⟩ = false ∧ u5.frozen? ⟨u4.heap.size, 1, none⟩ = false := by
  have h : u5.heap[u4.heap.size]? = some (.cells #[.int .i64 0, .slice none 0 0] 32 (0, 0)) := by
    rw [hb.block _ (by show u4.heap.size < (u4.alloc _).heap.size; simp)]
    exact heap_alloc_new u4 _
  have h2 := two_cells h
  exact ⟨h, h2.1, h2.2.1, h2.2.2 0, h2.2.2 1⟩

/-- The new model's cell, laid behind the call or ahead of it. -/
theorem new_after {w wc u5 : World} {p pd : Nat} {v : Value} {ms : List Md} {sy k : Nat} {E mf' : Int} {ao' : Option Addr} {L' cap' : Nat} (_hb : Below wc.drew.heap.size wc.drew u5) (hQ : ∀ Z, Dk.Fr (fun j => wc.heap.size ≤ j ∧ j < wc.drew.heap.size) u5 Z → Qq w Z p pd v ms sy k E mf' ao' L' cap') :
    (u5.alloc (.cells #[.int .i64 mf', .slice ao' L' cap'] 32)).heap[u5.heap.size]? = some (.cells #[.int .i64 mf', .slice ao' L' cap'] 32 (0, 0)) ∧ Qq w (u5.alloc (.cells #[.int .i64 mf', .slice ao' L' cap'] 32)) p pd v ms sy k E mf' ao' L' cap' :=
  ⟨heap_alloc_new _ _, hQ _ (Fr.of_below (below_box1 _ _))⟩
theorem new_ahead {w wc u5 : World} {p pd : Nat} {v : Value} {ms : List Md} {sy k : Nat} {E mf' : Int} {ao' : Option Addr} {L' cap' : Nat} (hb : Below (wc.alloc (.cells #[.int .i64 0, .slice none 0 0] 32)).drew.heap.size (wc.alloc (.cells #[.int .i64 0, .slice none 0 0] 32)).drew u5)
    (hQ : ∀ Z, Dk.Fr (fun j => wc.heap.size ≤ j ∧ j < (wc.alloc (.cells #[.int .i64 0, .slice none 0 0] 32)).drew.heap.size) u5 Z → Qq w Z p pd v ms sy k E mf' ao' L' cap') :
    ((u5.setCell ⟨wc.heap.size, 0, none⟩ (.int .i64 mf')).setCell ⟨wc.heap.size, 1, none⟩ (.slice ao' L' cap')).heap[wc.heap.size]? = some (.cells #[.int .i64 mf', .slice ao' L' cap'] 32 (0, 0)) ∧ Qq w ((u5.setCell ⟨wc.heap.size, 0, none⟩ (.int .i64 mf')).setCell ⟨wc.heap.size, 1, none⟩ (.slice ao' L' cap')) p pd v ms sy k E mf' ao' L' cap' := by
  refine ⟨set_second (set_first (new_cells hb).1), hQ _ ?_⟩
  have hf : Dk.Fr (fun j => j = wc.heap.size) u5 ((u5.setCell ⟨wc.heap.size, 0, none⟩ (.int .i64 mf')).setCell ⟨wc.heap.size, 1, none⟩ (.slice ao' L' cap')) := (Fr.one u5 _ 0 _).trans (Fr.one _ _ 1 _) (fun _ _ h => h)
  refine hf.mono (fun j _ e => ?_)
  rw [e]
  exact ⟨Nat.le_refl _, by show wc.heap.size < (wc.alloc _).heap.size; simp⟩

/-- What model.do is handed behind the log's call. -/
theorem Cw.reads {w w5 u4 : World} {p pd : Nat} {s : St} {H : Nat → Prop} {first : Int} {ds : List (List UInt8)} {g cap : Nat} {ms : List Md} {sy k M : Nat} {kd n : Int} {bv : Value} (h : Cw w (w5.alloc (.cells #[.int .i64 kd, .int .i64 n, bv] 35)) p pd s H first ds (.slice (some ⟨g, 0, none⟩) ms.length cap) ms sy k M) (hq : ¬ H w5.heap.size)
    (hfr : Dk.Fr H (w5.alloc (.cells #[.int .i64 kd, .int .i64 n, bv] 35)) u4) (m : Md) (ms0 : List Md) (he : ms = ms0 ++ [m]) :
    u4.cell? ⟨g, ms0.length * 2, none⟩ = some (.int .i64 m.mf) ∧ u4.cell? ⟨g, ms0.length * 2 + 1, none⟩ = some (.slice m.ao m.ds.length m.cap) ∧ u4.cell? ⟨w5.heap.size, 0, none⟩ = some (.int .i64 kd) ∧ u4.cell? ⟨w5.heap.size, 1, none⟩ = some (.int .i64 n) ∧ u4.cell? ⟨w5.heap.size, 2, none⟩ = some bv := by
  have hr := h.row4 hfr
  have hl : ms.length = ms0.length + 1 := by rw [he]; simp
  have hc := cells2_get ms ms0.length (by omega)
  have hm : ms[ms0.length]'(by omega) = m := by simp [he]
  rw [hm] at hc
  have h9 : u4.heap[w5.heap.size]? = some (.cells #[.int .i64 kd, .int .i64 n, bv] 35 (0, 0)) := by
    rw [hfr.block _ (by simp) hq]
    exact heap_alloc_new _ _
  have h3 := three_cells h9
  exact ⟨(hr.cellAt _ (by omega)).trans hc.1, (hr.cellAt _ (by omega)).trans hc.2, h3⟩

set_option maxHeartbeats 8000000 in
set_option maxRecDepth 20000 in
theorem walCrash_any (ao : Option Addr) (len cap : Nat) (f : Nat → Op3) (n0 t0 a0 : Int) (w : World) (hrow : OpRow w ao len f) (hlen : len ≤ maxLen) (ht : Fr.Tab w) :
    Calls Tryd.prog 4 #[.slice ao len cap, .int .i64 n0, .int .i64 t0, .int .i64 a0] w fun e w' => e = .returned (.bool true) ∧ Below w.heap.size w w' := by
  have hw0 : 0 < w.heap.size := cell_lt (ht 0 (by decide))
  have hlen' : len ≤ 9223372036854775807 := hlen
  have HT : Hid (∀ u, Below w.heap.size w u → Fr.Tab u) := fun u hu => ht.below hu
  have HRow : Hid _ := hrow
  clear hrow hlen
  go_enter Tryd.func4, Tryd.ntmps4
  go_wp2_with fail
  refine (begun_any w ht).mono ?_
  rintro e w1 ⟨rfl, hb1⟩
  have HS : Hid _ := cw_start hb1 HT.out hw0
  clear hb1 ht
  go_wp2_with fail
  refine Calls.mono HS.out ?_
  rintro e w2 ⟨pd, rfl, HO⟩
  clear HS
  go_wp2_with fail
  refine Calls.mono HO.out ?_
  rintro e w3 ⟨p, rfl, HA0⟩
  clear HO
  go_wp2_with fail
  generalize w3.alloc (.cells #[.int .i64 0, .slice none 0 0] 32) = w4 at *
  generalize w3.heap.size = g0 at *
  go_loopw [13, 14, 15] (fun fv sv i wr => ∃ (k sy : Nat) (s : St) (H : Nat → Prop) (first : Int) (ds : List (List UInt8)) (ms : List Md) (M : Nat), i = .int .i64 k ∧ sv = .int .i64 sy ∧ (k ≤ 30 ∧ k ≤ len) ∧ Hid (Cw w wr p pd s H first ds fv ms sy k M)) (fun _ _ i _ => 31 - (intOf i).toNat)
  case atStart =>
    obtain ⟨s, H, hA⟩ := HA0.out
    exact ⟨0, 0, s, H, 0, [], _, 1, rfl, rfl, ⟨by omega, Nat.zero_le _⟩, hA⟩
  case round =>
    obtain ⟨k, sy, s, H, first, ds, ms, M, rfl, rfl, ⟨hk, hkl⟩, HA⟩ := hrel
    clear HA0
    obtain ⟨g, capf, rfl, hgc, _, _⟩ := HA.out.shape
    have hsy := HA.out.sy
    have hnz := HA.out.nz
    obtain ⟨ms0, m, he, hmd, hmf⟩ := HA.out.last
    subst hmd
    have hm : m ∈ ms := by rw [he]; simp
    have hml : ms.length = ms0.length + 1 := by rw [he]; simp
    have HML : Hid (ms.length = ms0.length + 1) := hml
    by_cases hgo : k < len ∧ k < 30
    · obtain ⟨hlt, h30⟩ := hgo
      obtain ⟨go, off, rfl, hr⟩ := HRow.out (by omega)
      obtain ⟨c0, c1, c2, hS, hn0⟩ := hr k hlt
      have hltI : (k : Int) < (len : Int) := by omega
      have h30I : (k : Int) < 30 := by omega
      replace c0 := below_cell HA.out.below c0
      replace c1 := below_cell HA.out.below c1
      replace c2 := below_cell HA.out.below c2
      generalize (f k).kd = kd at *
      generalize (f k).n = n at *
      generalize (f k).v = v at *
      generalize (f k).b = b at *
      obtain ⟨aob, capb, rfl, hb1, hb2⟩ := hS.shape
      have hS2 := Sl.cutL hS
      have hcl : (b.take 300).length = cutL b.length := hS2.len.symm
      have hb300 : (b.take 300).length ≤ 300 := by rw [List.length_take]; omega
      rw [← hcl] at hS2
      have hcn : capN n ≤ 1125899906842624 := by unfold capN; split <;> omega
      have hcn0 : -9223372036854775808 ≤ capN n := by unfold capN; split <;> omega
      have HCut : Hid _ := cut_md kd n aob b.length capb wr hb1 hb2
      rw [← hcl] at HCut
      generalize b.take 300 = bb at *
      generalize capN n = N at *
      clear hr hS hn0 hb1 hb2 hcl
      have hle1 : (ms.length : Int) - 1 = (ms0.length : Int) := by omega
      have hle2 : IntKind.i64.wrap (ms0.length : Int) = (ms0.length : Int) := by rw [IntKind.wrap_i64]; omega
      go_upto_block 2 with (go_at_call 12; refine Calls.mono HCut.out ?_; rintro e w5 ⟨rfl, hb5⟩)
      have hq : ¬ H w5.heap.size := fun hh => by
        have := (HA.out.keep hb5).lx.lt _ hh
        omega
      have HAu : Hid (Cw w (w5.alloc (.cells #[.int .i64 kd, .int .i64 N, .slice aob bb.length capb] 35)) p pd s H first m.ds (.slice (some ⟨g, 0, none⟩) ms.length capf) ms sy k M) := (HA.out.keep hb5).keep (below_box1 _ _)
      clear HA hb5 HCut c0 c1 c2
      have HS2 : Hid _ := hS2
      clear hS2
      go_cut [14, 17] from 36 to 97 (fun s14 s17 wd => ∃ E : Int, (s14 = .int .i64 (sy : Int) ∧ s17 = .int .i64 E) ∧ Hid (Dk.Fr H (w5.alloc (.cells #[.int .i64 kd, .int .i64 N, .slice aob bb.length capb] 35)) wd) ∧ Hid (∀ U, Below wd.heap.size wd U → Calls Tryd.prog 13 #[.agg #[.int .i64 m.mf, .slice m.ao m.ds.length m.cap], .agg #[.int .i64 kd, .int .i64 N, .slice aob bb.length capb]] U fun e u5 => ∃ (mf' : Int) (ao' : Option Addr) (L' cap' : Nat), e = .returned (.tuple #[.agg #[.int .i64 mf', .slice ao' L' cap'], .int .i64 E]) ∧ Hid (Below U.heap.size U u5) ∧ Hid (∀ Z, Dk.Fr (fun j => wd.heap.size ≤ j ∧ j < U.heap.size) u5 Z → Qq w Z p pd (.slice (some ⟨g, 0, none⟩) ms.length capf) ms sy k E mf' ao' L' cap')))
      case first =>
        by_cases k0 : kd = 0
        · subst k0
          have HD : Hid _ := cw_app HAu.out hm hmf HT.out h30 N hcn0 hcn aob capb bb HS2.out hb300
          go_wp2_with fail
          refine Calls.mono HD.out ?_
          rintro e u4 ⟨E, rfl, HF, HDo⟩
          clear HD HAu HS2
          go_wp2_with fail
          go_meet
          case rel => exact ⟨E, ⟨rfl, rfl⟩, HF, HDo⟩
        have k0' : (kd == 0) = false := by rw [beq_eq_false_iff_ne]; exact k0
        by_cases k1 : kd = 1
        · subst k1
          have HD : Hid (Calls Tryd.prog 15 #[.pointer (some ⟨p, 0, none⟩), .int .i64 N] (w5.alloc (.cells #[.int .i64 1, .int .i64 N, .slice aob bb.length capb] 35)) fun e wd => ∃ E : Int, e = .returned (.int .i64 E) ∧ Hid (Dk.Fr H (w5.alloc (.cells #[.int .i64 1, .int .i64 N, .slice aob bb.length capb] 35)) wd) ∧ Hid (∀ U, Below wd.heap.size wd U → Calls Tryd.prog 13 #[.agg #[.int .i64 m.mf, .slice m.ao m.ds.length m.cap], .agg #[.int .i64 1, .int .i64 N, .slice aob bb.length capb]] U fun e u5 => ∃ (mf' : Int) (ao' : Option Addr) (L' cap' : Nat), e = .returned (.tuple #[.agg #[.int .i64 mf', .slice ao' L' cap'], .int .i64 E]) ∧ Hid (Below U.heap.size U u5) ∧ Hid (∀ Z, Dk.Fr (fun j => wd.heap.size ≤ j ∧ j < U.heap.size) u5 Z → Qq w Z p pd (.slice (some ⟨g, 0, none⟩) ms.length capf) ms sy k E mf' ao' L' cap'))) := by
            by_cases hn : N < 1
            · exact cw_low HAu.out N hn 1 15 (Or.inl ⟨rfl, rfl⟩) aob bb.length capb
            · exact cw_from HAu.out hm hmf h30 N (by omega) hcn aob bb.length capb
          go_wp2_with fail
          refine Calls.mono HD.out ?_
          rintro e u4 ⟨E, rfl, HF, HDo⟩
          clear HD HAu HS2
          go_wp2_with fail
          go_meet
          case rel => exact ⟨E, ⟨rfl, rfl⟩, HF, HDo⟩
        have k1' : (kd == 1) = false := by rw [beq_eq_false_iff_ne]; exact k1
        by_cases k2 : kd = 2
        · subst k2
          have HD : Hid (Calls Tryd.prog 16 #[.pointer (some ⟨p, 0, none⟩), .int .i64 N] (w5.alloc (.cells #[.int .i64 2, .int .i64 N, .slice aob bb.length capb] 35)) fun e wd => ∃ E : Int, e = .returned (.int .i64 E) ∧ Hid (Dk.Fr H (w5.alloc (.cells #[.int .i64 2, .int .i64 N, .slice aob bb.length capb] 35)) wd) ∧ Hid (∀ U, Below wd.heap.size wd U → Calls Tryd.prog 13 #[.agg #[.int .i64 m.mf, .slice m.ao m.ds.length m.cap], .agg #[.int .i64 2, .int .i64 N, .slice aob bb.length capb]] U fun e u5 => ∃ (mf' : Int) (ao' : Option Addr) (L' cap' : Nat), e = .returned (.tuple #[.agg #[.int .i64 mf', .slice ao' L' cap'], .int .i64 E]) ∧ Hid (Below U.heap.size U u5) ∧ Hid (∀ Z, Dk.Fr (fun j => wd.heap.size ≤ j ∧ j < U.heap.size) u5 Z → Qq w Z p pd (.slice (some ⟨g, 0, none⟩) ms.length capf) ms sy k E mf' ao' L' cap'))) := by
            by_cases hn : N < 1
            · exact cw_low HAu.out N hn 2 16 (Or.inr ⟨rfl, rfl⟩) aob bb.length capb
            · exact cw_until HAu.out hm hmf HT.out h30 N (by omega) hcn aob bb.length capb
          go_wp2_with fail
          refine Calls.mono HD.out ?_
          rintro e u4 ⟨E, rfl, HF, HDo⟩
          clear HD HAu HS2
          go_wp2_with fail
          go_meet
          case rel => exact ⟨E, ⟨rfl, rfl⟩, HF, HDo⟩
        have k2' : (kd == 2) = false := by rw [beq_eq_false_iff_ne]; exact k2
        have HD : Hid _ := cw_sync HAu.out h30
        clear k0 k1 k2
        go_wp2_with fail
        refine Calls.mono HD.out ?_
        rintro e u4 ⟨rfl, HC⟩
        clear HD HAu
        go_wp2_with fail
        obtain ⟨s', H', M', hC⟩ := HC.out
        have e1 : ms.length - 1 = ms0.length := by have := HML.out; omega
        rw [e1, HML.out] at hC
        exact ⟨⟨k + 1, ms0.length, s', H', first, m.ds, ms, M', by go_num, rfl, ⟨by omega, by omega⟩, hC⟩, by simp [intOf]; omega⟩
      case rest =>
        obtain ⟨E, ⟨rfl, rfl⟩, HF, HDo⟩ := hcut
        obtain ⟨r0, r1, r2, r3, r4⟩ := HAu.out.reads hq HF.out m ms0 he
        clear HF HAu HS2
        have q0 : ∀ ob, (wc.alloc ob).cell? ⟨g, ms0.length * 2, none⟩ = some (.int .i64 m.mf) := fun ob => below_cell (below_box1 _ ob) r0
        have q1 : ∀ ob, (wc.alloc ob).cell? ⟨g, ms0.length * 2 + 1, none⟩ = some (.slice m.ao m.ds.length m.cap) := fun ob => below_cell (below_box1 _ ob) r1
        have q2 : ∀ ob, (wc.alloc ob).cell? ⟨w5.heap.size, 0, none⟩ = some (.int .i64 kd) := fun ob => below_cell (below_box1 _ ob) r2
        have q3 : ∀ ob, (wc.alloc ob).cell? ⟨w5.heap.size, 1, none⟩ = some (.int .i64 N) := fun ob => below_cell (below_box1 _ ob) r3
        have q4 : ∀ ob, (wc.alloc ob).cell? ⟨w5.heap.size, 2, none⟩ = some (.slice aob bb.length capb) := fun ob => below_cell (below_box1 _ ob) r4
        go_upto_region 24 with fail
        rw [HML.out] at HDo
        go_cut [18, 19] from 36 to 97 (fun s18 s19 wd => ∃ (q : Nat) (mf' : Int) (ao' : Option Addr) (L' cap' : Nat), (s18 = .pointer (some ⟨q, 0, none⟩) ∧ s19 = .int .i64 E) ∧ Hid (wd.heap[q]? = some (.cells #[.int .i64 mf', .slice ao' L' cap'] 32 (0, 0))) ∧ Hid (Qq w wd p pd (.slice (some ⟨g, 0, none⟩) (ms0.length + 1) capf) ms sy k E mf' ao' L' cap'))
        case first =>
          go_region_with (first
            | (go_at_call 13; refine Calls.mono (HDo.out wc.drew (Below.refl _ _).drew) ?_; rintro e u5 ⟨mf', ao', L', cap', rfl, hb5, HQ⟩; have HR : Hid _ := new_after hb5.out HQ.out)
            | (go_at_call 13; refine Calls.mono (HDo.out (wc.alloc (.cells #[.int .i64 0, .slice none 0 0] 32)).drew (below_box1 _ _).drew) ?_; rintro e u5 ⟨mf', ao', L', cap', rfl, hb5, HQ⟩; obtain ⟨_, y0, y1, y2, y3⟩ := new_cells hb5.out; have HR : Hid _ := new_ahead hb5.out HQ.out))
          all_goals go_wp2_with fail
          all_goals go_meet
          all_goals (case rel => exact ⟨_, mf', ao', L', cap', ⟨rfl, rfl⟩, HR.out.1, HR.out.2⟩)
        case rest =>
          obtain ⟨q, mf', ao', L', cap', ⟨rfl, rfl⟩, HN, HQ⟩ := hcut
          obtain ⟨x0, x1, _⟩ := two_cells HN.out
          clear HN HDo r0 r1 r2 r3 r4 q0 q1 q2 q3 q4
          rcases HQ.out with ⟨rfl, s', H', first', ds', M', rfl, hz⟩ | ⟨rfl, s', H', first', ds', M', hC⟩
          · obtain ⟨g7, cap7, u7, hap, HC7⟩ := hz.push (by omega)
            have HC8 := HC7.out
            rw [HML.out] at HC8
            have HC9 : Hid _ := HC8
            clear HQ hz HC8 HC7
            go_wp2_with (at_builtin; refine wpList_append_run _ rfl (.tmp 94) (.tmp 96) 44 44 rfl _ _ rfl rfl (hap _) ?_)
            go_roundw
            case rel => exact ⟨k + 1, sy, s', H', first', ds', ms ++ [⟨mf', ao', cap', ds'⟩], M', by go_num, rfl, ⟨by omega, by omega⟩, HC9⟩
            case measure => simp [intOf]; omega
          · have HC7 : Hid _ := hC
            clear HQ hC
            go_wp2_with fail
            go_roundw
            case rel => exact ⟨k + 1, sy, s', H', first', ds', ms, M', by go_num, rfl, ⟨by omega, by omega⟩, HC7⟩
            case measure => simp [intOf]; omega
    · have HE : Hid _ := cw_end HA.out HT.out hw0 (by omega) n0 t0 a0
      have hms : ms.length ≤ 31 := by omega
      have hcs : (¬ (k : Int) < (len : Int)) ∨ ((k : Int) < (len : Int) ∧ ¬ (k : Int) < 30) := by
        by_cases hl : k < len
        · right
          refine ⟨by omega, fun e => hgo ⟨hl, by omega⟩⟩
        · left; omega
      have HML2 : Hid (ms.length = ms0.length + 1) := HML
      clear HA hgo he hm hml hmf HRow HT
      rcases hcs with hl | ⟨hl, hl30⟩
      all_goals go_wp2_with fail
      all_goals (
        refine Calls.mono HE.out ?_
        rintro e u1 ⟨q1, rfl, H1⟩
        clear HE
        go_wp2_with fail
        refine Calls.mono H1.out ?_
        rintro e u2 ⟨p1, rfl, H2⟩
        clear H1
        go_wp2_with fail
        refine Calls.mono H2.out ?_
        rintro e u3 ⟨q2, rfl, H3⟩
        clear H2
        go_wp2_with fail
        refine Calls.mono H3.out ?_
        rintro e u4 ⟨p2, rfl, HCe⟩
        clear H3
        obtain ⟨s', H', first', ds', hCe⟩ := HCe.out
        obtain ⟨j0, hj0, hj1, hj2⟩ := hCe.hit
        have HC4 : Hid _ := hCe
        have HJ : Hid (∃ j, sy ≤ j ∧ ∃ h : j < ms.length, ms[j].norm = (first', ds')) := hCe.hit
        clear HCe hCe
        go_wp2_with fail
        go_loopw [22] (fun iv wr => ∃ i : Nat, iv = .int .i64 i ∧ Hid (Ce w wr p2 q2 s' H' first' ds' (.slice (some ⟨g, 0, none⟩) ms.length capf) ms sy k) ∧ Hid (∃ j, i ≤ j ∧ ∃ h : j < ms.length, ms[j].norm = (first', ds'))) (fun iv _ => ms.length - (intOf iv).toNat)
        case atStart => exact ⟨sy, rfl, HC4, HJ⟩
        case round =>
          obtain ⟨i, rfl, HCi, HJi⟩ := hrel
          clear HC4 HJ hj2
          obtain ⟨j, hij, hjl, hjn⟩ := HJi.out
          have hil : i < ms.length := by omega
          have hilI : (i : Int) < (ms.length : Int) := by omega
          have hc := cells2_get ms i hil
          have c0 := (HCi.out.row.cellAt (i * 2) (by omega)).trans hc.1
          have c1 := (HCi.out.row.cellAt (i * 2 + 1) (by omega)).trans hc.2
          have HLk : Hid _ := HCi.out.look (by omega) i hil
          have HJn : Hid (∀ b : Bool, (ms[i].norm = (first', ds') → b = true) → b = false → ∃ j, i + 1 ≤ j ∧ ∃ h : j < ms.length, ms[j].norm = (first', ds')) := fun b hb hf => by
            by_cases e : j = i
            · subst e
              rw [hb hjn] at hf
              cases hf
            · exact ⟨j, by omega, hjl, hjn⟩
          have HBe : Hid (Below w.heap.size w wr) := HCi.out.below
          generalize hmi : ms[i] = mi at *
          clear hc HCi HJi hjn hmi
          go_wp2_with fail
          refine Calls.mono HLk.out ?_
          rintro e u7 ⟨b, rfl, HB, HC7⟩
          clear HLk c0 c1
          cases b
          · go_wp2_with fail
            go_roundw
            case rel => exact ⟨i + 1, by go_num, HC7, HJn.out false HB.out rfl⟩
            case measure => simp [intOf]; omega
          · go_wp2_with fail
            go_ret
            exact ⟨rfl, HC7.out.below⟩)
end Go.Proofs.YtnbdkojdddplkaaDoor.Wl
