/- The walk of a log's load. -/
import Derived.Test.YtnbdkojdddplkaaDoorWlText
namespace Go.Proofs.YtnbdkojdddplkaaDoor.Wl
open Go.RowKit Dk

def nmW : ByteArray := ⟨#[119]⟩
/-- May a number follow? -/
def mayL (first : Int) (ds : List (List UInt8)) (n : Int) : Bool := decide (1 ≤ n) && (decide (ds.length = 0) || decide (n - 1 = (if ds.length = 0 then 0 else first + ds.length - 1)))
theorem mayB_L (first : Int) (rs : List Re) (n : Int) : mayB first rs n = mayL first (rs.map Re.data) n := by simp [mayB, mayL, lastN]
/-- The records that are read off bodies, so far as they are in order. -/
def loadR : List (List UInt8) → Int → List (List UInt8) → Int × List (List UInt8)
  | [], f, ds => (f, ds)
  | body :: r, f, ds => match unsealL body with
    | none => (f, ds)
    | some (n, d) => if mayL f ds n = true then loadR r (if ds.length = 0 then n else f) (ds ++ [d]) else (f, ds)

/-- A log whose records are these, made behind wS, but for its own block. -/
def LD (wS w : World) (p pd : Nat) (first : Int) (ds : List (List UInt8)) : Prop := ∃ vr rs G, Lg w p pd first vr rs G ∧ rs.map Re.data = ds ∧ (∀ k, G k → wS.heap.size ≤ k) ∧ Fr (fun k => k = p) wS w
theorem LD.below {wS w w' : World} {p pd : Nat} {first : Int} {ds : List (List UInt8)} (h : LD wS w p pd first ds) (hb : Below w.heap.size w w') : LD wS w' p pd first ds := by
  obtain ⟨vr, rs, G, h1, h2, h3, h4⟩ := h
  exact ⟨vr, rs, G, h1.below hb, h2, h3, h4.trans (G := fun _ => False) (Fr.of_below hb) (fun _ _ => False.elim)⟩
theorem LD.fr {wS w : World} {p pd : Nat} {first : Int} {ds : List (List UInt8)} (h : LD wS w p pd first ds) : Fr (fun k => k = p) wS w := by
  obtain ⟨vr, rs, G, h1, h2, h3, h4⟩ := h
  exact h4
theorem LD.may {wS w : World} {p pd : Nat} {first : Int} {ds : List (List UInt8)} (h : LD wS w p pd first ds) (n : Int) (hn : n ≤ 9223372036854775807) :
    Calls Tryd.prog 31 #[.pointer (some ⟨p, 0, none⟩), .int .i64 n] w fun e w' => e = .returned (.bool (mayL first ds n)) ∧ ∃ m, w' = w.drewN m := by
  obtain ⟨vr, rs, G, h1, rfl, h3, h4⟩ := h
  rw [← mayB_L]
  exact may_any p pd first vr rs G n w h1 hn
theorem LD.add {wS w wr : World} {p pd : Nat} {first : Int} {ds : List (List UInt8)} (h : LD wS w p pd first ds) (hp : p < wS.heap.size) (hwr : LD wS wr p pd first ds) (hb : Below wr.heap.size wr w) (n : Int) (dv : Value) (data : List UInt8) (size : Nat) (hd : Sl w dv data) (hN : Bn.New wr w dv) (hm : mayL first ds n = true) (hn : n ≤ 9223372036854775807)
    (hsz : size = (recB n data).length) (hl : ds.length ≤ 100000) (hlen : (fileB first ds).length + size ≤ 1000000000) :
    Calls Tryd.prog 33 #[.pointer (some ⟨p, 0, none⟩), .int .i64 n, dv, .int .i64 (size : Int)] w fun e w' => e = .returned (.tuple #[]) ∧ Hid (LD wS w' p pd (if ds.length = 0 then n else first) (ds ++ [data])) := by
  obtain ⟨vr, rs, G, h1, rfl, h3, h4⟩ := hwr
  have h1' := h1.below hb
  have hs4 := h4.size
  have hsb := hb.size
  obtain ⟨m1, m2⟩ : 1 ≤ n ∧ (rs.length = 0 ∨ n - 1 = (if rs.length = 0 then 0 else first + rs.length - 1)) := by simpa [mayL] using hm
  have hsize : sizeK first rs rs.length = (fileB first (rs.map Re.data)).length := by
    unfold sizeK
    rw [List.take_of_length_le (by simp)]
  rw [List.length_map] at hl
  refine (add_any p pd first vr rs G (fun k => ∃ a m c, dv = .slice (some a) m c ∧ k = a.block) n dv data size w h1' ⟨hd, fun a m c e hn => hn ⟨a, m, c, e, rfl⟩⟩ ?_ hsz ⟨m1, hn⟩ ?_ (by omega) (by rw [hsize]; exact hlen)).mono ?_
  · rintro k ⟨a, m, c, e, rfl⟩
    have hk := hN a m c e
    refine ⟨fun hG => ?_, ?_, hk.2⟩
    · have := h1.lt _ hG
      omega
    · omega
  · intro hne
    have hz : rs.length ≠ 0 := fun e => hne (List.eq_nil_of_length_eq_zero e)
    rcases m2 with m2 | m2
    · exact absurd m2 hz
    · rw [if_neg hz] at m2
      omega
  · rintro e w' ⟨rfl, ⟨vr', fin, hL⟩, hf⟩
    refine ⟨rfl, vr', rs ++ [⟨dv, data, fin⟩], ext (fun k => G k ∨ ∃ a m c, dv = .slice (some a) m c ∧ k = a.block) w w', ?_, by simp, fun k hk => ?_, ?_⟩
    · rw [List.length_map]
      exact hL
    · rcases hk with (hk | ⟨a, m, c, e, rfl⟩) | hk
      · exact h3 k hk
      · have := (hN a m c e).1
        omega
      · omega
    · exact (h4.trans (G := fun _ => False) (Fr.of_below hb) (fun _ _ => False.elim)).trans hf (fun k hk hG => by
        rcases hG with hG | hG
        · have := h3 k hG
          omega
        · exact hG)
theorem LD.size {wS w : World} {p pd : Nat} {first : Int} {ds : List (List UInt8)} (h : LD wS w p pd first ds) (hl : ds.length ≤ 100000) :
    ∃ ao cap, w.cell? ⟨p, 2, none⟩ = some (.slice ao ds.length cap) ∧ w.cell? ⟨p, 0, none⟩ = some (.pointer (some ⟨pd, 0, none⟩)) ∧ Hid (Calls Tryd.prog 37 #[.pointer (some ⟨p, 0, none⟩), .int .i64 (ds.length : Int)] w fun e w' => e = .returned (.int .i64 (fileB first ds).length) ∧ w' = w) := by
  obtain ⟨vr, rs, G, h1, rfl, h3, h4⟩ := h
  obtain ⟨ao, cap, rfl, _⟩ := h1.shape
  rw [List.length_map] at hl ⊢
  refine ⟨ao, cap, h1.cells.2.2.1, h1.cells.1, ?_⟩
  have h2 := endOf_any p pd first _ rs G rs.length w h1 (Nat.le_refl _) (by omega)
  unfold sizeK at h2
  rw [List.take_of_length_le (by simp)] at h2
  exact h2
end Go.Proofs.YtnbdkojdddplkaaDoor.Wl
