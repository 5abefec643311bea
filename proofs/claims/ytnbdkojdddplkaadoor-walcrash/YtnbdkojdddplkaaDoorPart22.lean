/- The law's walk: what stands from round to round, and what each operation makes of it. The law's walk: each operation on the document's log and on the log. The law's walk: Sync, and the log opened anew; the beginning. The law's walk. -/
import Derived.Test.YtnbdkojdddplkaaDoorPart21
namespace Go.Proofs.YtnbdkojdddplkaaDoor.Wl
open Go.RowKit Dk

set_option maxHeartbeats 2000000 in
/-- Append. -/
theorem LX.appN {w : World} {p pd : Nat} {s : St} {H : Nat → Prop} {first : Int} {ds : List (List UInt8)} (h : LX w p pd s H first ds) (ht : Fr.Tab w) (n : Int) (bv : Value) (b : List UInt8) (hS : SlN w bv b H) (hn : n ≤ 9223372036854775807) (hm : mayL first ds n = true) (hl : b.length ≤ 32768)
    (hr : (used s.now : Int) + (recB n b).length ≤ s.room) (hf : (Dk.look nmW s.now).isSome = true ∨ s.now.length < 64) (hms : s.mass + 40000 ≤ 1000000000) (hdl : ds.length ≤ 100000) (hfl : (fileB first ds).length ≤ 900000000) :
    Calls Tryd.prog 14 #[.pointer (some ⟨p, 0, none⟩), .int .i64 n, bv] w fun e w' => e = .returned (.int .i64 0) ∧ Hid (LX w' p pd (s.push (.app nmW (recB n b))) (ext H w w') (if ds.length = 0 then n else first) (ds ++ [b]) ∧ Dk.Fr H w w') := by
  obtain ⟨F, vr, rs, G, d1, d2, rfl, d4, d5, d6, d7, d8, d9⟩ := h
  have hW : LW w 0 p pd s F first (rs.map Re.data) := ⟨d1, ⟨vr, rs, G, d2, rfl, fun k hk => ⟨d4 k hk, Nat.zero_le _⟩⟩, d5, Nat.zero_le _⟩
  obtain ⟨aob, capb, rfl, _, _⟩ := hS.sl.shape
  have HM : Hid (_) := hW.may n hn
  rw [hm] at HM
  obtain ⟨m1, m2⟩ : 1 ≤ n ∧ ((rs.map Re.data).length = 0 ∨ n - 1 = (if (rs.map Re.data).length = 0 then 0 else first + (rs.map Re.data).length - 1)) := by simpa [mayL] using hm
  have hrs := recB_size n b ⟨by omega, hn⟩ hl
  obtain ⟨X, HX⟩ : ∃ X, Hid (X = recB n b) := ⟨_, (rfl : _ = _)⟩
  rw [← HX.out] at hr hrs ⊢
  obtain ⟨f', Hf'⟩ : ∃ f', Hid (f' = if (rs.map Re.data).length = 0 then n else first) := ⟨_, (rfl : _ = _)⟩
  rw [← Hf'.out]
  obtain ⟨PP, HPP⟩ : ∃ PP : World → Prop, Hid (PP = fun w' => LX w' p pd (s.push (.app nmW X)) (ext H w w') f' (rs.map Re.data ++ [b]) ∧ Dk.Fr H w w') := ⟨_, (rfl : _ = _)⟩
  have HC : Hid (∀ m, Calls Tryd.prog 32 #[.int .i64 n, .slice aob b.length capb] (w.drewN m) fun e w2 => ∃ ao cap, e = .returned (.slice ao X.length cap) ∧ w2.cell? ⟨p, 0, none⟩ = some (.pointer (some ⟨pd, 0, none⟩)) ∧ Hid (Calls Tryd.prog 20 #[.pointer (some ⟨pd, 0, none⟩), .string nmW, .slice ao X.length cap] w2 fun e w3 => e = .returned (.int .i64 0) ∧ Hid (Calls Tryd.prog 34 #[.slice aob b.length capb] w3 fun e w4 => ∃ ao4 cap4, e = .returned (.slice ao4 b.length cap4) ∧ Hid (Calls Tryd.prog 33 #[.pointer (some ⟨p, 0, none⟩), .int .i64 n, .slice ao4 b.length cap4, .int .i64 (X.length : Int)] w4 fun e w5 => e = .returned (.tuple #[]) ∧ Hid (PP w5))))) := by
    intro m
    have hb1 := below_drew w m
    refine (seal_any n (.slice aob b.length capb) b (w.drewN m) (hS.sl.below hb1) (ht.drew m) ⟨by omega, hn⟩ hl).mono ?_
    rintro e w2 ⟨ao, L, cap, rfl, hO, hb2⟩
    have hb2' : Below w.heap.size w w2 := hb1.trans hb2
    have hSX := Sl.of_own hO
    obtain ⟨ao', cap', e2, _, _⟩ := hSX.shape
    simp only [Value.slice.injEq] at e2
    obtain ⟨rfl, rfl, rfl⟩ := e2
    rw [← HX.out] at hSX ⊢
    have hW2 := hW.below hb2'
    refine ⟨ao, cap, rfl, hW2.cell0, ?_⟩
    refine (append_ok pd s F nmW _ X w2 hW2.dk hSX (by decide) hr hf (by omega)).mono ?_
    rintro e w3 ⟨rfl, hD3, hf3⟩
    refine ⟨rfl, ?_⟩
    have hs2 := hb2'.size
    have hs3 := hf3.size
    have hSF : SlN w (.slice aob b.length capb) b F := ⟨hS.sl, fun h0 a m c e hFa => hS.away h0 a m c e (d6 _ hFa)⟩
    refine (clone_any _ b w3 (SlN.kept (SlN.kept hSF (Fr.of_below hb2')) hf3).sl (by omega)).mono ?_
    rintro e w4 ⟨v4, rfl, hO4, hb4⟩
    have hS4 := Sl.of_own hO4
    obtain ⟨ao4, cap4, rfl, _, _⟩ := hS4.shape
    refine ⟨ao4, cap4, rfl, ?_⟩
    have hL3 : Lg w3 p pd first vr rs G := (d2.below hb2').kept hf3 (fun k hk hF => d4 k hk hF) d5
    have hL := hL3.below hb4
    have hD4 := hD3.below hb4
    have hLG := d2.lt
    have hp3 := d2.plt
    have hF3 := hD3.lt
    have hs4 := hb4.size
    have hNew : Bn.New w3 w4 (.slice ao4 b.length cap4) := Bn.New.of_own hO4 (Nat.le_refl _)
    have hsize : sizeK first rs rs.length = (fileB first (rs.map Re.data)).length := by
      unfold sizeK
      rw [List.take_of_length_le (by simp)]
    rw [List.length_map] at hdl m2
    refine (add_any p pd first vr rs G (fun k => ∃ a m c, Value.slice ao4 b.length cap4 = .slice (some a) m c ∧ k = a.block) n (.slice ao4 b.length cap4) b X.length w4 hL ⟨hS4, fun a m c e hn => hn ⟨a, m, c, e, rfl⟩⟩ ?_ (by rw [HX.out]) ⟨m1, hn⟩ ?_ (by omega) (by rw [hsize]; omega)).mono ?_
    · rintro k ⟨a, m, c, e, rfl⟩
      have hk := hNew a m c e
      refine ⟨fun hG' => ?_, ?_, hk.2⟩
      · have := hLG _ hG'
        omega
      · omega
    · intro hne
      have hz : rs.length ≠ 0 := fun e => hne (List.eq_nil_of_length_eq_zero e)
      rcases m2 with m2 | m2
      · exact absurd m2 hz
      · rw [if_neg hz] at m2
        omega
    · rintro e w5 ⟨rfl, ⟨vr', fin, hL5⟩, hf5⟩
      have hs5 := hf5.size
      have hff : f' = if rs.length = 0 then n else first := by rw [Hf'.out, List.length_map]
      refine ⟨rfl, ?_⟩
      rw [HPP.out]
      refine ⟨⟨ext F w2 w3, vr', rs ++ [⟨_, b, fin⟩], _, hD4.kept hf5 (fun k hk hG' => ?_), by rw [hff]; exact hL5, by simp, fun k hk hF => ?_, fun hF => ?_, fun k hk => ?_, fun k hk => ?_, Or.inl d8, fun k hk => ?_⟩, ?_⟩
      · rcases hk with hk | hk
        · rcases hG' with hG' | rfl
          · exact d4 k hG' hk
          · exact d5 hk
        · rcases hG' with hG' | rfl
          · have := hLG k hG'; omega
          · omega
      · rcases hk with (hk | ⟨a, m, c, e, rfl⟩) | hk
        · rcases hF with hF | hF
          · exact d4 k hk hF
          · have := hLG k hk; omega
        · have h1 := (hNew a m c e).1
          have h2 := hF3 _ hF
          omega
        · have h2 := hF3 _ hF
          omega
      · rcases hF with hF | hF
        · exact d5 hF
        · omega
      · rcases hk with hk | hk
        · exact Or.inl (d6 k hk)
        · exact Or.inr (by omega)
      · rcases hk with (hk | ⟨a, m, c, e, rfl⟩) | hk
        · exact Or.inl (d7 k hk)
        · have h1 := hNew a m c e
          exact Or.inr (by omega)
        · exact Or.inr (by omega)
      · rcases hk with hk | hk
        · have := d9 k hk; omega
        · omega
      · refine (((Fr.of_below hb2').trans (hf3.mono (G := H) (fun k _ hk => d6 k hk)) (fun _ _ h => h)).trans (Fr.of_below hb4) (fun _ _ h => h)).trans hf5 (fun k _ hG' => ?_)
        rcases hG' with hG' | rfl
        · exact d7 k hG'
        · exact d8
  have HP := HPP.out
  rw [funext_iff] at HP
  simp only [← HP]
  clear hW hS ht hn hm hr hf hms hdl hfl m1 m2 hrs d1 d2 d4 d5 d6 d7 d8 d9 HP HPP
  have hl' : ¬ (32768 : Int) < (b.length : Int) := by omega
  simp only [nmW] at HC
  go_enter Tryd.func14, Tryd.ntmps14
  go_wp2_with (first
    | (go_at_call 31; refine Calls.mono HM.out ?_; rintro e w1 ⟨rfl, m, rfl⟩; have HC1 : Hid (_) := HC.out m; clear HC)
    | (go_at_call 32; refine Calls.mono HC1.out ?_; rintro e w2 ⟨ao2, cap2, rfl, c2, HC2⟩; clear HC1)
    | (go_at_call 20; refine Calls.mono HC2.out ?_; rintro e w3 ⟨rfl, HC3⟩; clear HC2)
    | (go_at_call 34; refine Calls.mono HC3.out ?_; rintro e w4 ⟨ao4, cap4, rfl, HC4⟩; clear HC3)
    | (go_at_call 33; refine Calls.mono HC4.out ?_; rintro e w5 ⟨rfl, HC5⟩; clear HC4))
  go_ret
  exact ⟨rfl, HC5⟩

/-- What stands: the log, and the document's in the block g, alike. -/
structure Al (w wr : World) (g p pd : Nat) (s : St) (H : Nat → Prop) (first : Int) (ds : List (List UInt8)) (mf : Int) (ao : Option Addr) (cap k M : Nat) : Prop where
  lx : LX wr p pd s H first ds
  gs : Gs s first ds k M
  mM : M ≤ 14000 * k + 1
  hi : ∀ j, H j → w.heap.size ≤ j
  ml : Ml wr ao cap ds (fun j => H j ∨ j = g)
  md : wr.heap[g]? = some (.cells #[.int .i64 mf, .slice ao ds.length cap] 32 (0, 0))
  far : ¬ H g
  gw : w.heap.size ≤ g
  eq : ds ≠ [] → mf = first ∧ 1 ≤ first
  mf0 : 0 ≤ mf
  mf1 : mf + ds.length ≤ 1125899906842624 + k
  below : Below w.heap.size w wr
/-- The log has gone on; the document's new one is in the block q, its old one still in g. -/
structure Ax (w u : World) (g q p pd : Nat) (s : St) (H : Nat → Prop) (first : Int) (ds : List (List UInt8)) (mf : Int) (ao : Option Addr) (cap k M : Nat) : Prop where
  lx : LX u p pd s H first ds
  gs : Gs s first ds k M
  mM : M ≤ 14000 * k + 1
  hi : ∀ j, H j → w.heap.size ≤ j
  ml : Ml u ao cap ds (fun j => H j ∨ j = g)
  new : u.heap[q]? = some (.cells #[.int .i64 mf, .slice ao ds.length cap] 32 (0, 0))
  old : ∃ x y, u.heap[g]? = some (.cells #[x, y] 32 (0, 0))
  far : ¬ H g
  gw : w.heap.size ≤ g
  eq : ds ≠ [] → mf = first ∧ 1 ≤ first
  mf0 : 0 ≤ mf
  mf1 : mf + ds.length ≤ 1125899906842624 + k
  below : Below w.heap.size w u

theorem Al.keep {w wr u : World} {g p pd : Nat} {s : St} {H : Nat → Prop} {first : Int} {ds : List (List UInt8)} {mf : Int} {ao : Option Addr} {cap k M : Nat} (h : Al w wr g p pd s H first ds mf ao cap k M) (hb : Below wr.heap.size wr u) : Al w u g p pd s H first ds mf ao cap k M :=
  ⟨h.lx.below hb, h.gs, h.mM, h.hi, h.ml.below hb, by rw [hb.block g (Array.getElem?_eq_some_iff.1 h.md).1]; exact h.md, h.far, h.gw, h.eq, h.mf0, h.mf1, h.below.trans (hb.mono h.below.size)⟩
theorem Al.glt {w wr : World} {g p pd : Nat} {s : St} {H : Nat → Prop} {first : Int} {ds : List (List UInt8)} {mf : Int} {ao : Option Addr} {cap k M : Nat} (h : Al w wr g p pd s H first ds mf ao cap k M) : g < wr.heap.size := (Array.getElem?_eq_some_iff.1 h.md).1

/-- The cells of a block of two. -/
theorem two_cells {u : World} {q : Nat} {x y : Value} (h : u.heap[q]? = some (.cells #[x, y] 32 (0, 0))) : u.cell? ⟨q, 0, none⟩ = some x ∧ u.cell? ⟨q, 1, none⟩ = some y ∧ ∀ j, u.frozen? ⟨q, j, none⟩ = false := by
  refine ⟨?_, ?_, fun j => by simp [World.frozen?, h]⟩
  · rw [cell_of_row u _ 0 _ _ _ h]; rfl
  · rw [cell_of_row u _ 1 _ _ _ h]; rfl

/-- The new one is stored. -/
theorem Ax.store {w u : World} {g q p pd : Nat} {s : St} {H : Nat → Prop} {first : Int} {ds : List (List UInt8)} {mf : Int} {ao : Option Addr} {cap k M : Nat} (h : Ax w u g q p pd s H first ds mf ao cap k M) :
    Al w ((u.setCell ⟨g, 0, none⟩ (.int .i64 mf)).setCell ⟨g, 1, none⟩ (.slice ao ds.length cap)) g p pd s H first ds mf ao cap k M := by
  obtain ⟨x, y, ho⟩ := h.old
  have hf : Dk.Fr (fun j => j = g) u ((u.setCell ⟨g, 0, none⟩ (.int .i64 mf)).setCell ⟨g, 1, none⟩ (.slice ao ds.length cap)) := (Fr.one u g 0 _).trans (Fr.one _ g 1 _) (fun _ _ h => h)
  refine ⟨h.lx.kept hf (fun j hj e => h.far (e ▸ hj)), h.gs, h.mM, h.hi, h.ml.kept (hf.mono (fun j _ e => Or.inr e)), set_second (set_first ho), h.far, h.gw, h.eq, h.mf0, h.mf1, (h.below.setCell h.gw _).setCell h.gw _⟩

/-- 'same' is true, and all stands. -/
theorem Al.same {w wr : World} {g p pd : Nat} {s : St} {H : Nat → Prop} {first : Int} {ds : List (List UInt8)} {mf : Int} {ao : Option Addr} {cap k M : Nat} (h : Al w wr g p pd s H first ds mf ao cap k M) (hk : k ≤ 40) :
    Calls Tryd.prog 19 #[.pointer (some ⟨p, 0, none⟩), .agg #[.int .i64 mf, .slice ao ds.length cap]] wr fun e w' => e = .returned (.bool true) ∧ Hid (Al w w' g p pd s H first ds mf ao cap k M) := by
  have hl := h.gs.len
  have h1 := h.mf1
  refine (same_md p pd s H first ds mf ao cap wr h.lx (h.ml.more (fun j _ hj => Or.inl hj)) (fun e => (h.eq e).1) (fun e => (h.eq e).2) ⟨h.mf0, by omega⟩ (by omega) h.gs.small).mono ?_
  rintro e w' ⟨rfl, hb⟩
  exact ⟨rfl, h.keep hb⟩

/-- What a call on the log leaves, put together. -/
theorem Ax.mk' {w wr u2 u4 : World} {g p pd p' pd' : Nat} {s s' : St} {H H' : Nat → Prop} {first first' : Int} {ds ds' : List (List UInt8)} {mf mf' : Int} {ao ao' : Option Addr} {cap cap' k M M' : Nat} (hA : Al w wr g p pd s H first ds mf ao cap k M) (hb2 : Below wr.heap.size wr u2) (hml : Ml u2 ao' cap' ds' (fun j => H j ∨ j = g))
    (hlx : LX u4 p' pd' s' H' first' ds') (hfr : Dk.Fr H (u2.alloc (.cells #[.int .i64 mf', .slice ao' ds'.length cap'] 32)) u4) (hH : ∀ j, H' j → H j ∨ u2.heap.size < j) (hgs : Gs s' first' ds' (k + 1) M') (hM : M' ≤ 14000 * (k + 1) + 1)
    (heq : ds' ≠ [] → mf' = first' ∧ 1 ≤ first') (hm0 : 0 ≤ mf') (hm1 : mf' + ds'.length ≤ 1125899906842624 + (k + 1 : Nat)) : Ax w u4 g u2.heap.size p' pd' s' H' first' ds' mf' ao' cap' (k + 1) M' := by
  have hg := hA.glt
  have hs2 := hb2.size
  have hlt := hA.lx.lt
  have hw := hA.below.size
  have hb3 : Below wr.heap.size wr (u2.alloc (.cells #[.int .i64 mf', .slice ao' ds'.length cap'] 32)) := hb2.alloc hs2 _
  have hs3 : (u2.alloc (.cells #[.int .i64 mf', .slice ao' ds'.length cap'] 32)).heap.size = u2.heap.size + 1 := by simp
  have hml3 : Ml (u2.alloc (.cells #[.int .i64 mf', .slice ao' ds'.length cap'] 32)) ao' cap' ds' (fun j => H j ∨ j = g) := hml.below (below_box1 _ _)
  refine ⟨hlx, hgs, hM, fun j hj => ?_, ?_, ?_, ⟨.int .i64 mf, .slice ao ds.length cap, ?_⟩, fun hj => ?_, hA.gw, heq, hm0, hm1, ?_⟩
  · rcases hH j hj with h | h
    · exact hA.hi j h
    · omega
  · refine ((hml3.more (K := fun j => H j ∨ u2.heap.size < j ∨ j = g) (fun j hj hK => ?_)).kept (hfr.mono (fun j _ hh => Or.inl hh))).more (fun j _ hK => ?_)
    · rcases hK with hK | hK | hK
      · exact Or.inl hK
      · omega
      · exact Or.inr hK
    · rcases hK with hK | hK
      · rcases hH j hK with h | h
        · exact Or.inl h
        · exact Or.inr (Or.inl h)
      · exact Or.inr (Or.inr hK)
  · rw [hfr.block u2.heap.size (by omega) (fun h => by have := hlt _ h; omega)]
    exact heap_alloc_new _ _
  · rw [hfr.block g (by omega) hA.far, hb3.block g hg]
    exact hA.md
  · rcases hH g hj with h | h
    · exact hA.far h
    · omega
  · exact (hA.below.trans (hb3.mono hw)).trans (hfr.below hA.hi (by omega))

end Go.Proofs.YtnbdkojdddplkaaDoor.Wl
namespace Go.Proofs.YtnbdkojdddplkaaDoor.Wl
open Go.RowKit Dk

/-- What both have come to. -/
def Lg1 (w : World) (g q k : Nat) (mf' : Int) (ao' : Option Addr) (L' cap' : Nat) (u4 : World) (p pd : Nat) : Prop := ∃ s' H' first' ds' M', L' = ds'.length ∧ Ax w u4 g q p pd s' H' first' ds' mf' ao' cap' (k + 1) M'

section
variable {w u : World} {g p pd : Nat} {s : St} {H : Nat → Prop} {first : Int} {ds : List (List UInt8)} {mf : Int} {ao : Option Addr} {cap k M : Nat}

theorem slN_of {v : Value} {b : List UInt8} (hS : Sl w v b) (hb : Below w.heap.size w u) (K : Nat → Prop) (hK : ∀ j, K j → w.heap.size ≤ j) : SlN u v b K := by
  refine ⟨hS.below hb, fun h0 a n c e hk => ?_⟩
  obtain ⟨ao, cap, hv, h1, h2, h3, h4⟩ := hS
  obtain ⟨g, off, ha, hc⟩ := h4 h0
  rw [e, ha] at hv
  simp only [Value.slice.injEq, Option.some.injEq] at hv
  have := cell_lt (hc 0 h0)
  have := hK _ hk
  rw [hv.1] at this
  simp only at this
  omega

theorem may_eq (hA : Al w u g p pd s H first ds mf ao cap k M) (n : Int) : mayL first ds n = true ↔ 1 ≤ n ∧ (ds = [] ∨ n = mf + ds.length) := by
  unfold mayL
  simp only [Bool.and_eq_true, decide_eq_true_eq, Bool.or_eq_true]
  constructor
  · rintro ⟨h1, h2⟩
    refine ⟨h1, ?_⟩
    by_cases hd : ds = []
    · exact Or.inl hd
    · have hl : ds.length ≠ 0 := fun e => hd (List.eq_nil_of_length_eq_zero e)
      rcases h2 with h2 | h2
      · exact absurd h2 hl
      · rw [if_neg hl] at h2
        have := (hA.eq hd).1
        right; omega
  · rintro ⟨h1, h2⟩
    refine ⟨h1, ?_⟩
    by_cases hd : ds.length = 0
    · exact Or.inl hd
    · right
      rw [if_neg hd]
      have hne : ds ≠ [] := fun e => hd (by rw [e]; rfl)
      have := (hA.eq hne).1
      rcases h2 with h2 | h2
      · exact absurd h2 hne
      · omega

/-- Nothing has changed, but for the model's copy. -/
theorem Lg1.same {u2 u4 : World} (hA : Al w u g p pd s H first ds mf ao cap k M) (hb2 : Below u.heap.size u u2) (hb4 : Below (u2.heap.size + 1) (u2.alloc (.cells #[.int .i64 mf, .slice ao ds.length cap] 32)) u4) : Lg1 w g u2.heap.size k mf ao ds.length cap u4 p pd := by
  have hs3 : (u2.alloc (.cells #[.int .i64 mf, .slice ao ds.length cap] 32)).heap.size = u2.heap.size + 1 := by simp
  have hb4' : Below (u2.alloc (.cells #[.int .i64 mf, .slice ao ds.length cap] 32)).heap.size (u2.alloc (.cells #[.int .i64 mf, .slice ao ds.length cap] 32)) u4 := by rw [hs3]; exact hb4
  have hA2 := hA.keep hb2
  have hA4 := (hA2.keep (below_box1 _ _)).keep hb4'
  have h1 := hA.mf1
  refine ⟨s, H, first, ds, M, rfl, Ax.mk' hA hb2 hA2.ml hA4.lx (Fr.of_below hb4') (fun j hj => Or.inl hj) ⟨hA.gs.room, hA.gs.now, hA.gs.mass, hA.gs.small, by have := hA.gs.len; omega, hA.gs.fit⟩ (by have := hA.mM; omega) hA.eq hA.mf0 (by omega)⟩

theorem al_app (hA : Al w u g p pd s H first ds mf ao cap k M) (hT : ∀ u, Below w.heap.size w u → Fr.Tab u) (hk : k < 40) (n : Int) (hn0 : -9223372036854775808 ≤ n) (hn1 : n ≤ 1125899906842624) (aob : Option Addr) (capb : Nat) (b : List UInt8) (hS : Sl w (.slice aob b.length capb) b) (hb : b.length ≤ 300) :
    Calls Tryd.prog 13 #[.agg #[.int .i64 mf, .slice ao ds.length cap], .agg #[.int .i64 0, .int .i64 n, .slice aob b.length capb]] u fun e u2 => ∃ (E mf' : Int) (ao' : Option Addr) (L' cap' : Nat), e = .returned (.tuple #[.agg #[.int .i64 mf', .slice ao' L' cap'], .int .i64 E]) ∧ Hid (Below u.heap.size u u2) ∧
      Hid (Calls Tryd.prog 14 #[.pointer (some ⟨p, 0, none⟩), .int .i64 n, .slice aob b.length capb] (u2.alloc (.cells #[.int .i64 mf', .slice ao' L' cap'] 32)) fun e u4 => e = .returned (.int .i64 E) ∧ Hid (Lg1 w g u2.heap.size k mf' ao' L' cap' u4 p pd)) := by
  have hl := hA.gs.len
  have h1 := hA.mf1
  have hiK : ∀ j, (H j ∨ j = g) → w.heap.size ≤ j := fun j hj => by
    rcases hj with h | h
    · exact hA.hi j h
    · rw [h]; exact hA.gw
  have hK : ∀ j, (H j ∨ j = g) → j < u.heap.size := fun j hj => by
    rcases hj with h | h
    · exact hA.lx.lt j h
    · rw [h]; exact hA.glt
  have hSN := slN_of hS hA.below _ hiK
  have hM := hA.mM
  cases hm : mayL first ds n
  · have hno : ¬ (1 ≤ n ∧ (ds = [] ∨ n = mf + ds.length)) := fun e => by rw [(may_eq hA n).2 e] at hm; cases hm
    refine (do_app_no mf n ao aob ds.length cap b.length capb u (by omega) ⟨hA.mf0, by omega⟩ hn0 (by omega) ?_).mono ?_
    · by_cases h : n < 1
      · exact Or.inl h
      · right
        by_cases hd : ds = []
        · exact absurd ⟨by omega, Or.inl hd⟩ hno
        · have : ds.length ≠ 0 := fun e => hd (List.eq_nil_of_length_eq_zero e)
          refine ⟨by omega, fun e => hno ⟨by omega, Or.inr (by omega)⟩⟩
    · rintro e u2 ⟨rfl, hb2⟩
      refine ⟨1, mf, ao, ds.length, cap, rfl, hb2, ?_⟩
      have hA3 := (hA.keep hb2).keep (below_box1 u2 (.cells #[.int .i64 mf, .slice ao ds.length cap] 32))
      obtain ⟨F, hW, _⟩ := hA3.lx.lw
      refine (app_no 0 p pd s F first ds n aob b.length capb _ hW (by omega) hm).mono ?_
      rintro e u4 ⟨rfl, m, rfl⟩
      have := below_drew (u2.alloc (.cells #[.int .i64 mf, .slice ao ds.length cap] 32)) m
      exact ⟨rfl, Lg1.same hA hb2 (by simpa using this)⟩
  · obtain ⟨m1, m2⟩ := (may_eq hA n).1 hm
    have main : ∀ (u2 : World) (mf' : Int) (ao' : Option Addr) (cap' : Nat), Below u.heap.size u u2 → Ml u2 ao' cap' (ds ++ [b]) (fun j => H j ∨ j = g) → mf' = (if ds.length = 0 then n else first) →
        Hid (Calls Tryd.prog 14 #[.pointer (some ⟨p, 0, none⟩), .int .i64 n, .slice aob b.length capb] (u2.alloc (.cells #[.int .i64 mf', .slice ao' (ds ++ [b]).length cap'] 32)) fun e u4 => e = .returned (.int .i64 0) ∧ Hid (Lg1 w g u2.heap.size k mf' ao' (ds ++ [b]).length cap' u4 p pd)) := by
      intro u2 mf' ao' cap' hb2 hml hmf
      have hA3 := (hA.keep hb2).keep (below_box1 u2 (.cells #[.int .i64 mf', .slice ao' (ds ++ [b]).length cap'] 32))
      have hfl := hA.gs.file
      have hmass := hA.gs.mass
      have hrs := recB_size n b ⟨by omega, by omega⟩ (by omega)
      have hfit := hA.gs.fit
      have hus := hA.gs.now.used
      have hnl := hA.gs.now.len
      refine (hA3.lx.appN (hT _ hA3.below) n _ b (slN_of hS hA3.below _ hA.hi) (by omega) hm (by omega) (by rw [hA.gs.room]; omega) (Or.inr (by omega)) (by omega) (by omega) (by omega)).mono ?_
      rintro e u4 ⟨rfl, hX⟩
      refine ⟨rfl, _, _, _, ds ++ [b], _, rfl, Ax.mk' hA hb2 hml hX.out.1 hX.out.2 (fun j hj => ?_) (hA.gs.app n b hm (by omega) hb) (by omega) (fun _ => ⟨hmf, ?_⟩) ?_ ?_⟩
      · rcases hj with h | h
        · exact Or.inl h
        · have := h.1
          simp at this
          omega
      · split
        · exact m1
        · rename_i hne
          exact (hA.eq (fun e => hne (by rw [e]; rfl))).2
      · rw [hmf]; split <;> omega
      · rw [hmf, List.length_append]
        split
        · simp; omega
        · rename_i hne
          have := (hA.eq (fun e => hne (by rw [e]; rfl))).1
          simp; omega
    by_cases hd : ds = []
    · subst hd
      refine (do_app_first mf n ao aob cap capb b _ u hA.ml hK hSN m1).mono ?_
      rintro e u2 ⟨ao', cap', rfl, hml⟩
      exact ⟨0, n, ao', 1, cap', rfl, hml.out.2, main u2 n ao' cap' hml.out.2 hml.out.1 rfl⟩
    · have hp : 0 < ds.length := by
        rcases Nat.eq_zero_or_pos ds.length with h | h
        · exact absurd (List.eq_nil_of_length_eq_zero h) hd
        · exact h
      have hn2 := m2.resolve_left hd
      refine (do_app_more mf n ao aob cap capb b ds _ u hA.ml hK hSN (by omega) ⟨hA.mf0, by omega⟩ m1 hp hn2).mono ?_
      rintro e u2 ⟨ao', cap', rfl, hml⟩
      exact ⟨0, mf, ao', (ds ++ [b]).length, cap', rfl, hml.out.2, main u2 mf ao' cap' hml.out.2 hml.out.1 (by rw [if_neg (by omega)]; exact (hA.eq hd).1)⟩
theorem al_low (hA : Al w u g p pd s H first ds mf ao cap k M) (n : Int) (hn : n < 1) (kd : Int) (f : FuncId) (hkd : (kd = 1 ∧ f = 15) ∨ (kd = 2 ∧ f = 16)) (aob : Option Addr) (Lb capb : Nat) :
    Calls Tryd.prog 13 #[.agg #[.int .i64 mf, .slice ao ds.length cap], .agg #[.int .i64 kd, .int .i64 n, .slice aob Lb capb]] u fun e u2 => ∃ (E mf' : Int) (ao' : Option Addr) (L' cap' : Nat), e = .returned (.tuple #[.agg #[.int .i64 mf', .slice ao' L' cap'], .int .i64 E]) ∧ Hid (Below u.heap.size u u2) ∧
      Hid (Calls Tryd.prog f #[.pointer (some ⟨p, 0, none⟩), .int .i64 n] (u2.alloc (.cells #[.int .i64 mf', .slice ao' L' cap'] 32)) fun e u4 => e = .returned (.int .i64 E) ∧ Hid (Lg1 w g u2.heap.size k mf' ao' L' cap' u4 p pd)) := by
  refine (do_low mf kd n ao aob ds.length cap Lb capb u (by omega) hn).mono ?_
  rintro e u2 ⟨rfl, hb2⟩
  refine ⟨1, mf, ao, ds.length, cap, rfl, hb2, ?_⟩
  rcases hkd with ⟨rfl, rfl⟩ | ⟨rfl, rfl⟩
  · refine (from_low p n _ hn).mono ?_
    rintro e u4 ⟨rfl, rfl⟩
    exact ⟨rfl, Lg1.same hA hb2 (Below.refl _ _)⟩
  · refine (until_low p n _ hn).mono ?_
    rintro e u4 ⟨rfl, rfl⟩
    exact ⟨rfl, Lg1.same hA hb2 (Below.refl _ _)⟩

theorem al_from (hA : Al w u g p pd s H first ds mf ao cap k M) (hk : k < 40) (n : Int) (hn : 1 ≤ n) (hn1 : n ≤ 1125899906842624) (aob : Option Addr) (Lb capb : Nat) :
    Calls Tryd.prog 13 #[.agg #[.int .i64 mf, .slice ao ds.length cap], .agg #[.int .i64 1, .int .i64 n, .slice aob Lb capb]] u fun e u2 => ∃ (E mf' : Int) (ao' : Option Addr) (L' cap' : Nat), e = .returned (.tuple #[.agg #[.int .i64 mf', .slice ao' L' cap'], .int .i64 E]) ∧ Hid (Below u.heap.size u u2) ∧
      Hid (Calls Tryd.prog 15 #[.pointer (some ⟨p, 0, none⟩), .int .i64 n] (u2.alloc (.cells #[.int .i64 mf', .slice ao' L' cap'] 32)) fun e u4 => e = .returned (.int .i64 E) ∧ Hid (Lg1 w g u2.heap.size k mf' ao' L' cap' u4 p pd)) := by
  have hl := hA.gs.len
  have h1 := hA.mf1
  have hM := hA.mM
  have hfit := hA.gs.fit
  have main : ∀ (j : Nat) (u2 : World) (ao' : Option Addr) (cap' : Nat), j ≤ ds.length → cnt first ds (n - 1) = j → Below u.heap.size u u2 → Ml u2 ao' cap' (ds.take j) (fun j => H j ∨ j = g) →
      Hid (Calls Tryd.prog 15 #[.pointer (some ⟨p, 0, none⟩), .int .i64 n] (u2.alloc (.cells #[.int .i64 mf, .slice ao' (ds.take j).length cap'] 32)) fun e u4 => e = .returned (.int .i64 0) ∧ Hid (Lg1 w g u2.heap.size k mf ao' (ds.take j).length cap' u4 p pd)) := by
    intro j u2 ao' cap' hj hc hb2 hml
    have hA3 := (hA.keep hb2).keep (below_box1 u2 (.cells #[.int .i64 mf, .slice ao' (ds.take j).length cap'] 32))
    refine (hA3.lx.from hA.gs (by omega) (by omega) n j hn (by omega) hc).mono ?_
    rintro e u4 ⟨rfl, hX⟩
    have hg := hA.gs.from j hj hA.lx.zero
    have hlt : (ds.take j).length = j := by rw [List.length_take]; omega
    refine ⟨rfl, _, _, _, ds.take j, _, rfl, Ax.mk' hA hb2 hml hX.out.1 hX.out.2 (fun i hi => ?_) ⟨hg.room, hg.now, hg.mass, hg.small, by have := hg.len; omega, hg.fit⟩ (by omega) (fun hd => ?_) hA.mf0 (by omega)⟩
    · rcases hi with h | h
      · exact Or.inl h
      · have := h.1
        simp at this
        omega
    · have hj0 : j ≠ 0 := fun e => hd (by rw [e]; rfl)
      rw [if_neg hj0]
      exact hA.eq (fun e => hd (by rw [e]; simp))
  by_cases h : ds = [] ∨ mf + (ds.length : Int) - 1 < n
  · refine (do_from_none mf n ao aob ds.length cap Lb capb u (by omega) ⟨hA.mf0, by omega⟩ hn (by
      rcases h with h | h
      · left; rw [h]; rfl
      · exact Or.inr h)).mono ?_
    rintro e u2 ⟨rfl, hb2⟩
    have hc : cnt first ds (n - 1) = ds.length := by
      unfold cnt lastL
      by_cases hd : ds = []
      · rw [if_pos (by rw [if_pos (by rw [hd]; rfl)]; omega)]
      · have hm := (hA.eq hd).1
        have : ds.length ≠ 0 := fun e => hd (List.eq_nil_of_length_eq_zero e)
        have h2 := h.resolve_left hd
        rw [if_pos (by rw [if_neg this]; omega)]
    have ht : ds.take ds.length = ds := List.take_length
    have hm := main ds.length u2 ao cap (Nat.le_refl _) hc hb2 (by rw [ht]; exact (hA.keep hb2).ml)
    rw [ht] at hm
    exact ⟨0, mf, ao, ds.length, cap, rfl, hb2, hm⟩
  · have hd : ds ≠ [] := fun e => h (Or.inl e)
    have hle : n ≤ mf + (ds.length : Int) - 1 := by
      have : ¬ mf + (ds.length : Int) - 1 < n := fun e => h (Or.inr e)
      omega
    have hp : 0 < ds.length := by
      rcases Nat.eq_zero_or_pos ds.length with h | h
      · exact absurd (List.eq_nil_of_length_eq_zero h) hd
      · exact h
    have hm := (hA.eq hd).1
    refine (do_from_some mf n ao aob cap Lb capb ds _ (n - mf).toNat u hA.ml (by omega) ⟨hA.mf0, by omega⟩ hn hp hle rfl).mono ?_
    rintro e u2 ⟨ao', cap', rfl, hml⟩
    have hc : cnt first ds (n - 1) = (n - mf).toNat := by
      unfold cnt lastL
      rw [if_neg (by rw [if_neg (by omega)]; omega), hm]
      congr 1
      omega
    exact ⟨0, mf, ao', _, cap', rfl, hml.out.2, main _ u2 ao' cap' (by omega) hc hml.out.2 hml.out.1⟩

theorem al_until (hA : Al w u g p pd s H first ds mf ao cap k M) (hT : ∀ u, Below w.heap.size w u → Fr.Tab u) (hk : k < 40) (n : Int) (hn : 1 ≤ n) (hn1 : n ≤ 1125899906842624) (aob : Option Addr) (Lb capb : Nat) :
    Calls Tryd.prog 13 #[.agg #[.int .i64 mf, .slice ao ds.length cap], .agg #[.int .i64 2, .int .i64 n, .slice aob Lb capb]] u fun e u2 => ∃ (E mf' : Int) (ao' : Option Addr) (L' cap' : Nat), e = .returned (.tuple #[.agg #[.int .i64 mf', .slice ao' L' cap'], .int .i64 E]) ∧ Hid (Below u.heap.size u u2) ∧
      Hid (Calls Tryd.prog 16 #[.pointer (some ⟨p, 0, none⟩), .int .i64 n] (u2.alloc (.cells #[.int .i64 mf', .slice ao' L' cap'] 32)) fun e u4 => e = .returned (.int .i64 E) ∧ Hid (Lg1 w g u2.heap.size k mf' ao' L' cap' u4 p pd)) := by
  have hl := hA.gs.len
  have h1 := hA.mf1
  have hM := hA.mM
  have hfit := hA.gs.fit
  have hf0 := hA.mf0
  have main : ∀ (j : Nat) (u2 : World) (mf' : Int) (ao' : Option Addr) (cap' : Nat), j ≤ ds.length → cnt first ds n = j → Below u.heap.size u u2 → Ml u2 ao' cap' (ds.drop j) (fun j => H j ∨ j = g) → mf' = mf + j →
      Hid (Calls Tryd.prog 16 #[.pointer (some ⟨p, 0, none⟩), .int .i64 n] (u2.alloc (.cells #[.int .i64 mf', .slice ao' (ds.drop j).length cap'] 32)) fun e u4 => e = .returned (.int .i64 0) ∧ Hid (Lg1 w g u2.heap.size k mf' ao' (ds.drop j).length cap' u4 p pd)) := by
    intro j u2 mf' ao' cap' hj hc hb2 hml hmf
    have hA3 := (hA.keep hb2).keep (below_box1 u2 (.cells #[.int .i64 mf', .slice ao' (ds.drop j).length cap'] 32))
    refine (hA3.lx.until hA.gs (hT _ hA3.below) (by omega) (by omega) n j hn (by omega) hc).mono ?_
    rintro e u4 ⟨rfl, hX⟩
    have hg := hA.gs.until j hj hA.lx.zero
    have hlt : (ds.drop j).length = ds.length - j := by rw [List.length_drop]
    refine ⟨rfl, _, _, _, ds.drop j, _, rfl, Ax.mk' hA hb2 hml hX.out.1 hX.out.2 (fun i hi => ?_) ⟨hg.room, hg.now, hg.mass, hg.small, by have := hg.len; omega, hg.fit⟩ (by omega) (fun hd => ?_) (by omega) (by rw [hlt]; omega)⟩
    · rcases hi with h | h
      · exact Or.inl h
      · have := h.1
        simp at this
        omega
    · have hj0 : j ≠ ds.length := fun e => hd (by rw [e]; simp)
      rw [if_neg hj0]
      have := hA.eq (fun e => hd (by rw [e]; simp))
      omega
  by_cases h : ds = [] ∨ n < mf
  · refine (do_until_none mf n ao aob ds.length cap Lb capb u hn (by
      rcases h with h | h
      · left; rw [h]; rfl
      · exact Or.inr h)).mono ?_
    rintro e u2 ⟨rfl, hb2⟩
    have hc : cnt first ds n = 0 := by
      unfold cnt lastL
      by_cases hd : ds = []
      · rw [if_pos (by rw [if_pos (by rw [hd]; rfl)]; omega), hd]; rfl
      · have hm := (hA.eq hd).1
        have : ds.length ≠ 0 := fun e => hd (List.eq_nil_of_length_eq_zero e)
        have h2 := h.resolve_left hd
        rw [if_neg (by rw [if_neg this]; omega)]
        omega
    exact ⟨0, mf, ao, ds.length, cap, rfl, hb2, main 0 u2 mf ao cap (Nat.zero_le _) hc hb2 (hA.keep hb2).ml (by omega)⟩
  · have hd : ds ≠ [] := fun e => h (Or.inl e)
    have hle : mf ≤ n := by
      have : ¬ n < mf := fun e => h (Or.inr e)
      omega
    have hp : 0 < ds.length := by
      rcases Nat.eq_zero_or_pos ds.length with h | h
      · exact absurd (List.eq_nil_of_length_eq_zero h) hd
      · exact h
    have hm := (hA.eq hd).1
    have hK : ∀ j, (H j ∨ j = g) → j < u.heap.size := fun j hj => by
      rcases hj with h | h
      · exact hA.lx.lt j h
      · rw [h]; exact hA.glt
    have go : ∀ j : Nat, 0 < j → j ≤ ds.length → ((j < ds.length ∧ n = mf + j - 1) ∨ (j = ds.length ∧ mf + j - 1 ≤ n)) → cnt first ds n = j →
      Calls Tryd.prog 13 #[.agg #[.int .i64 mf, .slice ao ds.length cap], .agg #[.int .i64 2, .int .i64 n, .slice aob Lb capb]] u fun e u2 => ∃ (E mf' : Int) (ao' : Option Addr) (L' cap' : Nat), e = .returned (.tuple #[.agg #[.int .i64 mf', .slice ao' L' cap'], .int .i64 E]) ∧ Hid (Below u.heap.size u u2) ∧
      Hid (Calls Tryd.prog 16 #[.pointer (some ⟨p, 0, none⟩), .int .i64 n] (u2.alloc (.cells #[.int .i64 mf', .slice ao' L' cap'] 32)) fun e u4 => e = .returned (.int .i64 E) ∧ Hid (Lg1 w g u2.heap.size k mf' ao' L' cap' u4 p pd)) := by
      intro j hj0 hj hcs hc
      refine (do_until_some mf n ao aob cap Lb capb ds _ j u hA.ml hK (by omega) ⟨hA.mf0, by omega⟩ ⟨hn, by omega⟩ hj0 hcs).mono ?_
      rintro e u2 ⟨ao', cap', rfl, hml⟩
      exact ⟨0, mf + j, ao', _, cap', rfl, hml.out.2, main j u2 _ ao' cap' hj hc hml.out.2 hml.out.1 rfl⟩
    by_cases hall : mf + (ds.length : Int) - 1 ≤ n
    · exact go ds.length hp (Nat.le_refl _) (Or.inr ⟨rfl, hall⟩) (by
        unfold cnt lastL
        rw [if_pos (by rw [if_neg (by omega)]; omega)])
    · exact go (n - mf + 1).toNat (by omega) (by omega) (Or.inl ⟨by omega, by omega⟩) (by
        unfold cnt lastL
        rw [if_neg (by rw [if_neg (by omega)]; omega), hm])
end
end Go.Proofs.YtnbdkojdddplkaaDoor.Wl
namespace Go.Proofs.YtnbdkojdddplkaaDoor.Wl
open Go.RowKit Dk

section
variable {w u : World} {g p pd : Nat} {s : St} {H : Nat → Prop} {first : Int} {ds : List (List UInt8)} {mf : Int} {ao : Option Addr} {cap k M : Nat}

theorem al_sync (hA : Al w u g p pd s H first ds mf ao cap k M) (hk : k < 40) (kd n : Int) (h0 : kd ≠ 0) (h1 : kd ≠ 1) (h2 : kd ≠ 2) (aob : Option Addr) (Lb capb : Nat) :
    Calls Tryd.prog 13 #[.agg #[.int .i64 mf, .slice ao ds.length cap], .agg #[.int .i64 kd, .int .i64 n, .slice aob Lb capb]] u fun e u2 => e = .returned (.tuple #[.agg #[.int .i64 mf, .slice ao ds.length cap], .int .i64 0]) ∧ Hid (Below u.heap.size u u2) ∧
      Hid (Calls Tryd.prog 17 #[.pointer (some ⟨p, 0, none⟩)] (u2.alloc (.cells #[.int .i64 mf, .slice ao ds.length cap] 32)) fun e u4 => e = .returned (.tuple #[]) ∧ Hid (Lg1 w g u2.heap.size k mf ao ds.length cap u4 p pd)) := by
  refine (do_other mf kd n ao aob ds.length cap Lb capb u h0 h1 h2).mono ?_
  rintro e u2 ⟨rfl, hb2⟩
  refine ⟨rfl, hb2, ?_⟩
  have hA3 := (hA.keep hb2).keep (below_box1 u2 (.cells #[.int .i64 mf, .slice ao ds.length cap] 32))
  have hM := hA.mM
  have hm := hA.gs.mass
  have h1' := hA.mf1
  have hg := hA.gs.sync
  have hl := hA.gs.len
  refine (hA3.lx.sync (by omega)).mono ?_
  rintro e u4 ⟨rfl, hX⟩
  refine ⟨rfl, _, _, _, ds, k * 328 + 1, rfl, Ax.mk' hA hb2 (hA.keep hb2).ml hX.out.1 hX.out.2 (fun i hi => ?_) ⟨hg.room, hg.now, hg.mass, hg.small, by omega, hg.fit⟩ (by omega) hA.eq hA.mf0 (by omega)⟩
  rcases hi with h | h
  · exact Or.inl h
  · have := h.1
    simp at this
    omega

theorem al_again (hA : Al w u g p pd s H first ds mf ao cap k M) (hT : ∀ u, Below w.heap.size w u → Fr.Tab u) (_hw0 : 0 < w.heap.size) (hk : k < 40) (kd n : Int) (h0 : kd ≠ 0) (h1 : kd ≠ 1) (h2 : kd ≠ 2) (aob : Option Addr) (Lb capb : Nat) :
    Calls Tryd.prog 13 #[.agg #[.int .i64 mf, .slice ao ds.length cap], .agg #[.int .i64 kd, .int .i64 n, .slice aob Lb capb]] u fun e u2 => e = .returned (.tuple #[.agg #[.int .i64 mf, .slice ao ds.length cap], .int .i64 0]) ∧ Hid (Below u.heap.size u u2) ∧
      Hid (Calls Tryd.prog 17 #[.pointer (some ⟨p, 0, none⟩)] (u2.alloc (.cells #[.int .i64 mf, .slice ao ds.length cap] 32)) fun e u4 => e = .returned (.tuple #[]) ∧ Hid (Calls Tryd.prog 18 #[.pointer (some ⟨pd, 0, none⟩), .int .i64 (-1), .int .i64 0] u4 fun e u5 => ∃ q, e = .returned (.pointer (some ⟨q, 0, none⟩)) ∧
        Hid (Calls Tryd.prog 11 #[.pointer (some ⟨q, 0, none⟩)] u5 fun e u6 => ∃ p', e = .returned (.tuple #[.pointer (some ⟨p', 0, none⟩), .int .i64 0]) ∧ Hid (Lg1 w g u2.heap.size k mf ao ds.length cap u6 p' q)))) := by
  refine (do_other mf kd n ao aob ds.length cap Lb capb u h0 h1 h2).mono ?_
  rintro e u2 ⟨rfl, hb2⟩
  refine ⟨rfl, hb2, ?_⟩
  have hA3 := (hA.keep hb2).keep (below_box1 u2 (.cells #[.int .i64 mf, .slice ao ds.length cap] 32))
  have hM := hA.mM
  have hm := hA.gs.mass
  have h1' := hA.mf1
  have hg := hA.gs.sync
  have hl := hA.gs.len
  have hs3 : (u2.alloc (.cells #[.int .i64 mf, .slice ao ds.length cap] 32)).heap.size = u2.heap.size + 1 := by simp
  refine (hA3.lx.sync (by omega)).mono ?_
  rintro e u4 ⟨rfl, hX⟩
  refine ⟨rfl, ?_⟩
  obtain ⟨hX4, hf4⟩ := hX.out
  have hgm := hg.mass
  refine (hX4.crash (by omega) (-1) 0).mono ?_
  rintro e u5 ⟨q, rfl, hD⟩
  refine ⟨q, rfl, ?_⟩
  obtain ⟨hD5, hb5⟩ := hD.out
  have hle : (⟨(⟨s.room, s.now, []⟩ : St).room, Dk.leftOf ⟨s.room, s.now, []⟩ (-1) 0, []⟩ : St) = ⟨s.room, s.now, []⟩ := rfl
  rw [hle] at hD5
  have hfit := hg.fit
  have hz1 : ds ≠ [] → 1 ≤ first := fun e => (hA.eq e).2
  have hld := load_good hA.gs.now s.room hA.gs.small hz1 hA.lx.zero (by omega)
  have hos := openS_good hA.gs.now s.room hA.gs.small hz1 hA.lx.zero (by omega)
  have hfile := hA.gs.file
  have hfo : fileOf (⟨s.room, s.now, []⟩ : St) nmW = fileB first ds := hA.gs.now.file
  have hsz4 := hf4.size
  have hbw5 : Below w.heap.size w u5 := (hA3.below.trans (hf4.below hA.hi hA3.below.size)).trans (hb5.mono (by have := hA3.below.size; omega))
  have hws := hA3.below.size
  have hs5 := hb5.size
  refine (LX.open hD5 (hT _ hbw5) (fun h => by
    rcases h with h | h
    · exact h
    · omega) (by omega) hA.gs.now.nm (by rw [hfo]; omega) (by have := hA.gs.now.len; exact Nat.le_trans this (by decide)) first ds hld).mono ?_
  rintro e u6 ⟨p', rfl, hO⟩
  obtain ⟨hX6, hf6⟩ := hO.out
  rw [hos] at hX6
  have hs6 := hf6.size
  have hfr : Dk.Fr H (u2.alloc (.cells #[.int .i64 mf, .slice ao ds.length cap] 32)) u6 := by
    refine (hf4.trans (G := fun _ => False) (Fr.of_below hb5) (fun _ _ h => h.elim)).trans hf6 (fun j hj hh => ?_)
    rcases hh with hh | hh
    · exact hh.elim
    · omega
  refine ⟨p', rfl, _, _, first, ds, k * 328 + 1, rfl, Ax.mk' hA hb2 (hA.keep hb2).ml hX6 hfr (fun i hi => ?_) ⟨hg.room, hg.now, hg.mass, hg.small, by omega, hg.fit⟩ (by omega) hA.eq hA.mf0 (by omega)⟩
  right
  rcases hi with h | h
  · rcases h with h | h
    · exact h.elim
    · omega
  · omega
end

/-- The beginning: a disk, a log, an empty model. -/
theorem al_start {w w1 : World} (hb1 : Below w.heap.size w w1) (hT : ∀ u, Below w.heap.size w u → Fr.Tab u) (hw0 : 0 < w.heap.size) :
    Calls Tryd.prog 10 #[.int .i64 1048576] w1 fun e w2 => ∃ pd, e = .returned (.pointer (some ⟨pd, 0, none⟩)) ∧ Hid (Calls Tryd.prog 11 #[.pointer (some ⟨pd, 0, none⟩)] w2 fun e w3 => ∃ p, e = .returned (.tuple #[.pointer (some ⟨p, 0, none⟩), .int .i64 0]) ∧
      Hid (∃ s H, Al w (w3.alloc (.cells #[.int .i64 0, .slice none 0 0] 32)) w3.heap.size p pd s H 0 [] 0 none 0 0 1)) := by
  refine (new_any 1048576 w1).mono ?_
  rintro e w2 ⟨rfl, hD2, hb2⟩
  rw [room_M] at hD2
  refine ⟨_, rfl, ?_⟩
  have hs1 := hb1.size
  have hb2' : Below w.heap.size w w2 := hb1.trans (hb2.mono hs1)
  have hf : fileOf (⟨1048576, [], []⟩ : St) nmW = [] := rfl
  have hs2 := hb2.size
  refine (LX.open hD2 (hT _ hb2') (fun h => by
    rcases h with h | h
    · exact h
    · omega) (by simp [St.mass, Dk.mass, wmass]) (fun f hf => by simp [St.now, Dk.run] at hf) (by rw [hf]; decide) (by simp [St.now, Dk.run]) 0 [] (by rw [hf, Fr.scan_nil]; rfl)).mono ?_
  rintro e w3 ⟨p, rfl, hO⟩
  obtain ⟨hX, hf3⟩ := hO.out
  have hs3 := hf3.size
  have hnow : nowF ([] : List Fl) 0 [] := Or.inl ⟨rfl, rfl⟩
  rw [openS_good hnow 1048576 (fun d hd => by simp at hd) (fun h => absurd rfl h) (fun _ => rfl) (by simp)] at hX
  have hFge : ∀ j, ext (fun _ => False) w1 w2 j → w.heap.size ≤ j := fun j hj => by
    rcases hj with hj | hj
    · exact hj.elim
    · omega
  have hb3 : Below w.heap.size w w3 := hb2'.trans (hf3.below hFge (by omega))
  have hws := hb3.size
  refine ⟨p, rfl, _, _, hX.below (below_box1 _ _), ⟨rfl, hnow, by simp [St.mass, Dk.mass, wmass], fun d hd => by simp at hd, Nat.le_refl _, by simp⟩, by omega, fun j hj => ?_, Ml.nil _ _, heap_alloc_new _ _, fun hj => ?_, hws, fun h => absurd rfl h, Int.le_refl _, by simp, hb3.alloc hws _⟩
  · rcases hj with hj | hj
    · exact hFge j hj
    · omega
  · have := hX.lt _ hj
    omega
end Go.Proofs.YtnbdkojdddplkaaDoor.Wl
namespace Go.Proofs.YtnbdkojdddplkaaDoor.Wl
open Go.RowKit Dk

/-- A row of operations, as it is read. -/
structure Op3 where
  kd : Int
  n : Int
  v : Value
  b : List UInt8
def OpRow (w : World) (ao : Option Addr) (len : Nat) (f : Nat → Op3) : Prop := 0 < len → ∃ g off, ao = some ⟨g, off, none⟩ ∧ ∀ i, i < len → w.cell? ⟨g, off + i * 3, none⟩ = some (.int .i64 (f i).kd) ∧ w.cell? ⟨g, off + i * 3 + 1, none⟩ = some (.int .i64 (f i).n) ∧ w.cell? ⟨g, off + i * 3 + 2, none⟩ = some (f i).v ∧ Sl w (f i).v (f i).b ∧ -9223372036854775808 ≤ (f i).n

theorem three_cells {u : World} {q : Nat} {x y z : Value} (h : u.heap[q]? = some (.cells #[x, y, z] 35 (0, 0))) : u.cell? ⟨q, 0, none⟩ = some x ∧ u.cell? ⟨q, 1, none⟩ = some y ∧ u.cell? ⟨q, 2, none⟩ = some z := by
  refine ⟨?_, ?_, ?_⟩
  · rw [cell_of_row u _ 0 _ _ _ h]; rfl
  · rw [cell_of_row u _ 1 _ _ _ h]; rfl
  · rw [cell_of_row u _ 2 _ _ _ h]; rfl
/-- The operation's cells, behind model.do and whatever is laid then. -/
theorem op_cells {w5 u2 : World} {kd n : Int} {v : Value} (hb : Below (w5.alloc (.cells #[.int .i64 kd, .int .i64 n, v] 35)).heap.size (w5.alloc (.cells #[.int .i64 kd, .int .i64 n, v] 35)) u2) :
    (∀ ob, (u2.alloc ob).cell? ⟨w5.heap.size, 0, none⟩ = some (.int .i64 kd)) ∧ (∀ ob, (u2.alloc ob).cell? ⟨w5.heap.size, 1, none⟩ = some (.int .i64 n)) ∧ (∀ ob, (u2.alloc ob).cell? ⟨w5.heap.size, 2, none⟩ = some v) := by
  have h : u2.heap[w5.heap.size]? = some (.cells #[.int .i64 kd, .int .i64 n, v] 35 (0, 0)) := by
    rw [hb.block _ (by simp)]
    exact heap_alloc_new _ _
  have hc := three_cells h
  exact ⟨fun ob => below_cell (below_box1 _ ob) hc.1, fun ob => below_cell (below_box1 _ ob) hc.2.1, fun ob => below_cell (below_box1 _ ob) hc.2.2⟩

/-- What the last steps of a round read. -/
def Kc (u4 : World) (g q : Nat) (mf : Int) (v : Value) : Prop := u4.cell? ⟨q, 0, none⟩ = some (.int .i64 mf) ∧ u4.cell? ⟨q, 1, none⟩ = some v ∧ (∃ x, u4.cell? ⟨g, 0, none⟩ = some x) ∧ (∃ y, u4.cell? ⟨g, 1, none⟩ = some y) ∧ u4.frozen? ⟨g, 0, none⟩ = false ∧ u4.frozen? ⟨g, 1, none⟩ = false
theorem Lg1.go {w u4 : World} {g q k : Nat} {mf : Int} {ao : Option Addr} {L cap p pd : Nat} (h : Lg1 w g q k mf ao L cap u4 p pd) (hk : k < 40) : Kc u4 g q mf (.slice ao L cap) ∧
    Hid (Calls Tryd.prog 19 #[.pointer (some ⟨p, 0, none⟩), .agg #[.int .i64 mf, .slice ao L cap]] ((u4.setCell ⟨g, 0, none⟩ (.int .i64 mf)).setCell ⟨g, 1, none⟩ (.slice ao L cap)) fun e w' => e = .returned (.bool true) ∧ Hid (∃ s H first ds M, Al w w' g p pd s H first ds mf ao cap (k + 1) M)) := by
  obtain ⟨s, H, first, ds, M, rfl, hA⟩ := h
  have h1 := two_cells hA.new
  obtain ⟨x, y, ho⟩ := hA.old
  have h2 := two_cells ho
  refine ⟨⟨h1.1, h1.2.1, ⟨x, h2.1⟩, ⟨y, h2.2.1⟩, h2.2.2 0, h2.2.2 1⟩, ?_⟩
  refine ((hA.store).same (by omega)).mono ?_
  rintro e w' ⟨rfl, hL⟩
  exact ⟨rfl, s, H, first, ds, M, hL.out⟩

theorem bne_self (x : Int) : (x != x) = false := by simp

set_option maxHeartbeats 8000000 in
set_option maxRecDepth 20000 in
theorem walAll_any (ao : Option Addr) (len cap : Nat) (f : Nat → Op3) (w : World) (hrow : OpRow w ao len f) (hlen : len ≤ maxLen) (ht : Fr.Tab w) :
    Calls Tryd.prog 3 #[.slice ao len cap] w fun e w' => e = .returned (.bool true) ∧ Below w.heap.size w w' := by
  have hw0 : 0 < w.heap.size := cell_lt (ht 0 (by decide))
  have hlen' : len ≤ 9223372036854775807 := hlen
  have HT : Hid (∀ u, Below w.heap.size w u → Fr.Tab u) := fun u hu => ht.below hu
  have HRow : Hid _ := hrow
  clear hrow hlen
  go_enter Tryd.func3, Tryd.ntmps3
  go_wp2_with fail
  refine (begun_any w ht).mono ?_
  rintro e w1 ⟨rfl, hb1⟩
  have HS : Hid _ := al_start hb1 HT.out hw0
  clear hb1 ht
  go_wp2_with fail
  refine Calls.mono HS.out ?_
  rintro e w2 ⟨pd, rfl, HO⟩
  clear HS
  go_wp2_with fail
  refine Calls.mono HO.out ?_
  rintro e w3 ⟨p, rfl, HA0⟩
  clear HO
  go_wp2_with fail
  generalize w3.alloc (.cells #[.int .i64 0, .slice none 0 0] 32) = w4 at *
  generalize w3.heap.size = g at *
  go_loopw [4, 5, 8] (fun d l i wr => ∃ (k pd p : Nat) (s : St) (H : Nat → Prop) (first : Int) (ds : List (List UInt8)) (mf : Int) (ao0 : Option Addr) (cap0 M : Nat), i = .int .i64 k ∧ d = .pointer (some ⟨pd, 0, none⟩) ∧ l = .pointer (some ⟨p, 0, none⟩) ∧ (k ≤ 40 ∧ k ≤ len) ∧ Hid (Al w wr g p pd s H first ds mf ao0 cap0 k M)) (fun _ _ i _ => 41 - (intOf i).toNat)
  case atStart =>
    obtain ⟨s, H, hA⟩ := HA0.out
    exact ⟨0, pd, p, s, H, 0, [], 0, none, 0, 1, rfl, rfl, rfl, ⟨by omega, Nat.zero_le _⟩, hA⟩
  case round =>
    obtain ⟨k, pd', p', s, H, first, ds, mf, ao0, cap0, M, rfl, rfl, rfl, ⟨hk, hkl⟩, HA⟩ := hrel
    clear HA0
    by_cases hlt : k < len
    · by_cases h40 : k < 40
      · obtain ⟨go, off, rfl, hr⟩ := HRow.out (by omega)
        obtain ⟨c0, c1, c2, hS, hn0⟩ := hr k hlt
        have hltI : (k : Int) < (len : Int) := by omega
        have h40I : (k : Int) < 40 := by omega
        replace c0 := below_cell HA.out.below c0
        replace c1 := below_cell HA.out.below c1
        replace c2 := below_cell HA.out.below c2
        generalize (f k).kd = kd at *
        generalize (f k).n = n at *
        generalize (f k).v = v at *
        generalize (f k).b = b at *
        obtain ⟨aob, capb, rfl, hb1, hb2⟩ := hS.shape
        have hS2 := Sl.cutL hS
        have hcl : (b.take 300).length = cutL b.length := hS2.len.symm
        have hb300 : (b.take 300).length ≤ 300 := by rw [List.length_take]; omega
        rw [← hcl] at hS2
        have hcn : capN n ≤ 1125899906842624 := by unfold capN; split <;> omega
        have hcn0 : -9223372036854775808 ≤ capN n := by unfold capN; split <;> omega
        have HCut : Hid _ := cut_md kd n aob b.length capb wr hb1 hb2
        rw [← hcl] at HCut
        generalize b.take 300 = bb at *
        generalize capN n = N at *
        clear hr hS hn0 hb1 hb2 hcl
        go_wp2_with fail
        refine Calls.mono HCut.out ?_
        rintro e w5 ⟨rfl, hb5⟩
        have HAu : Hid (Al w (w5.alloc (.cells #[.int .i64 kd, .int .i64 N, .slice aob bb.length capb] 35)) g p' pd' s H first ds mf ao0 cap0 k M) := (HA.out.keep hb5).keep (below_box1 _ _)
        obtain ⟨m0, m1, _⟩ := two_cells HAu.out.md
        clear HA hb5 HCut c0 c1 c2
        have HS2 : Hid _ := hS2
        clear hS2
        by_cases k0 : kd = 0
        · subst k0
          have HD : Hid _ := al_app HAu.out HT.out h40 N hcn0 hcn aob capb bb HS2.out hb300
          go_wp2_with fail
          refine Calls.mono HD.out ?_
          rintro e u2 ⟨E, mf', ao', L', cap', rfl, hb2, HC⟩
          obtain ⟨x0, x1, x2⟩ := op_cells hb2.out
          clear HD hb2 HAu m0 m1
          go_wp2_with fail
          refine Calls.mono HC.out ?_
          rintro e u4 ⟨rfl, HG⟩
          clear HC x0 x1 x2
          obtain ⟨⟨y0, y1, ⟨yx, y2⟩, ⟨yy, y3⟩, y4, y5⟩, HSm⟩ := Lg1.go HG.out h40
          clear HG
          go_wp2_with fail
          refine Calls.mono HSm.out ?_
          rintro e u7 ⟨rfl, HAl⟩
          clear HSm y0 y1 y2 y3 y4 y5
          go_wp2_with fail
          go_roundw
          case rel =>
            obtain ⟨s', H', first', ds', M', hA'⟩ := HAl.out
            exact ⟨k + 1, _, _, s', H', first', ds', _, _, _, M', by go_num, rfl, rfl, by omega, hA'⟩
          case measure => simp [intOf]; omega
        have k0' : (kd == 0) = false := by rw [beq_eq_false_iff_ne]; exact k0
        by_cases k1 : kd = 1
        · subst k1
          have HD : Hid (Calls Tryd.prog 13 #[.agg #[.int .i64 mf, .slice ao0 ds.length cap0], .agg #[.int .i64 1, .int .i64 N, .slice aob bb.length capb]] (w5.alloc (.cells #[.int .i64 1, .int .i64 N, .slice aob bb.length capb] 35)) fun e u2 => ∃ (E mf' : Int) (ao' : Option Addr) (L' cap' : Nat), e = .returned (.tuple #[.agg #[.int .i64 mf', .slice ao' L' cap'], .int .i64 E]) ∧ Hid (Below (w5.alloc (.cells #[.int .i64 1, .int .i64 N, .slice aob bb.length capb] 35)).heap.size (w5.alloc (.cells #[.int .i64 1, .int .i64 N, .slice aob bb.length capb] 35)) u2) ∧
            Hid (Calls Tryd.prog 15 #[.pointer (some ⟨p', 0, none⟩), .int .i64 N] (u2.alloc (.cells #[.int .i64 mf', .slice ao' L' cap'] 32)) fun e u4 => e = .returned (.int .i64 E) ∧ Hid (Lg1 w g u2.heap.size k mf' ao' L' cap' u4 p' pd'))) := by
            by_cases hn : N < 1
            · exact al_low HAu.out N hn 1 15 (Or.inl ⟨rfl, rfl⟩) aob bb.length capb
            · exact al_from HAu.out h40 N (by omega) hcn aob bb.length capb
          go_wp2_with fail
          refine Calls.mono HD.out ?_
          rintro e u2 ⟨E, mf', ao', L', cap', rfl, hb2, HC⟩
          obtain ⟨x0, x1, x2⟩ := op_cells hb2.out
          clear HD hb2 HAu m0 m1
          go_wp2_with fail
          refine Calls.mono HC.out ?_
          rintro e u4 ⟨rfl, HG⟩
          clear HC x0 x1 x2
          obtain ⟨⟨y0, y1, ⟨yx, y2⟩, ⟨yy, y3⟩, y4, y5⟩, HSm⟩ := Lg1.go HG.out h40
          clear HG
          go_wp2_with fail
          refine Calls.mono HSm.out ?_
          rintro e u7 ⟨rfl, HAl⟩
          clear HSm y0 y1 y2 y3 y4 y5
          go_wp2_with fail
          go_roundw
          case rel =>
            obtain ⟨s', H', first', ds', M', hA'⟩ := HAl.out
            exact ⟨k + 1, _, _, s', H', first', ds', _, _, _, M', by go_num, rfl, rfl, by omega, hA'⟩
          case measure => simp [intOf]; omega
        have k1' : (kd == 1) = false := by rw [beq_eq_false_iff_ne]; exact k1
        by_cases k2 : kd = 2
        · subst k2
          have HD : Hid (Calls Tryd.prog 13 #[.agg #[.int .i64 mf, .slice ao0 ds.length cap0], .agg #[.int .i64 2, .int .i64 N, .slice aob bb.length capb]] (w5.alloc (.cells #[.int .i64 2, .int .i64 N, .slice aob bb.length capb] 35)) fun e u2 => ∃ (E mf' : Int) (ao' : Option Addr) (L' cap' : Nat), e = .returned (.tuple #[.agg #[.int .i64 mf', .slice ao' L' cap'], .int .i64 E]) ∧ Hid (Below (w5.alloc (.cells #[.int .i64 2, .int .i64 N, .slice aob bb.length capb] 35)).heap.size (w5.alloc (.cells #[.int .i64 2, .int .i64 N, .slice aob bb.length capb] 35)) u2) ∧
            Hid (Calls Tryd.prog 16 #[.pointer (some ⟨p', 0, none⟩), .int .i64 N] (u2.alloc (.cells #[.int .i64 mf', .slice ao' L' cap'] 32)) fun e u4 => e = .returned (.int .i64 E) ∧ Hid (Lg1 w g u2.heap.size k mf' ao' L' cap' u4 p' pd'))) := by
            by_cases hn : N < 1
            · exact al_low HAu.out N hn 2 16 (Or.inr ⟨rfl, rfl⟩) aob bb.length capb
            · exact al_until HAu.out HT.out h40 N (by omega) hcn aob bb.length capb
          go_wp2_with fail
          refine Calls.mono HD.out ?_
          rintro e u2 ⟨E, mf', ao', L', cap', rfl, hb2, HC⟩
          obtain ⟨x0, x1, x2⟩ := op_cells hb2.out
          clear HD hb2 HAu m0 m1
          go_wp2_with fail
          refine Calls.mono HC.out ?_
          rintro e u4 ⟨rfl, HG⟩
          clear HC x0 x1 x2
          obtain ⟨⟨y0, y1, ⟨yx, y2⟩, ⟨yy, y3⟩, y4, y5⟩, HSm⟩ := Lg1.go HG.out h40
          clear HG
          go_wp2_with fail
          refine Calls.mono HSm.out ?_
          rintro e u7 ⟨rfl, HAl⟩
          clear HSm y0 y1 y2 y3 y4 y5
          go_wp2_with fail
          go_roundw
          case rel =>
            obtain ⟨s', H', first', ds', M', hA'⟩ := HAl.out
            exact ⟨k + 1, _, _, s', H', first', ds', _, _, _, M', by go_num, rfl, rfl, by omega, hA'⟩
          case measure => simp [intOf]; omega
        have k2' : (kd == 2) = false := by rw [beq_eq_false_iff_ne]; exact k2
        by_cases k3 : kd = 3
        · have k3' : (kd == 3) = true := by rw [k3]; rfl
          have HD : Hid _ := al_sync HAu.out h40 kd N k0 k1 k2 aob bb.length capb
          clear k0 k1 k2 k3
          go_wp2_with fail
          refine Calls.mono HD.out ?_
          rintro e u2 ⟨rfl, hb2, HC⟩
          obtain ⟨x0, x1, x2⟩ := op_cells hb2.out
          clear HD hb2 HAu m0 m1
          go_wp2_with fail
          refine Calls.mono HC.out ?_
          rintro e u4 ⟨rfl, HG⟩
          clear HC x0 x1 x2
          obtain ⟨⟨y0, y1, ⟨yx, y2⟩, ⟨yy, y3⟩, y4, y5⟩, HSm⟩ := Lg1.go HG.out h40
          clear HG
          go_wp2_with fail
          refine Calls.mono HSm.out ?_
          rintro e u7 ⟨rfl, HAl⟩
          clear HSm y0 y1 y2 y3 y4 y5
          go_wp2_with fail
          go_roundw
          case rel =>
            obtain ⟨s', H', first', ds', M', hA'⟩ := HAl.out
            exact ⟨k + 1, _, _, s', H', first', ds', _, _, _, M', by go_num, rfl, rfl, by omega, hA'⟩
          case measure => simp [intOf]; omega
        have k3' : (kd == 3) = false := by rw [beq_eq_false_iff_ne]; exact k3
        have HD : Hid _ := al_again HAu.out HT.out hw0 h40 kd N k0 k1 k2 aob bb.length capb
        clear k0 k1 k2 k3
        go_wp2_with fail
        refine Calls.mono HD.out ?_
        rintro e u2 ⟨rfl, hb2, HC⟩
        obtain ⟨x0, x1, x2⟩ := op_cells hb2.out
        clear HD hb2 HAu m0 m1
        go_wp2_with fail
        refine Calls.mono HC.out ?_
        rintro e u4 ⟨rfl, HC2⟩
        clear HC x0 x1 x2
        go_wp2_with fail
        refine Calls.mono HC2.out ?_
        rintro e u5 ⟨q, rfl, HC3⟩
        clear HC2
        go_wp2_with fail
        refine Calls.mono HC3.out ?_
        rintro e u6 ⟨p6, rfl, HG⟩
        clear HC3
        obtain ⟨⟨y0, y1, ⟨yx, y2⟩, ⟨yy, y3⟩, y4, y5⟩, HSm⟩ := Lg1.go HG.out h40
        clear HG
        go_wp2_with fail
        refine Calls.mono HSm.out ?_
        rintro e u7 ⟨rfl, HAl⟩
        clear HSm y0 y1 y2 y3 y4 y5
        go_wp2_with fail
        go_roundw
        case rel =>
          obtain ⟨s', H', first', ds', M', hA'⟩ := HAl.out
          exact ⟨k + 1, _, _, s', H', first', ds', _, _, _, M', by go_num, rfl, rfl, by omega, hA'⟩
        case measure => simp [intOf]; omega
      · have h40e : k = 40 := by omega
        subst h40e
        have hltI : ((40 : Nat) : Int) < (len : Int) := by omega
        go_wp2_with fail
        go_ret
        exact ⟨rfl, HA.out.below⟩
    · have hke : k = len := by omega
      subst hke
      go_wp2_with fail
      go_ret
      exact ⟨rfl, HA.out.below⟩
end Go.Proofs.YtnbdkojdddplkaaDoor.Wl
