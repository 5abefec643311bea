/- write, where nothing was written yet. append of entries leaves the elder row as it was; after, of a call without a snapshot. after, of a call without a snapshot: its walk. do and Save, where nothing was written yet. piece and redo, of a log of one record and a keep of nothing. -/
import Derived.Test.YtjndgekpdmlbiaaGreatDoorPart19
import Derived.Test.YtjndgekpdmlbiaaGreatDoorPart14
import Derived.Laws.Append
import Derived.Laws.Tables
import Derived.Laws.ResultCell
import Derived.Test.YtjndgekpdmlbiaaGreatDoorPart12
import Derived.Deep.CutRange
import Derived.Test.YtjndgekpdmlbiaaGreatDoorPart13
import Derived.Test.YtjndgekpdmlbiaaGreatDoorPart03
namespace Go.Proofs.YtjndgekpdmlbiaaGreatDoor.Kp
open Go.RowKit Bn

/-- A keep's own block. -/
def KwB (w : World) (kb p : Nat) (c0 c1 c2 c3 c4 c5 c6 : Value) (z : Int) : Prop := w.heap[kb]? = some (.cells #[c0, c1, c2, c3, c4, c5, c6, .pointer (some ⟨p, 0, none⟩), .int .i64 z] 80 (0, 0))
theorem KwB.c {w : World} {kb p : Nat} {c0 c1 c2 c3 c4 c5 c6 : Value} {z : Int} (h : KwB w kb p c0 c1 c2 c3 c4 c5 c6 z) (i : Nat) : w.cell? ⟨kb, i, none⟩ = (#[c0, c1, c2, c3, c4, c5, c6, Value.pointer (some ⟨p, 0, none⟩), Value.int .i64 z])[i]? := cell_of_row w kb i _ _ _ h
theorem KwB.f {w : World} {kb p : Nat} {c0 c1 c2 c3 c4 c5 c6 : Value} {z : Int} (h : KwB w kb p c0 c1 c2 c3 c4 c5 c6 z) (i : Nat) : w.frozen? ⟨kb, i, none⟩ = false := frozen_of_row w kb i _ _ h
theorem KwB.lt {w : World} {kb p : Nat} {c0 c1 c2 c3 c4 c5 c6 : Value} {z : Int} (h : KwB w kb p c0 c1 c2 c3 c4 c5 c6 z) : kb < w.heap.size := lt_of_block h
theorem KwB.fr {w w' : World} {F : Nat → Prop} {kb p : Nat} {c0 c1 c2 c3 c4 c5 c6 : Value} {z : Int} (h : KwB w kb p c0 c1 c2 c3 c4 c5 c6 z) (hf : Dk.Fr F w w') (hk : ¬ F kb) : KwB w' kb p c0 c1 c2 c3 c4 c5 c6 z := (hf.block kb h.lt hk).trans h
theorem KwB.below {w w' : World} {kb p : Nat} {c0 c1 c2 c3 c4 c5 c6 : Value} {z : Int} (h : KwB w kb p c0 c1 c2 c3 c4 c5 c6 z) (hb : Below w.heap.size w w') : KwB w' kb p c0 c1 c2 c3 c4 c5 c6 z := (hb.block kb h.lt).trans h
theorem KwB.size {w : World} {kb p : Nat} {c0 c1 c2 c3 c4 c5 c6 : Value} {z : Int} (h : KwB w kb p c0 c1 c2 c3 c4 c5 c6 z) (z' : Int) : KwB (w.setCell ⟨kb, 8, none⟩ (.int .i64 z')) kb p c0 c1 c2 c3 c4 c5 c6 z' := heap_setCell_same w kb 8 _ 80 (.int .i64 z') h

/-- What write leaves. -/
def WrR (w : World) (kb p pd : Nat) (s : Dk.St) (H : Nat → Prop) (t : List UInt8) (c0 c1 c2 c3 c4 c5 c6 : Value) (w' : World) : Prop :=
  ∃ H' z, Wl.LX w' p pd (s.push (.app Wl.nmW (Wl.recB 1 (fl true ++ t)))) H' 1 [fl true ++ t] ∧ (∀ k, H' k → H k ∨ w.heap.size ≤ k) ∧ Dk.Fr (fun k => H k ∨ k = kb) w w' ∧ KwB w' kb p c0 c1 c2 c3 c4 c5 c6 z

set_option maxHeartbeats 2000000 in
theorem write_first {w : World} {kb p pd : Nat} {s : Dk.St} {H : Nat → Prop} {c0 c1 c2 c3 c4 c5 c6 : Value} (h : Wl.LX w p pd s H 0 []) (ht : Fr.Tab w) (hb : KwB w kb p c0 c1 c2 c3 c4 c5 c6 0) (hk : ¬ H kb)
    (r : Rdy) (y6 y7 y8 : Value) (ae : Option Addr) (le ce : Nat) (hE : Es w (.slice ae le ce) r.ents) (hsn : r.snap = none) (ho : r.ok) (hrz : rsz r ≤ 140737488355328) (hl : (encR false r).length ≤ 32767)
    (hr : (Dk.used s.now : Int) + (Wl.recB 1 (fl true ++ encR false r)).length ≤ s.room) (hf : (Dk.look Wl.nmW s.now).isSome = true ∨ s.now.length < 64) (hms : s.mass + 40000 ≤ 1000000000) (d0 d1 d2 d3 d4 d5 d6 : Value) :
    Calls Tryz.prog 56 #[.pointer (some ⟨kb, 0, none⟩), .agg #[.int .i64 r.term, .int .i64 r.vote, .bool r.saved, .int .i64 r.first, .slice ae le ce, .pointer none, y6, y7, y8], .agg #[d0, d1, d2, d3, d4, d5, d6]] w fun e w' =>
      e = .returned (.int .i64 0) ∧ Hid (WrR w kb p pd s H (encR false r) c0 c1 c2 c3 c4 c5 c6 w') := by
  have hb2 : Below w.heap.size w ((w.alloc (.cells #[.int .i64 r.term, .int .i64 r.vote, .bool r.saved, .int .i64 r.first, .slice ae le ce, .pointer none, y6, y7, y8] 43)).alloc (.cells #[d0, d1, d2, d3, d4, d5, d6] 78)) := ((Below.refl _ w).alloc (Nat.le_refl _) _).alloc (by simp) _
  have HEN := hide (encode_any false r y6 y7 y8 none ae le ce _ (hE.below hb2) (by rw [hsn]; rfl) ho hrz)
  have HB2 := hide hb2
  have htp : 0 < (encR false r).length := by simp [encR, fl]
  have HXX := hide h
  have HT := hide ht
  have HKB := hide hb
  have HPC : Hid (∀ W ao L cap, Below w.heap.size w W → W.ownsRow w.heap.size 5 1 (.slice ao L cap) (encR false r).length (cells8 (encR false r)) → Calls Tryz.prog 94 #[.pointer (some ⟨kb, 0, none⟩), .slice ao L cap] W fun e w' => e = .returned (.int .i64 0) ∧ w'.cell? ⟨kb, 8, none⟩ = some (.int .i64 0) ∧ w'.frozen? ⟨kb, 8, none⟩ = false ∧ Hid (∀ z, WrR w kb p pd s H (encR false r) c0 c1 c2 c3 c4 c5 c6 (w'.setCell ⟨kb, 8, none⟩ (.int .i64 z)))) := fun W ao L cap hbW hO => by
    have hlt := HXX.out.lt
    have hkl := HKB.out.lt
    refine (pieces_one (HXX.out.below hbW) (HT.out.below hbW) ((HKB.out.below hbW).c 7) hk ao L cap _ w.heap.size hO htp hl hr hf hms).mono ?_
    rintro e w' ⟨rfl, hP⟩
    obtain ⟨hX, hF⟩ := hP.out
    have hK' := (HKB.out.below hbW).fr hF hk
    have hs1 := hbW.size
    have hs2 := hF.size
    refine ⟨rfl, hK'.c 8, hK'.f 8, fun z => ⟨Dk.ext H W w', z, ?_, fun k hk2 => ?_, ?_, hK'.size z⟩⟩
    · refine hX.kept (K := fun k => k = kb) (Dk.Fr.one w' kb 8 _) (fun k hk2 e => ?_)
      subst e
      rcases hk2 with hk' | hk'
      · exact hk hk'
      · omega
    · rcases hk2 with hk2 | hk2
      · exact Or.inl hk2
      · exact Or.inr (by omega)
    · refine Dk.Fr.setCell (p := ⟨kb, 8, none⟩) ?_ (fun _ => Or.inr rfl) _
      exact (Dk.Fr.of_below (F := fun k => H k ∨ k = kb) hbW).trans hF (fun k _ hk => Or.inl hk)
  have HL : Hid (∀ W, Below w.heap.size w W → Calls Tryz.prog 48 #[.pointer (some ⟨p, 0, none⟩)] W fun e w' => e = .returned (.int .i64 0) ∧ ∃ m, w' = W.drewN m) := fun W hbW => LXlast (HXX.out.below hbW)
  have HC : Hid (∀ W, Below w.heap.size w W → W.cell? ⟨kb, 7, none⟩ = some (.pointer (some ⟨p, 0, none⟩)) ∧ W.cell? ⟨kb, 8, none⟩ = some (.int .i64 0)) := fun W hbW => ⟨(HKB.out.below hbW).c 7, (HKB.out.below hbW).c 8⟩
  have HLT := hide hl
  clear h ht hb hE hsn ho hrz hl hr hf hms hb2 htp
  generalize encR false r = t at *
  go_enter Tryz.func56, Tryz.ntmps56
  go_wp2_with fail
  refine Calls.mono HEN.out ?_
  rintro e w3 ⟨a3, L3, cap3, rfl, hP3⟩
  obtain ⟨hO3, hb3⟩ := hP3.out
  have hL3 : L3 ≤ 140737488355328 := by
    have h1 := HLT.out
    rcases Dk.own_shape hO3 with ⟨e, h0⟩ | ⟨_, _, e, _⟩
    · simp only [Value.slice.injEq] at e
      omega
    · simp only [Value.slice.injEq] at e
      omega
  have HB3 := hide (HB2.out.trans (hb3.mono HB2.out.size))
  have HO3 := hide (Dk.own_base hO3 (fun k hk => Nat.le_trans HB2.out.size (hO3.lt k hk).1))
  have c7 := (HC.out w3 HB3.out).1
  have c8 := (HC.out w3 HB3.out).2
  clear hP3 hO3 hb3 HEN
  obtain ⟨Z, hZ⟩ : ∃ Z, sizeL L3 = Z := ⟨_, rfl⟩
  have HSZ : Hid (∀ W, Calls Tryz.prog 86 #[.slice a3 L3 cap3] W fun e w' => e = .returned (.int .i64 (Z : Nat)) ∧ w' = W) := fun W => by
    rw [← hZ]
    exact sizeOf_any a3 L3 cap3 W hL3
  have hZb : (Z : Int) ≤ 1000000000000000 := by
    rw [← hZ]
    unfold sizeL
    omega
  clear hZ hL3 HLT
  go_wp2_with fail
  go_big_quiet (first | (go_at_call 86; exact Calls.quiet_of_same (HSZ.out _)))
  have HB4 := hide (HB3.out.trans ((Wl.below_drew w3 nq).mono HB3.out.size))
  have HO4 : Hid ((w3.drewN nq).ownsRow w.heap.size 5 1 (.slice a3 L3 cap3) t.length (cells8 t)) := HO3.out
  generalize w3.drewN nq = w4 at *
  have e7 := (HC.out w4 HB4.out).1
  have e8 := (HC.out w4 HB4.out).2
  have HL4 := hide (HL.out w4 HB4.out)
  clear HSZ HB3 HO3 c7 c8 HL
  go_wp2_with fail
  refine Calls.mono HL4.out ?_
  rintro e w5 ⟨rfl, m, rfl⟩
  have HPC5 := hide (HPC.out (w4.drewN m) a3 L3 cap3 (HB4.out.trans ((Wl.below_drew w4 m).mono HB4.out.size)) HO4.out)
  clear HPC HL4 HO4 e7 e8
  go_wp2_with fail
  refine Calls.mono HPC5.out ?_
  rintro e w6 ⟨rfl, f8, g8, HZ6⟩
  clear HPC5
  go_wp2_with fail
  go_ret
  exact ⟨rfl, HZ6.out _⟩
end Go.Proofs.YtjndgekpdmlbiaaGreatDoor.Kp
namespace Go.Proofs.YtjndgekpdmlbiaaGreatDoor.Kp
open Go.RowKit Bn

theorem append_keeps {b n : Nat} {W w' : World} {v v' : Value} {xs : List Value} (h : W.ownsRow b 65 4 v n xs) {a : Addr} {m cap : Nat} {news : List Value} (hl : news.length = m * 4) (hnews : ∀ j u, news[j]? = some u → W.cell? (a.add j) = some u) (h1 : ∀ u ∈ news, u.oneCell' = true) (hs : n + m ≤ 1000000000000)
    (hr : (Builtin.append_ #[36, 36] 0 #[v, .slice (some a) m cap]).run Tryz.prog W = .ok v' w') : w'.ownsRow b 65 4 v n xs := by
  obtain ⟨i, hi, hz, hsize, hby⟩ := info_parts Tryz.info65
  refine ⟨h.1, ?_⟩
  rcases h.2 with h2 | ⟨g, c, cur, e1, e2, e3, e4, e5, e6, e7⟩
  · exact Or.inl h2
  · subst e1
    by_cases hroom : n + m ≤ c
    · have hR := run_append_room (P := Tryz.prog) W 36 0 65 i Tryz.underlying36 hi g n c cur e3 a m cap news (by rw [hsize]; exact hl) hnews h1 hroom (by rw [hsize, hl, e6, ← Nat.add_mul]; exact Nat.mul_le_mul_right 4 hroom)
      rw [hr] at hR
      injection hR with _ hw
      rw [hsize] at hw
      refine Or.inr ⟨g, c, _, rfl, e2, by rw [hw]; exact setRow_heap W g cur _ 65 (0, 0) e3, e4, e5, ?_, ?_⟩
      · have hle : (n + m) * 4 ≤ c * 4 := Nat.mul_le_mul_right 4 hroom
        simp only [List.size_toArray, List.length_append, List.length_take, List.length_drop, Array.length_toList]
        omega
      · have hlen : (cur.toList.take (n * 4)).length = n * 4 := by
          have : n * 4 ≤ c * 4 := Nat.mul_le_mul_right 4 e4
          rw [List.length_take, Array.length_toList]
          omega
        show (cur.toList.take (n * 4) ++ news ++ cur.toList.drop (n * 4 + news.length)).take (n * 4) = xs
        rw [List.append_assoc, List.take_append_of_le_length (by omega), List.take_of_length_le (by omega)]
        exact e7
    · have hR := run_append_grow (P := Tryz.prog) W 36 0 65 i _ Tryz.underlying36 hi hz ⟨g, 0, none⟩ n c xs (by rw [hsize]; exact h.1) (fun j u hj => h.cells rfl j u hj) a m cap news (by rw [hsize]; exact hl) hnews (by omega) (by omega) (by
        have : (n + m) * 48 ≤ 140737488355328 := by omega
        exact growslice_fits (by omega) (by rw [hby]; exact this))
      rw [hr] at hR
      injection hR with _ hw
      refine Or.inr ⟨g, c, cur, rfl, e2, ?_, e4, e5, e6, e7⟩
      rw [hw]
      have hlt := lt_of_block e3
      rw [Below.heap_alloc _ _ _ (show g < W.drew.heap.size from hlt)]
      exact e3
/-- .. with the elder row. -/
theorem append_both {b : Nat} {W : World} {v : Value} {es : List Ent} (h : Er b W v es) {a : Addr} {ns : List Ent} {cap : Nat} (hn : Eg b W (some a) ns) (hl : es.length + ns.length ≤ 1000000000000) (hb : b ≤ W.heap.size) :
    ∃ v' w', (∀ ty, (Builtin.append_ #[36, 36] ty #[v, .slice (some a) ns.length cap]).run Tryz.prog W = .ok v' w') ∧ Er b w' v' (es ++ ns) ∧ Er b w' v es ∧ W.grownBy w' v.ownBlock := by
  obtain ⟨v', w', hap, hE, hg, _⟩ := append_ents h (cap := cap) hn hl hb
  refine ⟨v', w', hap, hE, ?_, hg⟩
  obtain ⟨us, h1, h2, h3⟩ := h
  obtain ⟨xs, n1, _, n3, n4⟩ := hn
  refine ⟨us, h1, append_keeps h2 (cellsE_len ns xs n1) (n3 a rfl) (own_oneE fun j e he => by
    obtain ⟨u, hu, ho⟩ := n4 j e he
    obtain ⟨ad, ld, cd, rfl⟩ := Dk.own_slice ho
    exact ⟨_, hu, rfl⟩) hl (hap 0), fun j e hj => ?_⟩
  obtain ⟨u, h4, h5⟩ := h3 j e hj
  exact ⟨u, h4, own_type h5 h2 hg⟩
end Go.Proofs.YtjndgekpdmlbiaaGreatDoor.Kp
namespace Go.Proofs.YtjndgekpdmlbiaaGreatDoor.Kp
open Go.RowKit Bn

/-- The three blocks of after: the state, the call, the answer. -/
structure Ab (D : Nat) (W : World) (s7 r9 z7 : Array Value) : Prop where
  s : W.heap[D]? = some (Obj.cells s7 78 (0, 0))
  r : W.heap[D + 1]? = some (Obj.cells r9 43 (0, 0))
  z : W.heap[D + 2]? = some (Obj.cells z7 78 (0, 0))
theorem Ab.below {D : Nat} {W W' : World} {s7 r9 z7 : Array Value} (h : Ab D W s7 r9 z7) (hb : Below W.heap.size W W') : Ab D W' s7 r9 z7 :=
  ⟨(hb.block _ (lt_of_block h.s)).trans h.s, (hb.block _ (lt_of_block h.r)).trans h.r, (hb.block _ (lt_of_block h.z)).trans h.z⟩
theorem Ab.setS {D : Nat} {W : World} {s7 r9 z7 : Array Value} (h : Ab D W s7 r9 z7) (i : Nat) (x : Value) : Ab D (W.setCell ⟨D, i, none⟩ x) (s7.setIfInBounds i x) r9 z7 :=
  ⟨heap_setCell_same W D i s7 78 x h.s, by rw [Below.heap_setCell _ _ _ _ (by simp)]; exact h.r, by rw [Below.heap_setCell _ _ _ _ (by simp)]; exact h.z⟩
theorem Ab.cs {D : Nat} {W : World} {s7 r9 z7 : Array Value} (h : Ab D W s7 r9 z7) (i : Nat) : W.cell? ⟨D, i, none⟩ = s7[i]? := cell_of_row W D i s7 78 (0, 0) h.s
theorem Ab.cr {D : Nat} {W : World} {s7 r9 z7 : Array Value} (h : Ab D W s7 r9 z7) (i : Nat) : W.cell? ⟨D + 1, i, none⟩ = r9[i]? := cell_of_row W (D + 1) i r9 43 (0, 0) h.r
theorem Ab.cz {D : Nat} {W : World} {s7 r9 z7 : Array Value} (h : Ab D W s7 r9 z7) (i : Nat) : W.cell? ⟨D + 2, i, none⟩ = z7[i]? := cell_of_row W (D + 2) i z7 78 (0, 0) h.z
theorem Ab.fs {D : Nat} {W : World} {s7 r9 z7 : Array Value} (h : Ab D W s7 r9 z7) (i : Nat) : W.frozen? ⟨D, i, none⟩ = false := frozen_of_row W D i s7 78 h.s
theorem Ab.fz {D : Nat} {W : World} {s7 r9 z7 : Array Value} (h : Ab D W s7 r9 z7) (i : Nat) : W.frozen? ⟨D + 2, i, none⟩ = false := frozen_of_row W (D + 2) i z7 78 h.z
def zero7 : Array Value := #[.int .i64 0, .int .i64 0, .int .i64 0, .int .i64 0, .slice none 0 0, .slice none 0 0, .slice none 0 0]
theorem Ab.new (W : World) (s7 r9 : Array Value) : Ab W.heap.size (((W.alloc (.cells s7 78)).alloc (.cells r9 43)).alloc (.cells zero7 78)) s7 r9 zero7 := by
  have h1 : (W.alloc (.cells s7 78)).heap[W.heap.size]? = some (Obj.cells s7 78 (0, 0)) := heap_alloc_new _ _
  have h2 : ((W.alloc (.cells s7 78)).alloc (.cells r9 43)).heap[W.heap.size + 1]? = some (Obj.cells r9 43 (0, 0)) := by
    have := heap_alloc_new (W.alloc (.cells s7 78)) (.cells r9 43)
    simpa using this
  have h3 : (((W.alloc (.cells s7 78)).alloc (.cells r9 43)).alloc (.cells zero7 78)).heap[W.heap.size + 2]? = some (Obj.cells zero7 78 (0, 0)) := by
    have := heap_alloc_new ((W.alloc (.cells s7 78)).alloc (.cells r9 43)) (.cells zero7 78)
    simpa using this
  refine ⟨?_, ?_, h3⟩
  · rw [Below.heap_alloc _ _ _ (by simp; omega), Below.heap_alloc _ _ _ (by simp)]; exact h1
  · rw [Below.heap_alloc _ _ _ (by simp)]; exact h2

theorem ret_ct {fn : Func} {p u : Tmp} {ty : TypeId} (h : fn.results = #[.cell p ty, .tmp u]) (tmps : Array Value) (w : World) (g : Nat) (T : TypeId) (cs : Array Value) {d}
    (hp : tmps.getD p undef = .pointer (some ⟨g, 0, none⟩)) (hg : w.heap[g]? = some (.cells cs T (0, 0)))
    (hu : Tryz.prog.underlying ty = some (.struct d)) (hi : (Tryz.prog.info? ty).map (·.size) = some cs.size) :
    (results fn tmps).run Tryz.prog w = .ok (.tuple #[.agg cs, tmps.getD u undef]) w := by
  rw [results_cell_tmp h, hp]
  have hl := run_loadVar_row (P := Tryz.prog) w g T ty cs (0, 0) _ hg hu rfl hi
  have ha : (asAddr (.pointer (some ⟨g, 0, none⟩))).run Tryz.prog w = .ok ⟨g, 0, none⟩ w := rfl
  rw [ha]
  simp only [Result.andThen, hl]
theorem sz78 : (Tryz.prog.info? 78).map (·.size) = some 7 := by kernel_rfl
/-- Seven cells are written. -/
theorem fill7 {W : World} {D : Nat} {z0 z1 z2 z3 z4 z5 z6 : Value} (h : W.heap[D]? = some (Obj.cells #[z0, z1, z2, z3, z4, z5, z6] 78 (0, 0))) (a b c d e f g : Value) :
    (((((((W.setCell ⟨D, 0, none⟩ a).setCell ⟨D, 1, none⟩ b).setCell ⟨D, 2, none⟩ c).setCell ⟨D, 3, none⟩ d).setCell ⟨D, 4, none⟩ e).setCell ⟨D, 5, none⟩ f).setCell ⟨D, 6, none⟩ g).heap[D]? = some (Obj.cells #[a, b, c, d, e, f, g] 78 (0, 0)) ∧ ∀ B, B ≤ D → Below B W (((((((W.setCell ⟨D, 0, none⟩ a).setCell ⟨D, 1, none⟩ b).setCell ⟨D, 2, none⟩ c).setCell ⟨D, 3, none⟩ d).setCell ⟨D, 4, none⟩ e).setCell ⟨D, 5, none⟩ f).setCell ⟨D, 6, none⟩ g) := by
  refine ⟨?_, fun B hB => ((((((((Below.refl _ W).setCell (p := ⟨D, 0, none⟩) hB _).setCell (p := ⟨D, 1, none⟩) hB _).setCell (p := ⟨D, 2, none⟩) hB _).setCell (p := ⟨D, 3, none⟩) hB _).setCell (p := ⟨D, 4, none⟩) hB _).setCell (p := ⟨D, 5, none⟩) hB _).setCell (p := ⟨D, 6, none⟩) hB _)⟩
  have k0 : (W.setCell ⟨D, 0, none⟩ a).heap[D]? = some (Obj.cells #[a, z1, z2, z3, z4, z5, z6] 78 (0, 0)) := heap_setCell_same W D 0 _ 78 a h
  have k1 : ((W.setCell ⟨D, 0, none⟩ a).setCell ⟨D, 1, none⟩ b).heap[D]? = some (Obj.cells #[a, b, z2, z3, z4, z5, z6] 78 (0, 0)) := heap_setCell_same (W.setCell ⟨D, 0, none⟩ a) D 1 _ 78 b k0
  have k2 : (((W.setCell ⟨D, 0, none⟩ a).setCell ⟨D, 1, none⟩ b).setCell ⟨D, 2, none⟩ c).heap[D]? = some (Obj.cells #[a, b, c, z3, z4, z5, z6] 78 (0, 0)) := heap_setCell_same ((W.setCell ⟨D, 0, none⟩ a).setCell ⟨D, 1, none⟩ b) D 2 _ 78 c k1
  have k3 : ((((W.setCell ⟨D, 0, none⟩ a).setCell ⟨D, 1, none⟩ b).setCell ⟨D, 2, none⟩ c).setCell ⟨D, 3, none⟩ d).heap[D]? = some (Obj.cells #[a, b, c, d, z4, z5, z6] 78 (0, 0)) := heap_setCell_same (((W.setCell ⟨D, 0, none⟩ a).setCell ⟨D, 1, none⟩ b).setCell ⟨D, 2, none⟩ c) D 3 _ 78 d k2
  have k4 : (((((W.setCell ⟨D, 0, none⟩ a).setCell ⟨D, 1, none⟩ b).setCell ⟨D, 2, none⟩ c).setCell ⟨D, 3, none⟩ d).setCell ⟨D, 4, none⟩ e).heap[D]? = some (Obj.cells #[a, b, c, d, e, z5, z6] 78 (0, 0)) := heap_setCell_same ((((W.setCell ⟨D, 0, none⟩ a).setCell ⟨D, 1, none⟩ b).setCell ⟨D, 2, none⟩ c).setCell ⟨D, 3, none⟩ d) D 4 _ 78 e k3
  have k5 : ((((((W.setCell ⟨D, 0, none⟩ a).setCell ⟨D, 1, none⟩ b).setCell ⟨D, 2, none⟩ c).setCell ⟨D, 3, none⟩ d).setCell ⟨D, 4, none⟩ e).setCell ⟨D, 5, none⟩ f).heap[D]? = some (Obj.cells #[a, b, c, d, e, f, z6] 78 (0, 0)) := heap_setCell_same (((((W.setCell ⟨D, 0, none⟩ a).setCell ⟨D, 1, none⟩ b).setCell ⟨D, 2, none⟩ c).setCell ⟨D, 3, none⟩ d).setCell ⟨D, 4, none⟩ e) D 5 _ 78 f k4
  have k6 : (((((((W.setCell ⟨D, 0, none⟩ a).setCell ⟨D, 1, none⟩ b).setCell ⟨D, 2, none⟩ c).setCell ⟨D, 3, none⟩ d).setCell ⟨D, 4, none⟩ e).setCell ⟨D, 5, none⟩ f).setCell ⟨D, 6, none⟩ g).heap[D]? = some (Obj.cells #[a, b, c, d, e, f, g] 78 (0, 0)) := heap_setCell_same ((((((W.setCell ⟨D, 0, none⟩ a).setCell ⟨D, 1, none⟩ b).setCell ⟨D, 2, none⟩ c).setCell ⟨D, 3, none⟩ d).setCell ⟨D, 4, none⟩ e).setCell ⟨D, 5, none⟩ f) D 6 _ 78 g k5
  exact k6

theorem hard_snap (s : St) (r : Rdy) : (s.hard r).snap = s.snap := by unfold St.hard; split <;> rfl
theorem hard_ents (s : St) (r : Rdy) : (s.hard r).ents = s.ents := by unfold St.hard; split <;> rfl
theorem hard_may (s : St) (r : Rdy) (f : Int) (es : List Ent) : (s.hard r).mayGoOn f es = s.mayGoOn f es := by unfold St.mayGoOn; rw [hard_snap, hard_ents]
theorem Er.len {b : Nat} {W : World} {ao : Option Addr} {n c : Nat} {es : List Ent} (h : Er b W (.slice ao n c) es) : n = es.length := by
  obtain ⟨us, _, h2, _⟩ := h
  rcases Dk.own_shape h2 with ⟨e, h0⟩ | ⟨g, c', e, _⟩
  · simp only [Value.slice.injEq] at e
    omega
  · simp only [Value.slice.injEq] at e
    exact e.2.1

/-- The append of after, whatever came between. -/
theorem tail_append {b : Nat} {Y : World} {v1 v2 ve : Value} {es1 es2 es0 : List Ent} (h1 : Er b Y v1 es1) (h2 : Er b Y v2 es2) (h0 : Er b Y ve es0) (hl : es1.length + es2.length ≤ 1000000000000) (hb : b ≤ Y.heap.size) (hq : v1 = ve ∧ es1 = es0 ∨ ∀ j, v1.ownBlock = some j → ve.ownBlock ≠ some j) :
    ∃ av nv cv w', (∀ ty, (Builtin.append_ #[36, 36] ty #[v1, v2]).run Tryz.prog Y = .ok (.slice av nv cv) w') ∧ Er b w' (.slice av nv cv) (es1 ++ es2) ∧ Er b w' ve es0 ∧ Y.grownBy w' v1.ownBlock := by
  obtain ⟨us2, _, o2, _⟩ := id h2
  obtain ⟨us1, _, o1, _⟩ := id h1
  rcases Dk.own_shape o2 with ⟨rfl, hz⟩ | ⟨g2, c2, rfl, _⟩
  · have he : es2 = [] := List.eq_nil_of_length_eq_zero hz
    subst he
    obtain ⟨i, hi, hzz, hsize, hby⟩ := info_parts Tryz.info65
    obtain ⟨av, nv, cv, rfl⟩ := Dk.own_slice o1
    exact ⟨av, nv, cv, Y, fun ty => run_append_owned_none Y b 36 ty 65 i 4 Tryz.underlying36 hi _ _ _ o1, by rw [List.append_nil]; exact h1, h0, World.grownBy.refl _ _⟩
  · have hg := h2.front es2.length
    rw [List.take_length] at hg
    obtain ⟨v', w', hap, hE, hO, hgr⟩ := append_both h1 (cap := c2) hg hl hb
    have hsl : ∃ av nv cv, v' = .slice av nv cv := by obtain ⟨us, _, o, _⟩ := hE; exact Dk.own_slice o
    obtain ⟨av, nv, cv, rfl⟩ := hsl
    refine ⟨av, nv, cv, w', hap, hE, ?_, hgr⟩
    rcases hq with ⟨rfl, rfl⟩ | hq
    · exact hO
    · obtain ⟨us, a1, a2, a3⟩ := h0
      refine ⟨us, a1, ?_, fun j e hj => ?_⟩
      · refine ⟨a2.1, ?_⟩
        rcases a2.2 with a | ⟨g, c, cur, e1, e2, e3, e4⟩
        · exact Or.inl a
        · refine Or.inr ⟨g, c, cur, e1, e2, ?_, e4⟩
          rw [hgr.block g (lt_of_block e3) (fun e => hq g e.symm (by rw [e1]; rfl))]
          exact e3
      · obtain ⟨u, a4, a5⟩ := a3 j e hj
        exact ⟨u, a4, own_type a5 o1 hgr⟩

theorem own_type_ne {W : World} {b s n S T : Nat} {v : Value} {xs : List Value} {cs : Array Value} (h : W.ownsRow b 65 s v n xs) (hS : W.heap[S]? = some (Obj.cells cs T (0, 0))) (hT : T ≠ 65) : some S ≠ v.ownBlock := by
  intro e
  rcases h.2 with ⟨rfl, _⟩ | ⟨g, cap, cur, rfl, _, hg, _⟩
  · simp [Value.ownBlock] at e
  · simp [Value.ownBlock] at e
    subst e
    rw [hg] at hS
    injection hS with hS
    injection hS with _ h3 _
    exact hT h3.symm
theorem after_tail {b k : Nat} {W w4 Y : World} {s7 r9 z7 : Array Value} {v1 v2 ve : Value} {es0 ns : List Ent} (hW4 : Below W.heap.size W w4) (hB4 : Ab W.heap.size w4 s7 r9 z7) (hY : Below w4.heap.size w4 Y) (h0 : Er b W ve es0) (h1 : Er b Y v1 (es0.take k)) (h2 : Er b Y v2 ns)
    (hc : v1 = ve ∧ k = es0.length ∨ ∀ j, v1.ownBlock = some j → w4.heap.size ≤ j) (hl : es0.length + ns.length ≤ 1000000000000) (hb : b ≤ W.heap.size) :
    ∃ aw nw cw w7, (∀ ty, (Builtin.append_ #[36, 36] ty #[v1, v2]).run Tryz.prog Y = .ok (.slice aw nw cw) w7) ∧ w7.cell? ⟨W.heap.size, 6, none⟩ = s7[6]? ∧ w7.frozen? ⟨W.heap.size, 6, none⟩ = false ∧
      Hid (Ab W.heap.size w7 s7 r9 z7 ∧ Er b w7 (.slice aw nw cw) (es0.take k ++ ns) ∧ Er b w7 ve es0 ∧ W.grownBy w7 ve.ownBlock) := by
  have hbY := hW4.trans (hY.mono hW4.size)
  have h0Y := h0.below hbY
  have hve : ∀ j, ve.ownBlock = some j → j < W.heap.size := by
    obtain ⟨us, _, o, _⟩ := h0
    intro j hj
    rcases o.2 with ⟨rfl, _⟩ | ⟨g, c, cur, rfl, _, hg, _⟩
    · simp [Value.ownBlock] at hj
    · simp [Value.ownBlock] at hj
      subst hj
      exact lt_of_block hg
  obtain ⟨aw, nw, cw, w7, hap, hE, hO, hg⟩ := tail_append h1 h2 h0Y (by rw [List.length_take]; omega) (Nat.le_trans hb hbY.size) (by
    rcases hc with ⟨e1, e2⟩ | hc
    · exact Or.inl ⟨e1, by rw [e2, List.take_length]⟩
    · exact Or.inr fun j hj hj' => by
        have h3 := hc j hj
        have h4 := hve j hj'
        have h5 := hW4.size
        omega)
  obtain ⟨us1, _, o1, _⟩ := id h1
  have hBY := hB4.below hY
  have hB7 : Ab W.heap.size w7 s7 r9 z7 := ⟨(hg.block _ (lt_of_block hBY.s) (own_type_ne o1 hBY.s (by decide))).trans hBY.s, (hg.block _ (lt_of_block hBY.r) (own_type_ne o1 hBY.r (by decide))).trans hBY.r, (hg.block _ (lt_of_block hBY.z) (own_type_ne o1 hBY.z (by decide))).trans hBY.z⟩
  refine ⟨aw, nw, cw, w7, hap, hB7.cs 6, hB7.fs 6, hB7, hE, hO, ⟨hg.os.trans hbY.os, hg.tape.trans hbY.tape, hg.output.trans hbY.output, Nat.le_trans hbY.size hg.size, fun j hj hne => ?_⟩⟩
  rw [hg.block j (Nat.lt_of_lt_of_le hj hbY.size) (fun e => ?_)]
  · exact hbY.block j hj
  · rcases hc with ⟨e1, _⟩ | hc
    · rw [e1] at e
      exact hne e
    · have h3 := hc j e.symm
      have h5 := hW4.size
      omega

theorem fill7g {W : World} {D : Nat} {cs : Array Value} (_h : W.heap[D]? = some (Obj.cells cs 78 (0, 0))) (a b c d e f g : Value) : W.grownBy (((((((W.setCell ⟨D, 0, none⟩ a).setCell ⟨D, 1, none⟩ b).setCell ⟨D, 2, none⟩ c).setCell ⟨D, 3, none⟩ d).setCell ⟨D, 4, none⟩ e).setCell ⟨D, 5, none⟩ f).setCell ⟨D, 6, none⟩ g) (some D) :=
  grown_set (grown_set (grown_set (grown_set (grown_set (grown_set (grown_set (grown_refl _ _)))))))
theorem grown_more {W w7 w8 : World} {o : Option Nat} {D : Nat} (h : W.grownBy w7 o) (hg : w7.grownBy w8 (some D)) (hD : W.heap.size ≤ D) : W.grownBy w8 o :=
  ⟨hg.os.trans h.os, hg.tape.trans h.tape, hg.output.trans h.output, Nat.le_trans h.size hg.size, fun k hk hne => by rw [hg.block k (Nat.lt_of_lt_of_le hk h.size) (by simp; omega)]; exact h.block k hk hne⟩
theorem grown_off {W w7 : World} {o : Option Nat} {D : Nat} (h : W.grownBy w7 o) (hD : W.heap.size ≤ D) (i : Nat) (x : Value) : W.grownBy (w7.setCell ⟨D, i, none⟩ x) o :=
  ⟨h.os, h.tape, h.output, by simpa [World.setCell] using h.size, fun k hk hne => by rw [Below.heap_setCell _ _ _ _ (show k ≠ D by omega)]; exact h.block k hk hne⟩
theorem own_keepT {W W' : World} {b e s n S T : Nat} {v : Value} {xs : List Value} {cs : Array Value} (h : W.ownsRow b e s v n xs) (hS : W.heap[S]? = some (Obj.cells cs T (0, 0))) (hT : T ≠ e) (hg : W.grownBy W' (some S)) : W'.ownsRow b e s v n xs := by
  refine ⟨h.1, ?_⟩
  rcases h.2 with h2 | ⟨g, c, cur, e1, e2, e3, e4⟩
  · exact Or.inl h2
  · refine Or.inr ⟨g, c, cur, e1, e2, ?_, e4⟩
    rw [hg.block g (lt_of_block e3) (fun e => ?_)]
    · exact e3
    · simp at e
      subst e
      rw [e3] at hS
      injection hS with hS
      injection hS with _ h3 _
      exact hT h3.symm
theorem Er.keepT {b S T : Nat} {W W' : World} {v : Value} {es : List Ent} {cs : Array Value} (h : Er b W v es) (hS : W.heap[S]? = some (Obj.cells cs T (0, 0))) (h1 : T ≠ 65) (h2 : T ≠ 5) (hg : W.grownBy W' (some S)) : Er b W' v es := by
  obtain ⟨us, a1, a2, a3⟩ := h
  refine ⟨us, a1, own_keepT a2 hS h1 hg, fun j e hj => ?_⟩
  obtain ⟨u, a4, a5⟩ := a3 j e hj
  exact ⟨u, a4, own_keepT a5 hS h2 hg⟩

set_option maxRecDepth 8000 in
set_option maxHeartbeats 8000000 in
theorem after_plain {b : Nat} {W : World} (s : St) (r : Rdy) (a4 a5 : Option Addr) (n4 c4 n5 c5 : Nat) (y6 y7 y8 : Value) (ae : Option Addr) (ne ce : Nat) (ar : Option Addr) (nr cr : Nat)
    (hE : Er b W (.slice ae ne ce) s.ents) (hR : Es W (.slice ar nr cr) r.ents) (hsn : r.snap = none) (ho : r.ok) (hs : 0 ≤ s.snap.idx) (hl : s.ents.length + r.ents.length ≤ 1000000000000) (hd : ∀ e ∈ r.ents, e.data.length ≤ 140737488355328) (hb : b ≤ W.heap.size) :
    Calls Tryz.prog 54 #[.agg #[.int .i64 s.term, .int .i64 s.vote, .int .i64 s.snap.idx, .int .i64 s.snap.term, .slice a4 n4 c4, .slice a5 n5 c5, .slice ae ne ce], .agg #[.int .i64 r.term, .int .i64 r.vote, .bool r.saved, .int .i64 r.first, .slice ar nr cr, .pointer none, y6, y7, y8]] W fun x w' =>
      (s.after r = none ∧ x = .returned (.tuple #[.agg zero7, .bool false]) ∧ Hid (Er b w' (.slice ae ne ce) s.ents ∧ Below W.heap.size W w')) ∨
      ∃ s' av nv cv, s.after r = some s' ∧ x = .returned (.tuple #[.agg #[.int .i64 s'.term, .int .i64 s'.vote, .int .i64 s.snap.idx, .int .i64 s.snap.term, .slice a4 n4 c4, .slice a5 n5 c5, .slice av nv cv], .bool true]) ∧ s'.snap = s.snap ∧ Hid (Er b w' (.slice av nv cv) s'.ents ∧ Er b w' (.slice ae ne ce) s.ents ∧ W.grownBy w' (Value.slice ae ne ce).ownBlock) := by
  obtain ⟨sv, hsv⟩ : ∃ sv, r.saved = sv := ⟨_, rfl⟩
  obtain ⟨t1, ht1⟩ : ∃ t1, (s.hard r).term = t1 := ⟨_, rfl⟩
  obtain ⟨v1, hv1⟩ : ∃ v1, (s.hard r).vote = v1 := ⟨_, rfl⟩
  rw [hsv]
  have HSV := hide hsv
  have HT1 := hide ht1
  have HV1 := hide hv1
  clear hsv ht1 hv1
  have HB0 : Hid (Ab W.heap.size (((W.alloc (.cells #[.int .i64 s.term, .int .i64 s.vote, .int .i64 s.snap.idx, .int .i64 s.snap.term, .slice a4 n4 c4, .slice a5 n5 c5, .slice ae ne ce] 78)).alloc (.cells #[.int .i64 r.term, .int .i64 r.vote, .bool sv, .int .i64 r.first, .slice ar nr cr, .pointer none, y6, y7, y8] 43)).alloc (.cells #[.int .i64 0, .int .i64 0, .int .i64 0, .int .i64 0, .slice none 0 0, .slice none 0 0, .slice none 0 0] 78)) #[.int .i64 s.term, .int .i64 s.vote, .int .i64 s.snap.idx, .int .i64 s.snap.term, .slice a4 n4 c4, .slice a5 n5 c5, .slice ae ne ce] #[.int .i64 r.term, .int .i64 r.vote, .bool sv, .int .i64 r.first, .slice ar nr cr, .pointer none, y6, y7, y8] #[.int .i64 0, .int .i64 0, .int .i64 0, .int .i64 0, .slice none 0 0, .slice none 0 0, .slice none 0 0]) := Ab.new W _ _
  have HW0 : Hid (Below W.heap.size W (((W.alloc (.cells #[.int .i64 s.term, .int .i64 s.vote, .int .i64 s.snap.idx, .int .i64 s.snap.term, .slice a4 n4 c4, .slice a5 n5 c5, .slice ae ne ce] 78)).alloc (.cells #[.int .i64 r.term, .int .i64 r.vote, .bool sv, .int .i64 r.first, .slice ar nr cr, .pointer none, y6, y7, y8] 43)).alloc (.cells #[.int .i64 0, .int .i64 0, .int .i64 0, .int .i64 0, .slice none 0 0, .slice none 0 0, .slice none 0 0] 78))) := (((Below.refl _ W).alloc (Nat.le_refl _) _).alloc (by simp) _).alloc (by simp; omega) _
  have HE := hide hE
  have HR := hide hR
  have HO := hide ho
  have HD := hide hd
  have HL := hide hl
  clear hE hR ho hd hl
  go_enter Tryz.func54, Tryz.ntmps54
  go_upto_if 7 with fail
  generalize (((W.alloc (.cells #[.int .i64 s.term, .int .i64 s.vote, .int .i64 s.snap.idx, .int .i64 s.snap.term, .slice a4 n4 c4, .slice a5 n5 c5, .slice ae ne ce] 78)).alloc (.cells #[.int .i64 r.term, .int .i64 r.vote, .bool sv, .int .i64 r.first, .slice ar nr cr, .pointer none, y6, y7, y8] 43)).alloc (.cells #[.int .i64 0, .int .i64 0, .int .i64 0, .int .i64 0, .slice none 0 0, .slice none 0 0, .slice none 0 0] 78)) = W0 at *
  have r0 : W0.cell? ⟨W.heap.size + 1, 0, none⟩ = some (.int .i64 r.term) := HB0.out.cr 0
  have r1 : W0.cell? ⟨W.heap.size + 1, 1, none⟩ = some (.int .i64 r.vote) := HB0.out.cr 1
  have s0 : W0.cell? ⟨W.heap.size, 0, none⟩ = some (.int .i64 s.term) := HB0.out.cs 0
  have s1 : W0.cell? ⟨W.heap.size, 1, none⟩ = some (.int .i64 s.vote) := HB0.out.cs 1
  have f0 := HB0.out.fs 0
  have f1 := HB0.out.fs 1
  go_cut [] from 8 to 10 (fun wc => Hid (Ab W.heap.size wc #[.int .i64 t1, .int .i64 v1, .int .i64 s.snap.idx, .int .i64 s.snap.term, .slice a4 n4 c4, .slice a5 n5 c5, .slice ae ne ce] #[.int .i64 r.term, .int .i64 r.vote, .bool sv, .int .i64 r.first, .slice ar nr cr, .pointer none, y6, y7, y8] #[.int .i64 0, .int .i64 0, .int .i64 0, .int .i64 0, .slice none 0 0, .slice none 0 0, .slice none 0 0] ∧ Below W.heap.size W wc))
  case first =>
    cases sv with
    | false =>
      have hh : s.hard r = s := by unfold St.hard; rw [HSV.out]; rfl
      have e1 : s.term = t1 := by rw [← HT1.out, hh]
      have e2 : s.vote = v1 := by rw [← HV1.out, hh]
      subst e1 e2
      go_wp2_with fail
      go_meet
      exact ⟨HB0.out, HW0.out⟩
    | true =>
      have hh : s.hard r = { s with term := r.term, vote := r.vote } := by unfold St.hard; rw [HSV.out]; rfl
      have e1 : r.term = t1 := by rw [← HT1.out, hh]
      have e2 : r.vote = v1 := by rw [← HV1.out, hh]
      have HB1 := hide ((HB0.out.setS 0 (.int .i64 r.term)).setS 1 (.int .i64 r.vote))
      have HW1 := hide ((HW0.out.setCell (p := ⟨W.heap.size, 0, none⟩) (Nat.le_refl _) (.int .i64 r.term)).setCell (p := ⟨W.heap.size, 1, none⟩) (Nat.le_refl _) (.int .i64 r.vote))
      subst e1 e2
      clear hh
      go_wp2_with fail
      go_meet
      exact ⟨HB1.out, HW1.out⟩
  case rest =>
    have HB2 := hide hcut.out.1
    have HW2 := hide hcut.out.2
    clear hcut HB0 HW0 r0 r1 s0 s1 f0 f1 HSV
    have r3 : wc.cell? ⟨W.heap.size + 1, 3, none⟩ = some (.int .i64 r.first) := HB2.out.cr 3
    have r4 : wc.cell? ⟨W.heap.size + 1, 4, none⟩ = some (.slice ar nr cr) := HB2.out.cr 4
    have r5 : wc.cell? ⟨W.heap.size + 1, 5, none⟩ = some (.pointer none) := HB2.out.cr 5
    have s0 : wc.cell? ⟨W.heap.size, 0, none⟩ = some (.int .i64 t1) := HB2.out.cs 0
    have s1 : wc.cell? ⟨W.heap.size, 1, none⟩ = some (.int .i64 v1) := HB2.out.cs 1
    have s2 : wc.cell? ⟨W.heap.size, 2, none⟩ = some (.int .i64 s.snap.idx) := HB2.out.cs 2
    have s3 : wc.cell? ⟨W.heap.size, 3, none⟩ = some (.int .i64 s.snap.term) := HB2.out.cs 3
    have s4 : wc.cell? ⟨W.heap.size, 4, none⟩ = some (.slice a4 n4 c4) := HB2.out.cs 4
    have s5 : wc.cell? ⟨W.heap.size, 5, none⟩ = some (.slice a5 n5 c5) := HB2.out.cs 5
    have s6 : wc.cell? ⟨W.heap.size, 6, none⟩ = some (.slice ae ne ce) := HB2.out.cs 6
    have z0 : wc.cell? ⟨W.heap.size + 1 + 1, 0, none⟩ = some ((.int .i64 0)) := HB2.out.cz 0
    have g0 : wc.frozen? ⟨W.heap.size + 1 + 1, 0, none⟩ = false := HB2.out.fz 0
    have z1 : wc.cell? ⟨W.heap.size + 1 + 1, 1, none⟩ = some ((.int .i64 0)) := HB2.out.cz 1
    have g1 : wc.frozen? ⟨W.heap.size + 1 + 1, 1, none⟩ = false := HB2.out.fz 1
    have z2 : wc.cell? ⟨W.heap.size + 1 + 1, 2, none⟩ = some ((.int .i64 0)) := HB2.out.cz 2
    have g2 : wc.frozen? ⟨W.heap.size + 1 + 1, 2, none⟩ = false := HB2.out.fz 2
    have z3 : wc.cell? ⟨W.heap.size + 1 + 1, 3, none⟩ = some ((.int .i64 0)) := HB2.out.cz 3
    have g3 : wc.frozen? ⟨W.heap.size + 1 + 1, 3, none⟩ = false := HB2.out.fz 3
    have z4 : wc.cell? ⟨W.heap.size + 1 + 1, 4, none⟩ = some ((.slice none 0 0)) := HB2.out.cz 4
    have g4 : wc.frozen? ⟨W.heap.size + 1 + 1, 4, none⟩ = false := HB2.out.fz 4
    have z5 : wc.cell? ⟨W.heap.size + 1 + 1, 5, none⟩ = some ((.slice none 0 0)) := HB2.out.cz 5
    have g5 : wc.frozen? ⟨W.heap.size + 1 + 1, 5, none⟩ = false := HB2.out.fz 5
    have z6 : wc.cell? ⟨W.heap.size + 1 + 1, 6, none⟩ = some ((.slice none 0 0)) := HB2.out.cz 6
    have g6 : wc.frozen? ⟨W.heap.size + 1 + 1, 6, none⟩ = false := HB2.out.fz 6
    by_cases hf : 0 < r.first
    · have hne := HE.out.len
      have hf2 := HO.out.2.2.1.2
      have HM := hide (mayGoOn_any s (.int .i64 t1) (.int .i64 v1) (.int .i64 s.snap.term) (.slice a4 n4 c4) (.slice a5 n5 c5) ae ce r.first r.ents (.slice ar nr cr) wc (HR.out.below HW2.out) (fun e he => (HO.out.2.2.2.1 e he).1) hs hf hf2 (by have := HL.out; omega))
      rw [← hne] at HM
      have HMay : Hid (∀ m, s.mayGoOn r.first r.ents = m → s.after r = if m = true then some { s.hard r with ents := s.ahead r.first ++ r.ents } else none) := fun m hm => by
        unfold St.after St.shot
        rw [hsn]
        show (s.hard r).put r = _
        unfold St.put
        rw [if_pos hf, hard_may, hm]
        unfold St.ahead
        rw [hard_ents]
        simp only [hard_snap]
      have HK : Hid (s.mayGoOn r.first r.ents = true → ∃ k : Nat, r.first - 1 - s.snap.idx = (k : Int) ∧ k ≤ s.ents.length ∧ s.ahead r.first = s.ents.take k) := fun hm => by
        unfold St.mayGoOn at hm
        simp only [Bool.and_eq_true, decide_eq_true_eq] at hm
        exact ⟨(r.first - 1 - s.snap.idx).toNat, by omega, by omega, rfl⟩
      obtain ⟨may, hmay⟩ : ∃ may, s.mayGoOn r.first r.ents = may := ⟨_, rfl⟩
      have HMa := hide (HMay.out may hmay)
      have HKa : Hid (may = true → ∃ k : Nat, r.first - 1 - s.snap.idx = (k : Int) ∧ k ≤ s.ents.length ∧ s.ahead r.first = s.ents.take k) := fun e => HK.out (hmay.trans e)
      rw [hmay] at HM
      clear HMay HK hmay hne
      go_wp2_with fail
      refine Calls.mono HM.out ?_
      rintro x w4 ⟨rfl, hb4⟩
      have HB4 := hide (HB2.out.below hb4)
      have HW4 := hide (HW2.out.trans (hb4.mono HW2.out.size))
      clear r3 r4 r5 s0 s1 s2 s3 s4 s5 s6 z0 z1 z2 z3 z4 z5 z6 g0 g1 g2 g3 g4 g5 g6 hb4 HM HB2 HW2
      have r3 : w4.cell? ⟨W.heap.size + 1, 3, none⟩ = some (.int .i64 r.first) := HB4.out.cr 3
      have r4 : w4.cell? ⟨W.heap.size + 1, 4, none⟩ = some (.slice ar nr cr) := HB4.out.cr 4
      have s0 : w4.cell? ⟨W.heap.size, 0, none⟩ = some (.int .i64 t1) := HB4.out.cs 0
      have s1 : w4.cell? ⟨W.heap.size, 1, none⟩ = some (.int .i64 v1) := HB4.out.cs 1
      have s2 : w4.cell? ⟨W.heap.size, 2, none⟩ = some (.int .i64 s.snap.idx) := HB4.out.cs 2
      have s3 : w4.cell? ⟨W.heap.size, 3, none⟩ = some (.int .i64 s.snap.term) := HB4.out.cs 3
      have s4 : w4.cell? ⟨W.heap.size, 4, none⟩ = some (.slice a4 n4 c4) := HB4.out.cs 4
      have s5 : w4.cell? ⟨W.heap.size, 5, none⟩ = some (.slice a5 n5 c5) := HB4.out.cs 5
      have s6 : w4.cell? ⟨W.heap.size, 6, none⟩ = some (.slice ae ne ce) := HB4.out.cs 6
      have z0 : w4.cell? ⟨W.heap.size + 1 + 1, 0, none⟩ = some ((.int .i64 0)) := HB4.out.cz 0
      have g0 : w4.frozen? ⟨W.heap.size + 1 + 1, 0, none⟩ = false := HB4.out.fz 0
      have z1 : w4.cell? ⟨W.heap.size + 1 + 1, 1, none⟩ = some ((.int .i64 0)) := HB4.out.cz 1
      have g1 : w4.frozen? ⟨W.heap.size + 1 + 1, 1, none⟩ = false := HB4.out.fz 1
      have z2 : w4.cell? ⟨W.heap.size + 1 + 1, 2, none⟩ = some ((.int .i64 0)) := HB4.out.cz 2
      have g2 : w4.frozen? ⟨W.heap.size + 1 + 1, 2, none⟩ = false := HB4.out.fz 2
      have z3 : w4.cell? ⟨W.heap.size + 1 + 1, 3, none⟩ = some ((.int .i64 0)) := HB4.out.cz 3
      have g3 : w4.frozen? ⟨W.heap.size + 1 + 1, 3, none⟩ = false := HB4.out.fz 3
      have z4 : w4.cell? ⟨W.heap.size + 1 + 1, 4, none⟩ = some ((.slice none 0 0)) := HB4.out.cz 4
      have g4 : w4.frozen? ⟨W.heap.size + 1 + 1, 4, none⟩ = false := HB4.out.fz 4
      have z5 : w4.cell? ⟨W.heap.size + 1 + 1, 5, none⟩ = some ((.slice none 0 0)) := HB4.out.cz 5
      have g5 : w4.frozen? ⟨W.heap.size + 1 + 1, 5, none⟩ = false := HB4.out.fz 5
      have z6 : w4.cell? ⟨W.heap.size + 1 + 1, 6, none⟩ = some ((.slice none 0 0)) := HB4.out.cz 6
      have g6 : w4.frozen? ⟨W.heap.size + 1 + 1, 6, none⟩ = false := HB4.out.fz 6
      cases may with
      | false =>
        have HN := hide (fill7 HB4.out.z (.int .i64 0) (.int .i64 0) (.int .i64 0) (.int .i64 0) (.slice none 0 0) (.slice none 0 0) (.slice none 0 0))
        go_wp2_with fail
        refine bodyPost_ret (ret_ct rfl _ _ (W.heap.size + 2) 78 zero7 rfl HN.out.1 Tryz.underlying78 sz78) rfl ?_
        have hbf := HW4.out.trans (HN.out.2 W.heap.size (by omega))
        exact Or.inl ⟨HMa.out, rfl, HE.out.below hbf, hbf⟩
      | true =>
        obtain ⟨k, hk1, hk2, hk3⟩ := HKa.out rfl
        have C90 : Hid (∀ X, Below w4.heap.size w4 X → Calls Tryz.prog 90 #[.agg #[.int .i64 t1, .int .i64 v1, .int .i64 s.snap.idx, .int .i64 s.snap.term, .slice a4 n4 c4, .slice a5 n5 c5, .slice ae ne ce], .int .i64 r.first] X fun x w' => ∃ av nv cv, x = .returned (.slice av nv cv) ∧ Hid (Below X.heap.size X w' ∧ Below w4.heap.size w4 w' ∧ Er b w' (.slice av nv cv) (s.ents.take k) ∧ (Value.slice av nv cv = Value.slice ae ne ce ∧ k = s.ents.length ∨ ∀ j, (Value.slice av nv cv).ownBlock = some j → w4.heap.size ≤ j))) := fun X hX => by
          have hbX := HW4.out.trans (hX.mono HW4.out.size)
          refine (ahead_any (.int .i64 t1) (.int .i64 v1) (.int .i64 s.snap.term) (.slice a4 n4 c4) (.slice a5 n5 c5) s.snap.idx r.first (.slice ae ne ce) s.ents (HE.out.below hbX) k hk1 hk2 hs hf2 (by have := HL.out; omega) (Nat.le_trans hb hbX.size)).mono ?_
          rintro x w' ⟨v', rfl, hz⟩
          obtain ⟨us', _, o', _⟩ := id hz.out.1
          obtain ⟨av, nv, cv, rfl⟩ := Dk.own_slice o'
          exact ⟨av, nv, cv, rfl, hz.out.2.1, hX.trans (hz.out.2.1.mono hX.size), hz.out.1, hz.out.2.2.imp id (fun h j hj => Nat.le_trans hX.size (h j hj))⟩
        have C44 : Hid (∀ X, Below w4.heap.size w4 X → Calls Tryz.prog 44 #[.slice ar nr cr] X fun x w' => ∃ an nn cn, x = .returned (.slice an nn cn) ∧ Hid (Below X.heap.size X w' ∧ Below w4.heap.size w4 w' ∧ Er b w' (.slice an nn cn) r.ents)) := fun X hX => by
          have hbX := HW4.out.trans (hX.mono HW4.out.size)
          refine (copyEntries_any (.slice ar nr cr) r.ents X (HR.out.below hbX) (by have := HL.out; omega) HD.out).mono ?_
          rintro x w' ⟨v', rfl, hz⟩
          obtain ⟨us', _, o', _⟩ := id hz.out.1
          obtain ⟨an, nn, cn, rfl⟩ := Dk.own_slice o'
          exact ⟨an, nn, cn, rfl, hz.out.2, hX.trans (hz.out.2.mono hX.size), hz.out.1.low (Nat.le_trans hb hbX.size)⟩
        have hdr : Below w4.heap.size w4 w4.drew := (Below.refl _ w4).drew
        have HT : Hid (∀ Y av nv cv an nn cn, Below w4.heap.size w4 Y → Er b Y (.slice av nv cv) (s.ents.take k) → Er b Y (.slice an nn cn) r.ents → (Value.slice av nv cv = Value.slice ae ne ce ∧ k = s.ents.length ∨ ∀ j, (Value.slice av nv cv).ownBlock = some j → w4.heap.size ≤ j) → ∃ aw nw cw w7, (∀ ty, (Builtin.append_ #[36, 36] ty #[.slice av nv cv, .slice an nn cn]).run Tryz.prog Y = .ok (.slice aw nw cw) w7) ∧ w7.cell? ⟨W.heap.size, 6, none⟩ = some (.slice ae ne ce) ∧ w7.frozen? ⟨W.heap.size, 6, none⟩ = false ∧ Hid (Ab W.heap.size w7 #[.int .i64 t1, .int .i64 v1, .int .i64 s.snap.idx, .int .i64 s.snap.term, .slice a4 n4 c4, .slice a5 n5 c5, .slice ae ne ce] #[.int .i64 r.term, .int .i64 r.vote, .bool sv, .int .i64 r.first, .slice ar nr cr, .pointer none, y6, y7, y8] #[.int .i64 0, .int .i64 0, .int .i64 0, .int .i64 0, .slice none 0 0, .slice none 0 0, .slice none 0 0] ∧ Er b w7 (.slice aw nw cw) (s.ents.take k ++ r.ents) ∧ Er b w7 (.slice ae ne ce) s.ents ∧ W.grownBy w7 (Value.slice ae ne ce).ownBlock)) :=
          fun Y av nv cv an nn cn hY h1 h2 hc => after_tail HW4.out HB4.out hY HE.out h1 h2 hc HL.out hb
        clear z0 z1 z2 z3 z4 z5 z6 g0 g1 g2 g3 g4 g5 g6 hk1 hk2
        go_wp2_with fail
        refine wp_region_noPanic ?_
        go_region_law (first
            | (have m5 := HA5; go_simp; go_at_call 44; (with_reducible refine Calls.mono (C44.out _ m5.out.2.1) ?_); rintro e w6 ⟨an, nn, cn, rfl, H6⟩; have hpp := HT.out w6 _ _ _ _ _ _ H6.out.2.1 (m5.out.2.2.1.below H6.out.1) H6.out.2.2 m5.out.2.2.2; obtain ⟨aw, nw, cw, w7, hap, c7, f7, HF⟩ := hpp)
            | (have m5 := HC5; go_simp; go_at_call 90; (with_reducible refine Calls.mono (C90.out _ m5.out.2.1) ?_); rintro e w6 ⟨av, nv, cv, rfl, H6⟩; have hpp := HT.out w6 _ _ _ _ _ _ H6.out.2.1 H6.out.2.2.1 (m5.out.2.2.below H6.out.1) H6.out.2.2.2; obtain ⟨aw, nw, cw, w7, hap, c7, f7, HF⟩ := hpp)
            | (go_simp; go_at_call 90; (with_reducible refine Calls.mono (C90.out w4.drew hdr) ?_); rintro e w5 ⟨av, nv, cv, rfl, HA5⟩; have HB5 := hide (HB4.out.below HA5.out.2.1); have b4 : w5.cell? ⟨W.heap.size + 1, 4, none⟩ = some (.slice ar nr cr) := HB5.out.cr 4)
            | (go_simp; go_at_call 44; (with_reducible refine Calls.mono (C44.out w4.drew hdr) ?_); rintro e w5 ⟨an, nn, cn, rfl, HC5⟩; have HB5 := hide (HB4.out.below HC5.out.2.1); have b7 : w5.cell? ⟨W.heap.size + 1, 3, none⟩ = some (.int .i64 r.first) := HB5.out.cr 3; have b0 : w5.cell? ⟨W.heap.size, 0, none⟩ = some (.int .i64 t1) := HB5.out.cs 0; have b1 : w5.cell? ⟨W.heap.size, 1, none⟩ = some (.int .i64 v1) := HB5.out.cs 1; have b2 : w5.cell? ⟨W.heap.size, 2, none⟩ = some (.int .i64 s.snap.idx) := HB5.out.cs 2; have b3 : w5.cell? ⟨W.heap.size, 3, none⟩ = some (.int .i64 s.snap.term) := HB5.out.cs 3; have b4 : w5.cell? ⟨W.heap.size, 4, none⟩ = some (.slice a4 n4 c4) := HB5.out.cs 4; have b5 : w5.cell? ⟨W.heap.size, 5, none⟩ = some (.slice a5 n5 c5) := HB5.out.cs 5; have b6 : w5.cell? ⟨W.heap.size, 6, none⟩ = some (.slice ae ne ce) := HB5.out.cs 6)
            | (refine step_append_run (by rfl) (.tmp 57) (.tmp 60) 36 36 (by rfl) _ _ (by rfl) (by rfl) (hap _) ?_))
        all_goals refine NoPanic.normal ?_
        all_goals have HB8 := hide (HF.out.1.setS 6 (.slice aw nw cw))
        all_goals have HX8 : Hid (Er b (w7.setCell ⟨W.heap.size, 6, none⟩ (.slice aw nw cw)) (.slice aw nw cw) (s.ents.take k ++ r.ents) ∧ Er b (w7.setCell ⟨W.heap.size, 6, none⟩ (.slice aw nw cw)) (.slice ae ne ce) s.ents ∧ W.grownBy (w7.setCell ⟨W.heap.size, 6, none⟩ (.slice aw nw cw)) (Value.slice ae ne ce).ownBlock) := ⟨HF.out.2.1.keepT HF.out.1.s (by decide) (by decide) (grown_set (grown_refl _ _)), HF.out.2.2.1.keepT HF.out.1.s (by decide) (by decide) (grown_set (grown_refl _ _)), grown_off HF.out.2.2.2 (Nat.le_refl _) 6 _⟩
        all_goals clear hap c7 f7 HF
        all_goals generalize w7.setCell ⟨W.heap.size, 6, none⟩ (.slice aw nw cw) = W8 at *
        all_goals clear s0 s1 s2 s3 s4 s5 s6 r3 r4
        all_goals have s0 : W8.cell? ⟨W.heap.size, 0, none⟩ = some (.int .i64 t1) := HB8.out.cs 0
        all_goals have s1 : W8.cell? ⟨W.heap.size, 1, none⟩ = some (.int .i64 v1) := HB8.out.cs 1
        all_goals have s2 : W8.cell? ⟨W.heap.size, 2, none⟩ = some (.int .i64 s.snap.idx) := HB8.out.cs 2
        all_goals have s3 : W8.cell? ⟨W.heap.size, 3, none⟩ = some (.int .i64 s.snap.term) := HB8.out.cs 3
        all_goals have s4 : W8.cell? ⟨W.heap.size, 4, none⟩ = some (.slice a4 n4 c4) := HB8.out.cs 4
        all_goals have s5 : W8.cell? ⟨W.heap.size, 5, none⟩ = some (.slice a5 n5 c5) := HB8.out.cs 5
        all_goals have s6 : W8.cell? ⟨W.heap.size, 6, none⟩ = some (.slice aw nw cw) := HB8.out.cs 6
        all_goals have z0 : W8.cell? ⟨W.heap.size + 1 + 1, 0, none⟩ = some ((.int .i64 0)) := HB8.out.cz 0
        all_goals have g0 : W8.frozen? ⟨W.heap.size + 1 + 1, 0, none⟩ = false := HB8.out.fz 0
        all_goals have z1 : W8.cell? ⟨W.heap.size + 1 + 1, 1, none⟩ = some ((.int .i64 0)) := HB8.out.cz 1
        all_goals have g1 : W8.frozen? ⟨W.heap.size + 1 + 1, 1, none⟩ = false := HB8.out.fz 1
        all_goals have z2 : W8.cell? ⟨W.heap.size + 1 + 1, 2, none⟩ = some ((.int .i64 0)) := HB8.out.cz 2
        all_goals have g2 : W8.frozen? ⟨W.heap.size + 1 + 1, 2, none⟩ = false := HB8.out.fz 2
        all_goals have z3 : W8.cell? ⟨W.heap.size + 1 + 1, 3, none⟩ = some ((.int .i64 0)) := HB8.out.cz 3
        all_goals have g3 : W8.frozen? ⟨W.heap.size + 1 + 1, 3, none⟩ = false := HB8.out.fz 3
        all_goals have z4 : W8.cell? ⟨W.heap.size + 1 + 1, 4, none⟩ = some ((.slice none 0 0)) := HB8.out.cz 4
        all_goals have g4 : W8.frozen? ⟨W.heap.size + 1 + 1, 4, none⟩ = false := HB8.out.fz 4
        all_goals have z5 : W8.cell? ⟨W.heap.size + 1 + 1, 5, none⟩ = some ((.slice none 0 0)) := HB8.out.cz 5
        all_goals have g5 : W8.frozen? ⟨W.heap.size + 1 + 1, 5, none⟩ = false := HB8.out.fz 5
        all_goals have z6 : W8.cell? ⟨W.heap.size + 1 + 1, 6, none⟩ = some ((.slice none 0 0)) := HB8.out.cz 6
        all_goals have g6 : W8.frozen? ⟨W.heap.size + 1 + 1, 6, none⟩ = false := HB8.out.fz 6
        all_goals have HN := hide (fill7 HB8.out.z (.int .i64 t1) (.int .i64 v1) (.int .i64 s.snap.idx) (.int .i64 s.snap.term) (.slice a4 n4 c4) (.slice a5 n5 c5) (.slice aw nw cw))
        all_goals have HG := hide (fill7g HB8.out.z (.int .i64 t1) (.int .i64 v1) (.int .i64 s.snap.idx) (.int .i64 s.snap.term) (.slice a4 n4 c4) (.slice a5 n5 c5) (.slice aw nw cw))
        all_goals go_wp2_with fail
        all_goals refine bodyPost_ret (ret_ct rfl _ _ (W.heap.size + 2) 78 #[.int .i64 t1, .int .i64 v1, .int .i64 s.snap.idx, .int .i64 s.snap.term, .slice a4 n4 c4, .slice a5 n5 c5, .slice aw nw cw] rfl HN.out.1 Tryz.underlying78 sz78) rfl ?_
        all_goals refine Or.inr ⟨{ s.hard r with ents := s.ahead r.first ++ r.ents }, aw, nw, cw, HMa.out.trans (by first | exact if_pos trivial | exact if_pos rfl | simp), ?_, hard_snap s r, ?_⟩
        all_goals first
          | (show _ = Ending.returned (.tuple #[.agg #[.int .i64 (s.hard r).term, .int .i64 (s.hard r).vote, .int .i64 s.snap.idx, .int .i64 s.snap.term, .slice a4 n4 c4, .slice a5 n5 c5, .slice aw nw cw], .bool true]); rw [HT1.out, HV1.out]; rfl)
          | (rw [hk3]; exact ⟨HX8.out.1.keepT HB8.out.z (by decide) (by decide) HG.out, HX8.out.2.1.keepT HB8.out.z (by decide) (by decide) HG.out, grown_more HX8.out.2.2 HG.out (by omega)⟩)
    · have HA : Hid (s.after r = some (s.hard r)) := by
        show _ = _
        unfold St.after St.shot
        rw [hsn]
        simp [St.put, hf]
      have HN := hide (fill7 HB2.out.z (.int .i64 t1) (.int .i64 v1) (.int .i64 s.snap.idx) (.int .i64 s.snap.term) (.slice a4 n4 c4) (.slice a5 n5 c5) (.slice ae ne ce))
      go_wp2_with fail
      refine bodyPost_ret (ret_ct rfl _ _ (W.heap.size + 2) 78 #[.int .i64 t1, .int .i64 v1, .int .i64 s.snap.idx, .int .i64 s.snap.term, .slice a4 n4 c4, .slice a5 n5 c5, .slice ae ne ce] rfl HN.out.1 Tryz.underlying78 sz78) rfl ?_
      have hbf := HW2.out.trans (HN.out.2 W.heap.size (by omega))
      refine Or.inr ⟨s.hard r, HA.out, ae, ne, ce, ?_, hard_snap s r, ?_⟩
      · rw [HT1.out, HV1.out]
        rfl
      · rw [hard_ents s r]
        exact ⟨HE.out.below hbf, HE.out.below hbf, ⟨hbf.os, hbf.tape, hbf.output, hbf.size, fun k hk _ => hbf.block k hk⟩⟩
end Go.Proofs.YtjndgekpdmlbiaaGreatDoor.Kp
namespace Go.Proofs.YtjndgekpdmlbiaaGreatDoor.Kp
open Go.RowKit Bn

/-- Nothing is kept. -/
def st0 : St := ⟨0, 0, ⟨0, 0, [], []⟩, []⟩
theorem after_zero {W : World} (r : Rdy) (s' : St) (hs : st0.after r = some s') (y6 y7 y8 : Value) (ar : Option Addr) (nr cr : Nat) (hR : Es W (.slice ar nr cr) r.ents) (hsn : r.snap = none) (ho : r.ok) (hl : r.ents.length ≤ 1000000000) (hd : ∀ e ∈ r.ents, e.data.length ≤ 140737488355328) :
    Calls Tryz.prog 54 #[.agg #[.int .i64 0, .int .i64 0, .int .i64 0, .int .i64 0, .slice none 0 0, .slice none 0 0, .slice none 0 0], .agg #[.int .i64 r.term, .int .i64 r.vote, .bool r.saved, .int .i64 r.first, .slice ar nr cr, .pointer none, y6, y7, y8]] W fun x w' =>
      ∃ av nv cv, x = .returned (.tuple #[.agg #[.int .i64 s'.term, .int .i64 s'.vote, .int .i64 0, .int .i64 0, .slice none 0 0, .slice none 0 0, .slice av nv cv], .bool true]) ∧ Hid (Er W.heap.size w' (.slice av nv cv) s'.ents ∧ Below W.heap.size W w') := by
  refine (after_plain (b := W.heap.size) st0 r none none 0 0 0 0 y6 y7 y8 none 0 0 ar nr cr (Er.nil _ _) hR hsn ho (by simp [st0]) (by simp [st0]; omega) hd (Nat.le_refl _)).mono ?_
  rintro x w' (⟨h1, _⟩ | ⟨s2, av, nv, cv, h1, rfl, h2, HP⟩)
  · rw [hs] at h1
    cases h1
  · rw [hs] at h1
    cases h1
    obtain ⟨e1, _, e3⟩ := HP.out
    exact ⟨av, nv, cv, rfl, e1, ⟨e3.os, e3.tape, e3.output, e3.size, fun k hk => e3.block k hk (by simp [Value.ownBlock])⟩⟩

/-- What do leaves. -/
def DoR (w : World) (kb p pd : Nat) (s : Dk.St) (H : Nat → Prop) (t : List UInt8) (w' : World) : Prop :=
  ∃ H', Wl.LX w' p pd ⟨s.room, (s.push (.app Wl.nmW (Wl.recB 1 (fl true ++ t)))).now, []⟩ H' 1 [fl true ++ t] ∧ (∀ k, H' k → H k ∨ w.heap.size ≤ k) ∧ Dk.Fr (fun k => H k ∨ k = kb) w w'

theorem seven {w : World} {B T : Nat} {a b c d e f g : Value} (h : w.heap[B]? = some (.cells #[a, b, c, d, e, f, g] T (0, 0))) :
    w.cell? ⟨B, 0, none⟩ = some a ∧ w.cell? ⟨B, 1, none⟩ = some b ∧ w.cell? ⟨B, 2, none⟩ = some c ∧ w.cell? ⟨B, 3, none⟩ = some d ∧ w.cell? ⟨B, 4, none⟩ = some e ∧ w.cell? ⟨B, 5, none⟩ = some f ∧ w.cell? ⟨B, 6, none⟩ = some g := by
  refine ⟨?_, ?_, ?_, ?_, ?_, ?_, ?_⟩ <;> rw [cell_of_row w B _ _ T (0, 0) h] <;> rfl
theorem nine {w : World} {B T : Nat} {a b c d e f y6 y7 y8 : Value} (h : w.heap[B]? = some (.cells #[a, b, c, d, e, f, y6, y7, y8] T (0, 0))) :
    w.cell? ⟨B, 0, none⟩ = some a ∧ w.cell? ⟨B, 1, none⟩ = some b ∧ w.cell? ⟨B, 2, none⟩ = some c ∧ w.cell? ⟨B, 3, none⟩ = some d ∧ w.cell? ⟨B, 4, none⟩ = some e ∧ w.cell? ⟨B, 5, none⟩ = some f ∧ w.cell? ⟨B, 6, none⟩ = some y6 ∧ w.cell? ⟨B, 7, none⟩ = some y7 ∧ w.cell? ⟨B, 8, none⟩ = some y8 := by
  refine ⟨?_, ?_, ?_, ?_, ?_, ?_, ?_, ?_, ?_⟩ <;> rw [cell_of_row w B _ _ T (0, 0) h] <;> rfl

theorem fill_do {w W : World} {D : Nat} {N9 : Array Value} {z0 z1 z2 z3 z4 z5 z6 : Value} (hW : Below w.heap.size w W) (h9 : W.heap[w.heap.size]? = some (.cells N9 43 (0, 0))) (hD : W.heap[D]? = some (.cells #[z0, z1, z2, z3, z4, z5, z6] 78 (0, 0))) (hge : w.heap.size ≤ D) (a b c d e f g : Value) :
    Below w.heap.size w (((((((W.setCell ⟨D, 0, none⟩ a).setCell ⟨D, 1, none⟩ b).setCell ⟨D, 2, none⟩ c).setCell ⟨D, 3, none⟩ d).setCell ⟨D, 4, none⟩ e).setCell ⟨D, 5, none⟩ f).setCell ⟨D, 6, none⟩ g) ∧ (((((((W.setCell ⟨D, 0, none⟩ a).setCell ⟨D, 1, none⟩ b).setCell ⟨D, 2, none⟩ c).setCell ⟨D, 3, none⟩ d).setCell ⟨D, 4, none⟩ e).setCell ⟨D, 5, none⟩ f).setCell ⟨D, 6, none⟩ g).heap[w.heap.size]? = some (.cells N9 43 (0, 0)) ∧ (((((((W.setCell ⟨D, 0, none⟩ a).setCell ⟨D, 1, none⟩ b).setCell ⟨D, 2, none⟩ c).setCell ⟨D, 3, none⟩ d).setCell ⟨D, 4, none⟩ e).setCell ⟨D, 5, none⟩ f).setCell ⟨D, 6, none⟩ g).heap[D]? = some (.cells #[a, b, c, d, e, f, g] 78 (0, 0)) ∧ w.heap.size ≤ D := by
  have hne : w.heap.size ≠ D := by
    rintro e
    rw [← e, h9] at hD
    simp at hD
  obtain ⟨f1, f2⟩ := fill7 hD a b c d e f g
  refine ⟨hW.trans (f2 _ hge), ?_, f1, hge⟩
  rw [Below.heap_setCell _ _ _ _ hne, Below.heap_setCell _ _ _ _ hne, Below.heap_setCell _ _ _ _ hne, Below.heap_setCell _ _ _ _ hne, Below.heap_setCell _ _ _ _ hne, Below.heap_setCell _ _ _ _ hne, Below.heap_setCell _ _ _ _ hne]
  exact h9
theorem cell_alloc {w : World} {a : Addr} {v : Value} (h : w.cell? a = some v) : ∀ o, (w.alloc o).cell? a = some v := fun o => (World.cell?_of_block (((Below.refl w.heap.size w).alloc (Nat.le_refl _) o).block a.block (World.block_lt_of_cell? w a h))).trans h

set_option maxHeartbeats 4000000 in
theorem do_first {w : World} {kb p pd : Nat} {s : Dk.St} {H : Nat → Prop} (h : Wl.LX w p pd s H 0 []) (ht : Fr.Tab w) (hb : KwB w kb p (.int .i64 0) (.int .i64 0) (.int .i64 0) (.int .i64 0) (.slice none 0 0) (.slice none 0 0) (.slice none 0 0) 0) (hk : ¬ H kb)
    (r : Rdy) (s' : St) (hs : st0.after r = some s') (y6 y7 y8 : Value) (ae : Option Addr) (le ce : Nat) (hE : Es w (.slice ae le ce) r.ents) (hsn : r.snap = none) (hsv : r.saved = true) (ho : r.ok) (hrz : rsz r ≤ 140737488355328) (hl : (encR false r).length ≤ 32767)
    (hln : r.ents.length ≤ 1000000000) (hd : ∀ e ∈ r.ents, e.data.length ≤ 140737488355328) (hlong : r.long = false)
    (hr : (Dk.used s.now : Int) + (Wl.recB 1 (fl true ++ encR false r)).length ≤ s.room) (hf : (Dk.look Wl.nmW s.now).isSome = true ∨ s.now.length < 64) (hms : s.mass + 40000 ≤ 1000000000) (hms2 : (s.push (.app Wl.nmW (Wl.recB 1 (fl true ++ encR false r)))).mass ≤ 1000000) :
    Calls Tryz.prog 35 #[.pointer (some ⟨kb, 0, none⟩), .agg #[.int .i64 r.term, .int .i64 r.vote, .bool r.saved, .int .i64 r.first, .slice ae le ce, .pointer none, y6, y7, y8]] w fun e w' =>
      e = .returned (.int .i64 0) ∧ Hid (DoR w kb p pd s H (encR false r) w') := by
  obtain ⟨rt, rv, rs, rf, re, rn⟩ := r
  dsimp only at *
  subst hsv hsn
  have hk9 := hb.lt
  have HT := hide ht
  have HAF : Hid (∀ W, Below w.heap.size w W → Calls Tryz.prog 54 #[.agg #[.int .i64 0, .int .i64 0, .int .i64 0, .int .i64 0, .slice none 0 0, .slice none 0 0, .slice none 0 0], .agg #[.int .i64 rt, .int .i64 rv, .bool true, .int .i64 rf, .slice ae le ce, .pointer none, y6, y7, y8]] W fun x w' =>
      ∃ av nv cv, x = .returned (.tuple #[.agg #[.int .i64 s'.term, .int .i64 s'.vote, .int .i64 0, .int .i64 0, .slice none 0 0, .slice none 0 0, .slice av nv cv], .bool true]) ∧ Hid (Er W.heap.size w' (.slice av nv cv) s'.ents ∧ Below W.heap.size W w')) := fun W hW => after_zero ⟨rt, rv, true, rf, re, none⟩ s' hs y6 y7 y8 ae le ce (hE.below hW) rfl ho hln hd
  have HTL : Hid (∀ W, Below w.heap.size w W → Calls Tryz.prog 55 #[.agg #[.int .i64 rt, .int .i64 rv, .bool true, .int .i64 rf, .slice ae le ce, .pointer none, y6, y7, y8]] W fun x w' => x = .returned (.bool false) ∧ Below W.heap.size W w') := fun W hW => by
    have h1 := tooLong_any ⟨rt, rv, true, rf, re, none⟩ y6 y7 y8 none (.slice ae le ce) W (hE.below hW) rfl
    rw [hlong] at h1
    exact h1
  have HKB := hide hb
  have HX := hide h
  obtain ⟨t, HTT⟩ : ∃ t, Hid (encR false ⟨rt, rv, true, rf, re, none⟩ = t) := ⟨_, (rfl : _ = _)⟩
  have HWR : Hid (∀ (W : World) (d0 d1 d2 d3 d4 d5 d6 : Value), Below w.heap.size w W → Calls Tryz.prog 56 #[.pointer (some ⟨kb, 0, none⟩), .agg #[.int .i64 rt, .int .i64 rv, .bool true, .int .i64 rf, .slice ae le ce, .pointer none, y6, y7, y8], .agg #[d0, d1, d2, d3, d4, d5, d6]] W fun e w' => e = .returned (.int .i64 0) ∧ Hid (WrR W kb p pd s H t (.int .i64 0) (.int .i64 0) (.int .i64 0) (.int .i64 0) (.slice none 0 0) (.slice none 0 0) (.slice none 0 0) w')) := fun W d0 d1 d2 d3 d4 d5 d6 hW => by
    rw [← HTT.out]
    exact write_first (HX.out.below hW) (HT.out.below hW) (HKB.out.below hW) hk ⟨rt, rv, true, rf, re, none⟩ y6 y7 y8 ae le ce (hE.below hW) rfl ho hrz hl hr hf hms d0 d1 d2 d3 d4 d5 d6
  have HMS : Hid ((s.push (.app Wl.nmW (Wl.recB 1 (fl true ++ t)))).mass ≤ 1000000) := by rw [← HTT.out]; exact hms2
  rw [HTT.out]
  have HB1 : Hid (Below w.heap.size w (w.alloc (.cells #[.int .i64 rt, .int .i64 rv, .bool true, .int .i64 rf, .slice ae le ce, .pointer none, y6, y7, y8] 43))) := (Below.refl _ w).alloc (Nat.le_refl _) _
  have HB9 : Hid ((w.alloc (.cells #[.int .i64 rt, .int .i64 rv, .bool true, .int .i64 rf, .slice ae le ce, .pointer none, y6, y7, y8] 43)).heap[w.heap.size]? = some (.cells #[.int .i64 rt, .int .i64 rv, .bool true, .int .i64 rf, .slice ae le ce, .pointer none, y6, y7, y8] 43 (0, 0))) := heap_alloc_new _ _
  have HS1 : Hid ((w.alloc (.cells #[.int .i64 rt, .int .i64 rv, .bool true, .int .i64 rf, .slice ae le ce, .pointer none, y6, y7, y8] 43)).heap.size = w.heap.size + 1) := by show _ = _; simp
  clear hr hf hms hms2 hs hE hd hlong hrz hl hln ho HTT
  go_enter Tryz.func35, Tryz.ntmps35
  go_upto_region 1 with fail
  generalize w.alloc (.cells #[.int .i64 rt, .int .i64 rv, .bool true, .int .i64 rf, .slice ae le ce, .pointer none, y6, y7, y8] 43) = w1 at *
  obtain ⟨k0, k1, k2, k3, k4, k5, k6, k7, k8⟩ := nine (HKB.out.below HB1.out)
  obtain ⟨n0, n1, n2, n3, n4, n5, n6, n7, n8⟩ := nine HB9.out
  have ka0 := cell_alloc k0
  have ka1 := cell_alloc k1
  have ka2 := cell_alloc k2
  have ka3 := cell_alloc k3
  have ka4 := cell_alloc k4
  have ka5 := cell_alloc k5
  have ka6 := cell_alloc k6
  have ka7 := cell_alloc k7
  have ka8 := cell_alloc k8
  have na0 := cell_alloc n0
  have na1 := cell_alloc n1
  have na2 := cell_alloc n2
  have na3 := cell_alloc n3
  have na4 := cell_alloc n4
  have na5 := cell_alloc n5
  have na6 := cell_alloc n6
  have na7 := cell_alloc n7
  have na8 := cell_alloc n8
  have X1 : Below w.heap.size w w1.drew := HB1.out.drew
  have X2 : Below w.heap.size w (w1.alloc (.cells #[.int .i64 0, .int .i64 0, .int .i64 0, .int .i64 0, .slice none 0 0, .slice none 0 0, .slice none 0 0] 78)).drew := (HB1.out.alloc HB1.out.size _).drew
  go_cut [5, 6] from 8 to 16 (fun v5 v6 wc => ∃ q av nv cv, v5 = .pointer (some ⟨q, 0, none⟩) ∧ v6 = .bool true ∧ Hid (Below w.heap.size w wc ∧ wc.heap[w.heap.size]? = some (.cells #[.int .i64 rt, .int .i64 rv, .bool true, .int .i64 rf, .slice ae le ce, .pointer none, y6, y7, y8] 43 (0, 0)) ∧ wc.heap[q]? = some (.cells #[.int .i64 s'.term, .int .i64 s'.vote, .int .i64 0, .int .i64 0, .slice none 0 0, .slice none 0 0, .slice av nv cv] 78 (0, 0)) ∧ w.heap.size ≤ q))
  case first =>
    refine wp_region_noPanic ?_
    go_region_with (first
      | (go_at_call 54; (with_reducible refine Calls.mono (HAF.out w1.drew X1) ?_); rintro x w2 ⟨av, nv, cv, rfl, HP2⟩)
      | (go_at_call 54; (with_reducible refine Calls.mono (HAF.out (w1.alloc (.cells #[.int .i64 0, .int .i64 0, .int .i64 0, .int .i64 0, .slice none 0 0, .slice none 0 0, .slice none 0 0] 78)).drew X2) ?_); rintro x w2 ⟨av, nv, cv, rfl, HP2⟩; have hz : w2.heap[w1.heap.size]? = some (.cells #[.int .i64 0, .int .i64 0, .int .i64 0, .int .i64 0, .slice none 0 0, .slice none 0 0, .slice none 0 0] 78 (0, 0)) := (HP2.out.2.block w1.heap.size (by show w1.heap.size < (w1.alloc (.cells #[.int .i64 0, .int .i64 0, .int .i64 0, .int .i64 0, .slice none 0 0, .slice none 0 0, .slice none 0 0] 78)).heap.size; simp)).trans (heap_alloc_new w1 (.cells #[.int .i64 0, .int .i64 0, .int .i64 0, .int .i64 0, .slice none 0 0, .slice none 0 0, .slice none 0 0] 78)); have hfz := frozen_of_row w2 w1.heap.size; have z0 := (seven hz).1; have z1 := (seven hz).2.1; have z2 := (seven hz).2.2.1; have z3 := (seven hz).2.2.2.1; have z4 := (seven hz).2.2.2.2.1; have z5 := (seven hz).2.2.2.2.2.1; have z6 := (seven hz).2.2.2.2.2.2; have zz := fun i => frozen_of_row w2 w1.heap.size i _ _ hz))
    all_goals
      refine NoPanic.normal ?_
      go_wp2_with fail
      go_meet
      first
        | (have hz' := hz
           have HF := hide (fill_do (W := w2) (D := w1.heap.size) (X2.trans (HP2.out.2.mono X2.size)) ((HP2.out.2.block w.heap.size (by have h2 := HS1.out; show w.heap.size < (w1.alloc (.cells #[.int .i64 0, .int .i64 0, .int .i64 0, .int .i64 0, .slice none 0 0, .slice none 0 0, .slice none 0 0] 78)).heap.size; simp; omega)).trans ((((Below.refl w1.heap.size w1).alloc (Nat.le_refl _) (.cells #[.int .i64 0, .int .i64 0, .int .i64 0, .int .i64 0, .slice none 0 0, .slice none 0 0, .slice none 0 0] 78)).block w.heap.size (by have h2 := HS1.out; omega)).trans HB9.out)) hz' (by have h2 := HS1.out; omega) (.int .i64 s'.term) (.int .i64 s'.vote) (.int .i64 0) (.int .i64 0) (.slice none 0 0) (.slice none 0 0) (.slice av nv cv))
           exact ⟨w1.heap.size, av, nv, cv, rfl, rfl, HF⟩)
        | (have hx1 : w1.drew.heap.size = w1.heap.size := rfl
           have hs2 := HP2.out.2.size
           have hb2 := X1.trans (HP2.out.2.mono X1.size)
           have h9 := (HP2.out.2.block w.heap.size (by have h2 := HS1.out; omega)).trans HB9.out
           exact ⟨w2.heap.size, av, nv, cv, rfl, rfl, hb2.alloc hb2.size _, (((Below.refl w2.heap.size w2).alloc (Nat.le_refl _) _).block w.heap.size (lt_of_block h9)).trans h9, heap_alloc_new _ _, hb2.size⟩)
  case rest =>
    obtain ⟨q, av, nv, cv, rfl, rfl, HQ⟩ := hcut
    clear k0 k1 k2 k3 k4 k5 k6 k7 k8 n0 n1 n2 n3 n4 n5 n6 n7 n8 ka0 ka1 ka2 ka3 ka4 ka5 ka6 ka7 ka8 na0 na1 na2 na3 na4 na5 na6 na7 na8 X1 X2
    obtain ⟨m0, m1, m2, m3, m4, m5, m6, m7, m8⟩ := nine HQ.out.2.1
    have HTL2 := hide (HTL.out wc HQ.out.1)
    clear HTL HAF
    go_wp2_with fail
    refine Calls.mono HTL2.out ?_
    rintro x w4 ⟨rfl, hb4⟩
    have HB4 := hide (HQ.out.1.trans (hb4.mono HQ.out.1.size))
    have H94 := hide ((hb4.block w.heap.size (lt_of_block HQ.out.2.1)).trans HQ.out.2.1)
    have H74 := hide ((hb4.block q (lt_of_block HQ.out.2.2.1)).trans HQ.out.2.2.1)
    obtain ⟨p0, p1, p2, p3, p4, p5, p6, p7, p8⟩ := nine H94.out
    obtain ⟨o0, o1, o2, o3, o4, o5, o6⟩ := seven H74.out
    have HW4 := hide (HWR.out w4 (.int .i64 s'.term) (.int .i64 s'.vote) (.int .i64 0) (.int .i64 0) (.slice none 0 0) (.slice none 0 0) (.slice av nv cv) HB4.out)
    clear hb4 HTL2 m0 m1 m2 m3 m4 m5 m6 m7 m8 HWR
    have hlt := HX.out.lt
    have HQL := hide (lt_of_block H74.out)
    have HQG := hide HQ.out.2.2.2
    clear HQ
    go_wp2_with fail
    refine Calls.mono HW4.out ?_
    rintro x w5 ⟨rfl, HR5⟩
    obtain ⟨H', z, hX5, hH5, hF5, hK5⟩ := HR5.out
    have hkb4 : kb < w4.heap.size := Nat.lt_of_lt_of_le hk9 HB4.out.size
    have hnk : ¬ H' kb := fun hh => by
      rcases hH5 kb hh with h1 | h1
      · exact hk h1
      · omega
    have hnq : ¬ H q := fun hh => by have := hlt q hh; have := HQG.out; omega
    have hnq' : ¬ H' q := fun hh => by
      rcases hH5 q hh with h1 | h1
      · exact hnq h1
      · have := HQL.out; omega
    have H75 := hide ((hF5.block q HQL.out (fun hh => by
      rcases hh with h1 | h1
      · exact hnq h1
      · have := HQG.out; omega)).trans H74.out)
    have c57 := hK5.c 7
    simp at c57
    have HSY : Hid (Calls Tryz.prog 57 #[.pointer (some ⟨p, 0, none⟩)] w5 fun e w6 => e = .returned (.tuple #[]) ∧ w6.heap[q]? = some (.cells #[.int .i64 s'.term, .int .i64 s'.vote, .int .i64 0, .int .i64 0, .slice none 0 0, .slice none 0 0, .slice av nv cv] 78 (0, 0)) ∧ KwB w6 kb p (.int .i64 0) (.int .i64 0) (.int .i64 0) (.int .i64 0) (.slice none 0 0) (.slice none 0 0) (.slice none 0 0) z ∧ Hid (∀ a b c d e f g, DoR w kb p pd s H t (((((((w6.setCell ⟨kb, 0, none⟩ a).setCell ⟨kb, 1, none⟩ b).setCell ⟨kb, 2, none⟩ c).setCell ⟨kb, 3, none⟩ d).setCell ⟨kb, 4, none⟩ e).setCell ⟨kb, 5, none⟩ f).setCell ⟨kb, 6, none⟩ g))) := by
      refine (hX5.sync HMS.out).mono ?_
      rintro e w6 ⟨rfl, HP⟩
      obtain ⟨hX6, hF6⟩ := HP.out
      have hs45 := hF5.size
      have hs56 := hF6.size
      have hs4 := HB4.out.size
      refine ⟨rfl, (hF6.block q (lt_of_block H75.out) hnq').trans H75.out, hK5.fr hF6 hnk, fun a b c d e f g => ⟨Dk.ext H' w5 w6, ?_, fun k hk2 => ?_, ?_⟩⟩
      · refine hX6.kept (K := fun k => k = kb) (Dk.Fr.setCell (p := ⟨kb, 6, none⟩) (Dk.Fr.setCell (p := ⟨kb, 5, none⟩) (Dk.Fr.setCell (p := ⟨kb, 4, none⟩) (Dk.Fr.setCell (p := ⟨kb, 3, none⟩) (Dk.Fr.setCell (p := ⟨kb, 2, none⟩) (Dk.Fr.setCell (p := ⟨kb, 1, none⟩) (Dk.Fr.setCell (p := ⟨kb, 0, none⟩) (Dk.Fr.refl (fun k => k = kb) w6) (fun _ => rfl) a) (fun _ => rfl) b) (fun _ => rfl) c) (fun _ => rfl) d) (fun _ => rfl) e) (fun _ => rfl) f) (fun _ => rfl) g) (fun k hk2 e => ?_)
        subst e
        rcases hk2 with h1 | h1
        · exact hnk h1
        · omega
      · rcases hk2 with h1 | h1
        · rcases hH5 k h1 with h2 | h2
          · exact Or.inl h2
          · exact Or.inr (by omega)
        · exact Or.inr (by omega)
      · have hF : Dk.Fr (fun k => H k ∨ k = kb) w w6 := ((Dk.Fr.of_below (F := fun k => H k ∨ k = kb) HB4.out).trans hF5 (fun k _ h => h)).trans hF6 (fun k hk1 hk2 => by
          rcases hH5 k hk2 with h2 | h2
          · exact Or.inl h2
          · omega)
        exact Dk.Fr.setCell (p := ⟨kb, 6, none⟩) (Dk.Fr.setCell (p := ⟨kb, 5, none⟩) (Dk.Fr.setCell (p := ⟨kb, 4, none⟩) (Dk.Fr.setCell (p := ⟨kb, 3, none⟩) (Dk.Fr.setCell (p := ⟨kb, 2, none⟩) (Dk.Fr.setCell (p := ⟨kb, 1, none⟩) (Dk.Fr.setCell (p := ⟨kb, 0, none⟩) hF (fun _ => Or.inr rfl) a) (fun _ => Or.inr rfl) b) (fun _ => Or.inr rfl) c) (fun _ => Or.inr rfl) d) (fun _ => Or.inr rfl) e) (fun _ => Or.inr rfl) f) (fun _ => Or.inr rfl) g
    clear HR5 hX5 hH5 hF5 hK5 H75 hnk hnq hnq' HW4 H74 H94 HB4 p0 p1 p2 p3 p4 p5 p6 p7 p8 o0 o1 o2 o3 o4 o5 o6 hlt HQL HQG
    go_wp2_with fail
    refine Calls.mono HSY.out ?_
    rintro x w6 ⟨rfl, h76, hK6, HD6⟩
    obtain ⟨o0, o1, o2, o3, o4, o5, o6⟩ := seven h76
    obtain ⟨k0, k1, k2, k3, k4, k5, k6, -, -⟩ := nine hK6
    have ff := hK6.f
    clear HSY h76 hK6
    go_wp2_with fail
    go_ret
    exact ⟨rfl, HD6.out _ _ _ _ _ _ _⟩

end Go.Proofs.YtjndgekpdmlbiaaGreatDoor.Kp
namespace Go.Proofs.YtjndgekpdmlbiaaGreatDoor.Kp
open Go.RowKit Bn

set_option maxHeartbeats 2000000 in
/-- piece, of a record that ends a call. -/
theorem piece_one {w : World} {kb p pd : Nat} {s : Dk.St} {H : Nat → Prop} (t : List UInt8) (h : Wl.LX w p pd s H 1 [fl true ++ t]) (ck : w.cell? ⟨kb, 7, none⟩ = some (.pointer (some ⟨p, 0, none⟩))) (hl : t.length ≤ 100000) :
    Calls Tryz.prog 51 #[.pointer (some ⟨kb, 0, none⟩), .int .i64 1] w fun e w' => ∃ a n c, e = .returned (.tuple #[.slice a n c, .bool true, .bool true]) ∧ Hid (Sl w' (.slice a n c) t ∧ Below w.heap.size w w') := by
  have HG : Hid (Calls Tryz.prog 81 #[.pointer (some ⟨p, 0, none⟩), .int .i64 1] w fun e w1 => ∃ g n c, e = .returned (.tuple #[.slice (some ⟨g, 0, none⟩) n c, .bool true]) ∧ n = t.length + 1 ∧ n ≤ c ∧ Hid (w1.ownsRow w.heap.size 5 1 (.slice (some ⟨g, 0, none⟩) n c) (fl true ++ t).length (cells8 (fl true ++ t)) ∧ Below w.heap.size w w1)) := by
    obtain ⟨F, hW, _⟩ := h.lw
    have h1 := Wl.get_hit 0 p pd s F 1 [fl true ++ t] 0 w hW (by simp) (by omega) (by simp) (by simp) (by simp [fl]; omega)
    simp only [List.getElem_cons_zero] at h1
    have e1 : (1 : Int) + ((0 : Nat) : Int) = 1 := by omega
    rw [e1] at h1
    refine h1.mono ?_
    rintro e w1 ⟨v1, rfl, hO, hb⟩
    rcases Dk.own_shape hO with ⟨_, h0⟩ | ⟨g, c, rfl, hc, _⟩
    · simp [fl] at h0
    · exact ⟨g, _, c, rfl, by simp [fl], hc, hO, hb⟩
  clear h
  go_enter Tryz.func51, Tryz.ntmps51
  go_wp2_with fail
  refine Calls.mono HG.out ?_
  rintro e w1 ⟨g, n, c, rfl, hn, hnc, HO⟩
  have HN := hide hn
  clear HG hn
  have HR : Hid (Calls Tryz.prog 82 #[.slice (some ⟨g, 0, none⟩) n c] w1 fun e w2 => ∃ B, e = .returned (.pointer (some ⟨B, 0, none⟩)) ∧ Hid (Calls Tryz.prog 83 #[.pointer (some ⟨B, 0, none⟩)] w2 fun e w3 => e = .returned (.bool true) ∧ Hid (Calls Tryz.prog 84 #[.pointer (some ⟨B, 0, none⟩)] w3 fun e w4 => e = .returned (.bool true) ∧ w4 = w3) ∧ Hid (Sl w3 (.slice (some ⟨g, 0, none⟩) n c) (fl true ++ t) ∧ Below w.heap.size w w3))) := by
    have hS := Sl.of_own HO.out.1
    refine (read_any _ _ w1 hS (by have := HN.out; simp [fl]; omega)).mono ?_
    rintro e w2 ⟨B, rfl, hB, hRd, hb2⟩
    refine ⟨B, rfl, ?_⟩
    refine (rflag_any B _ w2 hRd).mono ?_
    rw [rFlag_fl]
    rintro e w3 ⟨rfl, hRd3, hg3⟩
    have hbb : Below w1.heap.size w1 w3 := hb2.grown hg3 hb2.size (fun k hk => by cases hk; exact hB)
    refine ⟨rfl, ok_any B _ w3 hRd3, hS.below hbb, HO.out.2.trans (hbb.mono HO.out.2.size)⟩
  have hn1 : (1 : Int) ≤ (n : Int) := by have := HN.out; omega
  clear HO
  go_wp2_with fail
  refine Calls.mono HR.out ?_
  rintro e w2 ⟨B, rfl, HR2⟩
  clear HR
  go_wp2_with fail
  refine Calls.mono HR2.out ?_
  rintro e w3 ⟨rfl, HR3, HS3⟩
  clear HR2
  go_wp2_with fail
  refine Calls.mono HR3.out ?_
  rintro e w4 ⟨rfl, hw4⟩
  have hw4' := hw4.symm
  subst hw4'
  clear HR3
  by_cases hc1 : c = 1
  · have HE : Hid (Sl w3 (.slice (some ⟨g, 0, none⟩) 0 0) t) := by
      have e1 : n - 1 = 0 := by omega
      have e2 : c - 1 = 0 := by omega
      have h1 := HS3.out.1.drop 1 (by have := HN.out; omega) (some ⟨g, 0, none⟩) (fun h => absurd hc1 h) (fun _ => rfl)
      rw [e1, e2] at h1
      show Sl _ _ _
      simpa [fl] using h1
    subst hc1
    go_wp2_with fail
    refine bodyPost_ret (v := .tuple #[.slice (some ⟨g, 0, none⟩) 0 0, .bool true, .bool true]) (by simp [results, Tryz.results51, go_sem]) rfl ?_
    exact ⟨_, _, _, rfl, HE.out, HS3.out.2⟩
  · have HE : Hid (Sl w3 (.slice (some ⟨g, 1, none⟩) (n - 1) (c - 1)) t) := by
      have h1 := HS3.out.1.drop 1 (by have := HN.out; omega) (some ⟨g, 1, none⟩) (fun _ => rfl) (fun h => absurd h hc1)
      show Sl _ _ _
      simpa [fl] using h1
    go_wp2_with fail
    refine bodyPost_ret (v := .tuple #[.slice (some ⟨g, 1, none⟩) (n - 1) (c - 1), .bool true, .bool true]) (by simp [results, Tryz.results51, go_sem]) rfl ?_
    exact ⟨_, _, _, rfl, HE.out, HS3.out.2⟩
end Go.Proofs.YtjndgekpdmlbiaaGreatDoor.Kp
