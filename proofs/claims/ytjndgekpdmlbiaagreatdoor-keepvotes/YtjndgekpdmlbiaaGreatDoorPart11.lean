/- The walks of keep's small functions: sizeOf, flag, areMembers; a writer that a function makes for itself. Rows of numbers and of entries in memory; areMembers. A row of entries in memory; writeEntries. writeSnap. encode. -/
import Derived.Test.YtjndgekpdmlbiaaGreatDoorPart02
import Derived.Test.YtjndgekpdmlbiaaGreatDoorPart03
import Derived.Test.YtjndgekpdmlbiaaGreatDoorPart10
namespace Go.Proofs.YtjndgekpdmlbiaaGreatDoor.Kp
open Go.RowKit Bn

set_option maxHeartbeats 400000 in
theorem sizeOf_any (ao : Option Addr) (n cap : Nat) (w : World) (hl : n ≤ 140737488355328) :
    Calls Tryz.prog 86 #[.slice ao n cap] w fun e w' => e = .returned (.int .i64 (sizeL n : Nat)) ∧ w' = w := by
  have hz : ((sizeL n : Nat) : Int) = (n : Int) + ((n : Int) + 32767 - 1) / 32767 * 41 := by unfold sizeL; omega
  rw [hz]
  clear hz
  go_enter Tryz.func86, Tryz.ntmps86
  go_wp2
  go_ret
  exact ⟨rfl, rfl⟩

/-- A writer made at w0's end, with these bytes in it; nothing of w0 has turned. -/
def Wb (w0 w : World) (bs : List UInt8) : Prop := ∃ v, Wr w 169 (w0.heap.size + 1) w0.heap.size v bs ∧ Below w0.heap.size w0 w

theorem wb_new (w0 : World) : Wb w0 (w0.alloc (.cells #[.slice none 0 0] 169)) [] :=
  ⟨_, ⟨heap_alloc_new _ _, World.ownsRow_nil _ _ _ _⟩, (Below.refl _ _).alloc (Nat.le_refl _) _⟩

theorem Wb.step {w0 w w' : World} {v v' : Value} {bs cs : List UInt8} (hW : Wr w 169 (w0.heap.size + 1) w0.heap.size v bs) (hb : Below w0.heap.size w0 w) (hW' : Wr w' 169 (w0.heap.size + 1) w0.heap.size v' cs) (hr : Wrote w w' w0.heap.size v.ownBlock) : Wb w0 w' cs :=
  ⟨v', hW', hb.trans (Wl.wrote_below hr (Nat.le_refl _) (fun k hk => by have := (hW.2.lt k hk).1; omega) hb.size)⟩

theorem wb_flag {w0 w : World} {bs : List UInt8} (h : Wb w0 w bs) (b : Bool) (hl : bs.length + 1 ≤ 140737488355328) :
    Calls Tryz.prog 114 #[.pointer (some ⟨w0.heap.size, 0, none⟩), .bool b] w fun e w' => e = .returned (.tuple #[]) ∧ Hid (Wb w0 w' (bs ++ fl b)) := by
  obtain ⟨v, hW, hb⟩ := h
  refine (wflag_any _ _ v bs b w hW (by have := hW.lt; omega) hl).mono ?_
  rintro e w' ⟨rfl, v', hW', hr, _⟩
  exact ⟨rfl, Wb.step hW hb hW' hr⟩

theorem wb_num {w0 w : World} {bs : List UInt8} (h : Wb w0 w bs) (n : Int) (hn : I64 n) (hl : bs.length + 10 ≤ 140737488355328) :
    Calls Tryz.prog 115 #[.pointer (some ⟨w0.heap.size, 0, none⟩), .int .i64 n] w fun e w' => e = .returned (.tuple #[]) ∧ Hid (Wb w0 w' (bs ++ enc n)) := by
  obtain ⟨v, hW, hb⟩ := h
  refine (wnum_any _ _ v bs n w hW (by have := hW.lt; omega) hn.1 hn.2 hl).mono ?_
  rintro e w' ⟨rfl, v', hW', hr, _⟩
  exact ⟨rfl, Wb.step hW hb hW' hr⟩

theorem wb_text {w0 w : World} {bs t : List UInt8} {vt : Value} (h : Wb w0 w bs) (hS : Sl w0 vt t) (hl : bs.length + 10 + t.length ≤ 140737488355328) :
    Calls Tryz.prog 136 #[.pointer (some ⟨w0.heap.size, 0, none⟩), vt] w fun e w' => e = .returned (.tuple #[]) ∧ Hid (Wb w0 w' (bs ++ encT t)) := by
  obtain ⟨v, hW, hb⟩ := h
  refine (wtext_any _ _ v _ bs t w hW (by have := hW.lt; omega) (hS.below hb) (fun w' hw => ?_) hl).mono ?_
  · exact hS.below (hb.trans (Wl.wrote_below hw (Nat.le_refl _) (fun k hk => by have := (hW.2.lt k hk).1; omega) hb.size))
  · rintro e w' ⟨rfl, v', hW', hr, _⟩
    exact ⟨rfl, Wb.step hW hb hW' hr⟩

theorem wb_bytes {w0 w : World} {bs : List UInt8} (h : Wb w0 w bs) (hl : bs.length ≤ 140737488355328) :
    Calls Tryz.prog 118 #[.pointer (some ⟨w0.heap.size, 0, none⟩)] w fun e w' => ∃ ao L cap, e = .returned (.slice ao L cap) ∧ Hid (w'.ownsRow w0.heap.size 5 1 (.slice ao L cap) bs.length (cells8 bs) ∧ Below w0.heap.size w0 w') := by
  obtain ⟨v, hW, hb⟩ := h
  refine (wbytes_any _ _ v bs w hW hl).mono ?_
  rintro e w' ⟨v', rfl, hO, hb'⟩
  obtain ⟨ao, L, cap, rfl⟩ := Dk.own_slice hO
  exact ⟨ao, L, cap, rfl, Fr.own_lower hO hb.size, hb.trans (hb'.mono hb.size)⟩

set_option maxHeartbeats 400000 in
theorem flag_any (b : Bool) (w : World) :
    Calls Tryz.prog 120 #[.bool b] w fun e w' => ∃ ao L cap, e = .returned (.slice ao L cap) ∧ Hid (w'.ownsRow w.heap.size 5 1 (.slice ao L cap) (fl b).length (cells8 (fl b)) ∧ Below w.heap.size w w') := by
  have H0 : Hid (Wb w (w.alloc (.cells #[.slice none 0 0] 169)) []) := wb_new w
  go_enter Tryz.func120, Tryz.ntmps120
  go_wp2_with (first
    | (go_at_call 114; refine (wb_flag H0.out b (by simp)).mono ?_; rintro e w1 ⟨rfl, H1⟩)
    | (go_at_call 118; refine (wb_bytes H1.out (by simp [fl])).mono ?_; rintro e w2 ⟨ao, L, cap, rfl, H2⟩))
  go_ret
  exact ⟨_, _, _, rfl, H2⟩

end Go.Proofs.YtjndgekpdmlbiaaGreatDoor.Kp
namespace Go.Proofs.YtjndgekpdmlbiaaGreatDoor.Kp
open Go.RowKit Bn

def atI (ns : List Int) (j : Nat) : Int := ns.getD j 0

/-- A slice value that reads as these numbers. -/
def Is (w : World) (v : Value) (ns : List Int) : Prop :=
  ∃ ao cap, v = .slice ao ns.length cap ∧ ns.length ≤ cap ∧ cap ≤ maxLen ∧
    (0 < ns.length → ∃ g off, ao = some ⟨g, off, none⟩ ∧ ∀ j, j < ns.length → w.cell? ⟨g, off + j, none⟩ = some (.int .i64 (atI ns j)))
theorem Is.below {w w' : World} {v : Value} {ns : List Int} (h : Is w v ns) (hb : Below w.heap.size w w') : Is w' v ns := by
  obtain ⟨ao, cap, hv, h1, h2, h4⟩ := h
  refine ⟨ao, cap, hv, h1, h2, fun hp => ?_⟩
  obtain ⟨g, off, ha, hc⟩ := h4 hp
  exact ⟨g, off, ha, fun j hj => (World.cell?_of_block (w := w) (a := ⟨g, off + j, none⟩) (hb.block g (cell_lt (hc j hj)))).trans (hc j hj)⟩

theorem members_at (ns : List Int) (k : Nat) (h : k < ns.length) (l : Int) : membersB l (ns.drop k) = (decide (l < atI ns k) && decide (atI ns k ≤ 7) && membersB (atI ns k) (ns.drop (k + 1))) := by
  rw [List.drop_eq_getElem_cons h, atI, List.getD, List.getElem?_eq_getElem h]
  rfl

set_option maxHeartbeats 400000 in
theorem areMembers_any (v : Value) (ns : List Int) (w : World) (h : Is w v ns) :
    Calls Tryz.prog 53 #[v] w fun e w' => e = .returned (.bool (membersB 0 ns)) ∧ w' = w := by
  obtain ⟨ao, cap, rfl, h1, h2, h4⟩ := h
  have h2' : cap ≤ 9223372036854775807 := h2
  have H4 : Hid (0 < ns.length → ∃ g off, ao = some ⟨g, off, none⟩ ∧ ∀ j, j < ns.length → w.cell? ⟨g, off + j, none⟩ = some (.int .i64 (atI ns j))) := h4
  clear h4 h2
  go_enter Tryz.func53, Tryz.ntmps53
  go_wp2
  go_loopw [3, 8] (fun l i wr => ∃ (k : Nat) (lv : Int), k ≤ ns.length ∧ i = .int .i64 k ∧ l = .int .i64 lv ∧ Hid (membersB lv (ns.drop k) = membersB 0 ns) ∧ wr = w) (fun _ i _ => ns.length - (intOf i).toNat)
  case atStart => exact ⟨0, 0, Nat.zero_le _, rfl, rfl, rfl, rfl⟩
  case round =>
    obtain ⟨k, lv, hk, rfl, rfl, HM, hw⟩ := hrel
    have hw' := hw.symm
    subst hw'
    by_cases hx : k < ns.length
    · obtain ⟨g, off, rfl, hc⟩ := H4.out (by omega)
      have c0 := hc k hx
      have hM := HM.out
      rw [members_at ns k hx] at hM
      obtain ⟨x, hxx⟩ : ∃ x, atI ns k = x := ⟨_, rfl⟩
      rw [hxx] at hM c0
      clear hc HM
      by_cases hl : x ≤ lv
      · have HB : Hid (membersB 0 ns = false) := by
          show _ = _
          rw [← hM, decide_eq_false (by omega)]; rfl
        clear hM
        go_wp2
        go_ret
        exact ⟨by rw [HB.out]; rfl, rfl⟩
      · by_cases h7 : 7 < x
        · have HB : Hid (membersB 0 ns = false) := by
            show _ = _
            rw [← hM, decide_eq_false (p := x ≤ 7) (by omega), Bool.and_false]; rfl
          clear hM
          go_wp2
          go_ret
          exact ⟨by rw [HB.out]; rfl, rfl⟩
        · have HB : Hid (membersB x (ns.drop (k + 1)) = membersB 0 ns) := by
            show _ = _
            rw [← hM, decide_eq_true (by omega), decide_eq_true (by omega)]; rfl
          clear hM
          go_wp2
          go_roundw
          case rel => exact ⟨k + 1, x, by omega, rfl, rfl, HB, trivial⟩
          case measure => simp [intOf]; omega
    · have hlt' : ¬ (k : Int) < (ns.length : Int) := by omega
      have HB : Hid (decide (0 < lv) = membersB 0 ns) := by
        have := HM.out
        rw [List.drop_eq_nil_of_le (by omega)] at this
        exact this
      clear HM
      by_cases hl : 0 < lv
      · go_wp2
        go_ret
        exact ⟨by rw [← HB.out, decide_eq_true (by omega)]; rfl, rfl⟩
      · go_wp2
        go_ret
        exact ⟨by rw [← HB.out, decide_eq_false (by omega)]; rfl, rfl⟩

end Go.Proofs.YtjndgekpdmlbiaaGreatDoor.Kp
namespace Go.Proofs.YtjndgekpdmlbiaaGreatDoor.Kp
open Go.RowKit Bn

/-- The four cells of an entry. -/
def EntAt (w : World) (g o : Nat) (e : Ent) : Prop :=
  ∃ ad ld cd, w.cell? ⟨g, o, none⟩ = some (.int .i64 e.idx) ∧ w.cell? ⟨g, o + 1, none⟩ = some (.int .i64 e.term) ∧ w.cell? ⟨g, o + 2, none⟩ = some (.int .i64 e.kind) ∧
    w.cell? ⟨g, o + 3, none⟩ = some (.slice ad ld cd) ∧ Sl w (.slice ad ld cd) e.data
/-- A slice value that reads as these entries. -/
def Es (w : World) (v : Value) (es : List Ent) : Prop :=
  ∃ ao cap, v = .slice ao es.length cap ∧ es.length ≤ cap ∧ cap ≤ maxLen ∧
    (0 < es.length → ∃ g off, ao = some ⟨g, off, none⟩ ∧ ∀ j e, es[j]? = some e → EntAt w g (off + j * 4) e)
theorem EntAt.below {w w' : World} {g o : Nat} {e : Ent} (h : EntAt w g o e) (hb : Below w.heap.size w w') : EntAt w' g o e := by
  obtain ⟨ad, ld, cd, h0, h1, h2, h3, h4⟩ := h
  have K : ∀ o u, w.cell? ⟨g, o, none⟩ = some u → w'.cell? ⟨g, o, none⟩ = some u := fun o u hc => (World.cell?_of_block (w := w) (a := ⟨g, o, none⟩) (hb.block g (cell_lt hc))).trans hc
  exact ⟨ad, ld, cd, K _ _ h0, K _ _ h1, K _ _ h2, K _ _ h3, h4.below hb⟩
theorem Es.below {w w' : World} {v : Value} {es : List Ent} (h : Es w v es) (hb : Below w.heap.size w w') : Es w' v es := by
  obtain ⟨ao, cap, hv, h1, h2, h4⟩ := h
  refine ⟨ao, cap, hv, h1, h2, fun hp => ?_⟩
  obtain ⟨g, off, ha, hc⟩ := h4 hp
  exact ⟨g, off, ha, fun j e hj => (hc j e hj).below hb⟩

theorem Wb.alloc {w0 w : World} {bs : List UInt8} (h : Wb w0 w bs) (o : Obj) : Wb w0 (w.alloc o) bs := by
  obtain ⟨v, hW, hb⟩ := h
  refine ⟨v, ⟨?_, hW.2.alloc _⟩, hb.alloc hb.size o⟩
  have := ((Below.refl w.heap.size w).alloc (Nat.le_refl _) o).block w0.heap.size hW.lt
  rw [this]; exact hW.1

theorem encE_le (e : Ent) : (encE e).length ≤ 40 + e.data.length := by
  have h1 := enc_le e.idx
  have h2 := enc_le e.term
  have h3 := enc_le e.kind
  have h4 := enc_le e.data.length
  simp only [encE, encT, List.length_append]
  omega

def esz (es : List Ent) : Nat := (es.map fun e => 40 + e.data.length).sum
theorem flat_le (es : List Ent) : (es.flatMap encE).length ≤ esz es := by
  induction es with
  | nil => simp [esz]
  | cons e es ih => have := encE_le e; simp [esz] at ih ⊢; omega
theorem esz_cut (es : List Ent) (k : Nat) (e : Ent) (h : es[k]? = some e) : esz (es.take k) + (40 + e.data.length) ≤ esz es := by
  obtain ⟨hk, rfl⟩ := List.getElem?_eq_some_iff.1 h
  have e1 : es = es.take k ++ es[k] :: es.drop (k + 1) := by simp
  have : esz es = esz (es.take k) + (40 + es[k].data.length + esz (es.drop (k + 1))) := by
    conv => lhs; rw [e1]
    rw [esz, List.map_append, List.map_cons, List.sum_append, List.sum_cons]
    rfl
  omega
theorem take_more (es : List Ent) (k : Nat) (e : Ent) (h : es[k]? = some e) : (es.take (k + 1)).flatMap encE = (es.take k).flatMap encE ++ encE e := by
  obtain ⟨hk, rfl⟩ := List.getElem?_eq_some_iff.1 h
  rw [List.take_add_one, List.getElem?_eq_getElem hk, Option.toList_some, List.flatMap_append]
  simp

/-- Blocks of other kinds stay. -/
def Oth (w w' : World) : Prop := ∀ (k : Nat) (c : Array Value) (T : TypeId) (f : Nat × Nat), T ≠ 5 → T ≠ 169 → w.heap[k]? = some (Obj.cells c T f) → w'.heap[k]? = some (Obj.cells c T f)
theorem oth_of {w w' : World} {b B : Nat} {v : Value} {bs : List UInt8} (hW : Wr w 169 b B v bs) (hr : Wrote w w' B v.ownBlock) : Oth w w' := by
  intro k c T f h5 h9 hk
  rw [hr.block k (lt_of_block hk) ?_ ?_]
  · exact hk
  · rintro rfl
    rw [hW.1] at hk
    simp at hk
    exact h9 hk.2.1.symm
  · intro e
    rcases hW.2.2 with ⟨rfl, _⟩ | ⟨g, cap, cur, rfl, _, hg, _⟩
    · simp [Value.ownBlock] at e
    · simp [Value.ownBlock] at e
      subst e
      rw [hg] at hk
      simp at hk
      exact h5 hk.2.1.symm

theorem wo_num {w0 w : World} {bs : List UInt8} (h : Wb w0 w bs) (n : Int) (hn : I64 n) (hl : bs.length + 10 ≤ 140737488355328) :
    Calls Tryz.prog 115 #[.pointer (some ⟨w0.heap.size, 0, none⟩), .int .i64 n] w fun e w' => e = .returned (.tuple #[]) ∧ Hid (Wb w0 w' (bs ++ enc n) ∧ Oth w w') := by
  obtain ⟨v, hW, hb⟩ := h
  refine (wnum_any _ _ v bs n w hW (by have := hW.lt; omega) hn.1 hn.2 hl).mono ?_
  rintro e w' ⟨rfl, v', hW', hr, _⟩
  exact ⟨rfl, Wb.step hW hb hW' hr, oth_of hW hr⟩
theorem wo_text {w0 w : World} {bs t : List UInt8} {vt : Value} (h : Wb w0 w bs) (hS : Sl w0 vt t) (hl : bs.length + 10 + t.length ≤ 140737488355328) :
    Calls Tryz.prog 136 #[.pointer (some ⟨w0.heap.size, 0, none⟩), vt] w fun e w' => e = .returned (.tuple #[]) ∧ Hid (Wb w0 w' (bs ++ encT t) ∧ Oth w w') := by
  obtain ⟨v, hW, hb⟩ := h
  refine (wtext_any _ _ v _ bs t w hW (by have := hW.lt; omega) (hS.below hb) (fun w' hw => ?_) hl).mono ?_
  · exact hS.below (hb.trans (Wl.wrote_below hw (Nat.le_refl _) (fun k hk => by have := (hW.2.lt k hk).1; omega) hb.size))
  · rintro e w' ⟨rfl, v', hW', hr, _⟩
    exact ⟨rfl, Wb.step hW hb hW' hr, oth_of hW hr⟩

theorem four_cells {w : World} {B T : Nat} {a b c d : Value} (h : w.heap[B]? = some (.cells #[a, b, c, d] T (0, 0))) :
    w.cell? ⟨B, 0, none⟩ = some a ∧ w.cell? ⟨B, 1, none⟩ = some b ∧ w.cell? ⟨B, 2, none⟩ = some c ∧ w.cell? ⟨B, 3, none⟩ = some d := by
  refine ⟨?_, ?_, ?_, ?_⟩ <;> rw [cell_of_row w B _ _ T (0, 0) h] <;> rfl

/-- What writing one entry does, call by call. -/
theorem ent_calls {w0 w : World} {bs : List UInt8} (h : Wb w0 w bs) (e : Ent) (he : e.ok) (ad : Option Addr) (ld cd : Nat) (hS : Sl w0 (.slice ad ld cd) e.data) (hl : bs.length + (40 + e.data.length) ≤ 140737488355328) (E : Nat)
    (hE : w.heap[E]? = some (.cells #[.int .i64 e.idx, .int .i64 e.term, .int .i64 e.kind, .slice ad ld cd] 65 (0, 0))) :
    Calls Tryz.prog 115 #[.pointer (some ⟨w0.heap.size, 0, none⟩), .int .i64 e.idx] w fun x w1 => x = .returned (.tuple #[]) ∧ w1.cell? ⟨E, 1, none⟩ = some (.int .i64 e.term) ∧ Hid (
    Calls Tryz.prog 115 #[.pointer (some ⟨w0.heap.size, 0, none⟩), .int .i64 e.term] w1 fun x w2 => x = .returned (.tuple #[]) ∧ w2.cell? ⟨E, 2, none⟩ = some (.int .i64 e.kind) ∧ Hid (
    Calls Tryz.prog 115 #[.pointer (some ⟨w0.heap.size, 0, none⟩), .int .i64 e.kind] w2 fun x w3 => x = .returned (.tuple #[]) ∧ w3.cell? ⟨E, 3, none⟩ = some (.slice ad ld cd) ∧ Hid (
    Calls Tryz.prog 136 #[.pointer (some ⟨w0.heap.size, 0, none⟩), .slice ad ld cd] w3 fun x w4 => x = .returned (.tuple #[]) ∧ Hid (Wb w0 w4 (bs ++ encE e))))) := by
  obtain ⟨o1, o2, o3, o4⟩ := he
  have l1 := enc_le e.idx
  have l2 := enc_le e.term
  have l3 := enc_le e.kind
  refine (wo_num h _ o1 (by omega)).mono ?_
  rintro x w1 ⟨rfl, h1⟩
  have E1 := h1.out.2 _ _ _ _ (by decide) (by decide) hE
  refine ⟨rfl, (four_cells E1).2.1, ?_⟩
  refine (wo_num h1.out.1 _ o2 (by simp only [List.length_append]; omega)).mono ?_
  rintro x w2 ⟨rfl, h2⟩
  have E2 := h2.out.2 _ _ _ _ (by decide) (by decide) E1
  refine ⟨rfl, (four_cells E2).2.2.1, ?_⟩
  refine (wo_num h2.out.1 _ o3 (by simp only [List.length_append]; omega)).mono ?_
  rintro x w3 ⟨rfl, h3⟩
  have E3 := h3.out.2 _ _ _ _ (by decide) (by decide) E2
  refine ⟨rfl, (four_cells E3).2.2.2, ?_⟩
  refine (wo_text h3.out.1 hS (by simp only [List.length_append]; omega)).mono ?_
  rintro x w4 ⟨rfl, h4⟩
  refine ⟨rfl, ?_⟩
  have := h4.out.1
  simp only [List.append_assoc] at this
  show Wb _ _ _
  simpa only [encE, List.append_assoc] using this

set_option maxHeartbeats 1000000 in
theorem writeEntries_any {w0 w : World} {bs : List UInt8} (h : Wb w0 w bs) (v : Value) (es : List Ent) (hE : Es w0 v es) (ho : ∀ e ∈ es, e.ok) (hl : bs.length + esz es ≤ 140737488355328) :
    Calls Tryz.prog 117 #[.pointer (some ⟨w0.heap.size, 0, none⟩), v] w fun e w' => e = .returned (.tuple #[]) ∧ Hid (Wb w0 w' (bs ++ es.flatMap encE)) := by
  obtain ⟨ao, cap, rfl, h1, h2, h4⟩ := hE
  have h2' : cap ≤ 9223372036854775807 := h2
  have H4 : Hid (0 < es.length → ∃ g off, ao = some ⟨g, off, none⟩ ∧ ∀ j e, es[j]? = some e → EntAt w0 g (off + j * 4) e) := h4
  have HO : Hid (∀ e ∈ es, e.ok) := ho
  have HL : Hid (bs.length + esz es ≤ 140737488355328) := hl
  have H0 : Hid (Wb w0 w bs) := h
  clear h4 h2 ho hl h
  go_enter Tryz.func117, Tryz.ntmps117
  go_wp2
  go_loopw [8] (fun i wr => ∃ k : Nat, k ≤ es.length ∧ i = .int .i64 k ∧ Hid (Wb w0 wr (bs ++ (es.take k).flatMap encE))) (fun i _ => es.length - (intOf i).toNat)
  case atStart => exact ⟨0, Nat.zero_le _, rfl, by show Wb _ _ _; simpa using H0.out⟩
  case round =>
    obtain ⟨k, hk, rfl, HB⟩ := hrel
    by_cases hx : k < es.length
    · obtain ⟨g, off, rfl, hc⟩ := H4.out (by omega)
      obtain ⟨e, he⟩ : ∃ e, es[k]? = some e := ⟨_, List.getElem?_eq_getElem hx⟩
      obtain ⟨ad, ld, cd, c0, c1, c2, c3, HS⟩ := hc k e he
      obtain ⟨_, hWr, hbb⟩ := HB.out
      have K : ∀ o u, w0.cell? ⟨g, o, none⟩ = some u → wr.cell? ⟨g, o, none⟩ = some u := fun o u hc => (World.cell?_of_block (w := w0) (a := ⟨g, o, none⟩) (hbb.block g (cell_lt hc))).trans hc
      have d0 := K _ _ c0
      have d1 := K _ _ c1
      have d2 := K _ _ c2
      have d3 := K _ _ c3
      have HC := ent_calls (HB.out.alloc (.cells #[.int .i64 e.idx, .int .i64 e.term, .int .i64 e.kind, .slice ad ld cd] 65)) e (HO.out e (List.mem_of_getElem? he)) ad ld cd HS (by
        have h1 := esz_cut es k e he
        have h2 := flat_le (es.take k)
        have h3 := HL.out
        rw [List.length_append]
        omega) wr.heap.size (heap_alloc_new _ _)
      have H1 : Hid _ := HC
      clear hc c0 c1 c2 c3 K hWr hbb HS HC
      go_wp2_with (first
        | (go_at_call 115; first
            | (refine Calls.mono H1.out ?_; rintro x w1 ⟨rfl, e1, H2⟩; clear H1)
            | (refine Calls.mono H2.out ?_; rintro x w2 ⟨rfl, e2, H3⟩; clear H2)
            | (refine Calls.mono H3.out ?_; rintro x w3 ⟨rfl, e3, H5⟩; clear H3))
        | (go_at_call 136; refine Calls.mono H5.out ?_; rintro x w4 ⟨rfl, H6⟩; clear H5))
      go_roundw
      case rel =>
        refine ⟨k + 1, by omega, rfl, ?_⟩
        show Wb _ _ _
        rw [take_more es k e he, ← List.append_assoc]
        exact H6.out
      case measure => simp [intOf]; omega
    · have hlt' : ¬ (k : Int) < (es.length : Int) := by omega
      go_wp2
      go_end0
      have := HB.out
      rw [List.take_of_length_le (by omega)] at this
      exact ⟨rfl, this⟩

end Go.Proofs.YtjndgekpdmlbiaaGreatDoor.Kp
namespace Go.Proofs.YtjndgekpdmlbiaaGreatDoor.Kp
open Go.RowKit Bn

/-- A writer, and a snapshot's own block. -/
def Sx (w0 : World) (E : Nat) (a b c d : Value) (w : World) (bs : List UInt8) : Prop := Wb w0 w bs ∧ w.heap[E]? = some (Obj.cells #[a, b, c, d] 35 (0, 0))

theorem sx_num {w0 w : World} {E : Nat} {a b c d : Value} {bs : List UInt8} (h : Sx w0 E a b c d w bs) (n : Int) (hn : I64 n) (hl : bs.length + 10 ≤ 140737488355328) :
    Calls Tryz.prog 115 #[.pointer (some ⟨w0.heap.size, 0, none⟩), .int .i64 n] w fun e w' => e = .returned (.tuple #[]) ∧ w'.cell? ⟨E, 1, none⟩ = some b ∧ w'.cell? ⟨E, 2, none⟩ = some c ∧ w'.cell? ⟨E, 3, none⟩ = some d ∧ Hid (Sx w0 E a b c d w' (bs ++ enc n)) := by
  refine (wo_num h.1 n hn hl).mono ?_
  rintro e w' ⟨rfl, h'⟩
  have E1 := h'.out.2 _ _ _ _ (by decide) (by decide) h.2
  exact ⟨rfl, (four_cells E1).2.1, (four_cells E1).2.2.1, (four_cells E1).2.2.2, h'.out.1, E1⟩

def ssz (s : Snp) : Nat := 40 + 10 * s.conf.length + s.data.length
theorem conf_le (ns : List Int) : (ns.flatMap enc).length ≤ 10 * ns.length := by
  induction ns with
  | nil => simp
  | cons n ns ih => have := enc_le n; simp only [List.flatMap_cons, List.length_append, List.length_cons]; omega
theorem encS_le (s : Snp) : (encS s).length ≤ ssz s := by
  have h1 := enc_le s.idx
  have h2 := enc_le s.term
  have h3 := enc_le s.conf.length
  have h4 := enc_le s.data.length
  have h5 := conf_le s.conf
  simp only [encS, encT, ssz, List.length_append]
  omega
theorem conf_more (ns : List Int) (k : Nat) (h : k < ns.length) : (ns.take (k + 1)).flatMap enc = (ns.take k).flatMap enc ++ enc (atI ns k) := by
  rw [List.take_add_one, List.getElem?_eq_getElem h, Option.toList_some, List.flatMap_append, atI, List.getD, List.getElem?_eq_getElem h]
  simp

set_option maxHeartbeats 1000000 in
theorem writeSnap_any {w0 w : World} {bs : List UInt8} (h : Wb w0 w bs) (s : Snp) (hs : s.ok) (vc vd : Value) (hC : Is w0 vc s.conf) (hD : Sl w0 vd s.data) (hl : bs.length + ssz s ≤ 140737488355328) :
    Calls Tryz.prog 116 #[.pointer (some ⟨w0.heap.size, 0, none⟩), .agg #[.int .i64 s.idx, .int .i64 s.term, vc, vd]] w fun e w' => e = .returned (.tuple #[]) ∧ Hid (Wb w0 w' (bs ++ encS s)) := by
  obtain ⟨ao, cap, rfl, h1, h2, h4⟩ := hC
  obtain ⟨aod, capd, rfl, _, _⟩ := hD.shape
  have h2' : cap ≤ 9223372036854775807 := h2
  have H4 : Hid (0 < s.conf.length → ∃ g off, ao = some ⟨g, off, none⟩ ∧ ∀ j, j < s.conf.length → w0.cell? ⟨g, off + j, none⟩ = some (.int .i64 (atI s.conf j))) := h4
  have HO : Hid s.ok := hs
  have HL : Hid (bs.length + ssz s ≤ 140737488355328) := hl
  have HD : Hid (Sl w0 (.slice aod s.data.length capd) s.data) := hD
  have H0 : Hid (Sx w0 w.heap.size (.int .i64 s.idx) (.int .i64 s.term) (.slice ao s.conf.length cap) (.slice aod s.data.length capd) (w.alloc (.cells #[.int .i64 s.idx, .int .i64 s.term, .slice ao s.conf.length cap, .slice aod s.data.length capd] 35)) bs) := ⟨h.alloc _, heap_alloc_new _ _⟩
  have L1 : Hid ((bs ++ enc s.idx ++ enc s.term).length + 10 ≤ 140737488355328) := by
    have h1 := enc_le s.idx
    have h2 := enc_le s.term
    show _ ≤ _
    simp only [ssz] at hl
    simp only [List.length_append]
    omega
  clear h4 h2 hs hl hD h
  go_enter Tryz.func116, Tryz.ntmps116
  go_wp2_with (go_at_call 115; first
    | (refine (sx_num H0.out s.idx HO.out.1 (by have := L1.out; simp only [List.length_append] at this; omega)).mono ?_; rintro x w1 ⟨rfl, p1, p2, p3, H1⟩; clear H0)
    | (refine (sx_num H1.out s.term HO.out.2.1 (by have := L1.out; simp only [List.length_append] at this ⊢; omega)).mono ?_; rintro x w2 ⟨rfl, q1, q2, q3, H2⟩; clear H1 p1 p2 p3)
    | (refine (sx_num H2.out s.conf.length ⟨by omega, by omega⟩ L1.out).mono ?_; rintro x w3 ⟨rfl, r1, r2, r3, H3⟩; clear H2 q1 q2 q3))
  clear r1 r2 r3
  obtain ⟨pre, HP⟩ : ∃ pre, Hid (pre = bs ++ enc s.idx ++ enc s.term ++ enc (s.conf.length : Int)) := ⟨_, rfl⟩
  have HPL : Hid (pre.length + 10 * s.conf.length + 10 + s.data.length ≤ 140737488355328) := by
    have e1 := enc_le s.idx
    have e2 := enc_le s.term
    have e3 := enc_le s.conf.length
    have hl := HL.out
    show _ ≤ _
    rw [HP.out]
    simp only [ssz] at hl
    simp only [List.length_append]
    omega
  rw [← HP.out] at H3
  go_loopw [22] (fun i wr => ∃ k : Nat, k ≤ s.conf.length ∧ i = .int .i64 k ∧ Hid (Sx w0 w.heap.size (.int .i64 s.idx) (.int .i64 s.term) (.slice ao s.conf.length cap) (.slice aod s.data.length capd) wr (pre ++ (s.conf.take k).flatMap enc))) (fun i _ => s.conf.length - (intOf i).toNat)
  case atStart => exact ⟨0, Nat.zero_le _, rfl, by show Sx _ _ _ _ _ _ _ _; simpa using H3.out⟩
  case round =>
    obtain ⟨k, hk, rfl, HB⟩ := hrel
    by_cases hx : k < s.conf.length
    · obtain ⟨g, off, rfl, hc⟩ := H4.out (by omega)
      have c0 := hc k hx
      obtain ⟨_, _, hbb⟩ := HB.out.1
      have d0 := (World.cell?_of_block (w := w0) (a := ⟨g, off + k, none⟩) (hbb.block g (cell_lt c0))).trans c0
      have HN : Hid (I64 (atI s.conf k)) := by
        have := HO.out.2.2.1 (atI s.conf k) (by rw [atI, List.getD, List.getElem?_eq_getElem hx]; simp)
        exact this
      have HQ : Hid ((pre ++ (s.conf.take k).flatMap enc).length + 10 ≤ 140737488355328) := by
        have e1 := conf_le (s.conf.take k)
        have e2 := HPL.out
        show _ ≤ _
        simp only [List.length_append, List.length_take] at e1 ⊢
        omega
      clear hc c0 hbb
      go_wp2_with (go_at_call 115; refine (sx_num HB.out (atI s.conf k) HN.out HQ.out).mono ?_; rintro x w4 ⟨rfl, p1, p2, p3, H5⟩; clear p1 p2 p3)
      go_roundw
      case rel =>
        refine ⟨k + 1, by omega, rfl, ?_⟩
        show Sx _ _ _ _ _ _ _ _
        rw [conf_more s.conf k hx, ← List.append_assoc]
        exact H5.out
      case measure => simp [intOf]; omega
    · have hlt' : ¬ (k : Int) < (s.conf.length : Int) := by omega
      have HE := HB.out
      rw [List.take_of_length_le (by omega)] at HE
      obtain ⟨hWb, hE⟩ := HE
      have d3 := (four_cells hE).2.2.2
      have HW : Hid (Wb w0 wr (pre ++ s.conf.flatMap enc)) := hWb
      have HQ : Hid ((pre ++ s.conf.flatMap enc).length + 10 + s.data.length ≤ 140737488355328) := by
        have e1 := conf_le s.conf
        have e2 := HPL.out
        show _ ≤ _
        simp only [List.length_append]
        omega
      clear hWb hE HB
      go_wp2_with (go_at_call 136; refine (wo_text HW.out HD.out HQ.out).mono ?_; rintro x w4 ⟨rfl, H5⟩)
      go_end0
      refine ⟨rfl, ?_⟩
      have := H5.out.1
      rw [HP.out] at this
      show Wb _ _ _
      simpa only [encS, List.append_assoc] using this

end Go.Proofs.YtjndgekpdmlbiaaGreatDoor.Kp
namespace Go.Proofs.YtjndgekpdmlbiaaGreatDoor.Kp
open Go.RowKit Bn

/-- The four cells of a snapshot. -/
def SnpAt (w : World) (g o : Nat) (s : Snp) : Prop :=
  ∃ ac lc cc ad ld cd, w.cell? ⟨g, o, none⟩ = some (.int .i64 s.idx) ∧ w.cell? ⟨g, o + 1, none⟩ = some (.int .i64 s.term) ∧ w.cell? ⟨g, o + 2, none⟩ = some (.slice ac lc cc) ∧ w.cell? ⟨g, o + 3, none⟩ = some (.slice ad ld cd) ∧
    Is w (.slice ac lc cc) s.conf ∧ Sl w (.slice ad ld cd) s.data
/-- A pointer to a snapshot, or none. -/
def Ps (w : World) (p : Option Addr) : Option Snp → Prop
  | none => p = none
  | some s => ∃ g o, p = some ⟨g, o, none⟩ ∧ SnpAt w g o s
theorem SnpAt.below {w w' : World} {g o : Nat} {s : Snp} (h : SnpAt w g o s) (hb : Below w.heap.size w w') : SnpAt w' g o s := by
  obtain ⟨ac, lc, cc, ad, ld, cd, h0, h1, h2, h3, h4, h5⟩ := h
  have K : ∀ o u, w.cell? ⟨g, o, none⟩ = some u → w'.cell? ⟨g, o, none⟩ = some u := fun o u hc => (World.cell?_of_block (w := w) (a := ⟨g, o, none⟩) (hb.block g (cell_lt hc))).trans hc
  exact ⟨ac, lc, cc, ad, ld, cd, K _ _ h0, K _ _ h1, K _ _ h2, K _ _ h3, h4.below hb, h5.below hb⟩

theorem six_cells {w : World} {B T : Nat} {a b c d e f y6 y7 y8 : Value} (h : w.heap[B]? = some (.cells #[a, b, c, d, e, f, y6, y7, y8] T (0, 0))) :
    w.cell? ⟨B, 0, none⟩ = some a ∧ w.cell? ⟨B, 1, none⟩ = some b ∧ w.cell? ⟨B, 2, none⟩ = some c ∧ w.cell? ⟨B, 3, none⟩ = some d ∧ w.cell? ⟨B, 4, none⟩ = some e ∧ w.cell? ⟨B, 5, none⟩ = some f := by
  refine ⟨?_, ?_, ?_, ?_, ?_, ?_⟩ <;> rw [cell_of_row w B _ _ T (0, 0) h] <;> rfl

/-- A writer at B, behind the six cells of a call at E; at most m bytes are in it. -/
def Rc (w0 : World) (E B : Nat) (a b c d e f y6 y7 y8 : Value) (w : World) (m : Nat) (bs : List UInt8) : Prop :=
  B = w0.heap.size ∧ Wb w0 w bs ∧ w0.heap[E]? = some (Obj.cells #[a, b, c, d, e, f, y6, y7, y8] 43 (0, 0)) ∧ bs.length ≤ m

theorem Rc.six {w0 w : World} {E B m : Nat} {a b c d e f y6 y7 y8 : Value} {bs : List UInt8} (h : Rc w0 E B a b c d e f y6 y7 y8 w m bs) :
    w.cell? ⟨E, 0, none⟩ = some a ∧ w.cell? ⟨E, 1, none⟩ = some b ∧ w.cell? ⟨E, 2, none⟩ = some c ∧ w.cell? ⟨E, 3, none⟩ = some d ∧ w.cell? ⟨E, 4, none⟩ = some e ∧ w.cell? ⟨E, 5, none⟩ = some f := by
  obtain ⟨_, ⟨_, _, hb⟩, hE, _⟩ := h
  exact six_cells ((hb.block E (lt_of_block hE)).trans hE)

/-- What a call of a writer leaves. -/
def Left (w0 : World) (E B : Nat) (a b c d e f y6 y7 y8 : Value) (m : Nat) (bs : List UInt8) : Ending → World → Prop := fun x w' =>
  x = .returned (.tuple #[]) ∧ w'.cell? ⟨E, 0, none⟩ = some a ∧ w'.cell? ⟨E, 1, none⟩ = some b ∧ w'.cell? ⟨E, 2, none⟩ = some c ∧ w'.cell? ⟨E, 3, none⟩ = some d ∧ w'.cell? ⟨E, 4, none⟩ = some e ∧ w'.cell? ⟨E, 5, none⟩ = some f ∧ Hid (Rc w0 E B a b c d e f y6 y7 y8 w' m bs)
theorem Rc.left {w0 w : World} {E B m : Nat} {a b c d e f y6 y7 y8 : Value} {bs : List UInt8} (h : Rc w0 E B a b c d e f y6 y7 y8 w m bs) : Left w0 E B a b c d e f y6 y7 y8 m bs (.returned (.tuple #[])) w := by
  obtain ⟨h0, h1, h2, h3, h4, h5⟩ := h.six
  exact ⟨rfl, h0, h1, h2, h3, h4, h5, h⟩

theorem rc_flag {w0 w : World} {E B m : Nat} {a b c d e f y6 y7 y8 : Value} {bs : List UInt8} (h : Rc w0 E B a b c d e f y6 y7 y8 w m bs) (x : Bool) (hl : m + 1 ≤ 140737488355328) :
    Calls Tryz.prog 114 #[.pointer (some ⟨B, 0, none⟩), .bool x] w (Left w0 E B a b c d e f y6 y7 y8 (m + 1) (bs ++ fl x)) := by
  obtain ⟨rfl, hW, hE, hm⟩ := h
  refine (wb_flag hW x (by omega)).mono ?_
  rintro _ w' ⟨rfl, h'⟩
  exact Rc.left ⟨rfl, h'.out, hE, by simp [fl]; omega⟩
theorem rc_num {w0 w : World} {E B m : Nat} {a b c d e f y6 y7 y8 : Value} {bs : List UInt8} (h : Rc w0 E B a b c d e f y6 y7 y8 w m bs) (n : Int) (hn : I64 n) (hl : m + 10 ≤ 140737488355328) :
    Calls Tryz.prog 115 #[.pointer (some ⟨B, 0, none⟩), .int .i64 n] w (Left w0 E B a b c d e f y6 y7 y8 (m + 10) (bs ++ enc n)) := by
  obtain ⟨rfl, hW, hE, hm⟩ := h
  refine (wb_num hW n hn (by omega)).mono ?_
  rintro _ w' ⟨rfl, h'⟩
  exact Rc.left ⟨rfl, h'.out, hE, by have := enc_le n; rw [List.length_append]; omega⟩
theorem rc_snap {w0 w : World} {E B m : Nat} {a b c d e f y6 y7 y8 : Value} {bs : List UInt8} (h : Rc w0 E B a b c d e f y6 y7 y8 w m bs) (s : Snp) (hs : s.ok) (vc vd : Value) (hC : Is w0 vc s.conf) (hD : Sl w0 vd s.data) (hl : m + ssz s ≤ 140737488355328) :
    Calls Tryz.prog 116 #[.pointer (some ⟨B, 0, none⟩), .agg #[.int .i64 s.idx, .int .i64 s.term, vc, vd]] w (Left w0 E B a b c d e f y6 y7 y8 (m + ssz s) (bs ++ encS s)) := by
  obtain ⟨rfl, hW, hE, hm⟩ := h
  refine (writeSnap_any hW s hs vc vd hC hD (by omega)).mono ?_
  rintro _ w' ⟨rfl, h'⟩
  exact Rc.left ⟨rfl, h'.out, hE, by have := encS_le s; rw [List.length_append]; omega⟩
theorem rc_ents {w0 w : World} {E B m : Nat} {a b c d e f y6 y7 y8 : Value} {bs : List UInt8} (h : Rc w0 E B a b c d e f y6 y7 y8 w m bs) (v : Value) (es : List Ent) (hE' : Es w0 v es) (ho : ∀ e ∈ es, e.ok) (hl : m + esz es ≤ 140737488355328) :
    Calls Tryz.prog 117 #[.pointer (some ⟨B, 0, none⟩), v] w (Left w0 E B a b c d e f y6 y7 y8 (m + esz es) (bs ++ es.flatMap encE)) := by
  obtain ⟨rfl, hW, hE, hm⟩ := h
  refine (writeEntries_any hW v es hE' ho (by omega)).mono ?_
  rintro _ w' ⟨rfl, h'⟩
  exact Rc.left ⟨rfl, h'.out, hE, by have := flat_le es; rw [List.length_append]; omega⟩
theorem rc_bytes {w0 w : World} {E B m : Nat} {a b c d e f y6 y7 y8 : Value} {bs : List UInt8} (h : Rc w0 E B a b c d e f y6 y7 y8 w m bs) (hl : m ≤ 140737488355328) :
    Calls Tryz.prog 118 #[.pointer (some ⟨B, 0, none⟩)] w fun x w' => ∃ ao L cap, x = .returned (.slice ao L cap) ∧ Hid (w'.ownsRow w0.heap.size 5 1 (.slice ao L cap) bs.length (cells8 bs) ∧ Below w0.heap.size w0 w') := by
  obtain ⟨rfl, hW, hE, hm⟩ := h
  exact wb_bytes hW (by omega)

def rsz (r : Rdy) : Nat := 100 + esz r.ents + (match r.snap with | none => 0 | some s => ssz s)

set_option maxHeartbeats 2000000 in
theorem encode_any (anew : Bool) (r : Rdy) (y6 y7 y8 : Value) (p : Option Addr) (ae : Option Addr) (le ce : Nat) (w : World) (hE : Es w (.slice ae le ce) r.ents) (hP : Ps w p r.snap) (ho : r.ok) (hl : rsz r ≤ 140737488355328) :
    Calls Tryz.prog 91 #[.bool anew, .agg #[.int .i64 r.term, .int .i64 r.vote, .bool r.saved, .int .i64 r.first, .slice ae le ce, .pointer p, y6, y7, y8]] w fun x w' => ∃ ao L cap, x = .returned (.slice ao L cap) ∧ Hid (w'.ownsRow w.heap.size 5 1 (.slice ao L cap) (encR anew r).length (cells8 (encR anew r)) ∧ Below w.heap.size w w') := by
  obtain ⟨term, vote, saved, first, ents, snap⟩ := r
  obtain ⟨o1, o2, o3, o4, o5⟩ := ho
  have O1 : Hid (I64 term) := o1
  have O2 : Hid (I64 vote) := o2
  have O3 : Hid (I64 first) := o3
  have O4 : Hid (∀ e ∈ ents, e.ok) := o4
  obtain ⟨w0, hw0⟩ : ∃ w0, w0 = w.alloc (.cells #[.int .i64 term, .int .i64 vote, .bool saved, .int .i64 first, .slice ae le ce, .pointer p, y6, y7, y8] 43) := ⟨_, rfl⟩
  have hs0 : w0.heap.size = w.heap.size + 1 := by rw [hw0]; simp
  have hb0 : Below w.heap.size w w0 := by rw [hw0]; exact (Below.refl _ _).alloc (Nat.le_refl _) _
  have HE : Hid (Es w0 (.slice ae le ce) ents) := hE.below hb0
  have H0 : Hid (Rc w0 w.heap.size (w.heap.size + 1) (.int .i64 term) (.int .i64 vote) (.bool saved) (.int .i64 first) (.slice ae le ce) (.pointer p) y6 y7 y8 (w0.alloc (.cells #[.slice none 0 0] 169)) 0 []) :=
    ⟨hs0.symm, wb_new w0, by rw [hw0]; exact heap_alloc_new _ _, Nat.le_refl _⟩
  have HF : Hid (∀ (w' : World) (v : Value) (bs : List UInt8), w'.ownsRow w0.heap.size 5 1 v bs.length (cells8 bs) ∧ Below w0.heap.size w0 w' → w'.ownsRow w.heap.size 5 1 v bs.length (cells8 bs) ∧ Below w.heap.size w w') := by
    intro w' v bs h
    exact ⟨Fr.own_lower h.1 (by omega), hb0.trans (h.2.mono (by omega))⟩
  cases snap with
  | none =>
    have hp : p = none := hP
    subst hp
    have HL : Hid (100 + esz ents ≤ 140737488355328) := by
      have : rsz ⟨term, vote, saved, first, ents, none⟩ = 100 + esz ents := rfl
      show _ ≤ _
      omega
    clear hE hP hl o1 o2 o3 o4 o5 hb0 hs0
    subst hw0
    go_enter Tryz.func91, Tryz.ntmps91
    cases saved
    all_goals by_cases hf : 0 < first
    all_goals (
      go_wp2_with (first
        | (go_at_call 114; refine (rc_flag H0.out _ (by have := HL.out; omega)).mono ?_; (try clear c0 c1 c2 c3 c4 c5); rintro x w1 ⟨rfl, c0, c1, c2, c3, c4, c5, H0⟩)
        | (go_at_call 115; refine (rc_num H0.out _ (by first | exact O1.out | exact O2.out | exact O3.out) (by have := HL.out; omega)).mono ?_; (try clear c0 c1 c2 c3 c4 c5); rintro x w1 ⟨rfl, c0, c1, c2, c3, c4, c5, H0⟩)
        | (go_at_call 117; refine (rc_ents H0.out _ ents HE.out O4.out (by have := HL.out; omega)).mono ?_; (try clear c0 c1 c2 c3 c4 c5); rintro x w1 ⟨rfl, c0, c1, c2, c3, c4, c5, H0⟩)
        | (go_at_call 118; refine (rc_bytes H0.out (by have := HL.out; omega)).mono ?_; rintro x w9 ⟨ao9, L9, cap9, rfl, H9⟩))
      go_ret
      refine ⟨_, _, _, rfl, (show _ ∧ _ from ?_)⟩
      have := HF.out _ _ _ H9.out
      first
        | (have hf' : 0 < first := by omega
           simpa [encR, encH, encP, encL, hf', List.append_assoc] using this)
        | (have hf' : ¬ 0 < first := by omega
           simpa only [encR, encH, encP, encL, if_neg hf', List.append_assoc, List.append_nil, List.nil_append, Option.isSome, if_true, if_false, Bool.false_eq_true] using this))
  | some s =>
    obtain ⟨g, o, rfl, hS⟩ := hP
    have hS0 := hS.below hb0
    obtain ⟨ac, lc, cc, ad, ld, cd, s0, s1, s2, s3, hC, hD⟩ := hS0
    have OS : Hid s.ok := o5 s rfl
    have HC : Hid (Is w0 (.slice ac lc cc) s.conf) := hC
    have HD : Hid (Sl w0 (.slice ad ld cd) s.data) := hD
    have HK : Hid (∀ (w' : World) (m : Nat) (bs : List UInt8), Rc w0 w.heap.size (w.heap.size + 1) (.int .i64 term) (.int .i64 vote) (.bool saved) (.int .i64 first) (.slice ae le ce) (.pointer (some ⟨g, o, none⟩)) y6 y7 y8 w' m bs →
        w'.cell? ⟨g, o, none⟩ = some (.int .i64 s.idx) ∧ w'.cell? ⟨g, o + 1, none⟩ = some (.int .i64 s.term) ∧ w'.cell? ⟨g, o + 2, none⟩ = some (.slice ac lc cc) ∧ w'.cell? ⟨g, o + 3, none⟩ = some (.slice ad ld cd)) := by
      intro w' m bs h
      obtain ⟨_, ⟨_, _, hb⟩, _, _⟩ := h
      have K : ∀ o u, w0.cell? ⟨g, o, none⟩ = some u → w'.cell? ⟨g, o, none⟩ = some u := fun o u hc => (World.cell?_of_block (w := w0) (a := ⟨g, o, none⟩) (hb.block g (cell_lt hc))).trans hc
      exact ⟨K _ _ s0, K _ _ s1, K _ _ s2, K _ _ s3⟩
    have HL : Hid (100 + esz ents + ssz s ≤ 140737488355328) := by
      have : rsz ⟨term, vote, saved, first, ents, some s⟩ = 100 + esz ents + ssz s := rfl
      show _ ≤ _
      omega
    clear hE hl o1 o2 o3 o4 o5 hb0 hs0 hS s0 s1 s2 s3 hC hD
    subst hw0
    go_enter Tryz.func91, Tryz.ntmps91
    cases saved
    all_goals by_cases hf : 0 < first
    all_goals (
      go_wp2_with (first
        | (go_at_call 114; refine (rc_flag H0.out _ (by have := HL.out; omega)).mono ?_; (try clear c0 c1 c2 c3 c4 c5); rintro x w1 ⟨rfl, c0, c1, c2, c3, c4, c5, H0⟩; (try clear d0 d1 d2 d3); obtain ⟨d0, d1, d2, d3⟩ := HK.out _ _ _ H0.out)
        | (go_at_call 115; refine (rc_num H0.out _ (by first | exact O1.out | exact O2.out | exact O3.out) (by have := HL.out; omega)).mono ?_; (try clear c0 c1 c2 c3 c4 c5); rintro x w1 ⟨rfl, c0, c1, c2, c3, c4, c5, H0⟩)
        | (go_at_call 116; refine (rc_snap H0.out s OS.out _ _ HC.out HD.out (by have := HL.out; omega)).mono ?_; (try clear c0 c1 c2 c3 c4 c5); rintro x w1 ⟨rfl, c0, c1, c2, c3, c4, c5, H0⟩)
        | (go_at_call 117; refine (rc_ents H0.out _ ents HE.out O4.out (by have := HL.out; omega)).mono ?_; (try clear c0 c1 c2 c3 c4 c5); rintro x w1 ⟨rfl, c0, c1, c2, c3, c4, c5, H0⟩)
        | (go_at_call 118; refine (rc_bytes H0.out (by have := HL.out; omega)).mono ?_; rintro x w9 ⟨ao9, L9, cap9, rfl, H9⟩))
      go_ret
      refine ⟨_, _, _, rfl, (show _ ∧ _ from ?_)⟩
      have := HF.out _ _ _ H9.out
      first
        | (have hf' : 0 < first := by omega
           simpa [encR, encH, encP, encL, hf', List.append_assoc] using this)
        | (have hf' : ¬ 0 < first := by omega
           simpa only [encR, encH, encP, encL, if_neg hf', List.append_assoc, List.append_nil, List.nil_append, Option.isSome, if_true, if_false, Bool.false_eq_true] using this))

end Go.Proofs.YtjndgekpdmlbiaaGreatDoor.Kp
