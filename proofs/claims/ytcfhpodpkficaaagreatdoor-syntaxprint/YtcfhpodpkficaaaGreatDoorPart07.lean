/- Rows of terms and of literals; the walk of the list of terms. The walk of atom. The table of the comparisons' signs; the walks of kindOf and signOf. The walks of comparedNext and comparison. -/
import Derived.Test.YtcfhpodpkficaaaGreatDoorPart06
import Derived.LoopN
namespace Go.Proofs.YtcfhpodpkficaaaGreatDoor.Sy
open Go.RowKit
open Lx (Wd tx cellsW wpList_append_run)
open Vl (Tm Fr)

/-- One more element at the end of a row. -/
theorem push_row (t e size bytes : Nat) (z : Value) (ht : Tryz.prog.underlying t = some (.slice e)) (hi : (Tryz.prog.info? e).map (fun i => (i.zero, i.size, i.bytes)) = some (some z, size, bytes)) (hzs : z.cells.size = size) (hs0 : 0 < size) (hby : bytes ≤ 1000)
    {W : World} {base n : Nat} {v : Value} {xs : List Value} (h : W.ownsRow base e size v n xs) (cs : List Value) (hc : cs.length = size) (h1 : ∀ u ∈ cs, u.oneCell' = true) (hl : n ≤ 1000000) (hbase : base ≤ W.heap.size) :
    ∃ g cap w3, (∀ ty, (Builtin.append_ #[t, t] ty #[v, .slice (some ⟨W.heap.size, 0, none⟩) 1 1]).run Tryz.prog (W.alloc (.cells cs.toArray e)) = .ok (.slice (some ⟨g, 0, none⟩) (n + 1) cap) w3) ∧
      Hid (w3.ownsRow base e size (.slice (some ⟨g, 0, none⟩) (n + 1) cap) (n + 1) (xs ++ cs)) ∧ Hid (Fr (fun k => v.ownBlock = some k) W w3) := by
  obtain ⟨i, hi, hz, hsize, hbyt⟩ := info_parts hi
  have ha : (W.alloc (.cells cs.toArray e)).ownsRow base e size v n xs := h.alloc _
  have H := fun ty => run_append_own_at (P := Tryz.prog) (W.alloc (.cells cs.toArray e)) base t ty e i z size bytes ht hi hz hsize hbyt hzs hs0 v n xs ha ⟨W.heap.size, 0, none⟩ 1 1 cs (by omega) (fun j u hj => by
    rw [Addr.add_lit, Nat.zero_add, cell_of_row _ _ j _ _ _ (heap_alloc_new _ _)]
    simpa using hj) h1 (by simp only [maxLen]; omega) (by
      have : (n + 1) * bytes ≤ 1000001 * 1000 := Nat.mul_le_mul (by omega) hby
      omega) (by simp; omega)
  obtain ⟨v', w', hr, g1, g2, _, g4⟩ := H 0
  have hF : Fr (fun k => v.ownBlock = some k) W w' := ((Fr.refl (fun k => v.ownBlock = some k) W).alloc (.cells cs.toArray e)).trans (Vl.Fr.of_grown (F := fun k => v.ownBlock = some k) g2 (fun k hk => hk)) (fun _ _ e => e)
  rcases Lx.own_shape g1 with ⟨_, h0⟩ | ⟨g', cap, rfl, _⟩
  · omega
  · exact ⟨g', cap, w', fun ty => hr, g1, hF⟩

theorem Tryz.info53 : (Tryz.prog.info? 53).map (fun i => (i.zero, i.size, i.bytes)) = some (some (.agg #[.int .i64 0, .string ⟨#[]⟩, .int .i64 0]), 3, 32) := by kernel_rfl
theorem Tryz.info33 : (Tryz.prog.info? 33).map (fun i => (i.zero, i.size, i.bytes)) = some (some (.agg #[.int .i64 0, .string ⟨#[]⟩, .slice none 0 0]), 3, 48) := by kernel_rfl
theorem Tryz.info36 : (Tryz.prog.info? 36).map (fun i => (i.zero, i.size, i.bytes)) = some (some (.agg #[.int .i64 0, .string ⟨#[]⟩, .slice none 0 0, .slice none 0 0]), 4, 72) := by kernel_rfl

/-- A row of terms. -/
def isTs (w : World) (ts : List Tm) (y : Value) : Prop := w.ownsRow 0 53 3 y ts.length (Vl.cellsT ts)

theorem Gg.grow {w W W' : World} {r : Nat} {v : Value} {L : List Wd} {a0 a : Nat} (h : Gg w r v L a W) (h0 : Rd w r v L a0) {F : Nat → Prop} (hF : Fr F W W') (hk : ∀ k, F k → w.heap.size ≤ k) : Gg w r v L a W' := by
  have hlt := h0.lt
  have hf : Fr (fun k => k = r) w W' := h.fr.trans hF (fun x hx hFx => absurd (hk x hFx) (by omega))
  exact ⟨⟨Bx.fr (w := W) h.rd.box hF (fun hr => by have := hk r hr; omega), h0.kept hf h0.row (by decide), h.rd.le, h.rd.len⟩, hf⟩

/-- What is read so far, and what is still to be read. -/
def joinR {α : Type} (acc : List α) : Re (List α) → Re (List α)
  | .error e => .error e
  | .ok (l, r) => .ok (acc ++ l, r)
theorem joinR_nil {α : Type} (R : Re (List α)) : joinR [] R = R := by
  cases R with
  | error e => rfl
  | ok p => rfl

theorem listL_err {α : Type} {item : List Wd → Re α} {n : Nat} {ws : List Wd} {e : Bool} (h : item ws = .error e) : listL item n ws = .error e := by
  cases n <;> simp [listL, h]
theorem listL_zero {α : Type} {item : List Wd → Re α} {ws : List Wd} {p : α × List Wd} (h : item ws = .ok p) : listL item 0 ws = .error true := by
  simp [listL, h]
theorem listL_last {α : Type} {item : List Wd → Re α} {n : Nat} {ws : List Wd} {x : α} {t : List Wd} (h : item ws = .ok (x, t)) (ht : takeB [44] t = false) : listL item (n + 1) ws = .ok ([x], t) := by
  simp [listL, h, ht]
theorem listL_more {α : Type} {item : List Wd → Re α} {n : Nat} {ws : List Wd} {x : α} {t : List Wd} (h : item ws = .ok (x, t)) (ht : takeB [44] t = true) : listL item (n + 1) ws = joinR [x] (listL item n (takeR [44] t)) := by
  simp only [listL, h, ht, if_true, takeR]
  cases listL item n t.tail with
  | error e => rfl
  | ok p => rfl
theorem joinR_joinR {α : Type} (a b : List α) (R : Re (List α)) : joinR a (joinR b R) = joinR (a ++ b) R := by
  cases R with
  | error e => rfl
  | ok p => simp [joinR]

def lenOf : Value → Nat
  | .slice _ n _ => n
  | _ => 0
theorem own_len {w : World} {b e s n : Nat} {v : Value} {xs : List Value} (h : w.ownsRow b e s v n xs) : lenOf v = n ∧ ∃ ao cap, v = .slice ao n cap := by
  rcases Lx.own_shape h with ⟨rfl, rfl⟩ | ⟨g, cap, rfl, _⟩
  · exact ⟨rfl, _, _, rfl⟩
  · exact ⟨rfl, _, _, rfl⟩

set_option maxRecDepth 10000 in
set_option maxHeartbeats 1000000 in
theorem terms_any (f : FuncId) (g : Wd → Option Tm) (hf : TermF f g) (he : Go.Proofs.Enters Tryz.prog f) {w : World} {r : Nat} {v : Value} {L : List Wd} {a : Nat} (h : Rd w r v L a) (hL : ∀ x ∈ L, OkF x) (n : Nat) (hn : n ≤ 1000) :
    Calls Tryz.prog 64 #[.pointer (some ⟨r, 0, none⟩), .int .i64 (n : Int), .func (.func f) #[.pointer (some ⟨r, 0, none⟩)] #[]] w fun e w' => Out isTs (.slice none 0 0) (listL (oneL g) n (L.drop a)) r v L a w e w' := by
  have he' : ∀ (args : Array Value) (w : World), (callFunc f args).run Tryz.prog w = .ok (.enter f args) w := he
  have HF : Hid (∀ {W : World} {b : Nat}, Rd W r v L b → Calls Tryz.prog f #[.pointer (some ⟨r, 0, none⟩)] W fun e w' => Out isT tvz (oneL g (L.drop b)) r v L b W e w') := fun hW => hf hW hL
  have H : Hid _ := h
  clear hf he h hL
  go_enter Tryz.func64, Tryz.ntmps64
  go_wp2_with fail
  go_loopw [8] (fun y wr => ∃ (acc : List Tm) (b : Nat), acc.length ≤ n ∧ Hid (wr.ownsRow w.heap.size 53 3 y acc.length (Vl.cellsT acc)) ∧ Hid (Gg w r v L b wr) ∧ Hid (listL (oneL g) n (L.drop a) = joinR acc (listL (oneL g) (n - acc.length) (L.drop b))) ∧ a ≤ b) (fun y _ => n + 1 - lenOf y)
  case atStart => exact ⟨[], a, Nat.zero_le _, ⟨by simp [Vl.cellsT], .inl ⟨rfl, rfl⟩⟩, Gg.refl H.out, (joinR_nil _).symm, Nat.le_refl _⟩
  case round =>
    obtain ⟨acc, b, hacc, HO, HG, HE, hab⟩ := hrel
    have hi := HF.out HG.out.rd
    have HI : Hid _ := hi
    clear hi
    obtain ⟨R, hR⟩ : ∃ R, Hid (oneL g (L.drop b) = R) := ⟨_, rfl⟩
    rw [hR.out] at HI
    obtain ⟨hlen, ao, cap, rfl⟩ := own_len HO.out
    go_wp2_with (go_at_fn f; refine Calls.mono HI.out ?_)
    intro e w1 ho
    cases R with
    | error c =>
      obtain ⟨rfl, hf⟩ := ho
      rw [listL_err hR.out] at HE
      have F1 : Fr (fun k => k = r) w w1 := HG.out.fr.trans hf (fun _ _ e => e)
      have HF1 : Hid (∀ o, Fr (fun k => k = r) w (w1.alloc o)) := fun o => F1.alloc o
      clear hf F1 HI HO HG
      simp only [tvz]
      cases c
      all_goals simp only [Bool.false_eq_true, if_false, if_true]
      all_goals go_wp2_with fail
      all_goals go_ret2
      all_goals (rw [HE.out]; exact ⟨rfl, HF1.out _⟩)
    | ok p =>
      obtain ⟨t, rest⟩ := p
      obtain ⟨y, b', rfl, hy, hr, hd, hbb, hf⟩ := ho
      have hy' : y = .agg #[.int .i64 t.1, .string t.2.1, .int .i64 t.2.2] := hy
      subst hy'
      subst hd
      have G1 : Hid (Gg w r v L b' w1) := HG.out.then hr hf
      have O1 : Hid (w1.ownsRow w.heap.size 53 3 (.slice ao acc.length cap) acc.length (Vl.cellsT acc)) := HG.out.rd.kept hf HO.out (by decide)
      clear hf hr HG HO HI
      by_cases hfull : acc.length = n
      · have gf : ((acc.length : Int) == (n : Int)) = true := by simp; omega
        have HE' : Hid (listL (oneL g) n (L.drop a) = .error true) := by
          rw [HE.out, hfull, Nat.sub_self, listL_zero hR.out]
          rfl
        have HF1 : Hid (∀ o, Fr (fun k => k = r) w (w1.alloc o)) := fun o => G1.out.fr.alloc o
        clear HE hR O1 G1 hfull
        go_wp2_with fail
        go_ret2
        rw [HE'.out]
        exact ⟨rfl, HF1.out _⟩
      · have gf : ((acc.length : Int) == (n : Int)) = false := by simp; omega
        have hsz := G1.out.fr.size
        obtain ⟨g3, cap3, w3, hap, HO3, HF3⟩ := push_row 31 53 3 32 _ Tryz.underlying31 Tryz.info53 rfl (by decide) (by decide) (O1.out.alloc (.cells #[.int .i64 t.1, .string t.2.1, .int .i64 t.2.2] 53)) [.int .i64 t.1, .string t.2.1, .int .i64 t.2.2] rfl (by simp [Value.oneCell']) (by omega) (by simp; omega)
        have hap' : ∀ ty, (Builtin.append_ #[31, 31] ty #[.slice ao acc.length cap, .slice (some ⟨w1.heap.size + 1, 0, none⟩) 1 1]).run Tryz.prog ((w1.alloc (.cells #[.int .i64 t.1, .string t.2.1, .int .i64 t.2.2] 53)).alloc (.cells #[.int .i64 t.1, .string t.2.1, .int .i64 t.2.2] 53)) = .ok (.slice (some ⟨g3, 0, none⟩) (acc.length + 1) cap3) w3 := fun ty => by
          have := hap ty
          simpa using this
        have G3 : Hid (Gg w r v L b' w3) := (G1.out.alloc _).grow H.out HF3.out fun k hk => (O1.out.lt k hk).1
        have hrow : Hid (w3.ownsRow w.heap.size 53 3 (.slice (some ⟨g3, 0, none⟩) (acc ++ [t]).length cap3) (acc ++ [t]).length (Vl.cellsT (acc ++ [t]))) := by
          have e1 : Vl.cellsT (acc ++ [t]) = Vl.cellsT acc ++ [.int .i64 t.1, .string t.2.1, .int .i64 t.2.2] := by rw [Vl.cellsT_append]; rfl
          rw [e1, List.length_append]
          exact HO3.out
        have HT : Hid _ := take_any [44] (by decide) G3.out.rd
        have hR' := hR.out
        cases hc : takeB [44] (L.drop b')
        · rw [hc] at HT
          have HE' : Hid (listL (oneL g) n (L.drop a) = .ok (acc ++ [t], L.drop b')) := by
            obtain ⟨m, hm⟩ : ∃ m, n - acc.length = m + 1 := ⟨n - acc.length - 1, by omega⟩
            rw [HE.out, hm, listL_last hR' hc]
            rfl
          clear HE hR hR' O1 G1 hap HO3 HF3 HF
          go_wp2_with (at_builtin; refine wpList_append_run _ rfl (.tmp 23) (.tmp 25) 31 31 rfl _ _ rfl rfl (hap' _) ?_)
          refine Calls.mono HT.out ?_
          rintro e w4 ⟨rfl, b4, hr4, hd4, hb4, hf4⟩
          have G4 := G3.out.then hr4 hf4
          have O4 : Hid (w4.ownsRow 0 53 3 (.slice (some ⟨g3, 0, none⟩) (acc ++ [t]).length cap3) (acc ++ [t]).length (Vl.cellsT (acc ++ [t]))) := Vl.own_zero (G3.out.rd.kept hf4 hrow.out (by decide))
          have HG4 : Hid _ := G4
          have HD4 : Hid (L.drop b4 = L.drop b') := by rw [hd4, takeR, if_neg (by rw [hc]; decide)]; rfl
          clear hd4 hr4 hf4 G4 HT hrow G3 hap'
          go_wp2_with fail
          go_ret2
          rw [HE'.out]
          refine ⟨_, b4, rfl, ?_, HG4.out.rd, HD4.out, by omega, HG4.out.fr⟩
          have := O4.out
          rw [List.length_append] at this
          show World.ownsRow _ _ _ _ _ _ _
          rw [List.length_append]
          exact this
        · rw [hc] at HT
          have HE' : Hid (listL (oneL g) n (L.drop a) = joinR (acc ++ [t]) (listL (oneL g) (n - (acc ++ [t]).length) (takeR [44] (L.drop b')))) := by
            obtain ⟨m, hm⟩ : ∃ m, n - acc.length = m + 1 := ⟨n - acc.length - 1, by omega⟩
            have hm2 : n - (acc ++ [t]).length = m := by simp; omega
            rw [HE.out, hm, hm2, listL_more hR' hc, joinR_joinR]
            rfl
          clear HE hR hR' O1 G1 hap HO3 HF3
          go_wp2_with (at_builtin; refine wpList_append_run _ rfl (.tmp 23) (.tmp 25) 31 31 rfl _ _ rfl rfl (hap' _) ?_)
          refine Calls.mono HT.out ?_
          rintro e w4 ⟨rfl, b4, hr4, hd4, hb4, hf4⟩
          have HG4 : Hid (Gg w r v L b4 w4) := G3.out.then hr4 hf4
          have O4 : Hid (w4.ownsRow w.heap.size 53 3 (.slice (some ⟨g3, 0, none⟩) (acc ++ [t]).length cap3) (acc ++ [t]).length (Vl.cellsT (acc ++ [t]))) := G3.out.rd.kept hf4 hrow.out (by decide)
          have HD4 : Hid _ := hd4
          clear hd4 hr4 hf4 HT hrow G3 hap'
          go_wp2_with fail
          go_roundw
          case rel =>
            refine ⟨acc ++ [t], b4, by simp; omega, ?_, HG4, ?_, by omega⟩
            · have := O4.out
              rw [List.length_append] at this
              show World.ownsRow _ _ _ _ _ _ _
              rw [List.length_append]
              exact this
            · rw [HD4.out]
              exact HE'
          case measure => simp [lenOf]; omega
end Go.Proofs.YtcfhpodpkficaaaGreatDoor.Sy
namespace Go.Proofs.YtcfhpodpkficaaaGreatDoor.Sy
open Go.RowKit
open Lx (Wd tx cellsW wpList_append_run)
open Vl (Tm Fr)

/-- A literal as a value. -/
def isLit (w : World) (l : Lit) (y : Value) : Prop := ∃ va, y = .agg #[.int .i64 l.1, .string l.2.1, va] ∧ isTs w l.2.2 va
def litz : Value := .agg #[.int .i64 0, .string ⟨#[]⟩, .slice none 0 0]
theorem isTs_nil (w : World) : isTs w [] (.slice none 0 0) := ⟨by simp [Vl.cellsT], .inl ⟨rfl, rfl⟩⟩
theorem isTs_kept {w w' : World} {r : Nat} {v : Value} {L : List Wd} {a : Nat} (h : Rd w r v L a) (hf : Fr (fun k => k = r) w w') {ts : List Tm} {y : Value} (ht : isTs w ts y) : isTs w' ts y := h.kept hf ht (by decide)

theorem fr3 {w W : World} {r : Nat} (h : Fr (fun k => k = r) w W) (b : Nat) (hb : w.heap.size ≤ b) (x y z : Value) : Fr (fun k => k = r) w (((W.setCell ⟨b, 0, none⟩ x).setCell ⟨b, 1, none⟩ y).setCell ⟨b, 2, none⟩ z) :=
  (((h.setCell (p := ⟨b, 0, none⟩) (fun h => absurd h (by show ¬ b < _; omega)) x).setCell (p := ⟨b, 1, none⟩) (fun h => absurd h (by show ¬ b < _; omega)) y).setCell (p := ⟨b, 2, none⟩) (fun h => absurd h (by show ¬ b < _; omega)) z)

/-- A row of another type is not touched by a store. -/
theorem isTs_put {W : World} {ts : List Tm} {y : Value} (h : isTs W ts y) {b : Nat} {T : TypeId} {cs : Array Value} (hb : Bx W b T cs) (hT : T ≠ 53) (i : Nat) (x : Value) : isTs (W.setCell ⟨b, i, none⟩ x) ts y := by
  refine Vl.own_kept h (Vl.Fr.one W b i x) ?_
  intro k hk e
  subst e
  rcases h.2 with ⟨rfl, _⟩ | ⟨g, cap, cur, rfl, _, hg, _⟩
  · simp [Value.ownBlock] at hk
  · simp [Value.ownBlock] at hk
    subst hk
    have := hb.symm.trans hg
    simp only [Option.some.injEq, Obj.cells.injEq] at this
    exact hT this.2.1
theorem isTs_put3 {W : World} {ts : List Tm} {y : Value} (h : isTs W ts y) {b : Nat} {T : TypeId} {cs : Array Value} (hb : Bx W b T cs) (hT : T ≠ 53) (x0 x1 x2 : Value) : isTs (((W.setCell ⟨b, 0, none⟩ x0).setCell ⟨b, 1, none⟩ x1).setCell ⟨b, 2, none⟩ x2) ts y :=
  isTs_put (isTs_put (isTs_put h hb hT 0 x0) (hb.set 0 x0) hT 1 x1) ((hb.set 0 x0).set 1 x1) hT 2 x2

set_option maxRecDepth 10000 in
set_option maxHeartbeats 2000000 in
theorem atom_any (f : FuncId) (g : Wd → Option Tm) (hf : TermF f g) (he : Go.Proofs.Enters Tryz.prog f) {w : World} {r : Nat} {v : Value} {L : List Wd} {a : Nat} (h : Rd w r v L a) (hL : ∀ x ∈ L, OkF x) :
    Calls Tryz.prog 42 #[.pointer (some ⟨r, 0, none⟩), .func (.func f) #[.pointer (some ⟨r, 0, none⟩)] #[]] w fun e w' => Out isLit litz (atomL g (L.drop a)) r v L a w e w' := by
  have HN : Hid (∀ o, Calls Tryz.prog 56 #[.pointer (some ⟨r, 0, none⟩)] (w.alloc o) fun e w' => e = .returned (wv (nextW (L.drop a))) ∧ Below (w.alloc o).heap.size (w.alloc o) w') := fun o => next_any (h.below (Lx.below_box w o))
  have HLs : Hid (∀ {W : World} {b : Nat}, Rd W r v L b → Calls Tryz.prog 64 #[.pointer (some ⟨r, 0, none⟩), .int .i64 (4 : Int), .func (.func f) #[.pointer (some ⟨r, 0, none⟩)] #[]] W fun e w' => Out isTs (.slice none 0 0) (listL (oneL g) 4 (L.drop b)) r v L b W e w') := fun hW => terms_any f g hf he hW hL 4 (by decide)
  have H := hide (h)
  have hrlt := h.lt
  clear hf he hL
  by_cases h1 : (nextW (L.drop a)).1 = 1
  · have hlt : a < L.length := lt_of_next (by decide) h1
    have HE : Hid (atomL g (L.drop a) = if takeB [40] (L.drop (a + 1)) = true then (match listL (oneL g) 4 (takeR [40] (L.drop (a + 1))) with
      | .error e => .error e
      | .ok (l, r) => if takeB [41] r = true then .ok ((1, tx (nextW (L.drop a)).2.1, l), r.tail) else .error false)
      else .ok ((1, tx (nextW (L.drop a)).2.1, []), L.drop (a + 1))) := by
      show _ = _
      rw [atomL, if_pos h1, drop_tail, takeR]
      split <;> rfl
    clear h
    generalize nextW (L.drop a) = x at *
    simp only [wv, h1] at HN
    go_enter Tryz.func42, Tryz.ntmps42
    go_wp2_with fail
    refine Calls.mono (HN.out _) ?_
    rintro e w1 ⟨rfl, hb1⟩
    have G1 : Hid (Gg w r v L a w1) := ((Gg.refl H.out).alloc _).below hb1
    have hs1 := hb1.size
    simp at hs1
    have hB1 : Hid (Bx w1 w.heap.size 33 #[.int .i64 0, .string ⟨#[]⟩, .slice none 0 0]) := (Bx.new w _ _).below hb1
    have r1 := fun o => (G1.out.alloc o).rd.cells.2.1
    have r2 := fun o => (G1.out.alloc o).rd.cells.2.2
    have G2 := hide (fun o => (G1.out.alloc o).step hlt)
    have hB2 := hide (fun o => (hB1.out.below (Lx.below_box w1 o)).fr (Vl.Fr.one (w1.alloc o) r 1 (.int .i64 (wrap64 ((a : Int) + 1)))) (by omega))
    have hT2 := hide (fun cs => (Bx.new w1 cs 101).fr (Vl.Fr.one (w1.alloc (.cells cs 101)) r 1 (.int .i64 (wrap64 ((a : Int) + 1)))) (by omega))
    have HT := hide (fun o => take_any [40] (by decide) (G2.out o).rd)
    clear HN hb1
    go_wp2_with fail
    refine Calls.mono (HT.out _) ?_
    rintro e w3 ⟨rfl, a3, hr3, hd3, ha3, hf3⟩
    have G3 : Hid (Gg w r v L a3 w3) := (G2.out _).then hr3 hf3
    have hB3 : Hid (Bx w3 w.heap.size 33 #[.int .i64 0, .string ⟨#[]⟩, .slice none 0 0]) := (hB2.out _).fr hf3 (by omega)
    have hT3 : Hid (Bx w3 w1.heap.size 101 #[.int .i64 1, .string (tx x.2.1), .int .i64 (x.2.2 : Int)]) := (hT2.out _).fr hf3 (by omega)
    have HD3 := hide (hd3)
    clear HT G2 hB2 hT2 G1 hB1 r1 r2 hr3 hd3 hf3
    cases ht : takeB [40] (L.drop (a + 1))
    · have HE' : Hid (atomL g (L.drop a) = .ok ((1, tx x.2.1, []), L.drop (a + 1))) := by rw [HE.out, if_neg (by rw [ht]; decide)]; rfl
      have HD3' : Hid (L.drop a3 = L.drop (a + 1)) := by rw [HD3.out, takeR, if_neg (by rw [ht]; decide)]; rfl
      obtain ⟨⟨c0, c1, c2⟩, f0, f1, f2⟩ := hB3.out.three
      obtain ⟨⟨d0, d1, d2⟩, _, _, _⟩ := hT3.out.three
      clear HE HD3 ht HLs
      go_wp2_with fail
      refine bodyPost_ret (ret_cell rfl _ _ w.heap.size 33 _ rfl (((hB3.out.set 0 _).set 1 _).set 2 _) Tryz.underlying33 sz33) rfl ?_
      have q1 := G3.out.put3 H.out w.heap.size (Nat.le_refl _) (.int .i64 1) (.string (tx x.2.1)) (.slice none 0 0)
      rw [HE'.out]
      exact ⟨_, a3, rfl, ⟨_, rfl, isTs_nil _⟩, q1.rd, HD3'.out, by omega, q1.fr⟩
    · have HLs3 := hide (HLs.out G3.out.rd)
      rw [HD3.out] at HLs3
      obtain ⟨R, hR⟩ : ∃ R, Hid (listL (oneL g) 4 (takeR [40] (L.drop (a + 1))) = R) := ⟨_, rfl⟩
      rw [hR.out] at HLs3 HE
      rw [if_pos ht] at HE
      clear HLs hR HD3
      go_wp2_with fail
      refine Calls.mono HLs3.out ?_
      intro e w4 ho
      cases R with
      | error c =>
        obtain ⟨rfl, hf4⟩ := ho
        have F4 : Hid (Fr (fun k => k = r) w w4) := G3.out.fr.trans hf4 (fun _ _ e => e)
        have hB4 := hB3.out.fr hf4 (by omega)
        obtain ⟨⟨c0, c1, c2⟩, f0, f1, f2⟩ := hB4.three
        have HB4 := hide (hB4)
        clear hB4 hB3 hT3 G3 hf4 HLs3
        cases c
        all_goals simp only [Bool.false_eq_true, if_false, if_true]
        all_goals go_wp2_with fail
        all_goals refine bodyPost_ret (ret_cell rfl _ _ w.heap.size 33 _ rfl (((HB4.out.set 0 _).set 1 _).set 2 _) Tryz.underlying33 sz33) rfl ?_
        all_goals (rw [HE.out]; exact ⟨rfl, fr3 F4.out _ (Nat.le_refl _) _ _ _⟩)
      | ok p =>
        obtain ⟨ts, rest⟩ := p
        obtain ⟨y, a4, rfl, hy, hr4, hd4, hlt4, hf4⟩ := ho
        subst hd4
        obtain ⟨_, ao, cap, rfl⟩ := own_len hy
        have G4 : Hid (Gg w r v L a4 w4) := G3.out.then hr4 hf4
        have hB4 := hide (hB3.out.fr hf4 (by omega))
        have hT4 := hide (hT3.out.fr hf4 (by omega))
        have HY4 := hide (hy)
        have HT5 := hide (take_any [41] (by decide) G4.out.rd)
        clear hy hr4 hf4 hB3 hT3 G3 HLs3
        go_wp2_with fail
        refine Calls.mono HT5.out ?_
        rintro e w5 ⟨rfl, a5, hr5, hd5, ha5, hf5⟩
        have G5 : Hid (Gg w r v L a5 w5) := G4.out.then hr5 hf5
        have hB5 := hide (hB4.out.fr hf5 (by omega))
        have hT5 := hide (hT4.out.fr hf5 (by omega))
        have HY5 := hide (isTs_kept G4.out.rd hf5 HY4.out)
        have HD5 := hide (hd5)
        obtain ⟨⟨c0, c1, c2⟩, f0, f1, f2⟩ := hB5.out.three
        obtain ⟨⟨d0, d1, d2⟩, _, _, _⟩ := hT5.out.three
        clear hr5 hf5 hd5 hB4 hT4 HY4 G4 HT5
        cases ht5 : takeB [41] (L.drop a4)
        · have HE' : Hid (atomL g (L.drop a) = .error false) := by show _ = _; rw [HE.out]; simp [ht5]
          clear HE
          go_wp2_with fail
          refine bodyPost_ret (ret_cell rfl _ _ w.heap.size 33 _ rfl (((hB5.out.set 0 _).set 1 _).set 2 _) Tryz.underlying33 sz33) rfl ?_
          rw [HE'.out]
          exact ⟨rfl, fr3 G5.out.fr _ (Nat.le_refl _) _ _ _⟩
        · have HE' : Hid (atomL g (L.drop a) = .ok ((1, tx x.2.1, ts), takeR [41] (L.drop a4))) := by show _ = _; rw [HE.out, takeR]; simp [ht5]
          clear HE
          go_wp2_with fail
          refine bodyPost_ret (ret_cell rfl _ _ w.heap.size 33 _ rfl (((hB5.out.set 0 _).set 1 _).set 2 _) Tryz.underlying33 sz33) rfl ?_
          have q1 := G5.out.put3 H.out w.heap.size (Nat.le_refl _) (.int .i64 1) (.string (tx x.2.1)) (.slice ao ts.length cap)
          rw [HE'.out]
          exact ⟨_, a5, rfl, ⟨_, rfl, isTs_put3 HY5.out hB5.out (by decide) _ _ _⟩, q1.rd, HD5.out, by omega, q1.fr⟩
  · have g1 : (((nextW (L.drop a)).1 : Int) == 1) = false := by simp; omega
    have HE : Hid (atomL g (L.drop a) = .error false) := by rw [atomL, if_neg h1]; rfl
    clear h h1
    generalize nextW (L.drop a) = x at *
    simp only [wv] at HN
    go_enter Tryz.func42, Tryz.ntmps42
    go_wp2_with fail
    refine Calls.mono (HN.out _) ?_
    rintro e w1 ⟨rfl, hb1⟩
    have hB1 := hide (fun o => ((Bx.new w #[.int .i64 0, .string ⟨#[]⟩, .slice none 0 0] 33).below hb1).below (Lx.below_box w1 o))
    have F1 := hide (fun o => ((((Gg.refl H.out).alloc _).below hb1).alloc o).fr)
    have c0 := fun o => (hB1.out o).three.1.1
    have c1 := fun o => (hB1.out o).three.1.2.1
    have c2 := fun o => (hB1.out o).three.1.2.2
    have f0 := fun o => (hB1.out o).three.2.1
    have f1 := fun o => (hB1.out o).three.2.2.1
    have f2 := fun o => (hB1.out o).three.2.2.2
    clear HN hb1
    go_wp2_with fail
    refine bodyPost_ret (ret_cell rfl _ _ w.heap.size 33 _ rfl ((((hB1.out _).set 0 _).set 1 _).set 2 _) Tryz.underlying33 sz33) rfl ?_
    rw [HE.out]
    exact ⟨rfl, fr3 (F1.out _) _ (Nat.le_refl _) _ _ _⟩

end Go.Proofs.YtcfhpodpkficaaaGreatDoor.Sy
namespace Go.Proofs.YtcfhpodpkficaaaGreatDoor.Sy
open Go.RowKit
open Lx (Wd tx)

def sgs : List Value := [.string ⟨#[61]⟩, .int .i64 3, .string ⟨#[33, 61]⟩, .int .i64 4, .string ⟨#[60]⟩, .int .i64 5, .string ⟨#[60, 61]⟩, .int .i64 6]
/-- The table of signs, as it lies in memory. -/
def Tb (w : World) : Prop := ∀ i, i < 8 → w.cell? ⟨0, i, none⟩ = sgs[i]?
theorem Tb.below {w w' : World} (h : Tb w) (hb : Below w.heap.size w w') : Tb w' := fun i hi =>
  (World.cell?_of_block (w := w) (a := ⟨0, i, none⟩) (hb.block 0 (World.block_lt_of_cell? w ⟨0, i, none⟩ (u := sgs[i]) (by rw [h i hi]; exact List.getElem?_eq_getElem (show i < sgs.length from hi))))).trans (h i hi)
theorem Tb.cells {w : World} (h : Tb w) : w.cell? ⟨0, 0, none⟩ = some (.string ⟨#[61]⟩) ∧ w.cell? ⟨0, 1, none⟩ = some (.int .i64 3) ∧ w.cell? ⟨0, 2, none⟩ = some (.string ⟨#[33, 61]⟩) ∧ w.cell? ⟨0, 3, none⟩ = some (.int .i64 4) ∧ w.cell? ⟨0, 4, none⟩ = some (.string ⟨#[60]⟩) ∧ w.cell? ⟨0, 5, none⟩ = some (.int .i64 5) ∧ w.cell? ⟨0, 6, none⟩ = some (.string ⟨#[60, 61]⟩) ∧ w.cell? ⟨0, 7, none⟩ = some (.int .i64 6) :=
  ⟨h 0 (by decide), h 1 (by decide), h 2 (by decide), h 3 (by decide), h 4 (by decide), h 5 (by decide), h 6 (by decide), h 7 (by decide)⟩

theorem ix0 (w : World) : (Instr.index 110 (.agg #[.string ⟨#[61]⟩, .int .i64 3, .string ⟨#[33, 61]⟩, .int .i64 4, .string ⟨#[60]⟩, .int .i64 5, .string ⟨#[60, 61]⟩, .int .i64 6]) (.int .i64 0)).run Tryz.prog w = .ok (.agg #[.string ⟨#[61]⟩, .int .i64 3]) w := by kernel_rfl
theorem ix1 (w : World) : (Instr.index 110 (.agg #[.string ⟨#[61]⟩, .int .i64 3, .string ⟨#[33, 61]⟩, .int .i64 4, .string ⟨#[60]⟩, .int .i64 5, .string ⟨#[60, 61]⟩, .int .i64 6]) (.int .i64 1)).run Tryz.prog w = .ok (.agg #[.string ⟨#[33, 61]⟩, .int .i64 4]) w := by kernel_rfl
theorem ix2 (w : World) : (Instr.index 110 (.agg #[.string ⟨#[61]⟩, .int .i64 3, .string ⟨#[33, 61]⟩, .int .i64 4, .string ⟨#[60]⟩, .int .i64 5, .string ⟨#[60, 61]⟩, .int .i64 6]) (.int .i64 2)).run Tryz.prog w = .ok (.agg #[.string ⟨#[60]⟩, .int .i64 5]) w := by kernel_rfl
theorem ix3 (w : World) : (Instr.index 110 (.agg #[.string ⟨#[61]⟩, .int .i64 3, .string ⟨#[33, 61]⟩, .int .i64 4, .string ⟨#[60]⟩, .int .i64 5, .string ⟨#[60, 61]⟩, .int .i64 6]) (.int .i64 3)).run Tryz.prog w = .ok (.agg #[.string ⟨#[60, 61]⟩, .int .i64 6]) w := by kernel_rfl

theorem eqb (s x : List UInt8) : (s == (tx x).toList) = decide (x = s) := by
  rw [Bool.eq_iff_iff]
  simp [Lib.toList_data, tx]
  exact eq_comm
theorem eqb_t {s x : List UInt8} (h : x = s) : (s == (tx x).toList) = true := by rw [eqb]; simpa using h
theorem eqb_f {s x : List UInt8} (h : ¬ x = s) : (s == (tx x).toList) = false := by rw [eqb]; simpa using h
theorem below1 (w : World) (o : Obj) : Below w.heap.size w (w.alloc o) := Lx.below_box w o
theorem below2 (w : World) (o p : Obj) : Below w.heap.size w ((w.alloc o).alloc p) := (below1 w o).trans ((below1 _ p).mono (by simp))
theorem below3 (w : World) (o p q : Obj) : Below w.heap.size w (((w.alloc o).alloc p).alloc q) := (below2 w o p).trans ((below1 _ q).mono (by simp; omega))
theorem below4 (w : World) (o p q s : Obj) : Below w.heap.size w ((((w.alloc o).alloc p).alloc q).alloc s) := (below3 w o p q).trans ((below1 _ s).mono (by simp; omega))

set_option maxRecDepth 10000 in
set_option maxHeartbeats 2000000 in
theorem kindOf_any (x : List UInt8) (w : World) (h : Tb w) :
    Calls Tryz.prog 77 #[.string (tx x)] w fun e w' => e = .returned (.int .i64 ((kindOf x : Nat) : Int)) ∧ Below w.heap.size w w' := by
  obtain ⟨c0, c1, c2, c3, c4, c5, c6, c7⟩ := h.cells
  have i0 := ix0
  have i1 := ix1
  have i2 := ix2
  have i3 := ix3
  clear h
  by_cases h0 : x = [61]
  · have hk : kindOf x = 3 := by rw [h0]; rfl
    rw [hk]
    have e0 := eqb_t h0
    clear h0 hk
    go_enter Tryz.func77, Tryz.ntmps77
    go_wp2_with fail
    clear c0 c1 c2 c3 c4 c5 c6 c7
    refine wp_loop_rounds 5 ?_
    rw [rounds_succ]
    go_wp2_with fail
    go_ret
    exact ⟨rfl, below1 w _⟩
  by_cases h1 : x = [33, 61]
  · have hk : kindOf x = 4 := by rw [h1]; rfl
    rw [hk]
    have e0 := eqb_f h0
    have e1 := eqb_t h1
    clear h0 h1 hk
    go_enter Tryz.func77, Tryz.ntmps77
    go_wp2_with fail
    clear c0 c1 c2 c3 c4 c5 c6 c7
    refine wp_loop_rounds 5 ?_
    rw [rounds_succ]
    go_wp2_with fail
    rw [rounds_succ]
    go_wp2_with fail
    go_ret
    exact ⟨rfl, below2 w _ _⟩
  by_cases h2 : x = [60]
  · have hk : kindOf x = 5 := by rw [h2]; rfl
    rw [hk]
    have e0 := eqb_f h0
    have e1 := eqb_f h1
    have e2 := eqb_t h2
    clear h0 h1 h2 hk
    go_enter Tryz.func77, Tryz.ntmps77
    go_wp2_with fail
    clear c0 c1 c2 c3 c4 c5 c6 c7
    refine wp_loop_rounds 5 ?_
    rw [rounds_succ]
    go_wp2_with fail
    rw [rounds_succ]
    go_wp2_with fail
    rw [rounds_succ]
    go_wp2_with fail
    go_ret
    exact ⟨rfl, below3 w _ _ _⟩
  by_cases h3 : x = [60, 61]
  · have hk : kindOf x = 6 := by rw [h3]; rfl
    rw [hk]
    have e0 := eqb_f h0
    have e1 := eqb_f h1
    have e2 := eqb_f h2
    have e3 := eqb_t h3
    clear h0 h1 h2 h3 hk
    go_enter Tryz.func77, Tryz.ntmps77
    go_wp2_with fail
    clear c0 c1 c2 c3 c4 c5 c6 c7
    refine wp_loop_rounds 5 ?_
    rw [rounds_succ]
    go_wp2_with fail
    rw [rounds_succ]
    go_wp2_with fail
    rw [rounds_succ]
    go_wp2_with fail
    rw [rounds_succ]
    go_wp2_with fail
    go_ret
    exact ⟨rfl, below4 w _ _ _ _⟩
  have hk : kindOf x = 0 := by simp [kindOf, h0, h1, h2, h3]
  rw [hk]
  have e0 := eqb_f h0
  have e1 := eqb_f h1
  have e2 := eqb_f h2
  have e3 := eqb_f h3
  clear h0 h1 h2 h3 hk
  go_enter Tryz.func77, Tryz.ntmps77
  go_wp2_with fail
  clear c0 c1 c2 c3 c4 c5 c6 c7
  refine wp_loop_rounds 5 ?_
  rw [rounds_succ]
  go_wp2_with fail
  rw [rounds_succ]
  go_wp2_with fail
  rw [rounds_succ]
  go_wp2_with fail
  rw [rounds_succ]
  go_wp2_with fail
  rw [rounds_succ]
  go_wp2_with fail
  go_ret
  exact ⟨rfl, below4 w _ _ _ _⟩

end Go.Proofs.YtcfhpodpkficaaaGreatDoor.Sy
namespace Go.Proofs.YtcfhpodpkficaaaGreatDoor.Sy
open Go.RowKit
open Lx (Wd tx cellsW wpList_append_run)
open Vl (Tm Fr)

set_option maxRecDepth 10000 in
set_option maxHeartbeats 2000000 in
theorem comparedNext_any {w : World} {r : Nat} {v : Value} {L : List Wd} {a : Nat} (h : Rd w r v L a) (hl : a < L.length) (hT : Tb w) :
    Calls Tryz.prog 65 #[.pointer (some ⟨r, 0, none⟩)] w fun e w' => e = .returned (.bool (!decide (kindOf (nextW (L.drop (a + 1))).2.1 = 0))) ∧ Below w.heap.size w w' := by
  obtain ⟨c0, c1, _⟩ := h.cells
  have hlen := h.len
  have hwr : IntKind.i64.wrap ((a : Int) + 1) = ((a + 1 : Nat) : Int) := by
    rw [IntKind.wrap_i64]; omega
  have hcast : (a : Int) + 1 = ((a + 1 : Nat) : Int) := by omega
  have hbel : Below w.heap.size w (w.alloc (.cells #[v, .int .i64 ((a : Int) + 1)] 81)).drew := (Lx.below_box w _).drew
  have HR : Rd (w.alloc (.cells #[v, .int .i64 ((a : Int) + 1)] 81)).drew w.heap.size v L (a + 1) := ⟨by rw [hcast]; exact Bx.new w _ _, Lx.own_below h.row hbel, by omega, hlen⟩
  have HN := hide (next_any HR)
  have HK : Hid (∀ w1, Below w.heap.size w w1 → Calls Tryz.prog 77 #[.string (tx (nextW (L.drop (a + 1))).2.1)] w1 fun e w' => e = .returned (.int .i64 ((kindOf (nextW (L.drop (a + 1))).2.1 : Nat) : Int)) ∧ Below w1.heap.size w1 w') := fun w1 hb => kindOf_any _ w1 (hT.below hb)
  have HB := hide hbel
  clear hbel HR hT
  obtain ⟨x, hx⟩ : ∃ x, nextW (L.drop (a + 1)) = x := ⟨_, rfl⟩
  rw [hx] at HN HK ⊢
  clear hx hcast
  obtain ⟨ao, cap, rfl, _⟩ := h.shape
  have H : Hid _ := h
  clear h
  have k0 : ∀ o, (w.alloc o).cell? ⟨r, 0, none⟩ = some (.slice ao L.length cap) := fun o => (H.out.below (Lx.below_box w o)).cells.1
  have k1 : ∀ o, (w.alloc o).cell? ⟨r, 1, none⟩ = some (.int .i64 (a : Int)) := fun o => (H.out.below (Lx.below_box w o)).cells.2.1
  go_enter Tryz.func65, Tryz.ntmps65
  go_wp2_with fail
  go_region_with (fail)
  all_goals clear k0 k1 c0 c1 hwr
  all_goals go_wp2_with fail
  all_goals refine Calls.mono HN.out ?_
  all_goals rintro e w1 ⟨rfl, hb1⟩
  all_goals simp only [wv]
  all_goals have hfw := fldW
  all_goals have HB1 := hide (HB.out.trans (hb1.mono HB.out.size))
  all_goals go_wp2_with fail
  all_goals refine Calls.mono (HK.out _ HB1.out) ?_
  all_goals rintro e w2 ⟨rfl, hb2⟩
  all_goals go_wp2_with fail
  all_goals go_ret
  all_goals refine ⟨Vl.ret_bool ?_, HB1.out.trans (hb2.mono HB1.out.size)⟩
  all_goals (rw [Bool.eq_iff_iff]; simp)
end Go.Proofs.YtcfhpodpkficaaaGreatDoor.Sy
