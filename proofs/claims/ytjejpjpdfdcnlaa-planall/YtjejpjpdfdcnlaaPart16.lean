/- strings.Clone: the library's contract, laid at this program's own numbers. bind. bind, of a variable that is not bound yet. take. start: where a variable stands, in the map. No walk. -/
import Derived.Test.YtjejpjpdfdcnlaaProg
import Derived.Shelf.Strconv.Clone
import Derived.WalkKit
import Derived.Test.YtjejpjpdfdcnlaaPart15
namespace Go.Proofs.Ytjejpjpdfdcnlaa
def Try.laysM316_ren : Go.Shelf.Ren := ⟨fun | 316 => 49 | n => n, fun | 9 => 9 | 3 => 3 | 4 => 4 | 37 => 109 | 0 => 0 | 127 => 110 | 5 => 5 | n => n, fun | n => n⟩
theorem Try.laysM316 : Go.Proofs.LaysM.n316 Try.prog Try.laysM316_ren := {
  mixed := by kernel_rfl
  f316 := Try.func49.trans (congrArg some (by kernel_rfl))
  t0 := Try.underlying0
  a0 := Try.isAgg0
  z0 := Try.sizeOf0
  v0 := Try.zeroValue0
  t3 := Try.underlying3
  a3 := Try.isAgg3
  z3 := Try.sizeOf3
  v3 := Try.zeroValue3
  t4 := Try.underlying4
  a4 := Try.isAgg4
  z4 := Try.sizeOf4
  v4 := Try.zeroValue4
  t9 := Try.underlying9
  a9 := Try.isAgg9
  z9 := Try.sizeOf9
  v9 := Try.zeroValue9
  t37 := Try.underlying109
  a37 := Try.isAgg109
  z37 := Try.sizeOf109
  v37 := Try.zeroValue109
  t127 := Try.underlying110
  a127 := Try.isAgg110
  z127 := Try.sizeOf110
  v127 := Try.zeroValue110
  t5 := Try.underlying5
  a5 := Try.isAgg5
  z5 := Try.sizeOf5
  v5 := Try.zeroValue5
  i0 := by kernel_rfl
  i3 := by kernel_rfl
  i4 := by kernel_rfl
  i5 := by kernel_rfl
  i9 := by kernel_rfl
  i37 := by kernel_rfl
  i127 := by kernel_rfl }
open Go.RowKit in
theorem Try.stringslite_Clone (s : ByteArray) (w : World) (hlim : s.size ≤ 281474976710656) :
    Calls Try.prog 49 #[.string s] w fun e w' => e = .returned (.string s) ∧ Below w.heap.size w w' := Any.stringslite_Clone Try.laysM316 s w hlim

open Go.RowKit in
theorem clone_any (s : ByteArray) (w : World) (hs : s.size ≤ 281474976710656) : Calls Try.prog 41 #[.string s] w fun e w' => e = .returned (.string s) ∧ Below w.heap.size w w' := by
  go_enter Try.func41, Try.ntmps41
  go_wp2_with (go_at_call 49; refine (Try.stringslite_Clone s _ hs).mono ?_; rintro e w' ⟨rfl, hb⟩)
  go_ret
  exact ⟨rfl, hb⟩
end Go.Proofs.Ytjejpjpdfdcnlaa
namespace Go.Proofs.Ytjejpjpdfdcnlaa.Qu
open Go.RowKit
open Vl (Fr Tm)
open Sy (isTs isLs Bx)
open Ck (TsB Nm)
variable {B : Nat} {w w' : World} {qb mb : Nat} {bv pv wv pv' wv' ov vv : Value} {f f' : Nat → Nat} {n n' : Nat} {g g' : Nat → Kd} {t t' : Nat → Int} {m m' : Nat} {O : List Nat} {H : List Nm} {N : Nat} {D : DataW Value} {V : Nm → Value} {P : Nm → List Nat} {dm : Nm → Bool}

theorem law9 : Maps.Keyed Try.prog 9 := Maps.string_keyed Try.underlying9
theorem zero31 (w : World) : (zeroValue 31).run Try.prog w = .ok (.slice none 0 0) w := by kernel_rfl
theorem keyNm (x : Nm) : keyOf Try.prog 9 (.string x.1) = some (kl x) := WideMaps.keyOf_string_mk Try.underlying9 x.2
theorem Wl.c (h : Wl B w qb mb bv pv wv ov vv f n g t m O H N D V P dm) : w.cell? ⟨qb, 0, none⟩ = some bv ∧ w.cell? ⟨qb, 3, none⟩ = some (.map (some mb)) ∧ w.cell? ⟨qb, 4, none⟩ = some ov ∧ w.cell? ⟨qb, 5, none⟩ = some vv := by
  refine ⟨?_, ?_, ?_, ?_⟩
  · rw [cell_of_row w qb 0 _ _ _ h.q.b]; rfl
  · rw [cell_of_row w qb 3 _ _ _ h.q.b]; rfl
  · rw [cell_of_row w qb 4 _ _ _ h.q.b]; rfl
  · rw [cell_of_row w qb 5 _ _ _ h.q.b]; rfl
theorem Wl.look (h : Wl B w qb mb bv pv wv ov vv f n g t m O H N D V P dm) (x : Nm) : ∃ v, (Instr.lookup 52 (.map (some mb)) (.string x.1) true).run Try.prog w = .ok (.tuple #[v, .bool (dm x)]) w ∧ (dm x = true → v = V x) := by
  obtain ⟨v, ps, hrun, hv⟩ := h.mp.look_ok law9 Try.underlying52 (zero31 w) (zd := .held (.slice none 0 0)) (zp := []) rfl (keyNm x)
  refine ⟨v, ?_, fun hd => ?_⟩
  · rw [hrun, h.hd x]
  · rw [h.hv x hd] at hv
    simp [heldR] at hv
    exact hv.1
theorem bind_none (h : Wl B w qb mb bv pv wv ov vv f n g t m O H N D V P dm) (x : Nm) (hx : dm x = false) : Calls Try.prog 31 #[.pointer (some ⟨qb, 0, none⟩), .string x.1] w fun e w' => e = .returned (.tuple #[]) ∧ w' = w := by
  obtain ⟨_, c3, _, _⟩ := h.c
  obtain ⟨v, hl, _⟩ := h.look x
  rw [hx] at hl
  clear h
  go_enter Try.func31, Try.ntmps31
  go_wp2_with fail
  exact bodyPost_ret (res0 rfl _ _) rfl ⟨rfl, rfl⟩

theorem own_map_turn {w w1 : World} {b e s n : Nat} {v : Value} {xs : List Value} (h : w.ownsRow b e s v n xs) {mb : Nat} (hf : Fr (fun k => k = mb) w w1) (hn : v.ownBlock ≠ some mb) : w1.ownsRow b e s v n xs := own_of_cell h hf (fun k hk => by rw [hk]; exact hn)
theorem strs_snoc (H : List Nm) (x : Nm) : strs (H ++ [x]) = strs H ++ [.string x.1] := by simp [strs]
theorem kl_ne {x y : Nm} (h : y ≠ x) : kl y ≠ kl x := fun e => h (Ck.nm_ext (by simpa [kl] using e))
/-- The variable is struck out of the map and stands among those that are bound: what is left of the walk in memory. -/
theorem Wl.bound (h : Wl B w qb mb bv pv wv ov vv f n g t m O H N D V P dm) (x : Nm) {w1 w2 w3 : World} {gv cv : Nat} (h1 : w1.ownsMap Try.prog 9 heldR mb N (D.del (kl x))) (hf1 : Fr (fun k => k = mb) w w1) (hb2 : Below w1.heap.size w1 w2)
    (k1 : w3.ownsRow 0 9 1 (.slice (some ⟨gv, 0, none⟩) (H.length + 1) cv) (H.length + 1) (strs H ++ [.string x.1])) (k2 : Fr (fun k => vv.ownBlock = some k) w2 w3) (k3 : Gw w2 vv (.slice (some ⟨gv, 0, none⟩) (H.length + 1) cv)) :
    Wl B (w3.setCell ⟨qb, 5, none⟩ (.slice (some ⟨gv, 0, none⟩) (H.length + 1) cv)) qb mb bv pv wv ov (.slice (some ⟨gv, 0, none⟩) (H.length + 1) cv) f n g t m O (H ++ [x]) N (D.del (kl x)) V P (fun y => dm y && !decide (y = x)) ∧ Below B w (w3.setCell ⟨qb, 5, none⟩ (.slice (some ⟨gv, 0, none⟩) (H.length + 1) cv)) ∧ (dm x = true → (w3.setCell ⟨qb, 5, none⟩ (.slice (some ⟨gv, 0, none⟩) (H.length + 1) cv)).ownsRow 0 3 1 (V x) (P x).length ((P x).map num)) := by
  have hqm : qb ≠ mb := map_cells h.mp h.q.b
  have hvm : vv.ownBlock ≠ some mb := own_map h.v h.mp
  have hvq : vv.ownBlock ≠ some qb := own_ty h.v h.q.b (by decide)
  have hb3 : w3.heap[qb]? = some (.cells #[bv, pv, wv, .map (some mb), ov, vv] 54 (0, 0)) := by
    have hlt := (Array.getElem?_eq_some_iff.1 h.q.b).1
    rw [k2.block qb (by have := hf1.size; have := hb2.size; omega) hvq, hb2.block qb (by have := hf1.size; omega), hf1.block qb hlt hqm]
    exact h.q.b
  have hgq : gv ≠ qb := fun e => by
    subst e
    exact own_ty k1 hb3 (by decide) rfl
  have h4 : Fr (fun k => k = qb) w3 (w3.setCell ⟨qb, 5, none⟩ (.slice (some ⟨gv, 0, none⟩) (H.length + 1) cv)) := Vl.Fr.one _ _ _ _
  have hr : ∀ {e s c : Nat} {u : Value} {xs : List Value}, w.ownsRow 0 e s u c xs → e ≠ 9 → e ≠ 54 → (w3.setCell ⟨qb, 5, none⟩ (.slice (some ⟨gv, 0, none⟩) (H.length + 1) cv)).ownsRow 0 e s u c xs := by
    intro e s c u xs ho e1 e2
    have o1 := own_map_turn ho hf1 (own_map ho h.mp)
    have o2 := own_of_cell o1 (Fr.of_below (F := fun _ => False) hb2) (fun k hk => hk.elim)
    have v2 : w2.ownsRow 0 9 1 vv H.length (strs H) := own_of_cell (own_map_turn h.v hf1 hvm) (Fr.of_below (F := fun _ => False) hb2) (fun k hk => hk.elim)
    have o3 := own_of_cell o2 k2 (fun k hk hu => Vl.own_ne v2 o2 (fun e => e1 e.symm) hk hu)
    exact own_of_cell o3 h4 (fun k hk hu => by subst hk; exact own_ty o3 hb3 (fun e => e2 e.symm) hu)
  have hall : Below B w (w3.setCell ⟨qb, 5, none⟩ (.slice (some ⟨gv, 0, none⟩) (H.length + 1) cv)) := by
    have b1 : Below B w w1 := hf1.below (fun k hk => by rw [hk]; exact h.lm) h.bl
    have b2 : Below B w1 w2 := hb2.mono b1.size |>.mono h.bl
    have b3 : Below B w2 w3 := k2.below (fun k hk => h.l2 k hk) (by have := b1.size; have := b2.size; have := h.bl; omega)
    have b4 : Below B w3 _ := h4.below (fun k hk => by rw [hk]; exact h.lq) (by have := b1.size; have := b2.size; have := b3.size; have := h.bl; omega)
    exact ((b1.trans b2).trans b3).trans b4
  have hvm2 : ¬ vv.ownBlock = some mb := hvm
  have mp3 : (w3.setCell ⟨qb, 5, none⟩ (.slice (some ⟨gv, 0, none⟩) (H.length + 1) cv)).ownsMap Try.prog 9 heldR mb N (D.del (kl x)) :=
    map_fr (map_fr (map_fr h1 (Fr.of_below (F := fun _ => False) hb2) (fun e => e)) k2 hvm2) h4 (Ne.symm hqm)
  refine ⟨⟨⟨?_, hr h.q.p (by decide) (by decide), hr h.q.x (by decide) (by decide), h.q.few, h.q.lt, h.q.at1, h.q.at2⟩, h.hp, hr h.o (by decide) (by decide), ?_, mp3, fun y => ?_, fun y hy => ?_, fun y hy => ?_, h.po, fun k hk y hy => ?_, fun k hk y hy => ?_, fun y z hyz hy hz => ?_, h.lq, h.lm, h.lp, h.lw, h.l1, fun k hk => ?_, fun y hy => ?_, Nat.le_trans h.bl hall.size⟩, hall, fun hx => hr (h.rw x hx) (by decide) (by decide)⟩
  · rw [Vl.heap_set hb3]; rfl
  · have := own_of_cell k1 h4 (fun k hk hu => by subst hk; simp [Value.ownBlock] at hu; exact hgq hu)
    rw [← strs_snoc] at this
    simpa using this
  · by_cases e : y = x
    · subst e
      rw [Maps.has_del_same]
      simp
    · rw [Maps.has_del_other (kl_ne e), h.hd y]
      simp [e]
  · simp at hy
    rw [Maps.atKey_del_other (kl_ne hy.2)]
    exact h.hv y hy.1
  · simp at hy
    exact hr (h.rw y hy.1) (by decide) (by decide)
  · simp at hy
    exact h.pr k hk y hy.1
  · simp at hy
    exact h.orr k hk y hy.1
  · simp at hy hz
    exact h.rr y z hyz hy.1 hz.1
  · rcases k3 k hk with h5 | h5
    · exact h.l2 k h5
    · have := hf1.size; have := hb2.size; have := h.bl
      omega
  · simp at hy
    exact h.l3 y hy.1
end Go.Proofs.Ytjejpjpdfdcnlaa.Qu
namespace Go.Proofs.Ytjejpjpdfdcnlaa.Qu
open Go.RowKit
open Vl (Fr Tm)
open Sy (isTs isLs Bx)
open Ck (TsB Nm)
variable {B : Nat} {w w' : World} {qb mb : Nat} {bv pv wv pv' wv' ov vv : Value} {f f' : Nat → Nat} {n n' : Nat} {g g' : Nat → Kd} {t t' : Nat → Int} {m m' : Nat} {O : List Nat} {H : List Nm} {N : Nat} {D : DataW Value} {V : Nm → Value} {P : Nm → List Nat} {dm : Nm → Bool}

theorem Try.info9 : (Try.prog.info? 9).map (fun i => (i.zero, i.size, i.bytes)) = some (some (.string ⟨#[]⟩), 1, 16) := by kernel_rfl
theorem gB_bd {ls : List Sy.Lit} {H : List Nm} {x : Nm} {P : List Nat} (hP : ∀ a, P.count a = cnt x (litAt ls a).2.2) (h4 : ∀ a, (litAt ls a).2.2.length ≤ 4) (j a : Nat) : (-1000000 ≤ (gB (gOf ls H) P j a).bound ∧ (gB (gOf ls H) P j a).bound ≤ 1000000) ∧ (-1000000 ≤ (gB (gOf ls H) P j a).free ∧ (gB (gOf ls H) P j a).free ≤ 1000000) := by
  have h1 : (P.take j).count a ≤ 4 := by
    have e1 : (P.take j).count a ≤ P.count a := (List.take_sublist j P).count_le a
    have e2 : cnt x (litAt ls a).2.2 ≤ (litAt ls a).2.2.length := List.countP_le_length
    have := h4 a
    rw [hP a] at e1
    omega
  have h2 : (litAt ls a).2.2.countP (bndT H) ≤ 4 := Nat.le_trans List.countP_le_length (h4 a)
  have h3 : (litAt ls a).2.2.countP (freT H) ≤ 4 := Nat.le_trans List.countP_le_length (h4 a)
  simp only [gB, bumpN, gOf, kdL]
  omega
theorem P_lt {ls : List Sy.Lit} {x : Nm} {P : List Nat} (hP : ∀ a, P.count a = cnt x (litAt ls a).2.2) {j : Nat} (hj : j < P.length) : P[j] < ls.length := by
  have h1 : 0 < P.count P[j] := List.count_pos_iff.2 (List.getElem_mem hj)
  rw [hP] at h1
  refine Nat.lt_of_not_le fun h => ?_
  simp [litAt, h, cnt] at h1

set_option maxHeartbeats 4000000 in
theorem bind_some {ls : List Sy.Lit} (h : Wl B w qb mb bv pv wv ov vv f n (gOf ls H) t ls.length O H N D V P dm) (x : Nm) (hx : dm x = true) (hP : ∀ a, (P x).count a = cnt x (litAt ls a).2.2) (h4 : ∀ a, (litAt ls a).2.2.length ≤ 4) (hH : H.length ≤ 1000) (hPl : (P x).length ≤ 1000) (hxs : x.1.size ≤ 1000) (hxH : Ck.inS H x = false) :
    Calls Try.prog 31 #[.pointer (some ⟨qb, 0, none⟩), .string x.1] w fun e w' => e = .returned (.tuple #[]) ∧ ∃ vv' f' t' D', Wl B w' qb mb bv pv wv ov vv' f' n (gOf ls (H ++ [x])) t' ls.length O (H ++ [x]) N D' V P (fun y => dm y && !decide (y = x)) ∧ Sm f f' n ∧ Below B w w' := by
  obtain ⟨_, c3, _, c5⟩ := h.c
  obtain ⟨v, hl, hv⟩ := h.look x
  rw [hx] at hl
  have hv := hv hx
  subst hv
  obtain ⟨PX, HPX⟩ : ∃ PX, Hid (PX = P x) := ⟨_, rfl⟩
  obtain ⟨VX, HVX⟩ : ∃ VX, Hid (VX = V x) := ⟨_, rfl⟩
  have hrow : w.ownsRow 0 3 1 VX PX.length (PX.map num) := by rw [HPX.out, HVX.out]; exact h.rw x hx
  obtain ⟨ao, cap, hvx⟩ := (Sy.own_len hrow).2
  rw [← HVX.out] at hl
  have hpl : (PX.length : Int) ≤ 1000 := by rw [HPX.out]; omega
  have hPX : ∀ a, PX.count a = cnt x (litAt ls a).2.2 := by rw [HPX.out]; exact hP
  obtain ⟨M, HM⟩ : ∃ M, Hid (M = H.length + 1) := ⟨_, rfl⟩
  have f5 := h.q.fz 5
  have hqm : qb ≠ mb := map_cells h.mp h.q.b
  have hvq : vv.ownBlock ≠ some qb := own_ty h.v h.q.b (by decide)
  -- behind the call of Clone, from a world w1 without the key on
  have HC : Hid (∀ w1, w1.ownsMap Try.prog 9 heldR mb N (D.del (kl x)) → Fr (fun k => k = mb) w w1 → Calls Try.prog 41 #[.string x.1] w1.drew fun e w2 => e = .returned (.string x.1) ∧ w2.cell? ⟨qb, 5, none⟩ = some vv ∧ (∀ o, (w2.alloc o).cell? ⟨qb, 5, none⟩ = some vv) ∧
      ∃ gv cv w3, (∀ ty, (Builtin.append_ #[32, 32] ty #[vv, .slice (some ⟨w2.heap.size, 0, none⟩) 1 1]).run Try.prog (w2.alloc (.cells #[.string x.1] 9)) = .ok (.slice (some ⟨gv, 0, none⟩) M cv) w3) ∧ w3.cell? ⟨qb, 5, none⟩ = some vv ∧ w3.frozen? ⟨qb, 5, none⟩ = false ∧
        Hid (∃ vv' D', Wl B (w3.setCell ⟨qb, 5, none⟩ (.slice (some ⟨gv, 0, none⟩) M cv)) qb mb bv pv wv ov vv' f n (gOf ls H) t ls.length O (H ++ [x]) N D' V P (fun y => dm y && !decide (y = x)) ∧ Below B w (w3.setCell ⟨qb, 5, none⟩ (.slice (some ⟨gv, 0, none⟩) M cv)) ∧ (w3.setCell ⟨qb, 5, none⟩ (.slice (some ⟨gv, 0, none⟩) M cv)).ownsRow 0 3 1 VX PX.length (PX.map num))) := fun w1 hm1 hf1 =>
    (clone_any x.1 w1.drew (by omega)).mono (by
      rintro e w2 ⟨rfl, hb2'⟩
      have hb2 : Below w1.heap.size w1 w2 := ⟨hb2'.os, hb2'.tape, hb2'.output, hb2'.size, hb2'.block⟩
      have c5' : w2.cell? ⟨qb, 5, none⟩ = some vv := (Fr.of_below (F := fun _ => False) hb2).cell (hf1.cell c5 hqm) (fun e => e)
      have f5' : w2.frozen? ⟨qb, 5, none⟩ = false := ((Fr.of_below (F := fun _ => False) hb2).frozen (hf1.cell c5 hqm) (fun e => e)).trans ((hf1.frozen c5 hqm).trans f5)
      have v2 : w2.ownsRow 0 9 1 vv H.length (strs H) := own_of_cell (own_map_turn h.v hf1 (own_map h.v h.mp)) (Fr.of_below (F := fun _ => False) hb2) (fun k hk => hk.elim)
      obtain ⟨gv, cv, w3, hr, k1, k2, k3⟩ := push_row 32 9 1 16 _ Try.underlying32 Try.info9 rfl (by decide) (by decide) v2 [.string x.1] rfl (by simp [Value.oneCell']) (by omega)
      obtain ⟨q1, q2, q3⟩ := h.bound x hm1 hf1 hb2 k1.out k2.out k3.out
      rw [← HM.out] at hr
      refine ⟨rfl, c5', cell_alloc c5', gv, cv, w3, hr, k2.out.cell c5' hvq, (k2.out.frozen c5' hvq).trans f5', ?_⟩
      rw [HM.out, HPX.out, HVX.out]
      exact ⟨_, _, q1, q2, q3 hx⟩)
  have HDel := hide h.mp
  have HF1 : Hid (∀ w1, w.mapTurned w1 mb → Fr (fun k => k = mb) w w1) := fun w1 ht => Vl.Fr.of_grown ht.grown (fun k hk => by cases hk; rfl)
  have HC5 : Hid (∀ w1, Fr (fun k => k = mb) w w1 → w1.cell? ⟨qb, 5, none⟩ = some vv) := fun w1 hf => hf.cell c5 hqm
  have HS : Hid (∀ (W : World) (j : Nat) (hj : j < PX.length) (vv' : Value) (f1 : Nat → Nat) (t1 : Nat → Int) (D' : DataW Value), Wl B W qb mb bv pv wv ov vv' f1 n (gB (gOf ls H) PX j) t1 ls.length O (H ++ [x]) N D' V P (fun y => dm y && !decide (y = x)) → W.ownsRow 0 3 1 VX PX.length (PX.map num) →
      Calls Try.prog 42 #[.pointer (some ⟨qb, 1, none⟩), .int .i64 (PX[j] : Int)] W fun e w' => e = .returned (.tuple #[]) ∧ ∃ f2 t2, Wl B w' qb mb bv pv wv ov vv' f2 n (gB (gOf ls H) PX (j + 1)) t2 ls.length O (H ++ [x]) N D' V P (fun y => dm y && !decide (y = x)) ∧ Sm f1 f2 n ∧ Below B W w' ∧ w'.ownsRow 0 3 1 VX PX.length (PX.map num)) := fun W j hj vv' f1 t1 D' hW hro => by
    obtain ⟨b1, b2⟩ := gB_bd (H := H) hPX h4 j PX[j]
    refine (bindTerm_q hW.q hW.hp (P_lt hPX hj) b1 b2).mono ?_
    rintro e w' ⟨rfl, f2, t2, q1, q2, q3, q4⟩
    rw [gB_succ _ _ hj] at q1 q2
    have hs := hW.step q1 q2 (q4.mono (fun _ _ h => .inl h)) (Gw.refl _ _) (Gw.refl _ _)
    refine ⟨rfl, f2, t2, hs.1, q3, hs.2, own_of_cell hro q4 (fun k hk hu => ?_)⟩
    rcases hk with hk | hk
    · rw [HVX.out] at hu
      exact h.pr k hk x hx hu
    · exact Vl.own_ne hW.q.x hro (by decide) hk hu
  have HB := hide (And.intro h.bl (gB_done hxH hPX))
  subst hvx
  clear h hP h4 hH hPl hrow
  go_enter Try.func31, Try.ntmps31
  go_wp2_with (at_delete; refine wpList_delete_own _ rfl _ _ 52 9 rfl 31 law9 Try.underlying52 heldR mb N D rfl HDel.out _ _ rfl (keyNm x) ?_; intro w1 hm1 ht1)
  have hf1 := HF1.out w1 ht1
  have c5a := HC5.out w1 hf1
  have HC1 := hide (HC.out w1 hm1 hf1)
  clear HC HF1 HC5 hm1 ht1 hf1 hl c3 c5 f5
  go_cut [] from 24 to 36 (fun wc => ∃ vv' D', Hid (Wl B wc qb mb bv pv wv ov vv' f n (gOf ls H) t ls.length O (H ++ [x]) N D' V P (fun y => dm y && !decide (y = x)) ∧ Below B w wc ∧ wc.ownsRow 0 3 1 (.slice ao PX.length cap) PX.length (PX.map num)))
  case first =>
    refine wp_region_noPanic ?_
    go_region_law (first
      | (go_simp; go_at_call 41; (with_reducible refine Calls.mono HC1.out ?_); rintro e w2 ⟨rfl, c5b, c5d, gv, cv, w3, hr, c5c, f5c, HW⟩)
      | (refine Vl.step_append_run rfl (.tmp 29) (.tmp 32) 32 32 rfl vv (.slice (some ⟨w2.heap.size, 0, none⟩) 1 1) (by simp [Act.eval]) (by simp [Act.eval]) (hr _) ?_))
    all_goals refine NoPanic.normal ?_
    all_goals obtain ⟨vv', D', HW1⟩ := HW.out
    all_goals go_wp2_with fail
    all_goals go_meet
    all_goals exact ⟨vv', D', HW1⟩
  case rest =>
    obtain ⟨vv', D', HI⟩ := hcut
    clear HC1 HDel c5a hPX
    go_wp2_with fail
    go_loopw [39] (fun iv wr => ∃ (j : Nat) (f1 : Nat → Nat) (t1 : Nat → Int), iv = .int .i64 (j : Int) ∧ j ≤ PX.length ∧ Hid (Wl B wr qb mb bv pv wv ov vv' f1 n (gB (gOf ls H) PX j) t1 ls.length O (H ++ [x]) N D' V P (fun y => dm y && !decide (y = x)) ∧ Sm f f1 n ∧ Below B w wr ∧ wr.ownsRow 0 3 1 (.slice ao PX.length cap) PX.length (PX.map num))) (fun iv _ => PX.length - (intOf iv).toNat)
    case atStart =>
      refine ⟨0, f, t, rfl, Nat.zero_le _, ?_⟩
      show _ ∧ _
      rw [gB_zero]
      exact ⟨HI.out.1, Sm.refl _ _, HI.out.2.1, HI.out.2.2⟩
    case round =>
      obtain ⟨j, f1, t1, rfl, hj, HJ⟩ := hrel
      by_cases hlt : j < PX.length
      · have hltI : (j : Int) < (PX.length : Int) := by omega
        obtain ⟨gx, cx, e, _, _, hcell, _⟩ := own_open HJ.out.2.2.2 (by omega)
        simp only [Value.slice.injEq] at e
        obtain ⟨rfl, _, rfl⟩ := e
        have hc := hcell j (by omega)
        have hc' : wr.cell? ⟨gx, j, none⟩ = some (.int .i64 (PX[j] : Int)) := by
          rw [hc]
          simp [hlt, num]
        have HS1 := hide (HS.out wr j hlt vv' f1 t1 D' HJ.out.1 HJ.out.2.2.2)
        clear hcell hc HS
        generalize PX[j] = pj at *
        go_wp2_with fail
        refine HS1.out.mono ?_
        rintro e w5 ⟨rfl, f2, t2, q1, q2, q3, q4⟩
        have H5 := hide (And.intro q1 (And.intro q2 (And.intro q3 q4)))
        clear q1 q2 q3 q4 HS1
        go_wp2_with fail
        refine ⟨⟨j + 1, f2, t2, by simp, by omega, H5.out.1, HJ.out.2.1.trans H5.out.2.1, HJ.out.2.2.1.trans H5.out.2.2.1, H5.out.2.2.2⟩, ?_⟩
        show PX.length - (intOf (.int .i64 ((j : Int) + 1))).toNat < PX.length - (intOf (.int .i64 (j : Int))).toNat
        simp [intOf]
        omega
      · have hje : j = PX.length := by omega
        subst hje
        have HE := HJ.out
        rw [HB.out.2] at HE
        have HE' := hide HE
        clear HE HJ HI HS
        go_wp2_with fail
        exact bodyPost_end (res0 rfl _ _) rfl ⟨rfl, vv', f1, t1, D', HE'.out.1, HE'.out.2.1, HE'.out.2.2.1⟩
end Go.Proofs.Ytjejpjpdfdcnlaa.Qu
namespace Go.Proofs.Ytjejpjpdfdcnlaa.Qu
open Go.RowKit
open Vl (Fr Tm)
open Sy (isTs isLs Bx)
open Ck (TsB Nm)
variable {B : Nat} {w w' : World} {qb mb : Nat} {bv pv wv pv' wv' ov vv : Value} {f f' : Nat → Nat} {n n' : Nat} {g g' : Nat → Kd} {t t' : Nat → Int} {m m' : Nat} {O : List Nat} {H : List Nm} {N : Nat} {D : DataW Value} {V : Nm → Value} {P : Nm → List Nat} {dm : Nm → Bool}

theorem Wl.below (h : Wl B w qb mb bv pv wv ov vv f n g t m O H N D V P dm) (hb : Below w.heap.size w w') : Wl B w' qb mb bv pv wv ov vv f n g t m O H N D V P dm :=
  have hf := Fr.of_below (F := fun _ => False) hb
  ⟨h.q.below hb, h.hp, own_of_cell h.o hf (fun _ hk => hk.elim), own_of_cell h.v hf (fun _ hk => hk.elim), map_fr h.mp hf (fun e => e), h.hd, h.hv, fun x hx => own_of_cell (h.rw x hx) hf (fun _ hk => hk.elim), h.po, h.pr, h.orr, h.rr, h.lq, h.lm, h.lp, h.lw, h.l1, h.l2, h.l3, Nat.le_trans h.bl hb.size⟩

def occB (ls : List Sy.Lit) (x : Nm) : Bool := (List.range ls.length).any fun a => decide (0 < cnt x (litAt ls a).2.2)
/-- The walk in memory, with what it says of the body. -/
def Ws (w0 w : World) (qb mb : Nat) (bv : Value) (ls : List Sy.Lit) (O : List Nat) (H : List Nm) (f : Nat → Nat) (n : Nat) : Prop :=
  ∃ pv wv ov vv t N D V P dm, Wl w0.heap.size w qb mb bv pv wv ov vv f n (gOf ls H) t ls.length O H N D V P dm ∧ (∀ x, dm x = (occB ls x && !Ck.inS H x)) ∧ (∀ x, dm x = true → (∀ a, (P x).count a = cnt x (litAt ls a).2.2) ∧ (P x).length ≤ 1000) ∧ Below w0.heap.size w0 w
def addN (H : List Nm) (x : Nm) : List Nm := if Ck.inS H x = true then H else H ++ [x]
def addT (H : List Nm) (t : Tm) : List Nm := match Ck.varN t with | some x => addN H x | none => H
def takeH (H : List Nm) (l : Sy.Lit) : List Nm := if l.1 = 1 then l.2.2.foldl addT H else H
theorem addN_len (H : List Nm) (x : Nm) : (addN H x).length ≤ H.length + 1 := by unfold addN; split <;> simp
theorem addT_len (H : List Nm) (t : Tm) : (addT H t).length ≤ H.length + 1 := by
  unfold addT
  split
  · exact addN_len _ _
  · omega
theorem fold_len : ∀ (ts : List Tm) (H : List Nm), (ts.foldl addT H).length ≤ H.length + ts.length
  | [], _ => by simp
  | t :: ts, H => by
    have h1 := fold_len ts (addT H t)
    have h2 := addT_len H t
    simp only [List.foldl_cons, List.length_cons]
    omega
theorem fold_take (ts : List Tm) (H : List Nm) {i : Nat} (hi : i < ts.length) : (ts.take (i + 1)).foldl addT H = addT ((ts.take i).foldl addT H) ts[i] := by
  rw [List.take_succ_eq_append_getElem hi, List.foldl_append]
  rfl
theorem inS_snoc (H : List Nm) (x y : Nm) : Ck.inS (H ++ [x]) y = (Ck.inS H y || decide (y = x)) := by
  unfold Ck.inS
  rw [List.any_append]
  congr 1
  rw [Bool.eq_iff_iff]
  simp
  constructor
  · intro h; exact (Ck.nm_ext (by rw [h])).symm
  · intro h; rw [h]
theorem bind_w {w0 : World} {ls : List Sy.Lit} (h : Ws w0 w qb mb bv ls O H f n) (x : Nm) (hx : occB ls x = true) (h4 : ∀ a, (litAt ls a).2.2.length ≤ 4) (hH : H.length ≤ 1000) (hxs : x.1.size ≤ 1000) :
    Calls Try.prog 31 #[.pointer (some ⟨qb, 0, none⟩), .string x.1] w fun e w' => e = .returned (.tuple #[]) ∧ ∃ f', Ws w0 w' qb mb bv ls O (addN H x) f' n ∧ Sm f f' n := by
  obtain ⟨pv, wv, ov, vv, t, N, D, V, P, dm, hW, hd, hP, hb⟩ := h
  cases hi : Ck.inS H x with
  | true =>
    have e : addN H x = H := by simp [addN, hi]
    rw [e]
    refine (bind_none hW x (by rw [hd, hi]; simp)).mono ?_
    rintro e w' ⟨rfl, rfl⟩
    exact ⟨rfl, f, ⟨pv, wv, ov, vv, t, N, D, V, P, dm, hW, hd, hP, hb⟩, Sm.refl _ _⟩
  | false =>
    have e : addN H x = H ++ [x] := by simp [addN, hi]
    rw [e]
    have hdx : dm x = true := by rw [hd, hi, hx]; rfl
    refine (bind_some hW x hdx (hP x hdx).1 h4 hH (hP x hdx).2 hxs hi).mono ?_
    rintro e w' ⟨rfl, vv', f', t', D', q1, q2, q3⟩
    refine ⟨rfl, f', ⟨pv, wv, ov, vv', t', N, D', V, P, _, q1, fun y => ?_, fun y hy => ?_, hb.trans q3⟩, q2⟩
    · rw [hd, inS_snoc]
      cases occB ls y <;> cases Ck.inS H y <;> simp
    · simp at hy
      exact hP y hy.1

theorem Wl.ordered (h : Wl B w qb mb bv pv wv ov vv f n g t m O H N D V P dm) (p : Nat) {w3 : World} {go co : Nat}
    (k1 : w3.ownsRow 0 3 1 (.slice (some ⟨go, 0, none⟩) (O.length + 1) co) (O.length + 1) (O.map num ++ [.int .i64 (p : Int)])) (k2 : Fr (fun k => ov.ownBlock = some k) w w3) (k3 : Gw w ov (.slice (some ⟨go, 0, none⟩) (O.length + 1) co)) :
    Wl B (w3.setCell ⟨qb, 4, none⟩ (.slice (some ⟨go, 0, none⟩) (O.length + 1) co)) qb mb bv pv wv (.slice (some ⟨go, 0, none⟩) (O.length + 1) co) vv f n g t m (O ++ [p]) H N D V P dm ∧ Below B w (w3.setCell ⟨qb, 4, none⟩ (.slice (some ⟨go, 0, none⟩) (O.length + 1) co)) := by
  have hoq : ov.ownBlock ≠ some qb := own_ty h.o h.q.b (by decide)
  have hb3 : w3.heap[qb]? = some (.cells #[bv, pv, wv, .map (some mb), ov, vv] 54 (0, 0)) := by
    rw [k2.block qb (Array.getElem?_eq_some_iff.1 h.q.b).1 hoq]
    exact h.q.b
  have hgq : go ≠ qb := fun e => by
    subst e
    exact own_ty k1 hb3 (by decide) rfl
  have h4 : Fr (fun k => k = qb) w3 (w3.setCell ⟨qb, 4, none⟩ (.slice (some ⟨go, 0, none⟩) (O.length + 1) co)) := Vl.Fr.one _ _ _ _
  have hr : ∀ {e s c : Nat} {u : Value} {xs : List Value}, w.ownsRow 0 e s u c xs → e ≠ 54 → (∀ k, ov.ownBlock = some k → u.ownBlock ≠ some k) → (w3.setCell ⟨qb, 4, none⟩ (.slice (some ⟨go, 0, none⟩) (O.length + 1) co)).ownsRow 0 e s u c xs := by
    intro e s c u xs ho e2 hd
    have o3 := own_of_cell ho k2 hd
    exact own_of_cell o3 h4 (fun k hk hu => by subst hk; exact own_ty o3 hb3 (fun e => e2 e.symm) hu)
  have hall : Below B w (w3.setCell ⟨qb, 4, none⟩ (.slice (some ⟨go, 0, none⟩) (O.length + 1) co)) :=
    (k2.below (fun k hk => h.l1 k hk) h.bl).trans (h4.below (fun k hk => by rw [hk]; exact h.lq) (Nat.le_trans h.bl k2.size))
  have hpo : ∀ k, ov.ownBlock = some k → pv.ownBlock ≠ some k := fun k hk hp => h.po k hp hk
  have gn : ∀ k, (Value.slice (some ⟨go, 0, none⟩) (O.length + 1) co).ownBlock = some k → ov.ownBlock = some k ∨ w.heap.size ≤ k := k3
  refine ⟨⟨⟨?_, hr h.q.p (by decide) hpo, hr h.q.x (by decide) (fun k hk => Vl.own_ne h.o h.q.x (by decide) hk), h.q.few, h.q.lt, h.q.at1, h.q.at2⟩, h.hp, ?_, hr h.v (by decide) (fun k hk => Vl.own_ne h.o h.v (by decide) hk), map_fr (map_fr h.mp k2 (own_map h.o h.mp)) h4 (fun e => map_cells h.mp h.q.b e.symm), h.hd, h.hv, fun y hy => hr (h.rw y hy) (by decide) (fun k hk => h.orr k hk y hy), fun k hk hk2 => ?_, h.pr, fun k hk y hy => ?_, h.rr, h.lq, h.lm, h.lp, h.lw, fun k hk => ?_, h.l2, h.l3, Nat.le_trans h.bl hall.size⟩, hall⟩
  · rw [Vl.heap_set hb3]; rfl
  · have := own_of_cell k1 h4 (fun k hk hu => by subst hk; simp [Value.ownBlock] at hu; exact hgq hu)
    have e : O.map num ++ [.int .i64 (p : Int)] = (O ++ [p]).map num := by simp [num]
    rw [e] at this
    simpa using this
  · rcases gn k hk2 with h5 | h5
    · exact h.po k hk h5
    · have := own_lt h.q.p hk; omega
  · rcases gn k hk with h5 | h5
    · exact h.orr k h5 y hy
    · exact fun e => by have := own_lt (h.rw y hy) e; omega
  · rcases gn k hk with h5 | h5
    · exact h.l1 k h5
    · exact Nat.le_trans h.bl h5

theorem Ws.below {w0 : World} {ls : List Sy.Lit} (h : Ws w0 w qb mb bv ls O H f n) (hb : Below w.heap.size w w') : Ws w0 w' qb mb bv ls O H f n := by
  obtain ⟨pv, wv, ov, vv, t, N, D, V, P, dm, h1, h2, h3, h4⟩ := h
  exact ⟨pv, wv, ov, vv, t, N, D, V, P, dm, h1.below hb, h2, h3, h4.trans (hb.mono h4.size)⟩
theorem Ws.bel {w0 : World} {ls : List Sy.Lit} (h : Ws w0 w qb mb bv ls O H f n) : Below w0.heap.size w0 w := by
  obtain ⟨pv, wv, ov, vv, t, N, D, V, P, dm, h1, h2, h3, h4⟩ := h
  exact h4
set_option maxHeartbeats 4000000 in
theorem take_w {w0 : World} {ls : List Sy.Lit} (h : Ws w0 w qb mb bv ls O H f n) (hL : isLs w0 ls bv) {p : Nat} (hp : p < ls.length) (h4 : ∀ a, (litAt ls a).2.2.length ≤ 4) (hsz : ∀ l ∈ ls, ∀ t ∈ l.2.2, t.2.1.size ≤ 1000) (hO : O.length ≤ 1000) (hH : H.length ≤ 900) :
    Calls Try.prog 13 #[.pointer (some ⟨qb, 0, none⟩), .int .i64 (p : Int)] w fun e w' => e = .returned (.tuple #[]) ∧ ∃ f', Ws w0 w' qb mb bv ls (O ++ [p]) (takeH H (litAt ls p)) f' n ∧ Sm f f' n := by
  have hocc : ∀ t ∈ (litAt ls p).2.2, ∀ x, Ck.varN t = some x → occB ls x = true := by
    intro t ht x hx
    unfold Ck.varN at hx
    split at hx
    · rename_i hc
      cases hx
      unfold occB
      rw [List.any_eq_true]
      refine ⟨p, List.mem_range.2 hp, ?_⟩
      simp only [decide_eq_true_eq]
      refine List.countP_pos_iff.2 ⟨t, ht, ?_⟩
      simp [isV, varB, hc.1]
    · cases hx
  have hszp : ∀ t ∈ (litAt ls p).2.2, t.2.1.size ≤ 1000 := by
    rw [litAt_get hp]
    exact hsz _ (List.getElem_mem hp)
  have hbv : ∃ ao cap, bv = .slice ao ls.length cap := by
    obtain ⟨zs, rfl, h2, _⟩ := hL
    obtain ⟨ao, cap, e⟩ := (Sy.own_len h2).2
    exact ⟨ao, cap, by rw [e]; simp⟩
  obtain ⟨ao, cap, hbv⟩ := hbv
  subst hbv
  obtain ⟨gb, rfl, hcells⟩ := (Sy.isLs_cells hL).2 (by omega)
  obtain ⟨va, hta, l0, l1, l2⟩ := hcells p hp
  rw [← litAt_get hp] at hta l0 l1
  have hlp := h4 p
  have hgb : gb < w0.heap.size := World.block_lt_of_cell? w0 _ l0
  obtain ⟨pv, wv, ov, vv, t, N, D, V, P, dm, hW, hd, hP, hb⟩ := h
  obtain ⟨c0, _, c4, _⟩ := hW.c
  have f4 := hW.q.fz 4
  obtain ⟨M, HM⟩ : ∃ M, Hid (M = O.length + 1) := ⟨_, rfl⟩
  obtain ⟨go, co, w3, hr, k1, k2, k3⟩ := push_row 31 3 1 8 _ Try.underlying31 Try.info3 rfl (by decide) (by decide) hW.o [.int .i64 (p : Int)] rfl (by simp [Value.oneCell']) (by omega)
  have hov : ov.ownBlock ≠ some qb := own_ty hW.o hW.q.b (by decide)
  have c4' := k2.out.cell c4 hov
  have f4' := (k2.out.frozen c4 hov).trans f4
  obtain ⟨q1, q2⟩ := hW.ordered p k1.out k2.out k3.out
  rw [← HM.out] at hr q1 q2
  obtain ⟨w4, hw4⟩ : ∃ w4, w4 = w3.setCell ⟨qb, 4, none⟩ (.slice (some ⟨go, 0, none⟩) M co) := ⟨_, rfl⟩
  rw [← hw4] at q1 q2
  have HW4 : Hid (Ws w0 w4 qb mb (.slice (some ⟨gb, 0, none⟩) ls.length cap) ls (O ++ [p]) H f n) := ⟨pv, wv, _, vv, t, N, D, V, P, dm, q1, hd, hP, hb.trans q2⟩
  have hb4 : Below w0.heap.size w0 w4 := hb.trans q2
  have c0' : w4.cell? ⟨qb, 0, none⟩ = some (.slice (some ⟨gb, 0, none⟩) ls.length cap) := q1.c.1
  have l0' := (hb4.cell (p := ⟨gb, p * 3, none⟩) hgb).trans l0
  have l1' := (hb4.cell (p := ⟨gb, p * 3 + 1, none⟩) hgb).trans l1
  have l2' := (hb4.cell (p := ⟨gb, p * 3 + 2, none⟩) hgb).trans l2
  have hT := TsB.of hta (by omega)
  obtain ⟨L, HL⟩ : ∃ L, Hid (litAt ls p = L) := ⟨_, rfl⟩
  rw [HL.out] at hocc hszp hlp l0' l1' hT ⊢
  obtain ⟨lk, ln, ts⟩ := L
  dsimp only at hocc hszp hlp l0' l1' hT
  obtain ⟨aot, capt, rfl, _, hct⟩ := hT
  have HCT := hide hct
  have HBB := hide hb4
  have hpI : (p : Int) < (ls.length : Int) := by omega
  have HV4 := hide hw4
  have Hh4 := hide h4
  have Hocc := hide hocc
  have Hsz := hide hszp
  have hlI : (ts.length : Int) ≤ 4 := by omega
  clear hW hd hP hb hL hcells hta l0 l1 l2 k1 k2 k3 q1 q2 hct hb4 h4 hocc hszp hw4 hsz
  go_enter Try.func13, Try.ntmps13
  go_upto_region 1 with (at_builtin; refine Lx.wpList_append_run _ rfl (.tmp 12) (.tmp 14) 31 31 rfl _ _ rfl rfl (hr _) ?_)
  rw [← HV4.out]
  clear c4 f4 c4' f4' hr HV4 c0
  by_cases hk : lk = 1
  · subst hk
    have HTH : Hid (∀ i, i = ts.length → (ts.take i).foldl addT H = takeH H (1, ln, ts)) := by
      rintro i rfl
      rw [List.take_length]
      rfl
    go_upto_region 3 with fail
    obtain ⟨w5, hw5⟩ : ∃ w5, w5 = w4.alloc (.cells #[.int .i64 1, .string ln, .slice aot ts.length capt] 27) := ⟨_, rfl⟩
    have hb5 : Below w4.heap.size w4 w5 := by rw [hw5]; exact (Below.refl _ w4).alloc (Nat.le_refl _) _
    have HW5 := hide (HW4.out.below hb5)
    have d2 : w5.cell? ⟨w4.heap.size, 2, none⟩ = some (.slice aot ts.length capt) := by
      rw [hw5, cell_of_row _ _ 2 _ _ _ (heap_alloc_new _ _)]; rfl
    rw [← hw5]
    clear hw5 hb5 HW4 l0' l1' l2' c0'
    go_wp2_with fail
    go_loopw [32] (fun iv wr => ∃ (i : Nat) (f1 : Nat → Nat), iv = .int .i64 (i : Int) ∧ i ≤ ts.length ∧ Hid (Ws w0 wr qb mb (.slice (some ⟨gb, 0, none⟩) ls.length cap) ls (O ++ [p]) ((ts.take i).foldl addT H) f1 n ∧ Sm f f1 n)) (fun iv _ => ts.length - (intOf iv).toNat)
    case atStart => exact ⟨0, f, rfl, Nat.zero_le _, HW5.out, Sm.refl _ _⟩
    case round =>
      obtain ⟨i, f1, rfl, hi, HI⟩ := hrel
      clear HW5 d2
      by_cases hlt : i < ts.length
      · have hltI : (i : Int) < (ts.length : Int) := by omega
        obtain ⟨gt, off, rfl, hgt, hc⟩ := HCT.out (by omega)
        obtain ⟨t0, t1, t2⟩ := hc i hlt
        have hb := HI.out.1.bel
        have t0 := (hb.cell (p := ⟨gt, _, none⟩) hgt).trans t0
        have t1 := (hb.cell (p := ⟨gt, _, none⟩) hgt).trans t1
        have t2 := (hb.cell (p := ⟨gt, _, none⟩) hgt).trans t2
        have HFT := hide (fold_take ts H hlt)
        have hox := Hocc.out ts[i] (List.getElem_mem hlt)
        have hsx := Hsz.out ts[i] (List.getElem_mem hlt)
        have hlen : ((ts.take i).foldl addT H).length ≤ 1000 := by
          have := fold_len (ts.take i) H
          have h2 : (ts.take i).length ≤ 4 := by simp; omega
          omega
        clear hc hb
        generalize ts[i] = u at *
        obtain ⟨tk, tn, tz⟩ := u
        dsimp only at t0 t1 t2 hsx
        obtain ⟨w6, hw6⟩ : ∃ w6, w6 = wr.alloc (.cells #[.int .i64 tk, .string tn, .int .i64 tz] 79) := ⟨_, rfl⟩
        have hb6 : Below wr.heap.size wr w6 := by rw [hw6]; exact (Below.refl _ wr).alloc (Nat.le_refl _) _
        have HW6 := hide (HI.out.1.below hb6)
        have hme : ts.length - (intOf (.int .i64 ((i : Int) + 1))).toNat < ts.length - (intOf (.int .i64 (i : Int))).toNat := by
          simp [intOf]
          omega
        have HME := hide hme
        clear hme
        by_cases k1 : tk = 1
        · subst k1
          have hml : tn.size ≤ maxLen := by unfold maxLen; omega
          have hvn : Ck.varN ((1, tn, tz) : Tm) = some ⟨tn, hml⟩ := Ck.varN_some rfl hml
          have hB := bind_w HW6.out ⟨tn, hml⟩ (hox _ hvn) Hh4.out hlen hsx
          have e : addN ((ts.take i).foldl addT H) ⟨tn, hml⟩ = (ts.take (i + 1)).foldl addT H := by
            rw [HFT.out]
            unfold addT
            rw [hvn]
          rw [e] at hB
          have HB6 := hide hB
          have e6 := hide hw6
          clear hB hox hsx hlen hb6 hw6
          go_upto_region 7 with fail
          rw [← e6.out]
          have y1 : w6.cell? ⟨wr.heap.size, 1, none⟩ = some (.string tn) := by rw [e6.out, cell_of_row _ _ 1 _ _ _ (heap_alloc_new _ _)]; rfl
          go_wp2_with fail
          refine HB6.out.mono ?_
          rintro e w7 ⟨rfl, f2, q1, q2⟩
          have H7 := hide (And.intro q1 q2)
          clear q1 q2 HB6
          go_wp2_with fail
          exact ⟨⟨i + 1, f2, by simp, by omega, H7.out.1, HI.out.2.trans H7.out.2⟩, HME.out⟩
        · have e : (ts.take (i + 1)).foldl addT H = (ts.take i).foldl addT H := by
            rw [HFT.out]
            unfold addT
            rw [Ck.varN_none k1]
          have HE : Hid (Ws w0 (wr.alloc (.cells #[.int .i64 tk, .string tn, .int .i64 tz] 79)) qb mb (.slice (some ⟨gb, 0, none⟩) ls.length cap) ls (O ++ [p]) ((ts.take (i + 1)).foldl addT H) f1 n) := by
            rw [e, ← hw6]
            exact HW6.out
          clear hox hsx hlen hb6 hw6 HW6 e
          go_wp2_with fail
          exact ⟨⟨i + 1, f1, by simp, by omega, HE.out, HI.out.2⟩, HME.out⟩
      · have hie : i = ts.length := by omega
        have HE : Hid (Ws w0 wr qb mb (.slice (some ⟨gb, 0, none⟩) ls.length cap) ls (O ++ [p]) (takeH H (1, ln, ts)) f1 n ∧ Sm f f1 n) := by
          rw [← HTH.out i hie]
          exact HI.out
        clear HI
        go_wp2_with fail
        exact bodyPost_end (res0 rfl _ _) rfl ⟨rfl, f1, HE.out⟩
  · have hb5 : Below w4.heap.size w4 (w4.alloc (.cells #[.int .i64 lk, .string ln, .slice aot ts.length capt] 27)) := (Below.refl _ w4).alloc (Nat.le_refl _) _
    have HW5 := hide (HW4.out.below hb5)
    have g1 : (lk != 1) = true := by simpa using hk
    have e : takeH H (lk, ln, ts) = H := by simp [takeH, hk]
    have HE : Hid (Ws w0 (w4.alloc (.cells #[.int .i64 lk, .string ln, .slice aot ts.length capt] 27)) qb mb (.slice (some ⟨gb, 0, none⟩) ls.length cap) ls (O ++ [p]) (takeH H (lk, ln, ts)) f n) := by
      rw [e]
      exact HW5.out
    clear hb5 HW5 e
    go_wp2_with fail
    exact bodyPost_ret (res0 rfl _ _) rfl ⟨rfl, f, HE.out, Sm.refl _ _⟩
end Go.Proofs.Ytjejpjpdfdcnlaa.Qu
namespace Go.Proofs.Ytjejpjpdfdcnlaa.Qu
open Go.RowKit
open Vl (Fr Tm)
open Sy (isTs isLs Bx)
open Ck (TsB Nm)
variable {B : Nat} {w w' : World} {qb mb : Nat} {bv pv wv pv' wv' ov vv : Value} {f f' : Nat → Nat} {n n' : Nat} {g g' : Nat → Kd} {t t' : Nat → Int} {m m' : Nat} {O : List Nat} {H : List Nm} {N : Nat} {D : DataW Value} {V : Nm → Value} {P : Nm → List Nat} {dm : Nm → Bool}

def vxOf (V : Nm → Value) (dm : Nm → Bool) (x : Nm) : Value := if dm x = true then V x else .slice none 0 0
def pxOf (P : Nm → List Nat) (dm : Nm → Bool) (x : Nm) : List Nat := if dm x = true then P x else []
theorem Wl.px (h : Wl B w qb mb bv pv wv ov vv f n g t m O H N D V P dm) (x : Nm) : w.ownsRow 0 3 1 (vxOf V dm x) (pxOf P dm x).length ((pxOf P dm x).map num) := by
  unfold vxOf pxOf
  split
  · rename_i e; exact h.rw x e
  · exact ⟨by simp, .inl ⟨rfl, rfl⟩⟩
theorem Wl.at (h : Wl B w qb mb bv pv wv ov vv f n g t m O H N D V P dm) (x : Nm) : (Instr.lookup 52 (.map (some mb)) (.string x.1) false).run Try.prog w = .ok (vxOf V dm x) w := by
  obtain ⟨v, ps, hrun, hv⟩ := h.mp.lookup law9 Try.underlying52 (zero31 w) (zd := .held (.slice none 0 0)) (zp := []) rfl (keyNm x)
  suffices e : v = vxOf V dm x by rw [hrun, e]
  unfold vxOf
  split
  · rename_i e
    rw [h.hv x e] at hv
    simp [heldR] at hv
    exact hv.1
  · rename_i e
    have e' : dm x = false := by simpa using e
    rw [Maps.atKey_of_not_has (by rw [h.hd x]; exact e')] at hv
    simp [heldR] at hv
    exact hv.1
theorem key_lit (x : Nm) : WideAt.IsKeyLit (kl x) := Ck.key_str
theorem Wl.stood (h : Wl B w qb mb bv pv wv ov vv f n g t m O H N D V P dm) (x : Nm) (p : Nat) (hN : N ≤ 1000000) {w3 : World} {gx cx : Nat}
    (k1 : w3.ownsRow 0 3 1 (.slice (some ⟨gx, 0, none⟩) ((pxOf P dm x).length + 1) cx) ((pxOf P dm x).length + 1) ((pxOf P dm x).map num ++ [.int .i64 (p : Int)])) (k2 : Fr (fun k => (vxOf V dm x).ownBlock = some k) w w3) (k3 : Gw w (vxOf V dm x) (.slice (some ⟨gx, 0, none⟩) ((pxOf P dm x).length + 1) cx)) :
    ∃ w5, (Instr.mapUpdate 52 (.map (some mb)) (.string x.1) (.slice (some ⟨gx, 0, none⟩) ((pxOf P dm x).length + 1) cx)).run Try.prog w3 = .ok () w5 ∧ Below B w w5 ∧ Fr (fun k => k = mb) w3 w5 ∧
      ∃ D', Wl B w5 qb mb bv pv wv ov vv f n g t m O H (N + 1) D' (fun y => if y = x then .slice (some ⟨gx, 0, none⟩) ((pxOf P dm x).length + 1) cx else V y) (fun y => if y = x then pxOf P dm x ++ [p] else P y) (fun y => dm y || decide (y = x)) := by
  have hvx : ∀ k, (vxOf V dm x).ownBlock = some k → dm x = true ∧ (V x).ownBlock = some k := by
    intro k hk
    unfold vxOf at hk
    split at hk
    · rename_i e; exact ⟨e, hk⟩
    · cases hk
  have hpx := h.px x
  have mp3 := map_fr h.mp k2 (own_map hpx h.mp)
  obtain ⟨w5, hrun, hm5, ht⟩ := mp3.store law9 Try.underlying52 (by unfold maxLen; omega) (keyNm x) (val := .slice (some ⟨gx, 0, none⟩) ((pxOf P dm x).length + 1) cx) (d := .held (.slice (some ⟨gx, 0, none⟩) ((pxOf P dm x).length + 1) cx)) (ps := []) rfl
  have hf5 : Fr (fun k => k = mb) w3 w5 := Vl.Fr.of_grown ht.grown (fun k hk => by cases hk; rfl)
  have hr : ∀ {e s c : Nat} {u : Value} {xs : List Value}, w.ownsRow 0 e s u c xs → (∀ k, (vxOf V dm x).ownBlock = some k → u.ownBlock ≠ some k) → w5.ownsRow 0 e s u c xs := by
    intro e s c u xs ho hd
    have o3 := own_of_cell ho k2 hd
    exact own_map_turn o3 hf5 (own_map o3 mp3)
  have hall : Below B w w5 := (k2.below (fun k hk => h.l3 x (hvx k hk).1 k (hvx k hk).2) h.bl).trans (hf5.below (fun k hk => by rw [hk]; exact h.lm) (Nat.le_trans h.bl k2.size))
  have gn : ∀ k, (Value.slice (some ⟨gx, 0, none⟩) ((pxOf P dm x).length + 1) cx).ownBlock = some k → (dm x = true ∧ (V x).ownBlock = some k) ∨ w.heap.size ≤ k := fun k hk => (k3 k hk).imp (hvx k) id
  have hxp : ∀ k, (vxOf V dm x).ownBlock = some k → pv.ownBlock ≠ some k := fun k hk hp => h.pr k hp x (hvx k hk).1 (hvx k hk).2
  have hxo : ∀ k, (vxOf V dm x).ownBlock = some k → ov.ownBlock ≠ some k := fun k hk hp => h.orr k hp x (hvx k hk).1 (hvx k hk).2
  have hb5 : w5.heap[qb]? = some (.cells #[bv, pv, wv, .map (some mb), ov, vv] 54 (0, 0)) := by
    have hlt := (Array.getElem?_eq_some_iff.1 h.q.b).1
    have hk2 := k2.block qb hlt (own_ty hpx h.q.b (by decide))
    rw [hf5.block qb (Nat.lt_of_lt_of_le hlt k2.size) (map_cells h.mp h.q.b), hk2]
    exact h.q.b
  refine ⟨w5, hrun, hall, hf5, _, ⟨⟨hb5, hr h.q.p hxp, hr h.q.x (fun k hk => Vl.own_ne hpx h.q.x (by decide) hk), h.q.few, h.q.lt, h.q.at1, h.q.at2⟩, h.hp, hr h.o hxo, hr h.v (fun k hk => Vl.own_ne hpx h.v (by decide) hk), hm5, fun y => ?_, fun y hy => ?_, fun y hy => ?_, h.po, fun k hk y hy => ?_, fun k hk y hy => ?_, fun y z hyz hy hz k hk => ?_, h.lq, h.lm, h.lp, h.lw, h.l1, h.l2, fun y hy k hk => ?_, Nat.le_trans h.bl hall.size⟩⟩
  · by_cases e : y = x
    · subst e
      rw [Maps.has_put_same h.mp.isMap (key_lit y)]
      simp
    · rw [Maps.has_put_other (kl_ne e), h.hd y]
      simp [e]
  · by_cases e : y = x
    · subst e
      rw [Maps.atKey_put_same h.mp.isMap (key_lit y)]
      simp
    · rw [Maps.atKey_put_other (kl_ne e)]
      simp [e] at hy
      simp only [e, if_false]
      exact h.hv y hy
  · by_cases e : y = x
    · subst e
      simp only [if_true]
      have := own_map_turn k1 hf5 (own_map k1 mp3)
      have e : (pxOf P dm y).map num ++ [.int .i64 (p : Int)] = (pxOf P dm y ++ [p]).map num := by simp [num]
      rw [e] at this
      simpa using this
    · simp [e] at hy
      simp only [e, if_false]
      exact hr (h.rw y hy) (fun k hk => h.rr x y (Ne.symm e) (hvx k hk).1 hy k (hvx k hk).2)
  · by_cases e : y = x
    · subst e
      simp only [if_true]
      intro h5
      rcases gn k h5 with h6 | h6
      · exact h.pr k hk y h6.1 h6.2
      · have := own_lt h.q.p hk; omega
    · simp [e] at hy
      simp only [e, if_false]
      exact h.pr k hk y hy
  · by_cases e : y = x
    · subst e
      simp only [if_true]
      intro h5
      rcases gn k h5 with h6 | h6
      · exact h.orr k hk y h6.1 h6.2
      · have := own_lt h.o hk; omega
    · simp [e] at hy
      simp only [e, if_false]
      exact h.orr k hk y hy
  · by_cases e : y = x
    · subst e
      have e2 : z ≠ y := Ne.symm hyz
      simp [e2] at hz
      simp only [e2, if_false]
      simp only [if_true] at hk
      rcases gn k hk with h6 | h6
      · exact h.rr y z hyz h6.1 hz k h6.2
      · exact fun e => by have := own_lt (h.rw z hz) e; omega
    · simp [e] at hy
      simp only [e, if_false] at hk
      by_cases e2 : z = x
      · subst e2
        simp only [if_true]
        intro h5
        rcases gn k h5 with h6 | h6
        · exact h.rr z y (Ne.symm hyz) h6.1 hy k h6.2 hk
        · have := own_lt (h.rw y hy) hk; omega
      · simp [e2] at hz
        simp only [e2, if_false]
        exact h.rr y z hyz hy hz k hk
  · by_cases e : y = x
    · subst e
      simp only [if_true] at hk
      rcases gn k hk with h6 | h6
      · exact h.l3 y h6.1 k h6.2
      · exact Nat.le_trans h.bl h6
    · simp [e] at hy
      simp only [e, if_false] at hk
      exact h.l3 y hy k hk

/-- How often x stands so far in the literal at place a: i literals are gone through, and k terms of the next. -/
def curC (ls : List Sy.Lit) (i k : Nat) (x : Nm) (a : Nat) : Nat := if a < i then cnt x (litAt ls a).2.2 else if a = i then cnt x ((litAt ls i).2.2.take k) else 0
structure Cu (ls : List Sy.Lit) (i k : Nat) (P : Nm → List Nat) (dm : Nm → Bool) : Prop where
  no : ∀ x, dm x = false → ∀ a, curC ls i k x a = 0
  yes : ∀ x, dm x = true → (∀ a, (P x).count a = curC ls i k x a) ∧ (∃ a, 0 < curC ls i k x a)
  len : ∀ x, dm x = true → (P x).length ≤ 4 * i + k
theorem Cu.px {ls : List Sy.Lit} {i k : Nat} {P : Nm → List Nat} {dm : Nm → Bool} (h : Cu ls i k P dm) (x : Nm) : (∀ a, (pxOf P dm x).count a = curC ls i k x a) ∧ (pxOf P dm x).length ≤ 4 * i + k := by
  unfold pxOf
  split
  · rename_i e; exact ⟨(h.yes x e).1, h.len x e⟩
  · rename_i e
    exact ⟨fun a => by rw [h.no x (by simpa using e) a]; rfl, Nat.zero_le _⟩
theorem cur_step {ls : List Sy.Lit} {i k : Nat} (hk : k < (litAt ls i).2.2.length) (x : Nm) (a : Nat) : curC ls i (k + 1) x a = curC ls i k x a + (if a = i ∧ isV x (litAt ls i).2.2[k] = true then 1 else 0) := by
  unfold curC
  by_cases h1 : a < i
  · rw [if_pos h1, if_pos h1, if_neg (by omega)]
    rfl
  · rw [if_neg h1, if_neg h1]
    by_cases h2 : a = i
    · rw [if_pos h2, if_pos h2]
      unfold cnt
      rw [count_take hk]
      simp [h2]
    · rw [if_neg h2, if_neg h2, if_neg (fun h => h2 h.1)]
theorem Cu.skip {ls : List Sy.Lit} {i k : Nat} {P : Nm → List Nat} {dm : Nm → Bool} (h : Cu ls i k P dm) (hk : k < (litAt ls i).2.2.length) (hn : varB (litAt ls i).2.2[k] = false) : Cu ls i (k + 1) P dm := by
  have e : ∀ x a, curC ls i (k + 1) x a = curC ls i k x a := fun x a => by
    rw [cur_step hk, if_neg (by simp [isV, hn])]
    rfl
  exact ⟨fun x hx a => by rw [e]; exact h.no x hx a, fun x hx => ⟨fun a => by rw [e]; exact (h.yes x hx).1 a, by obtain ⟨a, ha⟩ := (h.yes x hx).2; exact ⟨a, by rw [e]; exact ha⟩⟩, fun x hx => Nat.le_succ_of_le (h.len x hx)⟩
theorem Cu.put {ls : List Sy.Lit} {i k : Nat} {P : Nm → List Nat} {dm : Nm → Bool} (h : Cu ls i k P dm) (hk : k < (litAt ls i).2.2.length) {x : Nm} (hv : varB (litAt ls i).2.2[k] = true) (hx : (litAt ls i).2.2[k].2.1 = x.1) : Cu ls i (k + 1) (fun y => if y = x then pxOf P dm x ++ [i] else P y) (fun y => dm y || decide (y = x)) := by
  have hi : ∀ y, isV y (litAt ls i).2.2[k] = decide (y = x) := fun y => by
    unfold isV
    rw [hv, hx, Bool.true_and, Bool.eq_iff_iff]
    simp
    constructor
    · intro e; exact (Ck.nm_ext (by rw [e])).symm
    · intro e; rw [e]
  have e : ∀ y a, curC ls i (k + 1) y a = curC ls i k y a + (if a = i ∧ y = x then 1 else 0) := fun y a => by
    rw [cur_step hk, hi]
    simp
  refine ⟨fun y hy a => ?_, fun y hy => ?_, fun y hy => ?_⟩
  · simp at hy
    rw [e, if_neg (fun h => hy.2 h.2), h.no y hy.1 a]
  · by_cases ey : y = x
    · subst ey
      simp only [if_true]
      refine ⟨fun a => ?_, ⟨i, by rw [e, if_pos ⟨rfl, rfl⟩]; omega⟩⟩
      rw [List.count_append, (h.px y).1 a, e]
      by_cases ea : a = i
      · subst ea; simp
      · simp [Ne.symm ea, ea]
    · simp [ey] at hy
      simp only [ey, if_false]
      refine ⟨fun a => by rw [e, if_neg (fun h => ey h.2)]; exact (h.yes y hy).1 a, ?_⟩
      obtain ⟨a, ha⟩ := (h.yes y hy).2
      exact ⟨a, by rw [e]; omega⟩
  · by_cases ey : y = x
    · subst ey
      simp only [if_true]
      have := (h.px y).2
      simp
      omega
    · simp [ey] at hy
      simp only [ey, if_false]
      have := h.len y hy
      omega
theorem Cu.next {ls : List Sy.Lit} {i k : Nat} {P : Nm → List Nat} {dm : Nm → Bool} (h : Cu ls i k P dm) (hk : k = (litAt ls i).2.2.length) (h4 : k ≤ 4) : Cu ls (i + 1) 0 P dm := by
  have e : ∀ x a, curC ls (i + 1) 0 x a = curC ls i k x a := fun x a => by
    unfold curC
    by_cases h1 : a < i
    · rw [if_pos (by omega), if_pos h1]
    · by_cases h2 : a = i
      · subst h2
        rw [if_pos (by omega), if_neg h1, if_pos rfl, hk, List.take_length]
      · rw [if_neg (by omega), if_neg h1, if_neg h2]
        by_cases h3 : a = i + 1
        · rw [if_pos h3]; simp [cnt]
        · rw [if_neg h3]
  exact ⟨fun x hx a => by rw [e]; exact h.no x hx a, fun x hx => ⟨fun a => by rw [e]; exact (h.yes x hx).1 a, by obtain ⟨a, ha⟩ := (h.yes x hx).2; exact ⟨a, by rw [e]; exact ha⟩⟩, fun x hx => by have := h.len x hx; omega⟩
theorem Cu.zero (ls : List Sy.Lit) (P : Nm → List Nat) : Cu ls 0 0 P (fun _ => false) := by
  refine ⟨fun x _ a => ?_, fun x hx => by simp at hx, fun x hx => by simp at hx⟩
  unfold curC
  by_cases h : a = 0
  · subst h; simp [cnt]
  · simp [h]
theorem Cu.done {ls : List Sy.Lit} {P : Nm → List Nat} {dm : Nm → Bool} (h : Cu ls ls.length 0 P dm) (x : Nm) : dm x = (occB ls x && !Ck.inS [] x) ∧ (dm x = true → (∀ a, (P x).count a = cnt x (litAt ls a).2.2)) := by
  have e : ∀ a, curC ls ls.length 0 x a = cnt x (litAt ls a).2.2 := fun a => by
    unfold curC
    by_cases h1 : a < ls.length
    · rw [if_pos h1]
    · rw [if_neg h1]
      have : litAt ls a = (0, ⟨#[]⟩, []) := by simp [litAt, h1]
      rw [this]
      by_cases h2 : a = ls.length <;> simp [h2, cnt]
  refine ⟨?_, fun hx a => by rw [(h.yes x hx).1 a, e]⟩
  have ei : Ck.inS [] x = false := rfl
  rw [ei, Bool.not_false, Bool.and_true]
  cases hd : dm x with
  | false =>
    symm
    unfold occB
    rw [List.any_eq_false]
    intro a ha
    have := h.no x hd a
    rw [e] at this
    simp [this]
  | true =>
    obtain ⟨a, ha⟩ := (h.yes x hd).2
    rw [e] at ha
    symm
    unfold occB
    rw [List.any_eq_true]
    refine ⟨a, List.mem_range.2 (Nat.lt_of_not_le fun hle => ?_), by simpa using ha⟩
    have : litAt ls a = (0, ⟨#[]⟩, []) := by simp [litAt, hle]
    rw [this] at ha
    simp [cnt] at ha
end Go.Proofs.Ytjejpjpdfdcnlaa.Qu
