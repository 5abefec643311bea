/- check.Defined, and the reference's: their contracts. comesBack. comesBack's walk. Recursive. strata. -/
import Derived.Test.YtdmhajeaphnebaaPart10
import Derived.Test.YtdmhajeaphnebaaPart15
namespace Go.Proofs.Ytdmhajeaphnebaa.Ck
open Go.RowKit
open Vl (Tm Fr)
open Sy
theorem defined_any (nm : ByteArray) {rs : List Rul} {v : Value} {w : World} (h : isRs w rs v) (hl : rs.length ≤ 1000000) :
    Calls Try.prog 22 #[v, .string nm] w fun e w' => e = .returned (.bool (defR rs nm)) ∧ Below w.heap.size w w' := by
  obtain ⟨ao, cap, rfl⟩ := Rp.isRs_shape h
  have HC := hide (Rp.isRs_cells h).2
  clear h
  obtain ⟨p, hp⟩ : ∃ p : Rul → Bool, p = fun q => q.1.2.1.toList == nm.toList := ⟨_, rfl⟩
  have HD : Hid (defR rs nm = rs.any p) := by rw [hp]; rfl
  have HP := hide hp
  clear hp
  go_enter Try.func22, Try.ntmps22
  go_wp2_with fail
  go_loopw [9] (fun iv wr => ∃ i : Nat, iv = .int .i64 i ∧ i ≤ rs.length ∧ Hid ((rs.take i).any p = false) ∧ Hid (Below w.heap.size w wr)) (fun iv _ => rs.length - (intOf iv).toNat)
  case atStart => exact ⟨0, rfl, Nat.zero_le _, rfl, Below.refl _ _⟩
  case round =>
    obtain ⟨i, rfl, hi, HI, HB⟩ := hrel
    by_cases hlt : i < rs.length
    · have hltI : (i : Int) < (rs.length : Int) := by omega
      obtain ⟨g, rfl, hc⟩ := HC.out (by omega)
      obtain ⟨u, x, hu, hx, k0, k1, k2, k3⟩ := hc i hlt
      have k0 := Gr.cell_bel k0 HB.out
      have k1 := Gr.cell_bel k1 HB.out
      have k2 := Gr.cell_bel k2 HB.out
      have k3 := Gr.cell_bel k3 HB.out
      have HAT := hide (any_take (p := p) hlt)
      have HAF : Hid (p rs[i] = true → rs.any p = true) := fun hp => any_true hlt hp
      have HPP : Hid (p rs[i] = (rs[i].1.2.1.toList == nm.toList)) := by show _ = _; rw [HP.out]
      obtain ⟨_, aou, capu, rfl⟩ := own_len hu
      obtain ⟨aox, capx, rfl⟩ := isLs_shape hx
      clear hc hu hx
      generalize rs[i] = q at *
      obtain ⟨⟨qk, qn, qt⟩, qb⟩ := q
      simp only at k0 k1 k2 k3 HPP
      cases hq : (qn.toList == nm.toList)
      · rw [hq] at HPP
        go_wp2_with fail
        go_roundw
        case rel => exact ⟨i + 1, by go_num, by omega, by rw [HAT.out, HI.out, HPP.out]; rfl, HB.out.alloc HB.out.size _⟩
        case measure => simp [intOf]; omega
      · rw [hq] at HPP
        go_wp2_with fail
        go_ret
        rw [HD.out, HAF.out HPP.out]
        exact ⟨rfl, HB.out.alloc HB.out.size _⟩
    · have hltI : ¬ (i : Int) < (rs.length : Int) := by omega
      have hie : rs.take i = rs := by rw [show i = rs.length by omega, List.take_length]
      rw [hie] at HI
      clear hie
      go_wp2_with fail
      go_ret
      rw [HD.out, HI.out]
      exact ⟨rfl, HB.out⟩

set_option maxRecDepth 10000 in
set_option maxHeartbeats 2000000 in
theorem rdefined_any (nm : ByteArray) {rs : List Rul} {v : Value} {w : World} (h : isRs w rs v) (hl : rs.length ≤ 1000000) :
    Calls Try.prog 24 #[v, .string nm] w fun e w' => e = .returned (.bool (defR rs nm)) ∧ w' = w := by
  obtain ⟨ao, cap, rfl⟩ := Rp.isRs_shape h
  have HC := hide (Rp.isRs_cells h).2
  clear h
  obtain ⟨p, hp⟩ : ∃ p : Rul → Bool, p = fun q => q.1.2.1.toList == nm.toList := ⟨_, rfl⟩
  have HD : Hid (defR rs nm = rs.any p) := by rw [hp]; rfl
  have HP := hide hp
  clear hp
  go_enter Try.func24, Try.ntmps24
  go_wp2_with fail
  go_loopw [5] (fun iv wr => ∃ i : Nat, iv = .int .i64 i ∧ i ≤ rs.length ∧ Hid ((rs.take i).any p = false) ∧ wr = w) (fun iv _ => rs.length - (intOf iv).toNat)
  case atStart => exact ⟨0, rfl, Nat.zero_le _, rfl, rfl⟩
  case round =>
    obtain ⟨i, rfl, hi, HI, hwr⟩ := hrel
    have hwr' := hwr.symm
    subst hwr'
    clear hwr
    by_cases hlt : i < rs.length
    · have hltI : (i : Int) < (rs.length : Int) := by omega
      obtain ⟨g, rfl, hc⟩ := HC.out (by omega)
      obtain ⟨u, x, hu, hx, k0, k1, k2, k3⟩ := hc i hlt
      have HAT := hide (any_take (p := p) hlt)
      have HAF : Hid (p rs[i] = true → rs.any p = true) := fun hp => any_true hlt hp
      have HPP : Hid (p rs[i] = (rs[i].1.2.1.toList == nm.toList)) := by show _ = _; rw [HP.out]
      clear hc hu hx k0 k2 k3
      generalize rs[i] = q at *
      obtain ⟨⟨qk, qn, qt⟩, qb⟩ := q
      simp only at k1 HPP
      cases hq : (qn.toList == nm.toList)
      · rw [hq] at HPP
        go_wp2_with fail
        go_roundw
        case rel => exact ⟨i + 1, by go_num, by omega, by show _ = _; rw [HAT.out, HI.out, HPP.out]; rfl, by first | rfl | trivial⟩
        case measure => simp [intOf]; omega
      · rw [hq] at HPP
        go_wp2_with fail
        go_ret
        rw [HD.out, HAF.out HPP.out]
        exact ⟨rfl, rfl⟩
    · have hltI : ¬ (i : Int) < (rs.length : Int) := by omega
      have hie : rs.take i = rs := by rw [show i = rs.length by omega, List.take_length]
      rw [hie] at HI
      clear hie
      go_wp2_with fail
      go_ret
      rw [HD.out, HI.out]
      exact ⟨rfl, rfl⟩
end Go.Proofs.Ytdmhajeaphnebaa.Ck
namespace Go.Proofs.Ytdmhajeaphnebaa.Gr
open Go.RowKit
open Vl (Fr)
open Tj (Rch Sea SeaK Back)
variable {w0 w w' : World} {nv sv wv mv : Value} {n xb : Nat} {nd : Nat → List (Nat × Bool)} {wait : List Nat} {seen : Nat → Bool}
def rowB (f : Nat → Bool) (n : Nat) : List Value := (List.range n).map fun k => .bool (f k)
theorem rowB_len (f : Nat → Bool) (n : Nat) : (rowB f n).length = n := by simp [rowB]
theorem rowB_get (f : Nat → Bool) {n k : Nat} (h : k < n) : (rowB f n)[k]? = some (.bool (f k)) := by simp [rowB, h]
theorem rowB_set (f : Nat → Bool) (n i : Nat) (v : Bool) : (rowB f n).set i (.bool v) = rowB (upd f i v) n := by
  have h := range_set (fun k => Value.bool (f k)) n i (.bool v)
  unfold rowB
  rw [h]
  refine List.map_congr_left fun k _ => ?_
  simp only [upd]
  split <;> rfl
theorem Try.info4 : (Try.prog.info? 4).map (fun i => (i.zero, i.size, i.bytes)) = some (some (.bool false), 1, 1) := by kernel_rfl
theorem made_rowB (n : Nat) : madeCells (Value.bool false).cells n = (rowB (fun _ => false) n).toArray := by
  apply Array.ext'
  apply List.ext_getElem?
  intro j
  by_cases hj : j < n
  · simp [madeCells, rowB, hj, Value.cells, Nat.mod_one]
  · simp [madeCells, rowB, hj]
theorem make_rowB (n : Nat) (hl : n ≤ 1000) (W : World) : (Instr.makeSlice 39 (.int .i64 (n : Int)) (.int .i64 (n : Int))).run Try.prog W = .ok (.slice (some ⟨W.heap.size, 0, none⟩) n n) (W.alloc (.cells (rowB (fun _ => false) n).toArray 4)) := by
  obtain ⟨i, hi, hz, hsize, hby⟩ := info_parts Try.info4
  have h := run_make (P := Try.prog) W 39 4 i (.bool false) Try.underlying39 hi hz .i64 .i64 (n : Int) (n : Int) (by omega) (by omega) (by rw [hby]; omega) (by omega)
  rw [hsize, Nat.mul_one] at h
  simp only [Int.toNat_natCast] at h
  rw [made_rowB] at h
  exact h
/-- The search in memory. -/
structure Cb (w0 w : World) (xb : Nat) (mv nv sv wv : Value) (n : Nat) (nd : Nat → List (Nat × Bool)) (wait : List Nat) (seen : Nat → Bool) : Prop where
  b : w.heap[xb]? = some (.cells #[mv, nv] 47 (0, 0))
  s : w.ownsRow 0 4 1 sv n (rowB seen n)
  q : w.ownsRow 0 3 1 wv wait.length (wait.map num)
  nd : NdIn w nv n nd
  z : Below w0.heap.size w0 w
  zs : ∀ k, sv.ownBlock = some k → w0.heap.size ≤ k
  zq : ∀ k, wv.ownBlock = some k → w0.heap.size ≤ k
  lt : ∀ x ∈ wait, x < n
theorem Cb.below (h : Cb w0 w xb mv nv sv wv n nd wait seen) (hb : Below w.heap.size w w') : Cb w0 w' xb mv nv sv wv n nd wait seen := by
  have hf : Fr (fun _ => False) w w' := Fr.of_below hb
  have ho : ∀ {e s c : Nat} {x : Value} {xs : List Value}, w.ownsRow 0 e s x c xs → w'.ownsRow 0 e s x c xs := fun {e s c x xs} k => own_of_cell k hf (fun _ hk => hk.elim)
  exact ⟨(hb.block xb (Array.getElem?_eq_some_iff.1 h.b).1).trans h.b, ho h.s, ho h.q, h.nd.fr hf (fun _ hk => hk.elim), h.z.trans (hb.mono h.z.size), h.zs, h.zq, h.lt⟩
theorem Cb.pop {g c x : Nat} (h : Cb w0 w xb mv nv sv (.slice (some ⟨g, 0, none⟩) (wait ++ [x]).length c) n nd (wait ++ [x]) seen) : Cb w0 w xb mv nv sv (.slice (some ⟨g, 0, none⟩) wait.length c) n nd wait seen :=
  ⟨h.b, h.s, own_cut h.q (by simp) (by simp), h.nd, h.z, h.zs, h.zq, fun y hy => h.lt y (by simp [hy])⟩
theorem Cb.mark {g c : Nat} (h : Cb w0 w xb mv nv (.slice (some ⟨g, 0, none⟩) n c) wv n nd wait seen) (i : Nat) : Cb w0 (w.setCell ⟨g, i, none⟩ (.bool true)) xb mv nv (.slice (some ⟨g, 0, none⟩) n c) wv n nd wait (upd seen i true) := by
  have hf : Fr (fun k => k = g) w (w.setCell ⟨g, i, none⟩ (.bool true)) := Vl.Fr.one _ _ _ _
  obtain ⟨cur, hg⟩ := own_blk h.s (k := g) rfl
  have hs := own_set (j := i) h.s (.bool true)
  rw [rowB_set] at hs
  refine ⟨(hf.block xb (Array.getElem?_eq_some_iff.1 h.b).1 (fun e => by subst e; rw [h.b] at hg; simp at hg)).trans h.b, hs, own_of_cell h.q hf (fun k hk hu => by subst hk; exact own_ty h.q hg (by decide) hu), h.nd.fr hf (fun k hk cs T fr hc => ?_), h.z.trans (hf.below (fun k hk => by subst hk; exact h.zs _ rfl) h.z.size), h.zs, h.zq, h.lt⟩
  subst hk
  rw [hg] at hc
  simp at hc
  obtain ⟨_, rfl, _⟩ := hc
  decide
theorem Cb.push (h : Cb w0 w xb mv nv sv wv n nd wait seen) {a : Nat} (ha : a < n) {w3 : World} {g c : Nat} (k1 : w3.ownsRow 0 3 1 (.slice (some ⟨g, 0, none⟩) (wait.length + 1) c) (wait.length + 1) (wait.map num ++ [.int .i64 (a : Int)])) (k2 : Fr (fun k => wv.ownBlock = some k) w w3) (k3 : Gw w wv (.slice (some ⟨g, 0, none⟩) (wait.length + 1) c)) :
    Cb w0 w3 xb mv nv sv (.slice (some ⟨g, 0, none⟩) (wait.length + 1) c) n nd (wait ++ [a]) seen := by
  refine ⟨(k2.block xb (Array.getElem?_eq_some_iff.1 h.b).1 (own_ty h.q h.b (by decide))).trans h.b, own_of_cell h.s k2 (fun k hk => Vl.own_ne h.q h.s (by decide) hk), ?_, h.nd.fr k2 (fun k hk cs T fr hc => ?_), h.z.trans (k2.below h.zq h.z.size), h.zs, fun k hk => ?_, fun y hy => ?_⟩
  · have e : wait.map num ++ [.int .i64 (a : Int)] = (wait ++ [a]).map num := by simp [num]
    rw [e] at k1
    simpa using k1
  · obtain ⟨cur, hg⟩ := own_blk h.q hk
    rw [hg] at hc
    simp at hc
    obtain ⟨_, rfl, _⟩ := hc
    decide
  · rcases k3 k hk with h5 | h5
    · exact h.zq k h5
    · exact Nat.le_trans h.z.size h5
  · rcases List.mem_append.1 hy with h1 | h1
    · exact h.lt y h1
    · have : y = a := by simpa using h1
      rw [this]; exact ha
def unseen (seen : Nat → Bool) (n : Nat) : Nat := (List.range n).countP (fun v => !seen v)
theorem unseen_mark {a : Nat} (ha : a < n) (hs : seen a = false) : unseen (upd seen a true) n + 1 ≤ unseen seen n :=
  Tj.count_lt (p := fun v => !(upd seen a true) v) (q := fun v => !seen v) (x := a) (List.range n) (fun y _ hy => by
    by_cases e : y = a
    · subst e; simp [upd] at hy
    · simpa [upd, e] using hy) (by simpa using ha) (by simp [upd]) (by simp [hs])
def sn (seen : Nat → Bool) (n : Nat) : Nat → Prop := fun v => v < n ∧ seen v = true
theorem sn_mark {a : Nat} (ha : a < n) (y : Nat) : sn (upd seen a true) n y ↔ sn seen n y ∨ y = a := by
  unfold sn upd
  by_cases e : y = a
  · subst e; simp [ha]
  · simp [e]
end Go.Proofs.Ytdmhajeaphnebaa.Gr
namespace Go.Proofs.Ytdmhajeaphnebaa.Gr
open Go.RowKit
open Vl (Fr)
open Tj (Rch Sea SeaK Back)
variable {w0 w w' : World} {nv sv wv mv : Value} {n xb : Nat} {nd : Nat → List (Nat × Bool)} {wait : List Nat} {seen : Nat → Bool}
theorem num_last (q : List Nat) (x : Nat) : ((q ++ [x]).map num)[q.length]? = some (num x) := by simp
theorem Cb.start (w : World) (h : NdIn w nv n nd) (hn : n ≤ 1000) {id : Nat} (hid : id < n) : Cb w (((w.alloc (.cells #[mv, nv] 47)).alloc (.cells (rowB (fun _ => false) n).toArray 4)).alloc (.cells #[.int .i64 (id : Int)] 3)) w.heap.size mv nv (.slice (some ⟨w.heap.size + 1, 0, none⟩) n n) (.slice (some ⟨w.heap.size + 1 + 1, 0, none⟩) 1 1) n nd [id] (fun _ => false) := by
  have hb : Below w.heap.size w (((w.alloc (.cells #[mv, nv] 47)).alloc (.cells (rowB (fun _ => false) n).toArray 4)).alloc (.cells #[.int .i64 (id : Int)] 3)) := (((Below.refl _ w).alloc (Nat.le_refl _) _).alloc (by simp) _).alloc (by simp; omega) _
  have h0 : (((w.alloc (.cells #[mv, nv] 47)).alloc (.cells (rowB (fun _ => false) n).toArray 4)).alloc (.cells #[.int .i64 (id : Int)] 3)).heap[w.heap.size]? = some (.cells #[mv, nv] 47 (0, 0)) := by
    show (((w.heap.push _).push _).push _)[w.heap.size]? = _
    rw [Array.getElem?_push_lt (by simp; omega), Array.getElem_push_lt (by simp)]
    simp
  have h1 : (((w.alloc (.cells #[mv, nv] 47)).alloc (.cells (rowB (fun _ => false) n).toArray 4)).alloc (.cells #[.int .i64 (id : Int)] 3)).heap[w.heap.size + 1]? = some (.cells (rowB (fun _ => false) n).toArray 4 (0, 0)) := by
    show (((w.heap.push _).push _).push _)[w.heap.size + 1]? = _
    simp [Array.getElem_push]
  have h2 : (((w.alloc (.cells #[mv, nv] 47)).alloc (.cells (rowB (fun _ => false) n).toArray 4)).alloc (.cells #[.int .i64 (id : Int)] 3)).heap[w.heap.size + 1 + 1]? = some (.cells #[.int .i64 (id : Int)] 3 (0, 0)) := by
    show (((w.heap.push _).push _).push _)[w.heap.size + 1 + 1]? = _
    simp [Array.getElem_push]
  refine ⟨h0, ⟨by simp [rowB_len], .inr ⟨_, n, _, rfl, Nat.zero_le _, h1, Nat.le_refl _, by simp only [maxLen]; omega, by simp [rowB_len], by simp [List.take_of_length_le, rowB_len]⟩⟩, ⟨rfl, .inr ⟨_, 1, _, rfl, Nat.zero_le _, h2, Nat.le_refl _, by decide, rfl, rfl⟩⟩, h.fr (Fr.of_below (F := fun _ => False) hb) (fun _ hk => hk.elim), hb, fun k hk => ?_, fun k hk => ?_, fun x hx => ?_⟩
  · simp [Value.ownBlock] at hk; omega
  · simp [Value.ownBlock] at hk; omega
  · have : x = id := by simpa using hx
    rw [this]; exact hid
set_option maxHeartbeats 8000000 in
set_option maxRecDepth 4000 in
theorem back_any {id : Nat} (h : NdIn w nv n nd) (hb : ∀ v, v < n → ∀ e ∈ nd v, e.1 < n) (hid : id < n) (hn : n ≤ 999) (hnl : ∀ v, v < n → (nd v).length ≤ 1000000) :
    Calls Try.prog 23 #[.agg #[mv, nv], .int .i64 (id : Int)] w fun x w2 => ∃ b, x = .returned (.bool b) ∧ (b = true ↔ Back nd id) ∧ Below w.heap.size w w2 := by
  have hmk := make_rowB n (by omega)
  have HS := hide (Cb.start (mv := mv) w h (by omega) hid)
  have hnv : ∃ gn cn, nv = .slice (some ⟨gn, 0, none⟩) n cn := by
    obtain ⟨V, hV1, _⟩ := h
    obtain ⟨g, c, e, _⟩ := own_open hV1 (by omega)
    exact ⟨g, c, e⟩
  obtain ⟨gn, cn, rfl⟩ := hnv
  have hnI : (n : Int) ≤ 1000 := by omega
  have hidI : (id : Int) < (n : Int) := by omega
  have HB := hide hb
  have HL := hide hnl
  obtain ⟨W0, hW0⟩ : ∃ W0, W0 = (((w.alloc (.cells #[mv, .slice (some ⟨gn, 0, none⟩) n cn] 47)).alloc (.cells (rowB (fun _ => false) n).toArray 4)).alloc (.cells #[.int .i64 (id : Int)] 3)) := ⟨_, rfl⟩
  rw [← hW0] at HS
  have EW := hide hW0
  clear h hb hnl hW0
  go_enter Try.func23, Try.ntmps23
  go_wp2_with fail
  rw [← EW.out]
  obtain ⟨sb, hsb⟩ : ∃ sb, sb = w.heap.size + 1 := ⟨_, rfl⟩
  obtain ⟨qb, hqb⟩ : ∃ qb, qb = w.heap.size + 1 + 1 := ⟨_, rfl⟩
  obtain ⟨xb, hxb⟩ : ∃ xb, xb = w.heap.size := ⟨_, rfl⟩
  rw [← hqb, ← hsb, ← hxb] at HS
  rw [← hqb, ← hsb, ← hxb]
  clear hqb hsb hxb EW hmk
  go_loopg [6] (1 + unseen (fun _ => false) n) (fun k qv wr => ∃ wait seen, Hid (Cb w wr xb mv (.slice (some ⟨gn, 0, none⟩) n cn) (.slice (some ⟨sb, 0, none⟩) n n) qv n nd wait seen ∧ Sea nd id (sn seen n) wait ∧ wait.length + unseen seen n ≤ k ∧ k ≤ 1000))
  case atStart => exact ⟨[id], fun _ => false, HS.out, (by have h := Sea.zero nd id; have e : sn (fun _ => false) n = fun _ => False := by funext v; simp [sn]
                                                           rw [e]; exact h), Nat.le_refl _, by have := List.countP_le_length (p := fun v => !(fun _ : Nat => false) v) (l := List.range n); rw [List.length_range] at this; unfold unseen; omega⟩
  case round =>
    obtain ⟨wait, seen, HV⟩ := hrel
    clear HS
    rcases nil_or_snoc wait with rfl | ⟨q, x, rfl⟩
    · obtain ⟨qa, qc, rfl⟩ := own_sl HV.out.1.q
      have HE : Hid (¬ Back nd id ∧ Below w.heap.size w wr) := ⟨HV.out.2.1.none, HV.out.1.z⟩
      clear HV
      go_wp2_with fail
      go_ret
      exact ⟨false, rfl, ⟨(fun e => by cases e), (fun e => absurd e HE.out.1)⟩, HE.out.2⟩
    · obtain ⟨qg, qc, rfl, hqc, hqm, hcell, _⟩ := own_open HV.out.1.q (by simp)
      have x0 := (hcell q.length (by simp)).trans (num_last q x)
      unfold num at x0
      have hxn := HV.out.1.lt x (by simp)
      have hxI : (x : Int) < (n : Int) := by omega
      have HP := hide HV.out.1.pop
      have hbl : q.length + 1 ≤ 2000 := by
        have h1 := HV.out.2.2
        simp at h1
        omega
      have e1 : (q ++ [x]).length = q.length + 1 := by simp
      rw [e1] at hqc
      obtain ⟨V, hV1, hV2⟩ := HV.out.1.nd
      obtain ⟨_, _, ee, -, -, hnc, -⟩ := own_open hV1 (by omega)
      simp only [Value.slice.injEq, Option.some.injEq, Addr.mk.injEq, and_true, true_and] at ee
      obtain ⟨rfl, rfl⟩ := ee
      have y0 : wr.cell? ⟨gn, x, none⟩ = some (V x) := (hnc x (by omega)).trans (by simp [hxn])
      obtain ⟨va, vc, hVx⟩ := own_sl (hV2 x hxn)
      rw [hVx] at y0
      have b1 : wr.cell? ⟨xb, 1, none⟩ = some (.slice (some ⟨gn, 0, none⟩) n cn) := by rw [cell_of_row _ _ 1 _ _ _ HV.out.1.b]; rfl
      have hnx := HL.out x hxn
      obtain ⟨L, HLn⟩ : ∃ L, Hid (L = (nd x).length) := ⟨_, rfl⟩
      have hrow := hV2 x hxn
      rw [hVx, ← HLn.out] at hrow
      rw [← HLn.out] at y0 hnx
      have HI : Hid (Cb w wr xb mv (.slice (some ⟨gn, 0, none⟩) n cn) (.slice (some ⟨sb, 0, none⟩) n n) (.slice (some ⟨qg, 0, none⟩) q.length qc) n nd q seen ∧ SeaK nd id (sn seen n) q x 0 ∧ q.length + unseen seen n + 1 ≤ gk ∧ wr.ownsRow 0 82 2 (.slice va L vc) L (cellsN (nd x))) := ⟨HP.out, HV.out.2.1.pop (by simp) (fun y hy => by rcases List.mem_append.1 hy with h | h; exact .inr h; exact .inl (by simpa using h)) (fun y hy => by simp [hy]), by have := HV.out.2.2.1; simp at this; omega, hrow⟩
      have hgk : gk ≤ 1000 := HV.out.2.2.2
      have c6 : ∀ z, Value.slice (some ⟨qg, 0, none⟩) (q ++ [x]).length z = Value.slice (some ⟨qg, 0, none⟩) (q.length + 1) z := fun z => by rw [e1]
      simp only [c6]
      obtain ⟨m, hm⟩ : ∃ m, m = q.length := ⟨_, rfl⟩
      have HMq := hide hm
      rw [← hm] at x0 hbl hqc HI
      simp only [← hm]
      clear HV HP hcell hnc hV1 hV2 hVx hrow e1 c6 hm
      go_wp2_with fail
      go_loopw [6, 36] (fun qv kv wq => ∃ (k : Nat) (wait : List Nat) (seen : Nat → Bool), kv = .int .i64 (k : Int) ∧ k ≤ L ∧ Hid (Cb w wq xb mv (.slice (some ⟨gn, 0, none⟩) n cn) (.slice (some ⟨sb, 0, none⟩) n n) qv n nd wait seen ∧ SeaK nd id (sn seen n) wait x k ∧ wait.length + unseen seen n + 1 ≤ gk ∧ wq.ownsRow 0 82 2 (.slice va L vc) L (cellsN (nd x)))) (fun _ kv _ => L - (intOf kv).toNat)
      case atStart => exact ⟨0, q, seen, rfl, Nat.zero_le _, HI.out.1, HI.out.2.1, by have := HI.out.2.2.1; rw [HMq.out] at this; exact this, HI.out.2.2.2⟩
      case round =>
        obtain ⟨k, wait, seen, rfl, hk, HK⟩ := hrel
        clear HI x0 y0 b1
        have HME : Hid (k < L → L - (intOf (.int .i64 ((k : Int) + 1))).toNat < L - (intOf (.int .i64 (k : Int))).toNat) := fun h => by
          simp [intOf]; omega
        by_cases hlt : k < L
        · have hltI : (k : Int) < (L : Int) := by omega
          obtain ⟨e, he⟩ : ∃ e, (nd x)[k]? = some e := ⟨_, List.getElem?_eq_getElem (by rw [← HLn.out]; exact hlt)⟩
          obtain ⟨gv, cv', ev, -, -, hvc, -⟩ := own_open HK.out.2.2.2 (by omega)
          simp only [Value.slice.injEq, true_and] at ev
          obtain ⟨rfl, rfl⟩ := ev
          have z0 := (hvc (k * 2) (by omega)).trans (cellsN_at he).1
          have z1 := (hvc (k * 2 + 1) (by omega)).trans (cellsN_at he).2
          unfold num at z0
          have hem : e ∈ nd x := List.mem_of_getElem? he
          have hen := HB.out x hxn e hem
          have henI : (e.1 : Int) < (n : Int) := by omega
          obtain ⟨on, neg⟩ := e
          simp only at z0 z1 hen henI
          obtain ⟨U, hU⟩ : ∃ U, U = wr.alloc (.cells #[.int .i64 (on : Int), .bool neg] 82) := ⟨_, rfl⟩
          have hUB : Below wr.heap.size wr U := by rw [hU]; exact (Below.refl _ _).alloc (Nat.le_refl _) _
          have hUL : U.heap[wr.heap.size]? = some (.cells #[.int .i64 (on : Int), .bool neg] 82 (0, 0)) := by rw [hU]; exact heap_alloc_new _ _
          have hCU := HK.out.1.below hUB
          have hrU : U.ownsRow 0 82 2 (.slice (some ⟨gv, 0, none⟩) L vc) L (cellsN (nd x)) := own_of_cell HK.out.2.2.2 (Fr.of_below (F := fun _ => False) hUB) (fun _ hk => hk.elim)
          have l0 : U.cell? ⟨wr.heap.size, 0, none⟩ = some (.int .i64 (on : Int)) := by rw [cell_of_row _ _ 0 _ _ _ hUL]; rfl
          have EU := hide hU
          by_cases hoi : on = id
          · have HE : Hid (Back nd id ∧ Below w.heap.size w U) := ⟨HK.out.2.1.found hem hoi, hCU.z⟩
            clear hU hUB hUL hCU hrU HK hvc
            subst hoi
            go_upto_region 9 with fail
            rw [← EU.out]
            go_wp2_with fail
            go_ret
            exact ⟨true, rfl, ⟨(fun _ => HE.out.1), (fun _ => rfl)⟩, HE.out.2⟩
          · have hoI : ¬ ((on : Int) = (id : Int)) := by omega
            obtain ⟨_, _, ee, -, -, hsc, hsf⟩ := own_open hCU.s (by omega)
            simp only [Value.slice.injEq, Option.some.injEq, Addr.mk.injEq, and_true, true_and] at ee
            obtain ⟨rfl, rfl⟩ := ee
            have s0 := (hsc on (by omega)).trans (rowB_get seen hen)
            cases hsn : seen on with
            | true =>
              rw [hsn] at s0
              have HN : Hid (Cb w U xb mv (.slice (some ⟨gn, 0, none⟩) n cn) (.slice (some ⟨sb, 0, none⟩) n n) u6 n nd wait seen ∧ SeaK nd id (sn seen n) wait x (k + 1) ∧ wait.length + unseen seen n + 1 ≤ gk ∧ U.ownsRow 0 82 2 (.slice (some ⟨gv, 0, none⟩) L vc) L (cellsN (nd x))) := ⟨hCU, HK.out.2.1.old he hoi ⟨hen, hsn⟩, HK.out.2.2.1, hrU⟩
              clear hU hUB hUL hCU hrU HK hvc hsc hsf hoi hsn
              go_upto_region 9 with fail
              rw [← EU.out]
              go_wp2_with fail
              exact ⟨⟨k + 1, wait, seen, by simp, by omega, HN.out⟩, HME.out hlt⟩
            | false =>
              rw [hsn] at s0
              have sf := hsf on
              have hCM := hCU.mark on
              have hfm : Fr (fun k => k = sb) U (U.setCell ⟨sb, on, none⟩ (.bool true)) := Vl.Fr.one _ _ _ _
              have hrM : (U.setCell ⟨sb, on, none⟩ (.bool true)).ownsRow 0 82 2 (.slice (some ⟨gv, 0, none⟩) L vc) L (cellsN (nd x)) := own_of_cell hrU hfm (fun j hj hu => by subst hj; exact Vl.own_ne hrU hCU.s (by decide) hu rfl)
              have l0' : (U.setCell ⟨sb, on, none⟩ (.bool true)).cell? ⟨wr.heap.size, 0, none⟩ = some (.int .i64 (on : Int)) := hfm.cell l0 (fun e => by
                obtain ⟨cur, hg⟩ := own_blk hCU.s (k := sb) rfl
                have e' : wr.heap.size = sb := e
                rw [← e', hUL] at hg
                simp at hg)
              obtain ⟨U2, hU2⟩ : ∃ U2, U2 = U.setCell ⟨sb, on, none⟩ (.bool true) := ⟨_, rfl⟩
              rw [← hU2] at hCM hrM l0'
              have hwl : wait.length ≤ 1000 := by have := HK.out.2.2.1; omega
              obtain ⟨g', c', w3, hr, k1, k2, k3⟩ := push_row 34 3 1 8 _ Try.underlying34 Try.info3 rfl (by decide) (by decide) hCM.q [.int .i64 (on : Int)] rfl (by simp [Value.oneCell']) (by omega)
              have HN : Hid (Cb w w3 xb mv (.slice (some ⟨gn, 0, none⟩) n cn) (.slice (some ⟨sb, 0, none⟩) n n) (.slice (some ⟨g', 0, none⟩) (wait.length + 1) c') n nd (wait ++ [on]) (upd seen on true) ∧ SeaK nd id (sn (upd seen on true) n) (wait ++ [on]) x (k + 1) ∧ (wait ++ [on]).length + unseen (upd seen on true) n + 1 ≤ gk ∧ w3.ownsRow 0 82 2 (.slice (some ⟨gv, 0, none⟩) L vc) L (cellsN (nd x))) := ⟨hCM.push hen k1.out k2.out k3.out, HK.out.2.1.new he hoi (fun y => sn_mark hen y) (fun y => by simp), by have h1 := HK.out.2.2.1; have h2 := unseen_mark hen hsn; simp; omega, own_of_cell hrM k2.out (fun j hj hu => Vl.own_ne hCM.q hrM (by decide) hj hu)⟩
              obtain ⟨M, HMl⟩ : ∃ M, Hid (M = wait.length + 1) := ⟨_, rfl⟩
              rw [← HMl.out] at hr HN
              obtain ⟨qa, qc2, hqv⟩ := own_sl hCU.q
              have EU2 := hide hU2
              clear hU hUB hUL hCU hrU HK hvc hsc hsf hoi hsn hCM hrM hfm k1 k2 k3 hU2
              go_upto_region 9 with fail
              rw [← EU.out]
              go_upto_region 13 with fail
              rw [← EU2.out]
              clear s0 sf l0 z0 z1
              go_wp2_with (at_builtin; refine Lx.wpList_append_run _ rfl (.tmp 54) (.tmp 57) 34 34 rfl _ _ rfl rfl (hr _) ?_)
              exact ⟨⟨k + 1, wait ++ [on], upd seen on true, by simp, by omega, HN.out⟩, HME.out hlt⟩
        · have hke : k = L := by omega
          have hge : ¬ ((k : Int) < (L : Int)) := by omega
          have HN : Hid (Cb w wr xb mv (.slice (some ⟨gn, 0, none⟩) n cn) (.slice (some ⟨sb, 0, none⟩) n n) u6 n nd wait seen ∧ Sea nd id (sn seen n) wait) := ⟨HK.out.1, HK.out.2.1.done (by rw [← HLn.out]; omega)⟩
          have hms := HK.out.2.2.1
          clear HK
          go_wp2_with fail
          go_roundg (wait.length + unseen seen n)
          case measure => omega
          case rel => exact ⟨wait, seen, HN.out.1, HN.out.2, Nat.le_refl _, by omega⟩
end Go.Proofs.Ytdmhajeaphnebaa.Gr
namespace Go.Proofs.Ytdmhajeaphnebaa.Gr
open Go.RowKit
open Vl (Fr)
open Sy (isRs isRs_below Rul OkR)
open Tj (ixN ixN_lt ndOf ndOf_bnd hdN idsOf idsOf_len heads_ids Back BackN)
variable {w w' : World}
theorem toL (s : ByteArray) : s.toList = s.data.toList := Lib.toList_data s
theorem ba_eq {a b : ByteArray} : (a.toList == b.toList) = true ↔ a = b := by
  rw [toL, toL, beq_iff_eq]
  exact ⟨fun h => Vl.bytes_ext h, fun h => by rw [h]⟩
theorem defR_iff {rs : List Rul} {nm : ByteArray} : Ck.defR rs nm = true ↔ nm ∈ idsOf rs := by
  unfold Ck.defR
  rw [List.any_eq_true, (heads_ids rs).mem]
  constructor
  · rintro ⟨r, hr, h⟩
    exact ⟨r, hr, ba_eq.1 h⟩
  · rintro ⟨r, hr, h⟩
    exact ⟨r, hr, ba_eq.2 h⟩
theorem nd_few {rs : List Rul} (hok : OkRs rs) (v : Nat) : (ndOf (idsOf rs) rs v).length ≤ 1000000 := by
  have h1 := Tj.ndOf_len (idsOf rs) v 6 rs (fun r hr => (hok.2 r hr).few)
  have h2 : rs.length * 6 ≤ 30 * 6 := Nat.mul_le_mul_right 6 hok.1
  omega
set_option maxHeartbeats 4000000 in
theorem recursive_any {rs : List Rul} {y : Value} (hR : isRs w rs y) (hok : OkRs rs) (nm : ByteArray) :
    Calls Try.prog 11 #[y, .string nm] w fun x w2 => ∃ b, x = .returned (.bool b) ∧ (b = true ↔ BackN rs nm) ∧ Below w.heap.size w w2 := by
  obtain ⟨ao, cap, hy⟩ := Rp.isRs_shape hR
  have HD := hide (Ck.defined_any nm hR (by have := hok.1; omega))
  have HR := hide hR
  have HO := hide hok
  subst hy
  clear hR hok
  go_enter Try.func11, Try.ntmps11
  go_wp2_with fail
  refine Calls.mono HD.out ?_
  rintro x w1 ⟨rfl, hb1⟩
  cases hd : Ck.defR rs nm with
  | false =>
    have HE : Hid (¬ BackN rs nm ∧ Below w.heap.size w w1) := ⟨(fun h => by rw [defR_iff.2 h.1] at hd; cases hd), hb1⟩
    clear hb1 hd HD
    go_wp2_with fail
    go_ret
    exact ⟨false, rfl, ⟨(fun e => by cases e), (fun e => absurd e HE.out.1)⟩, HE.out.2⟩
  | true =>
    have hmem := defR_iff.1 hd
    have HG := hide (graph_any (isRs_below HR.out hb1) HO.out)
    have HB1 := hide hb1
    have HM := hide hmem
    clear hb1 hd HD hmem
    go_wp2_with fail
    refine Calls.mono HG.out ?_
    rintro x w2 ⟨mb, nv, rfl, hmp, ⟨V, hnd⟩, _⟩
    obtain ⟨na, nc, rfl⟩ := own_sl hnd.o
    obtain ⟨U, hU⟩ : ∃ U, U = w2.alloc (.cells #[.map (some mb), .slice na (idsOf rs).length nc] 47) := ⟨_, rfl⟩
    have hUB : Below w2.heap.size w2 U := by rw [hU]; exact (Below.refl _ _).alloc (Nat.le_refl _) _
    have hUL : U.heap[w2.heap.size]? = some (.cells #[.map (some mb), .slice na (idsOf rs).length nc] 47 (0, 0)) := by rw [hU]; exact heap_alloc_new _ _
    have hix := ixN_lt HM.out
    have hl30 : (idsOf rs).length ≤ 30 := Nat.le_trans (idsOf_len rs) HO.out.1
    have hget := (hmp.below hUB).get HM.out
    have hzU : Below w.heap.size w U := (HB1.out.trans (hnd.z.mono HB1.out.size)).trans (hUB.mono (Nat.le_trans HB1.out.size hnd.z.size))
    have HC : Hid (Calls Try.prog 23 #[.agg #[.map (some mb), .slice na (idsOf rs).length nc], .int .i64 (ixN (idsOf rs) nm : Int)] U fun x w3 => ∃ b, x = .returned (.bool b) ∧ Hid ((b = true ↔ BackN rs nm) ∧ Below w.heap.size w w3)) := (back_any ((hnd.below hUB).ndIn) (fun v _ => ndOf_bnd (idsOf rs) rs v) hix (by omega) (fun v _ => nd_few HO.out v)).mono (fun x w3 hx => by
      obtain ⟨b, h1, h2, h3⟩ := hx
      exact ⟨b, h1, ⟨fun h => ⟨HM.out, h2.1 h⟩, fun h => h2.2 h.2⟩, hzU.trans (h3.mono hzU.size)⟩)
    have u0 : U.cell? ⟨w2.heap.size, 0, none⟩ = some (.map (some mb)) := by rw [cell_of_row _ _ 0 _ _ _ hUL]; rfl
    have u1 : U.cell? ⟨w2.heap.size, 1, none⟩ = some (.slice na (idsOf rs).length nc) := by rw [cell_of_row _ _ 1 _ _ _ hUL]; rfl
    have EU := hide hU
    clear hU hUB hUL hmp hnd HG hix hzU
    generalize (idsOf rs).length = hn at *
    generalize ixN (idsOf rs) nm = ix at *
    go_upto_region 4 with fail
    rw [← EU.out]
    go_wp2_with fail
    refine Calls.mono HC.out ?_
    rintro x w3 ⟨b, rfl, HX⟩
    clear u0 u1 hget HC
    go_wp2_with fail
    go_ret
    exact ⟨b, rfl, HX.out⟩
end Go.Proofs.Ytdmhajeaphnebaa.Gr
namespace Go.Proofs.Ytdmhajeaphnebaa.Gr
open Go.RowKit
open Vl (Fr)
open Tj (ng ng_nn Inv Rch Sol up up_s up_o count_lt)
variable {w0 w w' : World} {qb : Nat} {nv pv ov mv lv sv : Value} {n cnt : Nat} {path : List (Nat × Nat)} {opn : List Nat} {met low nxt : Nat → Nat} {st : Nat → Int} {nd : Nat → List (Nat × Bool)}

theorem made_rowI (n : Nat) : madeCells (Value.int .i64 0).cells n = (rowI (fun _ => 0) n).toArray := by
  apply Array.ext'
  apply List.ext_getElem?
  intro j
  by_cases hj : j < n
  · simp [madeCells, rowI, hj, Value.cells, Nat.mod_one]
  · simp [madeCells, rowI, hj]
theorem make_rowI (n : Nat) (hl : n ≤ 1000) (W : World) : (Instr.makeSlice 34 (.int .i64 (n : Int)) (.int .i64 (n : Int))).run Try.prog W = .ok (.slice (some ⟨W.heap.size, 0, none⟩) n n) (W.alloc (.cells (rowI (fun _ => 0) n).toArray 3)) := by
  obtain ⟨i, hi, hz, hsize, hby⟩ := info_parts Try.info3
  have h := run_make (P := Try.prog) W 34 3 i (.int .i64 0) Try.underlying34 hi hz .i64 .i64 (n : Int) (n : Int) (by omega) (by omega) (by rw [hby]; omega) (by omega)
  rw [hsize, Nat.mul_one] at h
  simp only [Int.toNat_natCast] at h
  rw [made_rowI] at h
  exact h
/-- The walk's four blocks are laid. -/
structure Made (w W : World) (nv : Value) (n qb gm gl gs : Nat) : Prop where
  b : W.heap[qb]? = some (.cells #[nv, .slice none 0 0, .slice none 0 0, .int .i64 0, .slice (some ⟨gm, 0, none⟩) n n, .slice (some ⟨gl, 0, none⟩) n n, .slice (some ⟨gs, 0, none⟩) n n] 78 (0, 0))
  m : W.heap[gm]? = some (.cells (rowI (fun _ => 0) n).toArray 3 (0, 0))
  l : W.heap[gl]? = some (.cells (rowI (fun _ => 0) n).toArray 3 (0, 0))
  s : W.heap[gs]? = some (.cells (rowI (fun _ => 0) n).toArray 3 (0, 0))
  ml : gm ≠ gl
  ms : gm ≠ gs
  ls : gl ≠ gs
  q0 : w.heap.size ≤ qb
  m0 : w.heap.size ≤ gm
  l0 : w.heap.size ≤ gl
  s0 : w.heap.size ≤ gs
  bl : Below w.heap.size w W
theorem row_of {W : World} {g n : Nat} (h : W.heap[g]? = some (.cells (rowI (fun _ => 0) n).toArray 3 (0, 0))) (hn : n ≤ 1000) : W.ownsRow 0 3 1 (.slice (some ⟨g, 0, none⟩) n n) n (rowI (fun _ => 0) n) :=
  ⟨by rw [rowI_len, Nat.mul_one], .inr ⟨g, n, _, rfl, Nat.zero_le _, h, Nat.le_refl _, by simp only [maxLen]; omega, by simp [rowI_len], by simp [List.take_of_length_le, rowI_len]⟩⟩
theorem apart_nil (v : Value) : apart (.slice none 0 0) v := fun k hk => by simp [Value.ownBlock] at hk
theorem Made.wk {W : World} {gm gl gs : Nat} (h : Made w W nv n qb gm gl gs) (hd : NdIn w nv n nd) (hn : n ≤ 1000) : Wk w W qb nv (.slice none 0 0) (.slice none 0 0) (.slice (some ⟨gm, 0, none⟩) n n) (.slice (some ⟨gl, 0, none⟩) n n) (.slice (some ⟨gs, 0, none⟩) n n) n 0 [] [] (fun _ => 0) (fun _ => 0) (fun _ => 0) nd := by
  refine ⟨h.b, ⟨rfl, .inl ⟨rfl, rfl⟩⟩, ⟨rfl, .inl ⟨rfl, rfl⟩⟩, row_of h.m hn, row_of h.l hn, row_of h.s hn, hd.fr (Fr.of_below (F := fun _ => False) h.bl) (fun _ hk => hk.elim), apart_nil _, apart_nil _, apart_nil _, fun k hk hk' => ?_, fun k hk hk' => ?_, fun k hk hk' => ?_, h.bl, fun k hk => ?_⟩
  · simp [Value.ownBlock] at hk hk'; exact h.ml (hk.trans hk'.symm)
  · simp [Value.ownBlock] at hk hk'; exact h.ms (hk.trans hk'.symm)
  · simp [Value.ownBlock] at hk hk'; exact h.ls (hk.trans hk'.symm)
  · rcases hk with rfl | hk | hk | hk | hk | hk
    · exact h.q0
    · cases hk
    · cases hk
    · simp [Value.ownBlock] at hk; subst hk; exact h.m0
    · simp [Value.ownBlock] at hk; subst hk; exact h.l0
    · simp [Value.ownBlock] at hk; subst hk; exact h.s0
section
variable (w : World) (a b c d e : Obj)
theorem at51 : (((((w.alloc a).alloc b).alloc c).alloc d).alloc e).drew.heap[w.heap.size + 1]? = some b := by
  show (((((w.heap.push a).push b).push c).push d).push e)[w.heap.size + 1]? = some b
  simp [Array.getElem_push]
theorem at52 : (((((w.alloc a).alloc b).alloc c).alloc d).alloc e).drew.heap[w.heap.size + 1 + 1]? = some c := by
  show (((((w.heap.push a).push b).push c).push d).push e)[w.heap.size + 1 + 1]? = some c
  simp [Array.getElem_push]
theorem at53 : (((((w.alloc a).alloc b).alloc c).alloc d).alloc e).drew.heap[w.heap.size + 1 + 1 + 1]? = some d := by
  show (((((w.heap.push a).push b).push c).push d).push e)[w.heap.size + 1 + 1 + 1]? = some d
  simp [Array.getElem_push]
theorem at54 : (((((w.alloc a).alloc b).alloc c).alloc d).alloc e).drew.heap[w.heap.size + 1 + 1 + 1 + 1]? = some e := by
  show (((((w.heap.push a).push b).push c).push d).push e)[w.heap.size + 1 + 1 + 1 + 1]? = some e
  simp [Array.getElem_push]
theorem bel5 : Below w.heap.size w (((((w.alloc a).alloc b).alloc c).alloc d).alloc e).drew :=
  ((((((Below.refl w.heap.size w).alloc (Nat.le_refl _) a).alloc (by simp) b).alloc (by simp; omega) c).alloc (by simp; omega) d).alloc (by simp; omega) e).drew
end
end Go.Proofs.Ytdmhajeaphnebaa.Gr
