/- The walks of the document's Sum, four and Seal. The walk of Scan. A log in memory: its records' row, their bytes. The walks of a log's endOf, mayFollow, add. The walks of seal and unseal. -/
import Derived.Test.YtjndgekpdmlbiaaGreatDoorPart09
import Derived.Test.YtjndgekpdmlbiaaGreatDoorPart07
import Derived.Test.YtjndgekpdmlbiaaGreatDoorPart08
import Derived.Test.YtjndgekpdmlbiaaGreatDoorPart03
import Derived.BigQuiet
namespace Go.Proofs.YtjndgekpdmlbiaaGreatDoor.Fr
open Go.RowKit

def iterB : Nat → Nat → Nat
  | 0, c => c
  | n + 1, c => iterB n (bit1 c)
theorem step_iter (c : Nat) (b : UInt8) : step c b = iterB 8 (c ^^^ b.toNat) := by
  unfold step
  rw [nib_bits, nib_bits]
  rfl
theorem bit1_odd (c : Nat) (h : c < 4294967296) (h1 : c % 2 = 1) : bits .xor .u32 ((c : Int) / 2) 3988292384 = (bit1 c : Int) := by
  unfold bit1
  rw [if_pos h1]
  have := u32_xor_nat (c / 2) 3988292384 (by omega) (by omega)
  rw [Int.natCast_ediv] at this
  exact this
theorem bit1_ev (c : Nat) (h1 : ¬ c % 2 = 1) : (c : Int) / 2 = (bit1 c : Int) := by
  unfold bit1
  rw [if_neg h1]
  omega
theorem xor_walk (cc : Nat) (bs : List UInt8) (k : Nat) (hc : cc < 4294967296) : bits .xor .u32 (cc : Int) (at8 bs k % 4294967296) = ((cc ^^^ (bs.getD k 0).toNat : Nat) : Int) := by
  have hb := byte_lt (bs.getD k 0)
  have e : at8 bs k % 4294967296 = ((bs.getD k 0).toNat : Int) := by unfold at8; omega
  rw [e]
  exact u32_xor_nat _ _ hc (by omega)

theorem own_below {w w' : World} {base e : Nat} {v : Value} {n : Nat} {xs : List Value} (h : w.ownsRow base e 1 v n xs) (hb : Below w.heap.size w w') : w'.ownsRow base e 1 v n xs := by
  obtain ⟨h1, h2⟩ := h
  refine ⟨h1, ?_⟩
  rcases h2 with h2 | ⟨g, cap, cur, e1, e2, e3, e4⟩
  · exact Or.inl h2
  · exact Or.inr ⟨g, cap, cur, e1, e2, by rw [hb.block g (lt_of_block e3)]; exact e3, e4⟩

end Go.Proofs.YtjndgekpdmlbiaaGreatDoor.Fr
namespace Go.Proofs.YtjndgekpdmlbiaaGreatDoor.Fr
open Go.RowKit

theorem elem22 : Tryz.prog.underlying 33 = some (.slice (Tryz.prog.elem 33)) := by kernel_rfl
theorem size22 (w : World) : (sizeOf (Tryz.prog.elem 33)).run Tryz.prog w = .ok 1 w := by kernel_rfl

/-- What is behind the front of a slice, and how the program comes to it. -/
theorem slice_from {w : World} {v : Value} {bs : List UInt8} (hS : Sl w v bs) (k : Nat) (hk : k ≤ bs.length) : ∃ ao cap, Sl w (.slice ao (bs.length - k) cap) (bs.drop k) ∧
    ∀ w', (Instr.slice 33 v (some (.int .i64 (k : Int))) none none).run Tryz.prog w' = .ok (.slice ao (bs.length - k) cap) w' ∧ (Instr.sliceAt 33 v (some (.int .i64 (k : Int))) none none).run Tryz.prog w' = .ok (.slice ao (bs.length - k) cap) w' := by
  obtain ⟨ao, cap, rfl, h1, h2⟩ := hS.shape
  refine ⟨_, _, hS.drop k hk (if cap = k then ao else ao.map (·.add (k * 1))) (fun h => by rw [if_neg h, Nat.mul_one]) (fun h => by rw [if_pos h]), fun w' => ?_⟩
  have e : (Instr.slice 33 (.slice ao bs.length cap) (some (.int .i64 (k : Int))) none none).run Tryz.prog w' = .ok (.slice (if cap = k then ao else ao.map (·.add (k * 1))) (bs.length - k) (cap - k)) w' := by
    rw [run_slice_l w' 33 ao bs.length cap elem22 .i64 k (by omega) (by omega), size22]
    simp [Result.andThen, sliced]
  exact ⟨e, by rw [run_sliceAt_slice (P := Tryz.prog) w' 33 _ _ _ _ elem22]; exact e⟩

theorem Tryz.info33 : (Tryz.prog.info? 33).map (fun i => (i.zero, i.size, i.bytes)) = some (some (.slice none 0 0), 1, 24) := by kernel_rfl

/-- A slice of slices of bytes: a row of the call's own; of its elements E is said. -/
def Sls (E : Value → List UInt8 → Prop) (w : World) (base : Nat) (v : Value) (bss : List (List UInt8)) : Prop :=
  ∃ vals : List Value, vals.length = bss.length ∧ w.ownsRow base 33 1 v bss.length vals ∧ ∀ (j : Nat) (b : List UInt8), bss[j]? = some b → ∃ u, vals[j]? = some u ∧ E u b
/-- An element that is a row of its own. -/
def El (w : World) (base : Nat) (u : Value) (b : List UInt8) : Prop := w.ownsRow base 5 1 u b.length (cells8 b)

theorem El.sl {w : World} {base : Nat} {u : Value} {b : List UInt8} (h : El w base u b) : Sl w u b := Sl.of_own h
theorem El.grown {w w' : World} {base : Nat} {u v : Value} {b : List UInt8} {n : Nat} {xs : List Value} (h : El w base u b) (hv : w.ownsRow base 33 1 v n xs) (hg : w.grownBy w' v.ownBlock) : El w' base u b := by
  obtain ⟨h1, h2⟩ := h
  refine ⟨h1, ?_⟩
  rcases h2 with h2 | ⟨g, cap, cur, e1, e2, e3, e4⟩
  · exact Or.inl h2
  · refine Or.inr ⟨g, cap, cur, e1, e2, ?_, e4⟩
    rw [hg.block g (lt_of_block e3)]
    · exact e3
    · intro e
      rcases hv.2 with ⟨rfl, _⟩ | ⟨g', cap', cur', rfl, _, hg', _⟩
      · simp [Value.ownBlock] at e
      · simp [Value.ownBlock] at e
        subst e
        rw [e3] at hg'
        simp at hg'
theorem Sls.nil (E : Value → List UInt8 → Prop) (w : World) (base : Nat) : Sls E w base (.slice none 0 0) [] := ⟨[], rfl, World.ownsRow_nil _ _ _ _, fun j b h => by simp at h⟩
theorem Sls.shape {E : Value → List UInt8 → Prop} {w : World} {base : Nat} {v : Value} {bss : List (List UInt8)} (h : Sls E w base v bss) : ∃ ao cap, v = .slice ao bss.length cap ∧ bss.length ≤ cap ∧ cap ≤ maxLen ∧ (0 < bss.length → ∃ g, ao = some ⟨g, 0, none⟩) := by
  obtain ⟨vals, _, ho, _⟩ := h
  rcases ho.2 with ⟨rfl, h0⟩ | ⟨g, cap, cur, rfl, _, _, hn, hc, _⟩
  · rw [h0]; exact ⟨none, 0, rfl, Nat.le_refl _, by simp [maxLen], fun h => by omega⟩
  · exact ⟨_, cap, rfl, hn, hc, fun _ => ⟨g, rfl⟩⟩
theorem Sls.below {w w' : World} {base : Nat} {v : Value} {bss : List (List UInt8)} (h : Sls (El w base) w base v bss) (hb : Below w.heap.size w w') : Sls (El w' base) w' base v bss := by
  obtain ⟨vals, hl, ho, he⟩ := h
  refine ⟨vals, hl, own_below ho hb, fun j b hj => ?_⟩
  obtain ⟨u, h1, h2⟩ := he j b hj
  exact ⟨u, h1, own_below h2 hb⟩
/-- One more element. -/
theorem Sls.push {wr w2 w3 : World} {base : Nat} {vv v' v2 : Value} {done : List (List UInt8)} {b : List UInt8} {vals : List Value} (o : Obj) (hl : vals.length = done.length) (ho : wr.ownsRow base 33 1 vv done.length vals)
    (he : ∀ (j : Nat) (b : List UInt8), done[j]? = some b → ∃ u, vals[j]? = some u ∧ El wr base u b) (hb : Below wr.heap.size wr w2) (hc : El w2 base v2 b)
    (hO : w3.ownsRow base 33 1 v' (done.length + 1) (vals ++ [v2])) (hg : (w2.alloc o).grownBy w3 vv.ownBlock) : Sls (El w3 base) w3 base v' (done ++ [b]) := by
  have hv : (w2.alloc o).ownsRow base 33 1 vv done.length vals := (own_below ho hb).alloc o
  refine ⟨vals ++ [v2], by simp [hl], by rw [List.length_append]; exact hO, fun j x hj => ?_⟩
  by_cases h : j < done.length
  · rw [List.getElem?_append_left h] at hj
    obtain ⟨u, h1, h2⟩ := he j x hj
    exact ⟨u, by rw [List.getElem?_append_left (by omega)]; exact h1, El.grown ((own_below h2 hb).alloc o) hv hg⟩
  · rw [List.getElem?_append_right (by omega)] at hj ⊢
    have hj0 : j - done.length = 0 := by
      have := (List.getElem?_eq_some_iff.1 hj).1
      simp at this
      omega
    rw [hj0] at hj
    rw [hl, hj0]
    simp at hj
    subst hj
    exact ⟨v2, rfl, El.grown (hc.alloc o) hv hg⟩

set_option maxHeartbeats 2000000 in
theorem scan_any (v : Value) (bs : List UInt8) (w : World) (hS : Sl w v bs) (ht : Tab w) (hlim : bs.length ≤ 100000) :
    Calls Tryz.prog 73 #[v] w fun e w' => ∃ vl, e = .returned (.tuple #[vl, .int .i64 ((scanL bs).2 : Int)]) ∧ Sls (El w' w.heap.size) w' w.heap.size vl (scanL bs).1 ∧ Below w.heap.size w w' := by
  obtain ⟨i, hi, hz0, hz1, hz2⟩ := info_parts Tryz.info33
  obtain ⟨ao, cap, rfl, h1, h2⟩ := hS.shape
  have HS : Hid (Sl w (.slice ao bs.length cap) bs) := hS
  have HT : Hid (Tab w) := ht
  clear hS ht
  go_enter Tryz.func73, Tryz.ntmps73
  go_wp2_with fail
  go_loopw [4, 5] (fun vb sz wr => ∃ (k : Nat) (done : List (List UInt8)), k ≤ bs.length ∧ done.length ≤ k ∧ sz = .int .i64 k ∧ Sls (El wr w.heap.size) wr w.heap.size vb done ∧ Hid (done ++ (scanL (bs.drop k)).1 = (scanL bs).1) ∧ Hid (k + (scanL (bs.drop k)).2 = (scanL bs).2) ∧ Below w.heap.size w wr) (fun _ sz _ => bs.length - (intOf sz).toNat)
  case atStart => exact ⟨0, [], Nat.zero_le _, Nat.zero_le _, rfl, Sls.nil _ _ _, rfl, Nat.zero_add _, Below.refl _ _⟩
  case round =>
    obtain ⟨k, done, hk, hdk, rfl, hL, HD, HK, hb⟩ := hrel
    obtain ⟨ao1, cap1, hS1, hsl⟩ := slice_from (HS.out.below hb) k hk
    obtain ⟨hsl1, hsl2⟩ := hsl wr
    obtain ⟨aov, capv, hvv, _⟩ := hL.shape
    subst hvv
    have hszr := hb.size
    cases hx : firstB (bs.drop k) with
    | none =>
      have HF := first_is _ (bs.drop k) none false [] wr hS1 (HT.out.below hb) hx rfl rfl
      have hsc := scan_none hx
      have e1 : (scanL bs).1 = done := by rw [← HD.out, hsc, List.append_nil]
      have e2 : (scanL bs).2 = k := by rw [← HK.out, hsc, Nat.add_zero]
      have HE1 : Hid ((scanL bs).1 = done) := e1
      have HE2 : Hid ((scanL bs).2 = k) := e2
      have HL : Hid (Sls (El wr w.heap.size) wr w.heap.size (.slice aov done.length capv) done) := hL
      clear hx hsl hsc e1 e2 hL
      go_wp2_with (go_at_call 103; refine HF.mono ?_; rintro e w1 ⟨v', rfl, hS', HB, HM⟩; obtain ⟨ao', cap', rfl, _, _⟩ := hS'.shape)
      go_ret2
      rw [HE1.out, HE2.out]
      exact ⟨_, rfl, Sls.below HL.out HB.out, hb.trans (HB.out.mono hszr)⟩
    | some b =>
      have HF := first_is _ (bs.drop k) (some b) true b wr hS1 (HT.out.below hb) hx rfl rfl
      have hsc := scan_some hx
      rw [List.drop_drop] at hsc
      have hbl := (first_some hx).2.2
      rw [List.length_drop] at hbl
      have HD' : Hid ((done ++ [b]) ++ (scanL (bs.drop (k + (8 + b.length)))).1 = (scanL bs).1) := by
        show _ = _
        rw [← HD.out, hsc, List.append_assoc]
        rfl
      have HK' : Hid (k + (8 + b.length) + (scanL (bs.drop (k + (8 + b.length)))).2 = (scanL bs).2) := by
        show _ = _
        rw [← HK.out, hsc]
        omega
      obtain ⟨vals, hvl, hO, hE⟩ := hL
      have HO : Hid (wr.ownsRow w.heap.size 33 1 (.slice aov done.length capv) done.length vals) := hO
      have HE : Hid (∀ (j : Nat) (b : List UInt8), done[j]? = some b → ∃ u, vals[j]? = some u ∧ El wr w.heap.size u b) := hE
      have HV : Hid (vals.length = done.length) := hvl
      clear hx hsl hsc HD HK hO hE hvl
      go_wp2_with (first
        | (go_at_call 103; refine HF.mono ?_; rintro e w1 ⟨v', rfl, hS', HB, HM⟩; obtain ⟨ao', cap', rfl, _, _⟩ := hS'.shape))
      refine (clone_any _ b _ hS' (by omega)).mono ?_
      rintro e w2 ⟨v2, rfl, hO2, hb2⟩
      have HB2 : Hid (Below wr.heap.size wr w2) := HB.out.trans (hb2.mono HB.out.size)
      have HE2 : Hid (El w2 w.heap.size v2 b) := own_lower hO2 (Nat.le_trans hszr HB.out.size)
      have hs2 : w.heap.size ≤ w2.heap.size := Nat.le_trans hszr HB2.out.size
      have HA : Hid (w2.ownsRow w.heap.size 33 1 (.slice aov done.length capv) done.length vals) := own_below HO.out HB2.out
      obtain ⟨ao2, cap2, rfl, _, _⟩ := (Sl.of_own hO2).shape
      clear hO2 hb2
      go_wp2_with (at_builtin; refine wpList_append_own_at _ rfl (.tmp 19) (.tmp 22) 129 rfl w.heap.size 33 i (.slice none 0 0) 1 24 Tryz.underlying129 hi hz0 hz1 hz2 rfl (by decide) (.slice aov done.length capv) done.length vals rfl (World.ownsRow.alloc HA.out _) ⟨w2.heap.size, 0, none⟩ 1 1 [_] rfl rfl (cell_one_new _ _ _) (fun u hu => by simp at hu; subst hu; rfl) (by simp only [maxLen]; omega) (by omega) (by simp; omega) ?_)
      intro v' w3 hO3 hg3 _ _
      have hL3 := Sls.push _ HV.out HO.out HE.out HB2.out HE2.out hO3 hg3
      have hb3 : Below w.heap.size w w3 := ((hb.trans (HB2.out.mono hszr)).alloc hs2 _).grown hg3 (by simp; omega) (fun g hg => (HO.out.lt g hg).1)
      clear hO3 hg3
      obtain ⟨ao3, cap3, e3, _⟩ := hL3.shape
      subst e3
      go_wp2
      go_roundw
      case rel => exact ⟨k + (8 + b.length), done ++ [b], by omega, by simp; omega, by go_num, hL3, HD', HK', hb3⟩
      case measure => simp [intOf]; omega
end Go.Proofs.YtjndgekpdmlbiaaGreatDoor.Fr
namespace Go.Proofs.YtjndgekpdmlbiaaGreatDoor.Wl
open Go.RowKit Dk

/-- A record's bytes in the file. -/
def recB (n : Int) (b : List UInt8) : List UInt8 := Fr.sealL (Bn.enc n ++ (Bn.enc (b.length : Int) ++ b))
/-- The file of records from a number on. -/
def fileB (n : Int) : List (List UInt8) → List UInt8
  | [] => []
  | b :: r => recB n b ++ fileB (n + 1) r
theorem fileB_append (n : Int) : ∀ (a b : List (List UInt8)), fileB n (a ++ b) = fileB n a ++ fileB (n + a.length) b
  | [], b => by simp [fileB]
  | x :: a, b => by
    rw [List.cons_append, fileB, fileB, fileB_append (n + 1) a b, List.append_assoc]
    congr 3
    simp
    omega

/-- A record in memory. -/
structure Re where
  dv : Value
  data : List UInt8
  fin : Nat
def Re.cells (r : Re) : List Value := [r.dv, .int .i64 (r.fin : Int)]
def cellsK (rs : List Re) : List Value := rs.flatMap Re.cells
theorem cellsK_len : ∀ zs : List Re, (cellsK zs).length = zs.length * 2
  | [] => rfl
  | z :: r => by
    have := cellsK_len r
    simp [cellsK, Re.cells] at this ⊢
    omega
theorem cellsK_append (a b : List Re) : cellsK (a ++ b) = cellsK a ++ cellsK b := by simp [cellsK]
theorem cellsK_cons (z : Re) (b : List Re) : cellsK (z :: b) = z.dv :: .int .i64 (z.fin : Int) :: cellsK b := by simp [cellsK, Re.cells]
theorem cellsK_at (l : List Re) (z : Re) (r : List Re) : (cellsK (l ++ z :: r))[l.length * 2]? = some z.dv ∧ (cellsK (l ++ z :: r))[l.length * 2 + 1]? = some (.int .i64 (z.fin : Int)) := by
  rw [cellsK_append, cellsK_cons]
  have h := cellsK_len l
  constructor
  · rw [List.getElem?_append_right (by omega), h]; simp
  · rw [List.getElem?_append_right (by omega), h, Nat.add_sub_cancel_left]; rfl
theorem cellsK_get (zs : List Re) (i : Nat) (h : i < zs.length) : (cellsK zs)[i * 2]? = some zs[i].dv ∧ (cellsK zs)[i * 2 + 1]? = some (.int .i64 (zs[i].fin : Int)) := by
  have e : zs = zs.take i ++ zs[i] :: zs.drop (i + 1) := by simp
  have hl : (zs.take i).length = i := by simp; omega
  have := cellsK_at (zs.take i) zs[i] (zs.drop (i + 1))
  rw [← e, hl] at this
  exact this

/-- A log in memory: at p, over the disk at pd, its row and its bytes in G. -/
structure Lg (w : World) (p pd : Nat) (first : Int) (vr : Value) (rs : List Re) (G : Nat → Prop) : Prop where
  heap : w.heap[p]? = some (.cells #[.pointer (some ⟨pd, 0, none⟩), .int .i64 first, vr] 104 (0, 0))
  row : w.ownsRow 0 161 2 vr rs.length (cellsK rs)
  data : ∀ r ∈ rs, SlA w r.dv r.data (fun k => ¬ G k)
  away : ∀ r ∈ rs, ∀ a n c, r.dv = .slice (some a) n c → vr.ownBlock ≠ some a.block
  rowIn : ∀ k, vr.ownBlock = some k → G k
  lt : ∀ k, G k → k < w.heap.size
  np : ¬ G p
  fins : ∀ i (hi : i < rs.length), rs[i].fin = (fileB first ((rs.map Re.data).take (i + 1))).length
  zero : rs = [] → first = 0
  fit : 0 ≤ first ∧ first + rs.length ≤ 9223372036854775808
theorem Lg.plt {w : World} {p pd : Nat} {first : Int} {vr : Value} {rs : List Re} {G : Nat → Prop} (h : Lg w p pd first vr rs G) : p < w.heap.size := (Array.getElem?_eq_some_iff.1 h.heap).1
theorem Lg.cells {w : World} {p pd : Nat} {first : Int} {vr : Value} {rs : List Re} {G : Nat → Prop} (h : Lg w p pd first vr rs G) :
    w.cell? ⟨p, 0, none⟩ = some (.pointer (some ⟨pd, 0, none⟩)) ∧ w.cell? ⟨p, 1, none⟩ = some (.int .i64 first) ∧ w.cell? ⟨p, 2, none⟩ = some vr ∧ ∀ j, w.frozen? ⟨p, j, none⟩ = false := by
  refine ⟨?_, ?_, ?_, fun j => by simp [World.frozen?, h.heap]⟩
  · rw [cell_of_row w p 0 _ _ _ h.heap]; rfl
  · rw [cell_of_row w p 1 _ _ _ h.heap]; rfl
  · rw [cell_of_row w p 2 _ _ _ h.heap]; rfl
theorem Lg.kept {w w' : World} {p pd : Nat} {first : Int} {vr : Value} {rs : List Re} {G H : Nat → Prop} (h : Lg w p pd first vr rs G) (hf : Fr H w w') (hd : ∀ k, G k → ¬ H k) (hp : ¬ H p) : Lg w' p pd first vr rs G :=
  ⟨(hf.block p h.plt hp).trans h.heap, own_kept h.row hf fun k hk => hd k (h.rowIn k hk), fun r hr => (h.data r hr).kept (hf.mono fun k _ hH hG => hd k hG hH), h.away, h.rowIn, fun k hk => Nat.lt_of_lt_of_le (h.lt k hk) hf.size, h.np, h.fins, h.zero, h.fit⟩
theorem Lg.below {w w' : World} {p pd : Nat} {first : Int} {vr : Value} {rs : List Re} {G : Nat → Prop} (h : Lg w p pd first vr rs G) (hb : Below w.heap.size w w') : Lg w' p pd first vr rs G := h.kept (H := fun _ => False) (Fr.of_below hb) (fun _ _ => id) id
theorem Lg.shape {w : World} {p pd : Nat} {first : Int} {vr : Value} {rs : List Re} {G : Nat → Prop} (h : Lg w p pd first vr rs G) : ∃ ao cap, vr = .slice ao rs.length cap ∧ (0 < rs.length → ∃ g, ao = some ⟨g, 0, none⟩) := by
  rcases own_shape h.row with ⟨rfl, e⟩ | ⟨g, cap, rfl, _⟩
  · exact ⟨none, 0, by rw [e], fun h => by omega⟩
  · exact ⟨_, _, rfl, fun _ => ⟨g, rfl⟩⟩
theorem Lg.cell {w : World} {p pd g cap n : Nat} {first : Int} {rs : List Re} {G : Nat → Prop} (h : Lg w p pd first (.slice (some ⟨g, 0, none⟩) n cap) rs G) (i : Nat) (hi : i < rs.length) :
    w.cell? ⟨g, i * 2, none⟩ = some rs[i].dv ∧ w.cell? ⟨g, i * 2 + 1, none⟩ = some (.int .i64 (rs[i].fin : Int)) := by
  rcases own_shape h.row with ⟨hn, _⟩ | ⟨g', cap', e, _⟩
  · simp at hn
  · have hr := h.row
    rw [e] at hr
    simp only [Value.slice.injEq, Option.some.injEq, Addr.mk.injEq, and_true] at e
    obtain ⟨rfl, rfl, rfl⟩ := e
    have hc := cellsK_get rs i hi
    exact ⟨by rw [hr.cellAt _ (by omega)]; exact hc.1, by rw [hr.cellAt _ (by omega)]; exact hc.2⟩
/-- The last number. -/
def lastN (first : Int) (rs : List Re) : Int := if rs.length = 0 then 0 else first + rs.length - 1

set_option maxHeartbeats 400000 in
theorem first_any (p pd : Nat) (first : Int) (vr : Value) (rs : List Re) (G : Nat → Prop) (w : World) (h : Lg w p pd first vr rs G) :
    Calls Tryz.prog 50 #[.pointer (some ⟨p, 0, none⟩)] w fun e w' => e = .returned (.int .i64 first) ∧ w' = w := by
  have c1 := h.cells.2.1
  clear h
  go_enter Tryz.func50, Tryz.ntmps50
  go_wp2
  go_ret
  exact ⟨rfl, rfl⟩
set_option maxHeartbeats 1000000 in
theorem last_any (p pd : Nat) (first : Int) (vr : Value) (rs : List Re) (G : Nat → Prop) (w : World) (h : Lg w p pd first vr rs G) :
    Calls Tryz.prog 48 #[.pointer (some ⟨p, 0, none⟩)] w fun e w' => e = .returned (.int .i64 (lastN first rs)) ∧ ∃ m, w' = w.drewN m := by
  have c1 := h.cells.2.1
  have c2 := h.cells.2.2.1
  have hf := h.fit
  obtain ⟨ao, cap, rfl, _⟩ := h.shape
  unfold lastN
  clear h
  generalize rs.length = n at *
  by_cases hn : n = 0
  · subst hn
    go_enter Tryz.func48, Tryz.ntmps48
    go_wp2
    go_ret
    exact ⟨by simp, 0, rfl⟩
  · have hn' : ((n : Int) == 0) = false := by rw [beq_eq_false_iff_ne]; omega
    have hn1 : (1 : Int) ≤ (n : Int) := by omega
    rw [if_neg hn]
    go_enter Tryz.func48, Tryz.ntmps48
    go_wp2_with fail
    go_quiet (fail)
    go_wp2
    go_ret
    refine ⟨congrArg (fun b => Ending.returned (Value.int .i64 b)) ?_, _, rfl⟩
    omega
theorem first_nil (w : World) : Calls Tryz.prog 50 #[.pointer none] w fun e w' => e = .returned (.int .i64 0) ∧ w' = w := by
  go_enter Tryz.func50, Tryz.ntmps50
  go_wp2
  go_ret
  exact ⟨rfl, rfl⟩
theorem last_nil (w : World) : Calls Tryz.prog 48 #[.pointer none] w fun e w' => e = .returned (.int .i64 0) ∧ w' = w := by
  go_enter Tryz.func48, Tryz.ntmps48
  go_wp2
  go_ret
  exact ⟨rfl, rfl⟩
end Go.Proofs.YtjndgekpdmlbiaaGreatDoor.Wl
namespace Go.Proofs.YtjndgekpdmlbiaaGreatDoor.Wl
open Go.RowKit Dk

theorem Tryz.info161 : (Tryz.prog.info? 161).map (fun i => (i.zero, i.size, i.bytes)) = some (some (.agg #[.slice none 0 0, .int .i64 0]), 2, 32) := by kernel_rfl

/-- How many bytes so many records have. -/
def sizeK (first : Int) (rs : List Re) (k : Nat) : Nat := (fileB first ((rs.map Re.data).take k)).length

set_option maxHeartbeats 400000 in
theorem endOf_any (p pd : Nat) (first : Int) (vr : Value) (rs : List Re) (G : Nat → Prop) (k : Nat) (w : World) (h : Lg w p pd first vr rs G) (hk : k ≤ rs.length) (hl : rs.length ≤ 1000000000) :
    Calls Tryz.prog 77 #[.pointer (some ⟨p, 0, none⟩), .int .i64 (k : Int)] w fun e w' => e = .returned (.int .i64 (sizeK first rs k : Nat)) ∧ w' = w := by
  have c2 := h.cells.2.2.1
  obtain ⟨ao, cap, rfl, hao⟩ := h.shape
  by_cases hk0 : k = 0
  · subst hk0
    have e : sizeK first rs 0 = 0 := by simp [sizeK, fileB]
    rw [e]
    clear h e
    go_enter Tryz.func77, Tryz.ntmps77
    go_wp2
    go_ret
    exact ⟨rfl, rfl⟩
  · obtain ⟨j, rfl⟩ : ∃ j, k = j + 1 := ⟨k - 1, by omega⟩
    obtain ⟨g, rfl⟩ := hao (by omega)
    have hj : j < rs.length := by omega
    have cf := (h.cell j hj).2
    rw [h.fins j hj] at cf
    have e : sizeK first rs (j + 1) = (fileB first ((rs.map Re.data).take (j + 1))).length := rfl
    rw [← e] at cf
    have hne : (((j + 1 : Nat) : Int) == 0) = false := by rw [beq_eq_false_iff_ne]; omega
    have hlt : (j : Int) < (rs.length : Int) := by omega
    have hcast : ((j + 1 : Nat) : Int) = (j : Int) + 1 := by omega
    generalize sizeK first rs (j + 1) = z at *
    rw [hcast] at hne ⊢
    clear h e hcast hao
    go_enter Tryz.func77, Tryz.ntmps77
    go_wp2
    go_ret
    exact ⟨rfl, rfl⟩

set_option maxHeartbeats 400000 in
theorem endOf_zero (p : Nat) (w : World) : Calls Tryz.prog 77 #[.pointer (some ⟨p, 0, none⟩), .int .i64 0] w fun e w' => e = .returned (.int .i64 0) ∧ w' = w := by
  go_enter Tryz.func77, Tryz.ntmps77
  go_wp2
  go_ret
  exact ⟨rfl, rfl⟩

theorem wpList_append_run {P : Program} (w : World) {ops : Array Oper} {rest : List Oper} {o : Oper} {a : Act} {Q : Exit → Act → World → Prop} (hgd : o.guard = none) (d x : Operand) (dT sT : TypeId)
    (ho : o.op = .call { callee := .builtin .append, args := #[d, x], argTypes := #[dT, sT] }) (v u : Value) (hd : a.eval d = v) (hx : a.eval x = u) {v' : Value} {w' : World}
    (hr : (Builtin.append_ #[dT, sT] o.type #[v, u]).run P w = .ok v' w') (h : wpList P ops Q rest (a.put o.dst v') w') : wpList P ops Q (o :: rest) a w := by
  refine wpList_plain hgd fun _ hK => ?_
  unfold Oper.wp
  simp [execOp, ho, resolve, invoke, builtin, hd, hx, hr, Result.andThen]
  exact hK _ _ h

def mayB (first : Int) (rs : List Re) (n : Int) : Bool := decide (1 ≤ n) && (decide (rs.length = 0) || decide (n - 1 = lastN first rs))

set_option maxHeartbeats 1000000 in
theorem may_any (p pd : Nat) (first : Int) (vr : Value) (rs : List Re) (G : Nat → Prop) (n : Int) (w : World) (h : Lg w p pd first vr rs G) (hn : n ≤ 9223372036854775807) :
    Calls Tryz.prog 75 #[.pointer (some ⟨p, 0, none⟩), .int .i64 n] w fun e w' => e = .returned (.bool (mayB first rs n)) ∧ ∃ m, w' = w.drewN m := by
  have c2 := h.cells.2.2.1
  have HL : Hid (_) := last_any p pd first vr rs G w h
  obtain ⟨ao, cap, rfl, _⟩ := h.shape
  unfold mayB
  generalize lastN first rs = l at *
  clear h
  generalize rs.length = z at *
  by_cases h1 : 1 ≤ n
  · by_cases hz : z = 0
    · subst hz
      go_enter Tryz.func75, Tryz.ntmps75
      go_wp2
      go_ret
      exact ⟨by simp, 0, rfl⟩
    · have hz' : ((z : Int) == 0) = false := by rw [beq_eq_false_iff_ne]; omega
      go_enter Tryz.func75, Tryz.ntmps75
      go_wp2_with (go_at_call 48; refine Calls.mono HL.out ?_; rintro e w1 ⟨rfl, m, rfl⟩)
      go_ret
      refine ⟨congrArg (fun b => Ending.returned (Value.bool b)) ?_, m, rfl⟩
      rw [Bool.eq_iff_iff]
      simp [h1, hz]
  · go_enter Tryz.func75, Tryz.ntmps75
    go_wp2
    go_ret
    refine ⟨congrArg (fun b => Ending.returned (Value.bool b)) ?_, 0, rfl⟩
    rw [Bool.eq_iff_iff]
    simp
    omega

/-- 'append' of one record onto a row of the log's own, as one run. -/
theorem run_append_rec (w : World) (vr : Value) (rs : List Re) (r : Re) (g : Nat) (hO : w.ownsRow 0 161 2 vr rs.length (cellsK rs)) (hg : w.heap[g]? = some (.cells #[r.dv, .int .i64 (r.fin : Int)] 161 (0, 0))) (hd : r.dv.oneCell' = true) (hl : rs.length ≤ 1000000000) :
    ∃ ao L cap w', (∀ ty, (Builtin.append_ #[102, 102] ty #[vr, .slice (some ⟨g, 0, none⟩) 1 1]).run Tryz.prog w = .ok (.slice ao L cap) w') ∧ w'.ownsRow 0 161 2 (.slice ao L cap) (rs ++ [r]).length (cellsK (rs ++ [r])) ∧ w.grownBy w' vr.ownBlock ∧ ((Value.slice ao L cap).ownBlock = vr.ownBlock ∨ (Value.slice ao L cap).ownBlock = some w.heap.size) := by
  obtain ⟨i, hi, hz, hsize, hby⟩ := info_parts Tryz.info161
  have H := fun ty => run_append_own_at (P := Tryz.prog) w 0 102 ty 161 i _ 2 32 Tryz.underlying102 hi hz hsize hby rfl (by decide) vr rs.length (cellsK rs) hO ⟨g, 0, none⟩ 1 1 r.cells rfl (fun j u hj => by
    rw [Addr.add_lit, Nat.zero_add, cell_of_row w g j _ _ _ hg]
    simpa [Re.cells] using hj) (by
      intro u hu
      simp [Re.cells] at hu
      rcases hu with rfl | rfl
      · exact hd
      · rfl) (by simp only [maxLen]; omega) (by omega) (Nat.zero_le _)
  obtain ⟨v', w', hr, g1, g2, _, g4⟩ := H 0
  obtain ⟨ao', L', cap', rfl⟩ := own_slice g1
  have e : cellsK (rs ++ [r]) = cellsK rs ++ r.cells := by rw [cellsK_append]; simp [cellsK]
  refine ⟨ao', L', cap', w', fun ty => hr, by rw [e, List.length_append]; exact g1, g2, g4⟩

theorem fins_snoc {first : Int} {rs : List Re} {r : Re} (h : ∀ i (hi : i < rs.length), rs[i].fin = (fileB first ((rs.map Re.data).take (i + 1))).length) (hr : r.fin = (fileB first ((rs ++ [r]).map Re.data)).length) :
    ∀ i (hi : i < (rs ++ [r]).length), (rs ++ [r])[i].fin = (fileB first (((rs ++ [r]).map Re.data).take (i + 1))).length := by
  intro i hi
  by_cases hl : i < rs.length
  · rw [List.getElem_append_left hl, h i hl, List.map_append, List.take_append_of_le_length (by simp; omega)]
  · have e : i = rs.length := by simp at hi; omega
    subst e
    rw [List.getElem_append_right (Nat.le_refl _)]
    simp only [Nat.sub_self, List.getElem_singleton]
    rw [hr, List.take_of_length_le (by simp)]

set_option maxHeartbeats 2000000 in
set_option maxRecDepth 20000 in
theorem add_any (p pd : Nat) (first : Int) (vr : Value) (rs : List Re) (G D : Nat → Prop) (n : Int) (dv : Value) (data : List UInt8) (size : Nat) (w : World) (h : Lg w p pd first vr rs G) (hd : SlA w dv data (fun k => ¬ D k)) (hD : ∀ k, D k → ¬ G k ∧ k ≠ p ∧ k < w.heap.size)
    (hsz : size = (recB n data).length) (hn : 1 ≤ n ∧ n ≤ 9223372036854775807) (hnext : rs ≠ [] → n = first + rs.length) (hl : rs.length ≤ 100000000) (hlen : sizeK first rs rs.length + size ≤ 1000000000) :
    Calls Tryz.prog 76 #[.pointer (some ⟨p, 0, none⟩), .int .i64 n, dv, .int .i64 (size : Int)] w fun e w' => e = .returned (.tuple #[]) ∧ (∃ vr' fin, Lg w' p pd (if rs.length = 0 then n else first) vr' (rs ++ [⟨dv, data, fin⟩]) (ext (fun k => G k ∨ D k) w w')) ∧ Fr (fun k => G k ∨ k = p) w w' := by
  obtain ⟨aod, capd, rfl, _, _⟩ := hd.sl.shape
  obtain ⟨c0, c1, c2, cz⟩ := h.cells
  have z1 := cz 1
  have z2 := cz 2
  obtain ⟨aor, capr, rfl, hao⟩ := h.shape
  obtain ⟨S0, HS0⟩ : ∃ S0, Hid (S0 = sizeK first rs rs.length) := ⟨_, (rfl : _ = _)⟩
  have key : ∀ (u : World) (f2 : Int), f2 = (if rs.length = 0 then n else first) → u.heap[p]? = some (.cells #[.pointer (some ⟨pd, 0, none⟩), .int .i64 f2, .slice aor rs.length capr] 104 (0, 0)) → Fr (fun k => k = p) w u → u.heap.size = w.heap.size →
      ∃ ao L cap w3, (∀ ty, (Builtin.append_ #[102, 102] ty #[.slice aor rs.length capr, .slice (some ⟨u.heap.size, 0, none⟩) 1 1]).run Tryz.prog (u.alloc (.cells #[.slice aod data.length capd, .int .i64 ((S0 + size : Nat) : Int)] 161)) = .ok (.slice ao L cap) w3) ∧ (∃ x, w3.cell? ⟨p, 2, none⟩ = some x) ∧ w3.frozen? ⟨p, 2, none⟩ = false ∧
        Hid (Lg (w3.setCell ⟨p, 2, none⟩ (.slice ao L cap)) p pd f2 (.slice ao L cap) (rs ++ [⟨.slice aod data.length capd, data, S0 + size⟩]) (ext (fun k => G k ∨ D k) w (w3.setCell ⟨p, 2, none⟩ (.slice ao L cap))) ∧ Fr (fun k => G k ∨ k = p) w (w3.setCell ⟨p, 2, none⟩ (.slice ao L cap))) := by
    intro u f2 hf2 hpu hfu hus
    have hplt := h.plt
    have hnp : ∀ k, (Value.slice aor rs.length capr).ownBlock = some k → k ≠ p := fun k hk e => h.np (e ▸ h.rowIn k hk)
    have hOu : u.ownsRow 0 161 2 (.slice aor rs.length capr) rs.length (cellsK rs) := own_kept h.row hfu hnp
    have hba : Below u.heap.size u (u.alloc (.cells #[.slice aod data.length capd, .int .i64 ((S0 + size : Nat) : Int)] 161)) := (Below.refl _ _).alloc (Nat.le_refl _) _
    have hOa := hOu.alloc (.cells #[.slice aod data.length capd, .int .i64 ((S0 + size : Nat) : Int)] 161)
    obtain ⟨ao, L, cap, w3, hr, hO3, hg3, hat⟩ := run_append_rec _ _ rs ⟨.slice aod data.length capd, data, S0 + size⟩ u.heap.size hOa (heap_alloc_new _ _) rfl (by omega)
    have hsa : (u.alloc (.cells #[.slice aod data.length capd, .int .i64 ((S0 + size : Nat) : Int)] 161)).heap.size = w.heap.size + 1 := by simp [hus]
    have hp3 : w3.heap[p]? = some (.cells #[.pointer (some ⟨pd, 0, none⟩), .int .i64 f2, .slice aor rs.length capr] 104 (0, 0)) := by
      rw [hg3.block p (by omega) (fun e => hnp p e.symm rfl), hba.block p (by omega)]
      exact hpu
    refine ⟨ao, L, cap, w3, hr, ⟨_, by rw [cell_of_row w3 p 2 _ _ _ hp3]; rfl⟩, by simp [World.frozen?, hp3], ?_⟩
    have hone := Fr.one w3 p 2 (.slice ao L cap)
    have hss : (w3.setCell ⟨p, 2, none⟩ (.slice ao L cap)).heap.size = w3.heap.size := setCell_size _ _ _
    have hs3 := hg3.size
    have hF : Fr (fun k => k = p ∨ (Value.slice aor rs.length capr).ownBlock = some k) w (w3.setCell ⟨p, 2, none⟩ (.slice ao L cap)) := by
      refine (((hfu.mono (fun k _ e => Or.inl e)).trans (G := fun _ => False) (Fr.of_below hba) (fun _ _ => False.elim)).trans (Fr.of_grown hg3 (fun k hk => hk)) (fun k _ hk => Or.inr hk)).trans hone (fun k _ e => Or.inl e)
    have hkeep : ∀ (v : Value) (bs : List UInt8) (E : Nat → Prop), SlA w v bs (fun k => ¬ E k) → (∀ k, E k → k ≠ p) → (∀ a n c, v = .slice (some a) n c → (Value.slice aor rs.length capr).ownBlock ≠ some a.block) → (∀ k, E k → G k ∨ D k) → SlA (w3.setCell ⟨p, 2, none⟩ (.slice ao L cap)) v bs (fun k => ¬ ext (fun k => G k ∨ D k) w (w3.setCell ⟨p, 2, none⟩ (.slice ao L cap)) k) := by
      intro v bs E hv hE hE2 hE3
      have h1 : SlA w v bs (fun k => k = p ∨ (Value.slice aor rs.length capr).ownBlock = some k) := ⟨hv.sl, fun a n c e hH => by
        rcases hH with hH | hH
        · exact hv.away a n c e (fun hEa => hE _ hEa hH)
        · exact hE2 a n c e hH⟩
      exact ⟨(h1.kept hF).sl, fun a n c e hn => hv.away a n c e (fun hEa => hn (Or.inl (hE3 _ hEa)))⟩
    refine ⟨⟨?_, ?_, fun r hr => ?_, fun r hr a m c e => ?_, fun k hk => ?_, ext_lt (fun k hk => by rcases hk with hk | hk; exact h.lt k hk; exact (hD k hk).2.2) hF.size, fun hk => ?_, ?_, fun e => by simp at e, ?_⟩, ?_⟩
    · rw [heap_set hp3]
      rfl
    · refine own_kept hO3 hone (fun k hk e => ?_)
      rcases hat with ha | ha
      · rw [ha] at hk
        exact hnp k hk e
      · rw [ha] at hk
        simp at hk
        omega
    · rcases List.mem_append.1 hr with hr | hr
      · exact hkeep r.dv r.data G (h.data r hr) (fun k hk e => h.np (e ▸ hk)) (h.away r hr) (fun k hk => Or.inl hk)
      · simp at hr
        subst hr
        refine hkeep _ data D hd (fun k hk => (hD k hk).2.1) (fun a m c e hrow => ?_) (fun k hk => Or.inr hk)
        exact hd.away a m c e (fun hDa => (hD _ hDa).1 (h.rowIn _ hrow))
    · have hblk : a.block < w.heap.size ∧ (Value.slice aor rs.length capr).ownBlock ≠ some a.block := by
        rcases List.mem_append.1 hr with hr | hr
        · refine ⟨?_, h.away r hr a m c e⟩
          have hG : G a.block := Classical.byContradiction (fun hn => (h.data r hr).away a m c e hn)
          exact h.lt _ hG
        · simp at hr
          subst hr
          have hDa : D a.block := Classical.byContradiction (fun hn => hd.away a m c e hn)
          exact ⟨(hD _ hDa).2.2, fun hrow => (hD _ hDa).1 (h.rowIn _ hrow)⟩
      rcases hat with ha | ha
      · rw [ha]; exact hblk.2
      · rw [ha]
        intro hk
        simp at hk
        omega
    · rcases hat with ha | ha
      · rw [ha] at hk
        exact Or.inl (Or.inl (h.rowIn k hk))
      · refine Or.inr ⟨?_, ?_⟩
        · rw [ha] at hk
          simp at hk
          omega
        · rw [hss]
          exact (hO3.lt k hk).2
    · rcases hk with (hk | hk) | hk
      · exact h.np hk
      · exact (hD p hk).2.1 rfl
      · omega
    · by_cases hz : rs.length = 0
      · have hr0 : rs = [] := List.eq_nil_of_length_eq_zero hz
        rw [if_pos hz] at hf2
        have hS : S0 = 0 := by rw [HS0.out, hr0]; simp [sizeK, fileB]
        intro i hi
        simp [hr0] at hi
        subst hi
        simp [hr0, hS, hf2, hsz, fileB]
      · rw [if_neg hz] at hf2
        subst hf2
        refine fins_snoc h.fins ?_
        have hne : rs ≠ [] := fun e => hz (by rw [e]; rfl)
        have hnn := hnext hne
        simp only [List.map_append, List.map_cons, List.map_nil]
        rw [fileB_append, List.length_append, HS0.out, hsz]
        simp only [sizeK, fileB, List.append_nil, List.length_map]
        rw [← hnn, List.take_of_length_le (by simp)]
    · have hfit := h.fit
      rw [hf2, List.length_append]
      simp only [List.length_cons, List.length_nil]
      by_cases hz : rs.length = 0
      · rw [if_pos hz]; omega
      · rw [if_neg hz]
        have hne : rs ≠ [] := fun e => hz (by rw [e]; rfl)
        have hnn := hnext hne
        omega
    · exact hF.mono (fun k _ hk => by rcases hk with hk | hk; exact Or.inr hk; exact Or.inl (h.rowIn k hk))
  by_cases hz : rs.length = 0
  · have hk := key (w.setCell ⟨p, 1, none⟩ (.int .i64 n)) n (by rw [if_pos hz]) (by rw [heap_set h.heap]; rfl) (Fr.one _ _ _ _) (setCell_size _ _ _)
    rw [setCell_size] at hk
    obtain ⟨ao, L, cap, w3, hr, ⟨x, hx⟩, hfz, HX⟩ := hk
    have HE : Hid (_) := endOf_zero p (w.setCell ⟨p, 1, none⟩ (.int .i64 n))
    have hS : S0 = 0 := by rw [HS0.out, List.eq_nil_of_length_eq_zero hz]; simp [sizeK, fileB]
    rw [if_pos hz]
    subst hS
    have HX2 : Hid (∃ vr' fin, Lg (w3.setCell ⟨p, 2, none⟩ (.slice ao L cap)) p pd n vr' (rs ++ [⟨.slice aod data.length capd, data, fin⟩]) (ext (fun k => G k ∨ D k) w (w3.setCell ⟨p, 2, none⟩ (.slice ao L cap)))) := ⟨_, _, HX.out.1⟩
    have HX3 : Hid (_) := HX.out.2
    rw [hz] at c2 hr
    simp only [Nat.zero_add] at hr
    have hs9 : size ≤ 1000000000 := by omega
    clear key h hd hD hsz hnext hlen HS0 HX cz hao hn hl hz
    go_enter Tryz.func76, Tryz.ntmps76
    go_wp2_with (first
      | (go_at_call 77; refine Calls.mono HE.out ?_; rintro e w' ⟨rfl, hw⟩; have hw' := hw.symm; subst hw')
      | (at_builtin; refine wpList_append_run _ rfl (.tmp 32) (.tmp 36) 102 102 rfl _ _ rfl rfl (hr _) ?_))
    go_end0
    exact ⟨rfl, HX2.out, HX3.out⟩
  · obtain ⟨ao, L, cap, w3, hr, ⟨x, hx⟩, hfz, HX⟩ := key w first (by rw [if_neg hz]) h.heap (Fr.refl _ _) rfl
    have HE : Hid (_) := endOf_any p pd first _ rs G rs.length w h (Nat.le_refl _) (by omega)
    rw [← HS0.out] at HE hlen
    rw [if_neg hz]
    have HX2 : Hid (∃ vr' fin, Lg (w3.setCell ⟨p, 2, none⟩ (.slice ao L cap)) p pd first vr' (rs ++ [⟨.slice aod data.length capd, data, fin⟩]) (ext (fun k => G k ∨ D k) w (w3.setCell ⟨p, 2, none⟩ (.slice ao L cap)))) := ⟨_, _, HX.out.1⟩
    have HX3 : Hid (_) := HX.out.2
    have hne : ((rs.length : Int) == 0) = false := by rw [beq_eq_false_iff_ne]; omega
    have hlen' : S0 + size ≤ 1000000000 := by omega
    have hcast : ((S0 + size : Nat) : Int) = (S0 : Int) + (size : Int) := by omega
    rw [hcast] at hr
    clear key h hd hD hsz hnext hlen HS0 HX cz hao hn hl hz hcast
    generalize rs.length = z at *
    go_enter Tryz.func76, Tryz.ntmps76
    go_wp2_with (first
      | (go_at_call 77; refine Calls.mono HE.out ?_; rintro e w' ⟨rfl, hw⟩; have hw' := hw.symm; subst hw')
      | (at_builtin; refine wpList_append_run _ rfl (.tmp 32) (.tmp 36) 102 102 rfl _ _ rfl rfl (hr _) ?_))
    go_end0
    exact ⟨rfl, HX2.out, HX3.out⟩
end Go.Proofs.YtjndgekpdmlbiaaGreatDoor.Wl
namespace Go.Proofs.YtjndgekpdmlbiaaGreatDoor.Wl
open Go.RowKit Dk

theorem enc_le (n : Int) : (Bn.enc n).length ≤ 10 := Bn.enc_le n

theorem wrote_below {w w' : World} {B base : Nat} {row : Option Nat} (h : Bn.Wrote w w' B row) (hB : base ≤ B) (hr : ∀ k, row = some k → base ≤ k) (hs : base ≤ w.heap.size) : Below base w w' :=
  ⟨h.os, h.tape, h.output, h.size, fun k hk => h.block k (by omega) (by omega) (fun e => by have := hr k e.symm; omega)⟩

set_option maxHeartbeats 1000000 in
set_option maxRecDepth 20000 in
theorem seal_any (n : Int) (vb : Value) (b : List UInt8) (w : World) (hS : Sl w vb b) (ht : Fr.Tab w) (hn : -9223372036854775808 ≤ n ∧ n ≤ 9223372036854775807) (hl : b.length ≤ 32768) :
    Calls Tryz.prog 137 #[.int .i64 n, vb] w fun e w' => ∃ ao L cap, e = .returned (.slice ao L cap) ∧ Hid (w'.ownsRow w.heap.size 5 1 (.slice ao L cap) (recB n b).length (cells8 (recB n b)) ∧ Below w.heap.size w w') := by
  obtain ⟨aob, capb, rfl, _, _⟩ := hS.shape
  have hW0 : Bn.Wr (w.alloc (.cells #[.slice none 0 0] 169)) 169 (w.heap.size + 1) w.heap.size (.slice none 0 0) [] := ⟨heap_alloc_new _ _, World.ownsRow_nil _ _ _ _⟩
  have hb0 : Below w.heap.size w (w.alloc (.cells #[.slice none 0 0] 169)) := (Below.refl _ _).alloc (Nat.le_refl _) _
  have hs0 : (w.alloc (.cells #[.slice none 0 0] 169)).heap.size = w.heap.size + 1 := by simp
  have H1 : Hid (Calls Tryz.prog 115 #[.pointer (some ⟨w.heap.size, 0, none⟩), .int .i64 n] (w.alloc (.cells #[.slice none 0 0] 169)) fun e w1 => e = .returned (.tuple #[]) ∧ Hid (
      Calls Tryz.prog 136 #[.pointer (some ⟨w.heap.size, 0, none⟩), .slice aob b.length capb] w1 fun e w2 => e = .returned (.tuple #[]) ∧ Hid (
      Calls Tryz.prog 118 #[.pointer (some ⟨w.heap.size, 0, none⟩)] w2 fun e w3 => ∃ ao3 L3 cap3, e = .returned (.slice ao3 L3 cap3) ∧ Hid (
      Calls Tryz.prog 141 #[.slice ao3 L3 cap3] w3 fun e w4 => ∃ ao L cap, e = .returned (.slice ao L cap) ∧ Hid (w4.ownsRow w.heap.size 5 1 (.slice ao L cap) (recB n b).length (cells8 (recB n b)) ∧ Below w.heap.size w w4))))) := by
    refine (Bn.wnum_any (w.heap.size + 1) w.heap.size (.slice none 0 0) [] n _ hW0 (by omega) hn.1 hn.2 (by simp)).mono ?_
    rintro e w1 ⟨rfl, v1, hW1, hr1, _⟩
    rw [List.nil_append] at hW1
    have k1 : Below w.heap.size w w1 := hb0.trans (wrote_below hr1 (Nat.le_refl _) (fun k hk => by simp [Value.ownBlock] at hk) (by omega))
    have he := Bn.enc_le n
    have he2 := Bn.enc_le (b.length : Int)
    have hs1 := k1.size
    have hs1' := hr1.size
    refine ⟨rfl, (Bn.wtext_any (w.heap.size + 1) w.heap.size v1 _ (Bn.enc n) b w1 hW1 (by omega) (hS.below k1) (fun w' hw => ?_) (by omega)).mono ?_⟩
    · have k2 : Below w.heap.size w1 w' := wrote_below hw (Nat.le_refl _) (fun k hk => by have := (hW1.2.lt k hk).1; omega) hs1
      exact hS.below (k1.trans k2)
    · rintro e w2 ⟨rfl, v2, hW2, hr2, _⟩
      have k2 : Below w.heap.size w w2 := k1.trans (wrote_below hr2 (Nat.le_refl _) (fun k hk => by have := (hW1.2.lt k hk).1; omega) hs1)
      have hlen : (Bn.enc n ++ (Bn.enc (b.length : Int) ++ b)).length ≤ 40000 := by
        rw [List.length_append, List.length_append]
        omega
      refine ⟨rfl, (Bn.wbytes_any (w.heap.size + 1) w.heap.size v2 _ w2 hW2 (by omega)).mono ?_⟩
      rintro e w3 ⟨v3, rfl, hO3, hb3⟩
      have k3 : Below w.heap.size w w3 := k2.trans (hb3.mono k2.size)
      obtain ⟨ao3, L3, cap3, rfl⟩ := own_slice hO3
      refine ⟨ao3, L3, cap3, rfl, (Fr.seal_any _ _ w3 (Sl.of_own hO3) (ht.below k3) (by omega)).mono ?_⟩
      rintro e w4 ⟨v4, rfl, hO4, hb4⟩
      obtain ⟨ao4, L4, cap4, rfl⟩ := own_slice hO4
      exact ⟨ao4, L4, cap4, rfl, own_base hO4 (fun k hk => Nat.le_trans k3.size (hO4.lt k hk).1), k3.trans (hb4.mono k3.size)⟩
  clear hW0 hb0 hs0 hS ht
  go_enter Tryz.func137, Tryz.ntmps137
  go_wp2_with (first
    | (go_at_call 115; refine Calls.mono H1.out ?_; rintro e w1 ⟨rfl, H2⟩)
    | (go_at_call 136; refine Calls.mono H2.out ?_; rintro e w2 ⟨rfl, H3⟩)
    | (go_at_call 118; refine Calls.mono H3.out ?_; rintro e w3 ⟨ao3, L3, cap3, rfl, H4⟩)
    | (go_at_call 141; refine Calls.mono H4.out ?_; rintro e w4 ⟨ao4, L4, cap4, rfl, HX⟩))
  go_ret
  exact ⟨_, _, _, rfl, HX⟩

/-- What a record's seal holds. -/
def unsealL (body : List UInt8) : Option (Int × List UInt8) :=
  match (Bn.rText (Bn.rNum (some body)).2).2 with
  | none => none
  | some rest => if rest.length = 0 ∧ (Bn.rText (Bn.rNum (some body)).2).1.length ≤ 32768 then some ((Bn.rNum (some body)).1, (Bn.rText (Bn.rNum (some body)).2).1) else none
end Go.Proofs.YtjndgekpdmlbiaaGreatDoor.Wl
