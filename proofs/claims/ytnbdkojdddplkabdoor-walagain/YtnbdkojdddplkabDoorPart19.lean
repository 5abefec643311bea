/- What a crash leaves of a log that is being written anew: plain mathematics; the parts of the law WalAgain. What Get answers in the law WalAgain. The walk of the law WalAgain. -/
import Derived.Test.YtnbdkojdddplkabDoorPart18
namespace Go.Proofs.YtnbdkojdddplkabDoor.Wl
open Go.RowKit Dk

theorem scan_more : ∀ (ds : List (List UInt8)) (n : Int) (r : List UInt8), (∀ d ∈ ds, d.length ≤ 32768) → (Fr.scanL (fileB n ds ++ r)).1 = bodies n ds ++ (Fr.scanL r).1
  | [], n, r, _ => by rw [fileB, List.nil_append]; rfl
  | d :: ds, n, r, h => by
    have hd := h d List.mem_cons_self
    have e1 := enc_le n
    have e2 := enc_le (d.length : Int)
    have h1 := Fr.first_seal (Bn.enc n ++ (Bn.enc (d.length : Int) ++ d)) (fileB (n + 1) ds ++ r) (by simp only [List.length_append]; omega)
    have hf : fileB n (d :: ds) ++ r = Fr.sealL (Bn.enc n ++ (Bn.enc (d.length : Int) ++ d)) ++ (fileB (n + 1) ds ++ r) := by
      rw [← List.append_assoc]
      rfl
    rw [hf, Fr.scan_some h1, ← Fr.seal_len, List.drop_left, bodies, scan_more ds (n + 1) r (fun x hx => h x (List.mem_cons_of_mem _ hx))]
    rfl
/-- A record that is cut short is not read, and what stands ahead of it is. -/
theorem load_torn (ds : List (List UInt8)) (n : Int) (x : Int) (b : List UInt8) (t : Nat) (h : ∀ d ∈ ds, d.length ≤ 32768) (h1 : 1 ≤ n) (hb : n + ds.length ≤ 9223372036854775808) (hl : b.length ≤ 32768) (ht : t < (recB x b).length) :
    loadR (Fr.scanL (fileB n ds ++ (recB x b).take t)).1 0 [] = (if ds.length = 0 then 0 else n, ds) := by
  have e1 := enc_le x
  have e2 := enc_le (b.length : Int)
  have hn : Fr.firstB ((recB x b).take t) = none := Fr.cut_none _ t (by simp only [List.length_append]; omega) ht
  rw [scan_more ds n _ h, Fr.scan_none hn, List.append_nil, ← scan_file ds n h]
  exact load_file ds n h h1 hb

def old : List UInt8 := [111, 108, 100]
def nw : List UInt8 := [110, 101, 119, 33]
def olds (n : Nat) : List (List UInt8) := List.replicate n old
def news (n : Nat) : List (List UInt8) := List.replicate n nw
theorem olds_len (n : Nat) : (olds n).length = n := by simp [olds]
theorem news_len (n : Nat) : (news n).length = n := by simp [news]
theorem olds_succ (n : Nat) : olds (n + 1) = olds n ++ [old] := by simp [olds, List.replicate_succ']
theorem news_succ (n : Nat) : news (n + 1) = news n ++ [nw] := by simp [news, List.replicate_succ']
theorem olds_take (n k : Nat) (h : k ≤ n) : (olds n).take k = olds k := by
  unfold olds
  rw [List.take_replicate, Nat.min_eq_left h]
def on (m j : Nat) : List (List UInt8) := olds m ++ news j
theorem on_len (m j : Nat) : (on m j).length = m + j := by rw [on, List.length_append, olds_len, news_len]
theorem on_succ (m j : Nat) : on m (j + 1) = on m j ++ [nw] := by rw [on, news_succ, ← List.append_assoc]; rfl
theorem on_small (m j : Nat) : ∀ d ∈ on m j, d.length ≤ 300 := by
  intro d hd
  rcases List.mem_append.1 hd with hd | hd
  · rw [(List.mem_replicate.1 hd).2]; decide
  · rw [(List.mem_replicate.1 hd).2]; decide
theorem olds_small (m : Nat) : ∀ d ∈ olds m, d.length ≤ 300 := by
  intro d hd
  rw [(List.mem_replicate.1 hd).2]; decide
def one (n : Nat) : Int := if n = 0 then 0 else 1
theorem one_fileB (n : Nat) (ds : List (List UInt8)) (h : ds.length = n) : fileB (one n) ds = fileB 1 ds := by
  unfold one
  split
  · rename_i hz
    rw [List.eq_nil_of_length_eq_zero (h.trans hz)]
    rfl
  · rfl

/-- The changes that wait while records are written anew from m + 1 on. -/
def apps (m j : Nat) : List Ch := (List.range j).map fun i => .app nmW (recB ((m + 1 + i : Nat) : Int) nw)
theorem apps_len (m j : Nat) : (apps m j).length = j := by simp [apps]
theorem apps_succ (m j : Nat) : apps m (j + 1) = apps m j ++ [.app nmW (recB ((m + 1 + j : Nat) : Int) nw)] := by simp [apps, List.range_succ]
theorem apps_take (m j i : Nat) (h : i ≤ j) : (apps m j).take i = apps m i := by
  unfold apps
  rw [← List.map_take, List.take_range, Nat.min_eq_left h]
theorem apps_get (m j i : Nat) (h : i < j) : (apps m j)[i]? = some (.app nmW (recB ((m + 1 + i : Nat) : Int) nw)) := by
  unfold apps
  rw [List.getElem?_map, List.getElem?_range h]
  rfl
def sA (n m j : Nat) : St := ⟨1048576, [⟨nmW, fileB 1 (olds n)⟩], .cut nmW (fileB 1 (olds m)).length :: apps m j⟩
theorem sA_push (n m j : Nat) : (sA n m j).push (.app nmW (recB ((m + 1 + j : Nat) : Int) nw)) = sA n m (j + 1) := by
  simp only [sA, St.push, apps_succ, List.cons_append]
theorem run_A (n m : Nat) (h : m ≤ n) : ∀ i, Dk.run [⟨nmW, fileB 1 (olds n)⟩] (.cut nmW (fileB 1 (olds m)).length :: apps m i) = [⟨nmW, fileB 1 (on m i)⟩]
  | 0 => by
    have hf := fileB_front 1 (olds n) m (by rw [olds_len]; exact h)
    rw [olds_take n m h] at hf
    have e : on m 0 = olds m := by simp [on, news]
    rw [e]
    simp [apps, Dk.run, ap, Dk.look, Dk.del, Dk.ins, hf]
  | i + 1 => by
    rw [apps_succ, ← List.cons_append, Dk.run_snoc, run_A n m h i, on_succ, fileB_append, on_len]
    have e : (1 : Int) + ((m + i : Nat) : Int) = ((m + 1 + i : Nat) : Int) := by omega
    rw [e]
    simp [ap, Dk.look, Dk.del, Dk.ins, fileB]

/-- What may be read behind the crash. -/
def AG (n m : Nat) (ds : List (List UInt8)) : Prop := ds = olds n ∨ ∃ i, m + i ≤ n ∧ ds = on m i
/-- What is left. -/
theorem left_A (n m j : Nat) (hm : m < n) (hj : m + j ≤ n) (hn : n ≤ 20) (fr t : Int) : ∃ X ds, Dk.leftOf (sA n m j) fr t = [⟨nmW, X⟩] ∧ AG n m ds ∧ loadR (Fr.scanL X).1 0 [] = (one ds.length, ds) ∧ X.length ≤ 2000 := by
  have hbig : ∀ ds : List (List UInt8), (∀ d ∈ ds, d.length ≤ 4) → ds.length ≤ 21 → (fileB 1 ds).length ≤ 700 := fun ds h1 h2 => by
    have := fileB_small ds 1 4 h1 (by omega) (by omega) (by omega)
    omega
  have hold4 : ∀ d ∈ olds n, d.length ≤ 4 := fun d hd => by rw [(List.mem_replicate.1 hd).2]; decide
  have hon4 : ∀ i, ∀ d ∈ on m i, d.length ≤ 4 := fun i d hd => by
    rcases List.mem_append.1 hd with hd | hd
    · rw [(List.mem_replicate.1 hd).2]; decide
    · rw [(List.mem_replicate.1 hd).2]; decide
  have case0 : ∃ X ds, [⟨nmW, fileB 1 (olds n)⟩] = [(⟨nmW, X⟩ : Fl)] ∧ AG n m ds ∧ loadR (Fr.scanL X).1 0 [] = (one ds.length, ds) ∧ X.length ≤ 2000 := by
    refine ⟨_, olds n, rfl, Or.inl rfl, ?_, by have := hbig _ hold4 (by rw [olds_len]; omega); omega⟩
    rw [load_file (olds n) 1 (fun d hd => by have := hold4 d hd; omega) (by omega) (by rw [olds_len]; omega)]
    rfl
  have case1 : ∀ (i tt : Nat), m + i ≤ n → tt < (recB ((m + 1 + i : Nat) : Int) nw).length → ∃ X ds, [⟨nmW, fileB 1 (on m i) ++ (recB ((m + 1 + i : Nat) : Int) nw).take tt⟩] = [(⟨nmW, X⟩ : Fl)] ∧ AG n m ds ∧ loadR (Fr.scanL X).1 0 [] = (one ds.length, ds) ∧ X.length ≤ 2000 := by
    intro i tt hi htt
    refine ⟨_, on m i, rfl, Or.inr ⟨i, hi, rfl⟩, ?_, ?_⟩
    · rw [load_torn (on m i) 1 _ nw tt (fun d hd => by have := hon4 i d hd; omega) (by omega) (by rw [on_len]; omega) (by decide) htt]
      rfl
    · have h1 := hbig _ (hon4 i) (by rw [on_len]; omega)
      have h2 := recB_size ((m + 1 + i : Nat) : Int) nw ⟨by omega, by omega⟩ (by decide)
      have h3 : nw.length = 4 := rfl
      rw [List.length_append, List.length_take]
      omega
  have hpos : ∀ i : Nat, 0 < (recB ((m + 1 + i : Nat) : Int) nw).length := fun i => by
    unfold recB
    rw [Fr.seal_len]
    omega
  unfold Dk.leftOf
  by_cases h0 : 0 ≤ fr
  · rw [if_pos h0]
    obtain ⟨F, rfl⟩ : ∃ F : Nat, fr = (F : Int) := ⟨fr.toNat, by omega⟩
    rw [Int.toNat_natCast]
    cases F with
    | zero => exact case0
    | succ i =>
      have hw : (sA n m j).wait[i + 1]? = (apps m j)[i]? := by simp [sA]
      have hr : ∀ k, k ≤ j → Dk.run (sA n m j).last ((sA n m j).wait.take (k + 1)) = [⟨nmW, fileB 1 (on m k)⟩] := fun k hk => by
        have e : (sA n m j).wait.take (k + 1) = .cut nmW (fileB 1 (olds m)).length :: apps m k := by simp [sA, apps_take m j k hk]
        rw [e]
        exact run_A n m (by omega) k
      rw [hw]
      by_cases hi : i < j
      · rw [apps_get m j i hi]
        simp only [hr i (by omega), Dk.torn]
        by_cases ht : t < 0
        · rw [if_pos ht]
          have := case1 i 0 (by omega) (hpos i)
          rw [List.take_zero, List.append_nil] at this
          exact this
        · rw [if_neg ht]
          have e : ∀ B, Dk.ap [⟨nmW, fileB 1 (on m i)⟩] (.app nmW B) = [⟨nmW, fileB 1 (on m i) ++ B⟩] := fun B => by simp [ap, Dk.look, Dk.del, Dk.ins]
          rw [e]
          by_cases hlt : t.toNat < (recB ((m + 1 + i : Nat) : Int) nw).length
          · exact case1 i t.toNat (by omega) hlt
          · rw [List.take_of_length_le (by omega)]
            have := case1 (i + 1) 0 (by omega) (hpos (i + 1))
            rw [List.take_zero, List.append_nil, on_succ, fileB_append, on_len] at this
            have e2 : (1 : Int) + ((m + i : Nat) : Int) = ((m + 1 + i : Nat) : Int) := by omega
            rw [e2] at this
            simpa [fileB] using this
      · have hno : (apps m j)[i]? = none := by rw [List.getElem?_eq_none_iff, apps_len]; omega
        rw [hno]
        have e : (sA n m j).wait.take (i + 1) = (sA n m j).wait.take (j + 1) := by
          rw [List.take_of_length_le (by simp [sA, apps_len]; omega), List.take_of_length_le (by simp [sA, apps_len])]
        simp only [e, hr j (Nat.le_refl _)]
        have := case1 j 0 (by omega) (hpos j)
        rw [List.take_zero, List.append_nil] at this
        exact this
  · rw [if_neg h0]
    exact case0

theorem may_one (ds : List (List UInt8)) (k : Nat) (h : ds.length = k) : mayL (one k) ds ((k + 1 : Nat) : Int) = true := by
  unfold mayL one
  rw [h]
  by_cases hk : k = 0
  · subst hk; simp
  · simp only [hk, if_false]
    simp
    omega

/-- While the old ones are written. -/
def A1 (w0 w : World) (p pd k : Nat) : Prop := ∃ s, GD w0 w p pd s (one k) (olds k) ∧ Gs s (one k) (olds k) k (330 * k + 1)
/-- While the new ones are. -/
def A2 (w0 w : World) (p pd n m j : Nat) : Prop := GD w0 w p pd (sA n m j) (one (m + j)) (on m j) ∧ ∃ M, M ≤ 330 * (m + j) + 10000 ∧ Gs (sA n m j) (one (m + j)) (on m j) (m + j) M
/-- When it is open again. -/
def A3 (w0 w : World) (r q : Nat) (ds : List (List UInt8)) : Prop := ∃ s, GD w0 w r q s (one ds.length) ds

theorem A1.step {w0 w : World} {p pd k : Nat} (h : A1 w0 w p pd k) (hT : ∀ u, Below w0.heap.size w0 u → Fr.Tab u) (hk : k < 20) :
    Calls Tryd.prog 7 #[.pointer (some ⟨p, 0, none⟩), .int .i64 ((k : Int) + 1), .slice (some ⟨w.heap.size, 0, none⟩) 3 3] (w.alloc (.cells #[.int .u8 111, .int .u8 108, .int .u8 100] 5 (3, 4))) fun e w' => e = .returned (.int .i64 0) ∧ Hid (A1 w0 w' p pd (k + 1)) := by
  obtain ⟨s, hG, hs⟩ := h
  have hba : Below w.heap.size w (w.alloc (.cells #[.int .u8 111, .int .u8 108, .int .u8 100] 5 (3, 4))) := (Below.refl _ _).alloc (Nat.le_refl _) _
  have hSa : Sl (w.alloc (.cells #[.int .u8 111, .int .u8 108, .int .u8 100] 5 (3, 4))) _ old := sl_new w #[.int .u8 111, .int .u8 108, .int .u8 100] old 5 (3, 4) rfl (by decide)
  have hmay := may_one (olds k) k (olds_len k)
  have e1 : ((k + 1 : Nat) : Int) = (k : Int) + 1 := by omega
  rw [e1] at hmay
  have ef : (if (olds k).length = 0 then (k : Int) + 1 else one k) = one (k + 1) := by
    rw [olds_len]
    unfold one
    by_cases hk0 : k = 0
    · subst hk0; simp
    · simp [hk0]
  refine (hG.app hs hT (by omega) (by omega) ((k : Int) + 1) _ old hba hSa (fun a m c e => ?_) hmay (by omega) (by decide)).mono ?_
  · simp only [Value.slice.injEq, Option.some.injEq] at e
    rw [← e.1]
    exact Or.inr (Nat.le_refl _)
  · rintro e w' ⟨rfl, hX⟩
    have hX' := hX.out
    have hs' := hs.app ((k : Int) + 1) old hmay (by omega) (by decide)
    rw [ef, ← olds_succ] at hX' hs'
    exact ⟨rfl, _, hX', hs'.room, hs'.now, by have := hs'.mass; omega, hs'.small, hs'.len, hs'.fit⟩

theorem A2.step {w0 w : World} {p pd n m j : Nat} (h : A2 w0 w p pd n m j) (hT : ∀ u, Below w0.heap.size w0 u → Fr.Tab u) (hk : m + j < 20) (i : Int) (hi : i = ((m + 1 + j : Nat) : Int)) :
    Calls Tryd.prog 7 #[.pointer (some ⟨p, 0, none⟩), .int .i64 i, .slice (some ⟨w.heap.size, 0, none⟩) 4 4] (w.alloc (.cells #[.int .u8 110, .int .u8 101, .int .u8 119, .int .u8 33] 5 (4, 5))) fun e w' => e = .returned (.int .i64 0) ∧ Hid (A2 w0 w' p pd n m (j + 1)) := by
  subst hi
  obtain ⟨hG, M, hM, hs⟩ := h
  have hba : Below w.heap.size w (w.alloc (.cells #[.int .u8 110, .int .u8 101, .int .u8 119, .int .u8 33] 5 (4, 5))) := (Below.refl _ _).alloc (Nat.le_refl _) _
  have hSa : Sl (w.alloc (.cells #[.int .u8 110, .int .u8 101, .int .u8 119, .int .u8 33] 5 (4, 5))) _ nw := sl_new w #[.int .u8 110, .int .u8 101, .int .u8 119, .int .u8 33] nw 5 (4, 5) rfl (by decide)
  have hmay := may_one (on m j) (m + j) (on_len m j)
  have e1 : ((m + j + 1 : Nat) : Int) = ((m + 1 + j : Nat) : Int) := by omega
  rw [e1] at hmay
  have ef : (if (on m j).length = 0 then ((m + 1 + j : Nat) : Int) else one (m + j)) = one (m + (j + 1)) := by
    rw [on_len]
    unfold one
    by_cases hk0 : m + j = 0
    · rw [if_pos hk0, if_neg (by omega)]
      omega
    · rw [if_neg hk0, if_neg hk0, if_neg (by omega)]
  refine (hG.app hs hT (by omega) (by omega) _ _ nw hba hSa (fun a m c e => ?_) hmay (by omega) (by decide)).mono ?_
  · simp only [Value.slice.injEq, Option.some.injEq] at e
    rw [← e.1]
    exact Or.inr (Nat.le_refl _)
  · rintro e w' ⟨rfl, hX⟩
    have hX' := hX.out
    have hs' := hs.app ((m + 1 + j : Nat) : Int) nw hmay (by omega) (by decide)
    rw [ef, ← on_succ, sA_push] at hX' hs'
    exact ⟨rfl, hX', M + 330, by omega, hs'.room, hs'.now, hs'.mass, hs'.small, by have := hs'.len; omega, hs'.fit⟩

/-- Sync and From. -/
theorem A1.back {w0 w : World} {p pd n : Nat} (h : A1 w0 w p pd n) (hn : n ≤ 20) (m : Nat) (hm : m < n) :
    Calls Tryd.prog 8 #[.pointer (some ⟨p, 0, none⟩)] w fun e w1 => e = .returned (.tuple #[]) ∧ Hid (Calls Tryd.prog 9 #[.pointer (some ⟨p, 0, none⟩), .int .i64 ((m : Int) + 1)] w1 fun e w2 => e = .returned (.int .i64 0) ∧ Hid (A2 w0 w2 p pd n m 0)) := by
  obtain ⟨s, hG, hs⟩ := h
  have hms := hs.mass
  have h1n : one n = 1 := by unfold one; rw [if_neg (by omega)]
  rw [h1n] at hG hs
  refine (hG.sync (by omega)).mono ?_
  rintro e w1 ⟨rfl, hG1⟩
  refine ⟨rfl, ?_⟩
  have hs1 := hs.sync
  have hne : olds n ≠ [] := fun e => by have := congrArg List.length e; rw [olds_len, List.length_nil] at this; omega
  have hnow : s.now = [⟨nmW, fileB 1 (olds n)⟩] := by
    rcases hs.now with ⟨_, e⟩ | e
    · exact absurd e hne
    · exact e
  have hG1' := hG1.out
  rw [hs.room, hnow] at hG1' hs1
  have hc := cnt_at 1 (olds n) m hne
  rw [olds_len, Nat.min_eq_right (by omega)] at hc
  refine (hG1'.from hs1 (by omega) (by omega) ((m : Int) + 1) m (by omega) (by omega) (by rw [show (m : Int) + 1 - 1 = 1 + (m : Int) - 1 by omega]; exact hc)).mono ?_
  rintro e w2 ⟨rfl, hG2⟩
  have hs2 := hs1.from m (by rw [olds_len]; omega) (fun e => absurd e hne)
  have hG2' := hG2.out
  have eS : fromS ⟨1048576, [⟨nmW, fileB 1 (olds n)⟩], []⟩ 1 (olds n) m = sA n m 0 := by
    unfold fromS
    rw [if_neg (by rw [olds_len]; omega), olds_take n m (by omega)]
    rfl
  have eO : (olds n).take m = on m 0 := by rw [olds_take n m (by omega)]; simp [on, news]
  have e1 : (if m = 0 then (0 : Int) else 1) = one (m + 0) := rfl
  rw [eS, eO, e1] at hG2' hs2
  exact ⟨rfl, hG2', n * 328 + 1 + 1, by omega, hs2.room, hs2.now, hs2.mass, hs2.small, by rw [on_len]; omega, hs2.fit⟩

/-- The crash and what is opened behind it. -/
theorem A2.crash {w0 w : World} {p pd n m j : Nat} (h : A2 w0 w p pd n m j) (hT : ∀ u, Below w0.heap.size w0 u → Fr.Tab u) (hw0 : 0 < w0.heap.size) (hm : m < n) (hj : m + j = n) (hn : n ≤ 20) (fr t : Int) :
    ∃ ds, AG n m ds ∧ Calls Tryd.prog 10 #[.pointer (some ⟨pd, 0, none⟩), .int .i64 fr, .int .i64 t] w fun e w1 => ∃ q, e = .returned (.pointer (some ⟨q, 0, none⟩)) ∧ Hid (Calls Tryd.prog 6 #[.pointer (some ⟨q, 0, none⟩)] w1 fun e w2 => ∃ r, e = .returned (.tuple #[.pointer (some ⟨r, 0, none⟩), .int .i64 0]) ∧ Hid (A3 w0 w2 r q ds)) := by
  obtain ⟨hG, M, hM, hs⟩ := h
  obtain ⟨X, ds, hX, hA, hL, hXl⟩ := left_A n m j hm (by omega) hn fr t
  refine ⟨ds, hA, ?_⟩
  have hms := hs.mass
  refine (hG.crash (by omega) fr t).mono ?_
  rintro e w1 ⟨q, rfl, hD, _⟩
  refine ⟨q, rfl, ?_⟩
  rw [hX] at hD
  have hfo : fileOf (⟨(sA n m j).room, [⟨nmW, X⟩], []⟩ : St) nmW = X := by
    unfold fileOf
    rw [show (⟨(sA n m j).room, [⟨nmW, X⟩], []⟩ : St).now = [⟨nmW, X⟩] from rfl, look_one]
    rfl
  refine (GD.open hD hT hw0 (by simp [St.mass, Dk.mass, wmass]; omega) (fun f hf => ?_) (by rw [hfo]; omega) (by simp [St.now, Dk.run]) (one ds.length) ds (by rw [hfo]; exact hL)).mono ?_
  · have hf' : f ∈ [(⟨nmW, X⟩ : Fl)] := hf
    rw [List.mem_singleton] at hf'
    rw [hf']
    exact nmW_size
  · rintro e w2 ⟨r, rfl, hG2, _⟩
    exact ⟨r, rfl, _, hG2⟩

/-- Get of any number from 1 on. -/
theorem A3.get {w0 w : World} {r q : Nat} {ds : List (List UInt8)} (h : A3 w0 w r q ds) (i : Nat) (hi : 1 ≤ i) (hl : ds.length ≤ 1000) (hs : ∀ d ∈ ds, d.length ≤ 300) :
    (i ≤ ds.length → Calls Tryd.prog 12 #[.pointer (some ⟨r, 0, none⟩), .int .i64 (i : Int)] w fun e w' => ∃ ao L cap, e = .returned (.tuple #[.slice ao L cap, .bool true]) ∧ Hid (Sl w' (.slice ao L cap) (ds.getD (i - 1) []) ∧ A3 w0 w' r q ds ∧ Below w.heap.size w w')) ∧
    (¬ i ≤ ds.length → Calls Tryd.prog 12 #[.pointer (some ⟨r, 0, none⟩), .int .i64 (i : Int)] w fun e w' => e = .returned (.tuple #[.slice none 0 0, .bool false]) ∧ Hid (A3 w0 w' r q ds)) := by
  obtain ⟨s, F, hL, hF, hb⟩ := h
  constructor
  · intro hle
    have h1 : one ds.length = 1 := by unfold one; rw [if_neg (by omega)]
    have hget := get_hit _ r q s F _ _ (i - 1) w hL (by omega) (by rw [h1]; omega) (by omega) (by rw [h1]; omega) (by have := hs _ (List.getElem_mem (show i - 1 < ds.length by omega)); omega)
    rw [h1, show (1 : Int) + ((i - 1 : Nat) : Int) = (i : Int) by omega] at hget
    refine hget.mono ?_
    rintro e w' ⟨v', rfl, hO, hbb⟩
    obtain ⟨ao, L, cap, rfl⟩ := own_slice hO
    refine ⟨ao, L, cap, rfl, ?_, ⟨s, F, hL.below hbb, hF, hb.trans (hbb.mono hb.size)⟩, hbb⟩
    rw [List.getD_eq_getElem?_getD, List.getElem?_eq_getElem (by omega)]
    exact Sl.of_own hO
  · intro hgt
    refine (get_miss _ r q s F _ _ (i : Int) w hL ?_).mono ?_
    · right; right
      unfold lastL one
      by_cases hz : ds.length = 0
      · rw [if_pos hz]; omega
      · rw [if_neg hz, if_neg hz]; omega
    · rintro e w' ⟨rfl, m, rfl⟩
      exact ⟨rfl, s, F, hL.drew m, hF, hb.trans ⟨rfl, rfl, rfl, Nat.le_refl _, fun _ _ => rfl⟩⟩
theorem A3.last {w0 w : World} {r q : Nat} {ds : List (List UInt8)} (h : A3 w0 w r q ds) :
    Calls Tryd.prog 11 #[.pointer (some ⟨r, 0, none⟩)] w fun e w' => e = .returned (.int .i64 (ds.length : Int)) ∧ Hid (A3 w0 w' r q ds) := by
  obtain ⟨s, F, hL, hF, hb⟩ := h
  have hl : lastL (one ds.length) ds = (ds.length : Int) := by
    unfold lastL one
    by_cases hz : ds.length = 0
    · rw [if_pos hz, hz]; rfl
    · rw [if_neg hz, if_neg hz]; omega
  have h1 := hL.last
  rw [hl] at h1
  refine h1.mono ?_
  rintro e w' ⟨rfl, m, rfl⟩
  exact ⟨rfl, s, F, hL.drew m, hF, hb.trans ⟨rfl, rfl, rfl, Nat.le_refl _, fun _ _ => rfl⟩⟩
theorem A3.bel {w0 w : World} {r q : Nat} {ds : List (List UInt8)} (h : A3 w0 w r q ds) : Below w0.heap.size w0 w := by
  obtain ⟨s, F, hL, hF, hb⟩ := h
  exact hb

/-- What the records are. -/
theorem AG.facts {n m : Nat} {ds : List (List UInt8)} (h : AG n m ds) (hm : m < n) : m ≤ ds.length ∧ ds.length ≤ n ∧ (∀ d ∈ ds, d.length ≤ 300) ∧ (∀ i, i < m → ds.getD i [] = old) ∧ ((ds.length = n ∧ ∀ i, i < n → ds.getD i [] = old) ∨ ∀ i, m ≤ i → i < ds.length → ds.getD i [] = nw) := by
  have hol : ∀ n i, i < n → (olds n).getD i [] = old := fun n i hi => by
    rw [List.getD_eq_getElem?_getD, List.getElem?_eq_getElem (by rw [olds_len]; exact hi)]
    simp [olds]
  rcases h with rfl | ⟨i, hi, rfl⟩
  · rw [olds_len]
    exact ⟨by omega, Nat.le_refl _, olds_small n, fun i hi => hol n i (by omega), Or.inl ⟨rfl, fun i hi => hol n i hi⟩⟩
  · rw [on_len]
    refine ⟨by omega, hi, on_small m i, fun k hk => ?_, Or.inr (fun k h1 h2 => ?_)⟩
    · have := hol m k hk
      rw [List.getD_eq_getElem?_getD] at this ⊢
      rw [on, List.getElem?_append_left (by rw [olds_len]; exact hk)]
      exact this
    · rw [List.getD_eq_getElem?_getD, on, List.getElem?_append_right (by rw [olds_len]; exact h1), olds_len, List.getElem?_eq_getElem (by rw [news_len]; omega)]
      simp [news]
end Go.Proofs.YtnbdkojdddplkabDoor.Wl
namespace Go.Proofs.YtnbdkojdddplkabDoor.Wl
open Go.RowKit Dk

theorem str_bytes {w : World} {v : Value} {bs : List UInt8} (h : Sl w v bs) : (convert 30 9 v).run Tryd.prog w = .ok (.string ⟨bs.toArray⟩) w := str_of_sl (P := Tryd.prog) h 30 5 9 Tryd.underlying30 Tryd.underlying5 Tryd.underlying9

theorem A3.hit {w0 w : World} {r q : Nat} {ds : List (List UInt8)} (h : A3 w0 w r q ds) (i : Nat) (hi : 1 ≤ i) (hl : ds.length ≤ 1000) (hs : ∀ d ∈ ds, d.length ≤ 300) (hle : i ≤ ds.length) (u : List UInt8) (hu : ds.getD (i - 1) [] = u) :
    Calls Tryd.prog 12 #[.pointer (some ⟨r, 0, none⟩), .int .i64 (i : Int)] w fun e w' => ∃ ao L cap, e = .returned (.tuple #[.slice ao L cap, .bool true]) ∧ (convert 30 9 (.slice ao L cap)).run Tryd.prog w' = .ok (.string ⟨u.toArray⟩) w' ∧ Hid (A3 w0 w' r q ds) := by
  refine ((h.get i hi hl hs).1 hle).mono ?_
  rintro e w' ⟨ao, L, cap, rfl, h1, h2, _⟩
  rw [hu] at h1
  exact ⟨ao, L, cap, rfl, str_bytes h1, h2⟩
theorem A3.end_eq {w0 w : World} {r q : Nat} {ds : List (List UInt8)} (h : A3 w0 w r q ds) (m n : Nat) (hm : m < n) (hl : ds.length ≤ 1000) (hs : ∀ d ∈ ds, d.length ≤ 300) (hn : ds.length = n) (u : List UInt8) (hu : ds.getD m [] = u) (hu2 : ds.getD (n - 1) [] = u) :
    Calls Tryd.prog 12 #[.pointer (some ⟨r, 0, none⟩), .int .i64 ((m : Int) + 1)] w fun e w1 => ∃ ao L cap, e = .returned (.tuple #[.slice ao L cap, .bool true]) ∧ Hid (Calls Tryd.prog 12 #[.pointer (some ⟨r, 0, none⟩), .int .i64 (n : Int)] w1 fun e w2 => ∃ ao2 L2 cap2, e = .returned (.tuple #[.slice ao2 L2 cap2, .bool true]) ∧ Hid (Calls Tryd.prog 12 #[.pointer (some ⟨r, 0, none⟩), .int .i64 ((m : Int) + 1)] w2 fun e w3 => ∃ ao3 L3 cap3, e = .returned (.tuple #[.slice ao3 L3 cap3, .bool true]) ∧ (convert 30 9 (.slice ao3 L3 cap3)).run Tryd.prog w3 = .ok (.string ⟨u.toArray⟩) w3 ∧ (convert 30 9 (.slice ao2 L2 cap2)).run Tryd.prog w3 = .ok (.string ⟨u.toArray⟩) w3 ∧ Hid (Below w0.heap.size w0 w3))) := by
  have em : ((m + 1 : Nat) : Int) = (m : Int) + 1 := by omega
  have g1 := (h.get (m + 1) (by omega) hl hs).1 (by omega)
  rw [em] at g1
  refine g1.mono ?_
  rintro e w1 ⟨ao, L, cap, rfl, _, h1, _⟩
  refine ⟨ao, L, cap, rfl, ?_⟩
  refine ((h1.get n (by omega) hl hs).1 (by omega)).mono ?_
  rintro e w2 ⟨ao2, L2, cap2, rfl, s2, h2, _⟩
  refine ⟨ao2, L2, cap2, rfl, ?_⟩
  have g3 := (h2.get (m + 1) (by omega) hl hs).1 (by omega)
  rw [em] at g3
  refine g3.mono ?_
  rintro e w3 ⟨ao3, L3, cap3, rfl, s3, h3, b3⟩
  rw [Nat.add_sub_cancel, hu] at s3
  rw [hu2] at s2
  exact ⟨ao3, L3, cap3, rfl, str_bytes s3, str_bytes (s2.below b3), h3.bel⟩
theorem A3.end_cut {w0 w : World} {r q : Nat} {ds : List (List UInt8)} (h : A3 w0 w r q ds) (m n : Nat) (hl : ds.length ≤ 1000) (hs : ∀ d ∈ ds, d.length ≤ 300) (hn : ds.length < n) :
    ∃ b : Bool, Calls Tryd.prog 12 #[.pointer (some ⟨r, 0, none⟩), .int .i64 ((m : Int) + 1)] w fun e w1 => ∃ ao L cap, e = .returned (.tuple #[.slice ao L cap, .bool b]) ∧ Hid (Calls Tryd.prog 12 #[.pointer (some ⟨r, 0, none⟩), .int .i64 (n : Int)] w1 fun e w2 => e = .returned (.tuple #[.slice none 0 0, .bool false]) ∧ Hid (Calls Tryd.prog 12 #[.pointer (some ⟨r, 0, none⟩), .int .i64 ((m : Int) + 1)] w2 fun e w3 => ∃ ao3 L3 cap3, e = .returned (.tuple #[.slice ao3 L3 cap3, .bool b]) ∧ Hid (Below w0.heap.size w0 w3))) := by
  have em : ((m + 1 : Nat) : Int) = (m : Int) + 1 := by omega
  by_cases hb : m + 1 ≤ ds.length
  · refine ⟨true, ?_⟩
    have g1 := (h.get (m + 1) (by omega) hl hs).1 hb
    rw [em] at g1
    refine g1.mono ?_
    rintro e w1 ⟨ao, L, cap, rfl, _, h1, _⟩
    refine ⟨ao, L, cap, rfl, ?_⟩
    refine ((h1.get n (by omega) hl hs).2 (by omega)).mono ?_
    rintro e w2 ⟨rfl, h2⟩
    refine ⟨rfl, ?_⟩
    have g3 := (h2.out.get (m + 1) (by omega) hl hs).1 hb
    rw [em] at g3
    refine g3.mono ?_
    rintro e w3 ⟨ao3, L3, cap3, rfl, _, h3, _⟩
    exact ⟨ao3, L3, cap3, rfl, h3.bel⟩
  · refine ⟨false, ?_⟩
    have g1 := (h.get (m + 1) (by omega) hl hs).2 hb
    rw [em] at g1
    refine g1.mono ?_
    rintro e w1 ⟨rfl, h1⟩
    refine ⟨none, 0, 0, rfl, ?_⟩
    refine ((h1.out.get n (by omega) hl hs).2 (by omega)).mono ?_
    rintro e w2 ⟨rfl, h2⟩
    refine ⟨rfl, ?_⟩
    have g3 := (h2.out.get (m + 1) (by omega) hl hs).2 hb
    rw [em] at g3
    refine g3.mono ?_
    rintro e w3 ⟨rfl, h3⟩
    exact ⟨none, 0, 0, rfl, h3.out.bel⟩
end Go.Proofs.YtnbdkojdddplkabDoor.Wl
namespace Go.Proofs.YtnbdkojdddplkabDoor.Wl
open Go.RowKit Dk

set_option maxHeartbeats 4000000 in
set_option maxRecDepth 20000 in
theorem walAgain_any (n fm fr t : Int) (w : World) (ht : Fr.Tab w) : Calls Tryd.prog 3 #[.int .i64 n, .int .i64 fm, .int .i64 fr, .int .i64 t] w fun e w' => e = .returned (.bool true) ∧ Below w.heap.size w w' := by
  have hw0 : 0 < w.heap.size := cell_lt (ht 0 (by omega))
  have HB : Hid (_) := begun_any w ht
  have HT : Hid (∀ u, Below w.heap.size w u → Fr.Tab u) := fun u hb => ht.below hb
  by_cases hbad : n < 1 ∨ 20 < n ∨ fm < 1 ∨ n < fm ∨ fr < -1 ∨ 100 < fr
  · by_cases b1 : n < 1
    · go_enter Tryd.func3, Tryd.ntmps3
      go_wp2_with (go_at_call 4; refine Calls.mono HB.out ?_; rintro e w1 ⟨rfl, hb1⟩)
      go_ret
      exact ⟨rfl, hb1⟩
    by_cases b2 : 20 < n
    · go_enter Tryd.func3, Tryd.ntmps3
      go_wp2_with (go_at_call 4; refine Calls.mono HB.out ?_; rintro e w1 ⟨rfl, hb1⟩)
      go_ret
      exact ⟨rfl, hb1⟩
    by_cases b3 : fm < 1
    · go_enter Tryd.func3, Tryd.ntmps3
      go_wp2_with (go_at_call 4; refine Calls.mono HB.out ?_; rintro e w1 ⟨rfl, hb1⟩)
      go_ret
      exact ⟨rfl, hb1⟩
    by_cases b4 : n < fm
    · go_enter Tryd.func3, Tryd.ntmps3
      go_wp2_with (go_at_call 4; refine Calls.mono HB.out ?_; rintro e w1 ⟨rfl, hb1⟩)
      go_ret
      exact ⟨rfl, hb1⟩
    by_cases b5 : fr < -1
    · go_enter Tryd.func3, Tryd.ntmps3
      go_wp2_with (go_at_call 4; refine Calls.mono HB.out ?_; rintro e w1 ⟨rfl, hb1⟩)
      go_ret
      exact ⟨rfl, hb1⟩
    · have b6 : 100 < fr := by omega
      go_enter Tryd.func3, Tryd.ntmps3
      go_wp2_with (go_at_call 4; refine Calls.mono HB.out ?_; rintro e w1 ⟨rfl, hb1⟩)
      go_ret
      exact ⟨rfl, hb1⟩
  have a1 : ¬ n < 1 := by omega
  have a2 : ¬ 20 < n := by omega
  have a3 : ¬ fm < 1 := by omega
  have a4 : ¬ n < fm := by omega
  have a5 : ¬ fr < -1 := by omega
  have a6 : ¬ 100 < fr := by omega
  clear hbad
  obtain ⟨N, rfl⟩ : ∃ N : Nat, n = (N : Int) := ⟨n.toNat, by omega⟩
  obtain ⟨m, rfl⟩ : ∃ m : Nat, fm = (m : Int) + 1 := ⟨(fm - 1).toNat, by omega⟩
  have hmN : m < N := by omega
  have hN20 : N ≤ 20 := by omega
  have HN : Hid (∀ w1, Below w.heap.size w w1 → Calls Tryd.prog 5 #[.int .i64 1048576] w1 fun e w2 => ∃ pd, e = .returned (.pointer (some ⟨pd, 0, none⟩)) ∧ Hid (Calls Tryd.prog 6 #[.pointer (some ⟨pd, 0, none⟩)] w2 fun e w3 => ∃ p, e = .returned (.tuple #[.pointer (some ⟨p, 0, none⟩), .int .i64 0]) ∧ Hid (A1 w w3 p pd 0))) := by
    intro w1 hb1
    refine (fresh_any hb1 HT.out hw0).mono ?_
    rintro e w2 ⟨pd, rfl, h2⟩
    refine ⟨pd, rfl, h2.out.mono ?_⟩
    rintro e w3 ⟨p, rfl, h3⟩
    exact ⟨p, rfl, _, h3.out, Gs_empty⟩
  clear ht
  go_enter Tryd.func3, Tryd.ntmps3
  go_wp2_with (first
    | (go_at_call 4; refine Calls.mono HB.out ?_; rintro e w1 ⟨rfl, hb1⟩; have HN1 : Hid (_) := HN.out w1 hb1; clear HN hb1)
    | (go_at_call 5; refine Calls.mono HN1.out ?_; rintro e w2 ⟨pd, rfl, HN2⟩; clear HN1)
    | (go_at_call 6; refine Calls.mono HN2.out ?_; rintro e w3 ⟨p, rfl, HN3⟩; clear HN2))
  go_loopw [13] (fun vi wr => ∃ k : Nat, k ≤ N ∧ vi = .int .i64 ((k : Int) + 1) ∧ Hid (A1 w wr p pd k)) (fun vi _ => N + 1 - (intOf vi).toNat)
  case atStart => exact ⟨0, Nat.zero_le _, rfl, HN3.out⟩
  case round =>
    obtain ⟨k, hk, rfl, HK⟩ := hrel
    clear HN3
    by_cases hlt : k < N
    · have hlt' : (k : Int) + 1 ≤ (N : Int) := by omega
      have HS : Hid (_) := A1.step HK.out HT.out (by omega)
      have hcv := Lib.run_convert_bytes_const (P := Tryd.prog) wr 30 5 #[.int .u8 111, .int .u8 108, .int .u8 100] 3 3 Tryd.underlying30 Tryd.underlying5
      have hk20 : (k : Int) < 20 := by omega
      clear HK
      go_wp2_with (go_at_call 7; refine Calls.mono HS.out ?_; rintro e w5 ⟨rfl, HX5⟩; clear hcv)
      go_roundw
      case rel => exact ⟨k + 1, by omega, by go_num, HX5.out⟩
      case measure => simp [intOf]; omega
    · obtain rfl : k = N := by omega
      have hgt : ¬ (k : Int) + 1 ≤ (k : Int) := by omega
      have HE : Hid (_) := A1.back HK.out hN20 m hmN
      clear HK hk hlt
      go_wp2_with (first
        | (go_at_call 8; refine Calls.mono HE.out ?_; rintro e w6 ⟨rfl, HE6⟩; clear HE)
        | (go_at_call 9; refine Calls.mono HE6.out ?_; rintro e w7 ⟨rfl, HE7⟩; clear HE6))
      go_loopw [14] (fun vi wr => ∃ j : Nat, m + j ≤ k ∧ vi = .int .i64 ((m : Int) + 1 + (j : Int)) ∧ Hid (A2 w wr p pd k m j)) (fun vi _ => k + 1 - (intOf vi).toNat)
      case atStart => exact ⟨0, by omega, by simp, HE7.out⟩
      case round =>
        obtain ⟨j, hj, rfl, HJ⟩ := hrel
        clear HE7
        by_cases hlt : m + j < k
        · have hlt' : (m : Int) + 1 + (j : Int) ≤ (k : Int) := by omega
          have HS : Hid (_) := A2.step HJ.out HT.out (by omega) ((m : Int) + 1 + (j : Int)) (by omega)
          have hcv := Lib.run_convert_bytes_const (P := Tryd.prog) wr 30 5 #[.int .u8 110, .int .u8 101, .int .u8 119, .int .u8 33] 4 4 Tryd.underlying30 Tryd.underlying5
          clear HJ
          go_wp2_with (go_at_call 7; refine Calls.mono HS.out ?_; rintro e w8 ⟨rfl, HX8⟩; clear hcv)
          go_roundw
          case rel => exact ⟨j + 1, by omega, by go_num, HX8.out⟩
          case measure => simp [intOf]; omega
        · have hgt2 : ¬ (m : Int) + 1 + (j : Int) ≤ (k : Int) := by omega
          obtain ⟨ds, hA, HC'⟩ := A2.crash HJ.out HT.out hw0 hmN (by omega) hN20 fr t
          have HC : Hid (_) := HC'
          obtain ⟨f1, f2, f3, f4, f5⟩ := hA.facts hmN
          have HLast : Hid (∀ (u : World) (r q : Nat), A3 w u r q ds → Calls Tryd.prog 11 #[.pointer (some ⟨r, 0, none⟩)] u fun e w' => e = .returned (.int .i64 (ds.length : Int)) ∧ Hid (A3 w w' r q ds)) := fun u r q h => h.last
          have HNone : Hid (∀ (u : World) (r q i : Nat), A3 w u r q ds → 1 ≤ i → ¬ i ≤ ds.length → Calls Tryd.prog 12 #[.pointer (some ⟨r, 0, none⟩), .int .i64 (i : Int)] u fun e w' => e = .returned (.tuple #[.slice none 0 0, .bool false]) ∧ Hid (A3 w w' r q ds)) := fun u r q i h h1 h2 => (h.get i h1 (by omega) f3).2 h2
          have HOld : Hid (∀ (u : World) (r q i : Nat), A3 w u r q ds → 1 ≤ i → i ≤ ds.length → ds.getD (i - 1) [] = old → Calls Tryd.prog 12 #[.pointer (some ⟨r, 0, none⟩), .int .i64 (i : Int)] u fun e w' => ∃ ao L cap, e = .returned (.tuple #[.slice ao L cap, .bool true]) ∧ (convert 30 9 (.slice ao L cap)).run Tryd.prog w' = .ok (.string ⟨#[111, 108, 100]⟩) w' ∧ Hid (A3 w w' r q ds)) := fun u r q i h h1 h2 h3 => h.hit i h1 (by omega) f3 h2 old h3
          have HNew : Hid (∀ (u : World) (r q i : Nat), A3 w u r q ds → 1 ≤ i → i ≤ ds.length → ds.getD (i - 1) [] = nw → Calls Tryd.prog 12 #[.pointer (some ⟨r, 0, none⟩), .int .i64 (i : Int)] u fun e w' => ∃ ao L cap, e = .returned (.tuple #[.slice ao L cap, .bool true]) ∧ (convert 30 9 (.slice ao L cap)).run Tryd.prog w' = .ok (.string ⟨#[110, 101, 119, 33]⟩) w' ∧ Hid (A3 w w' r q ds)) := fun u r q i h h1 h2 h3 => h.hit i h1 (by omega) f3 h2 nw h3
          have HEq : Hid (_) := fun (u : World) (r q : Nat) (h : A3 w u r q ds) (hl : ds.length = k) (x : List UInt8) (h1 : ds.getD m [] = x) (h2 : ds.getD (k - 1) [] = x) => h.end_eq m k hmN (by omega) f3 hl x h1 h2
          have HCut : Hid (_) := fun (u : World) (r q : Nat) (h : A3 w u r q ds) (hl : ds.length < k) => h.end_cut m k (by omega) f3 hl
          have Hf4 : Hid (_) := f4
          have f5' : (ds.length = k ∧ Hid (∀ i, i < k → ds.getD i [] = old)) ∨ Hid (∀ i, m ≤ i → i < ds.length → ds.getD i [] = nw) := f5
          clear HJ HC' hA f3 f4 f5
          have g1 : ¬ (ds.length : Int) < (m : Int) := by omega
          rcases f5' with ⟨hlenN, HO⟩ | HW
          · have gN : ¬ (ds.length : Int) < (k : Int) := by omega
            go_wp2_with (first
              | (go_at_call 10; refine Calls.mono HC.out ?_; rintro e w9 ⟨q, rfl, HC9⟩; clear HC)
              | (go_at_call 6; refine Calls.mono HC9.out ?_; rintro e w10 ⟨r, rfl, HC10⟩; clear HC9)
              | (go_at_call 11; refine Calls.mono (HLast.out _ _ _ HC10.out) ?_; rintro e w11 ⟨rfl, HC11⟩; clear HC10)
              | (go_at_call 11; refine Calls.mono (HLast.out _ _ _ HC11.out) ?_; rintro e w12 ⟨rfl, HC12⟩; clear HC11))
            go_loopw [17] (fun vi wr => ∃ i : Nat, 1 ≤ i ∧ i ≤ k + 1 ∧ vi = .int .i64 (i : Int) ∧ Hid (A3 w wr r q ds)) (fun vi _ => k + 1 - (intOf vi).toNat)
            case atStart => exact ⟨1, by omega, by omega, rfl, HC12.out⟩
            case round =>
              obtain ⟨i, hi1, hi2, rfl, HI⟩ := hrel
              clear HC12
              by_cases hle : i ≤ k
              · have hle' : (i : Int) ≤ (k : Int) := by omega
                have hi20 : (i : Int) ≤ 20 := by omega
                by_cases him : i ≤ m
                · have c1 : (i : Int) < (m : Int) + 1 := by omega
                  have c2 : ¬ (m : Int) + 1 ≤ (i : Int) := by omega
                  have HG : Hid (_) := HOld.out _ r q i HI.out hi1 (by omega) (Hf4.out (i - 1) (by omega))
                  clear HI HOld HNew HNone HEq HCut HLast Hf4
                  go_wp2_with (go_at_call 12; refine Calls.mono HG.out ?_; rintro e w13 ⟨ao, L, cap, rfl, hst, HX⟩)
                  go_roundw
                  case rel => exact ⟨i + 1, by omega, by omega, by go_num, HX.out⟩
                  case measure => simp [intOf]; omega
                · have c1 : ¬ (i : Int) < (m : Int) + 1 := by omega
                  have c2 : (m : Int) + 1 ≤ (i : Int) := by omega
                  have HG : Hid (_) := HOld.out _ r q i HI.out hi1 (by omega) (HO.out (i - 1) (by omega))
                  clear HI HOld HNew HNone HEq HCut HLast Hf4
                  go_wp2_with (go_at_call 12; refine Calls.mono HG.out ?_; rintro e w13 ⟨ao, L, cap, rfl, hst, HX⟩)
                  go_roundw
                  case rel => exact ⟨i + 1, by omega, by omega, by go_num, HX.out⟩
                  case measure => simp [intOf]; omega
              · have hle' : ¬ (i : Int) ≤ (k : Int) := by omega
                have HG : Hid (_) := HEq.out _ r q HI.out hlenN old (HO.out m (by omega)) (HO.out (k - 1) (by omega))
                clear HI HOld HNew HNone HEq HCut HLast Hf4
                go_wp2_with (first
                  | (go_at_call 12; refine Calls.mono HG.out ?_; rintro e w13 ⟨ao, L, cap, rfl, HG2⟩; clear HG)
                  | (go_at_call 12; refine Calls.mono HG2.out ?_; rintro e w14 ⟨ao2, L2, cap2, rfl, HG3⟩; clear HG2)
                  | (go_at_call 12; refine Calls.mono HG3.out ?_; rintro e w15 ⟨ao3, L3, cap3, rfl, hs3, hs2, HX⟩; clear HG3))
                go_ret
                exact ⟨rfl, HX.out⟩
          · by_cases hcut : ds.length < k
            · have gN : (ds.length : Int) < (k : Int) := by omega
              go_wp2_with (first
                | (go_at_call 10; refine Calls.mono HC.out ?_; rintro e w9 ⟨q, rfl, HC9⟩; clear HC)
                | (go_at_call 6; refine Calls.mono HC9.out ?_; rintro e w10 ⟨r, rfl, HC10⟩; clear HC9)
                | (go_at_call 11; refine Calls.mono (HLast.out _ _ _ HC10.out) ?_; rintro e w11 ⟨rfl, HC11⟩; clear HC10)
                | (go_at_call 11; refine Calls.mono (HLast.out _ _ _ HC11.out) ?_; rintro e w12 ⟨rfl, HC12⟩; clear HC11))
              go_loopw [17] (fun vi wr => ∃ i : Nat, 1 ≤ i ∧ i ≤ k + 1 ∧ vi = .int .i64 (i : Int) ∧ Hid (A3 w wr r q ds)) (fun vi _ => k + 1 - (intOf vi).toNat)
              case atStart => exact ⟨1, by omega, by omega, rfl, HC12.out⟩
              case round =>
                obtain ⟨i, hi1, hi2, rfl, HI⟩ := hrel
                clear HC12
                by_cases hle : i ≤ k
                · have hle' : (i : Int) ≤ (k : Int) := by omega
                  have hi20 : (i : Int) ≤ 20 := by omega
                  by_cases him : i ≤ m
                  · have c1 : (i : Int) < (m : Int) + 1 := by omega
                    have c2 : ¬ (m : Int) + 1 ≤ (i : Int) := by omega
                    have HG : Hid (_) := HOld.out _ r q i HI.out hi1 (by omega) (Hf4.out (i - 1) (by omega))
                    clear HI HOld HNew HNone HEq HCut HLast Hf4
                    go_wp2_with (go_at_call 12; refine Calls.mono HG.out ?_; rintro e w13 ⟨ao, L, cap, rfl, hst, HX⟩)
                    go_roundw
                    case rel => exact ⟨i + 1, by omega, by omega, by go_num, HX.out⟩
                    case measure => simp [intOf]; omega
                  · have c1 : ¬ (i : Int) < (m : Int) + 1 := by omega
                    have c2 : (m : Int) + 1 ≤ (i : Int) := by omega
                    by_cases hil : i ≤ ds.length
                    · have HG : Hid (_) := HNew.out _ r q i HI.out hi1 hil (HW.out (i - 1) (by omega) (by omega))
                      clear HI HOld HNew HNone HEq HCut HLast Hf4
                      go_wp2_with (go_at_call 12; refine Calls.mono HG.out ?_; rintro e w13 ⟨ao, L, cap, rfl, hst, HX⟩)
                      go_roundw
                      case rel => exact ⟨i + 1, by omega, by omega, by go_num, HX.out⟩
                      case measure => simp [intOf]; omega
                    · have HG : Hid (_) := HNone.out _ r q i HI.out hi1 hil
                      clear HI HOld HNew HNone HEq HCut HLast Hf4
                      go_wp2_with (go_at_call 12; refine Calls.mono HG.out ?_; rintro e w13 ⟨rfl, HX⟩)
                      go_roundw
                      case rel => exact ⟨i + 1, by omega, by omega, by go_num, HX.out⟩
                      case measure => simp [intOf]; omega
                · have hle' : ¬ (i : Int) ≤ (k : Int) := by omega
                  obtain ⟨b, HG'⟩ := HCut.out _ r q HI.out (by omega)
                  have HG : Hid (_) := HG'
                  clear HI HOld HNew HNone HEq HCut HLast Hf4 HG'
                  cases b
                  all_goals (
                    go_wp2_with (first
                      | (go_at_call 12; refine Calls.mono HG.out ?_; rintro e w13 ⟨ao, L, cap, rfl, HG2⟩; clear HG)
                      | (go_at_call 12; refine Calls.mono HG2.out ?_; rintro e w14 ⟨rfl, HG3⟩; clear HG2)
                      | (go_at_call 12; refine Calls.mono HG3.out ?_; rintro e w15 ⟨ao3, L3, cap3, rfl, HX⟩; clear HG3))
                    go_ret
                    exact ⟨rfl, HX.out⟩)
            · have gN : ¬ (ds.length : Int) < (k : Int) := by omega
              have hlenN : ds.length = k := by omega
              go_wp2_with (first
                | (go_at_call 10; refine Calls.mono HC.out ?_; rintro e w9 ⟨q, rfl, HC9⟩; clear HC)
                | (go_at_call 6; refine Calls.mono HC9.out ?_; rintro e w10 ⟨r, rfl, HC10⟩; clear HC9)
                | (go_at_call 11; refine Calls.mono (HLast.out _ _ _ HC10.out) ?_; rintro e w11 ⟨rfl, HC11⟩; clear HC10)
                | (go_at_call 11; refine Calls.mono (HLast.out _ _ _ HC11.out) ?_; rintro e w12 ⟨rfl, HC12⟩; clear HC11))
              go_loopw [17] (fun vi wr => ∃ i : Nat, 1 ≤ i ∧ i ≤ k + 1 ∧ vi = .int .i64 (i : Int) ∧ Hid (A3 w wr r q ds)) (fun vi _ => k + 1 - (intOf vi).toNat)
              case atStart => exact ⟨1, by omega, by omega, rfl, HC12.out⟩
              case round =>
                obtain ⟨i, hi1, hi2, rfl, HI⟩ := hrel
                clear HC12
                by_cases hle : i ≤ k
                · have hle' : (i : Int) ≤ (k : Int) := by omega
                  have hi20 : (i : Int) ≤ 20 := by omega
                  by_cases him : i ≤ m
                  · have c1 : (i : Int) < (m : Int) + 1 := by omega
                    have c2 : ¬ (m : Int) + 1 ≤ (i : Int) := by omega
                    have HG : Hid (_) := HOld.out _ r q i HI.out hi1 (by omega) (Hf4.out (i - 1) (by omega))
                    clear HI HOld HNew HNone HEq HCut HLast Hf4
                    go_wp2_with (go_at_call 12; refine Calls.mono HG.out ?_; rintro e w13 ⟨ao, L, cap, rfl, hst, HX⟩)
                    go_roundw
                    case rel => exact ⟨i + 1, by omega, by omega, by go_num, HX.out⟩
                    case measure => simp [intOf]; omega
                  · have c1 : ¬ (i : Int) < (m : Int) + 1 := by omega
                    have c2 : (m : Int) + 1 ≤ (i : Int) := by omega
                    have HG : Hid (_) := HNew.out _ r q i HI.out hi1 (by omega) (HW.out (i - 1) (by omega) (by omega))
                    clear HI HOld HNew HNone HEq HCut HLast Hf4
                    go_wp2_with (go_at_call 12; refine Calls.mono HG.out ?_; rintro e w13 ⟨ao, L, cap, rfl, hst, HX⟩)
                    go_roundw
                    case rel => exact ⟨i + 1, by omega, by omega, by go_num, HX.out⟩
                    case measure => simp [intOf]; omega
                · have hle' : ¬ (i : Int) ≤ (k : Int) := by omega
                  have HG : Hid (_) := HEq.out _ r q HI.out hlenN nw (HW.out m (by omega) (by omega)) (HW.out (k - 1) (by omega) (by omega))
                  clear HI HOld HNew HNone HEq HCut HLast Hf4
                  go_wp2_with (first
                    | (go_at_call 12; refine Calls.mono HG.out ?_; rintro e w13 ⟨ao, L, cap, rfl, HG2⟩; clear HG)
                    | (go_at_call 12; refine Calls.mono HG2.out ?_; rintro e w14 ⟨ao2, L2, cap2, rfl, HG3⟩; clear HG2)
                    | (go_at_call 12; refine Calls.mono HG3.out ?_; rintro e w15 ⟨ao3, L3, cap3, rfl, hs3, hs2, HX⟩; clear HG3))
                  go_ret
                  exact ⟨rfl, HX.out⟩
end Go.Proofs.YtnbdkojdddplkabDoor.Wl
